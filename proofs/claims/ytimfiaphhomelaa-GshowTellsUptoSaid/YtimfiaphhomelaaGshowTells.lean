/-
  The walk of the statement that Show and Rule answer as the plain answers do. Condition: each name has at most 2^20 bytes.
-/
import Derived.Test.YtimfiaphhomelaaGshowRShow
import Derived.Test.YtimfiaphhomelaaGshowAwake
import Derived.Test.YtimfiaphhomelaaGramMuch
namespace Go.Proofs.Ytimfiaphhomelaa.Sw
open Go.RowKit Go.Maps
open Go.Proofs.Ytimfiaphhomelaa.Gr (Gram GAt Sh gv Is Bx checkN ordB)
set_option linter.unusedVariables false
set_option linter.unusedSimpArgs false

set_option maxHeartbeats 1000000 in
set_option maxRecDepth 100000 in
theorem rshow_any (h : Sh) (G : Gram) (w : World) (k : GAt h G w) (hr : G.rules.length ≤ 65536) (ht : G.terms.length + G.nons.length ≤ 65536) (hs : checkN G = 0 → ordB G = true → Short G) :
    Calls Try.prog 7 #[gv h G] w (Is (.string (showS G)) w) := by
  have X := Lib.hid (Bx.start h G w 25)
  have CK := Lib.hid (fun w' (b : Below w.heap.size w w') => Gr.rcheck_any h G w' (k.went b))
  have OD := Lib.hid (fun w' (b : Below w.heap.size w w') => Gr.rordered_any h G w' (k.went b) hr)
  by_cases hv : checkN G = 0
  · cases ho : ordB G with
    | true =>
      have hR : showS G = str (showL G) := by unfold showS; rw [if_pos ⟨hv, ho⟩]
      rw [hR]
      exact rshow_ok h G w k hr ht hv ho (hs hv ho)
    | false =>
      have hR : showS G = ⟨#[]⟩ := by unfold showS; rw [if_neg (fun hh => by rw [ho] at hh; exact absurd hh.2 (by decide))]; rfl
      rw [hR]
      have CK := Lib.hid (fun w' (b : Below w.heap.size w w') => show Calls Try.prog 15 #[gv h G] w' (Is (.int .i64 0) w') from hv ▸ CK.out w' b)
      have OD := Lib.hid (fun w' (b : Below w.heap.size w w') => show Calls Try.prog 16 #[gv h G] w' (Is (.bool false) w') from ho ▸ OD.out w' b)
      clear hs hR hv ho k hr ht
      unfold gv
      go_enter Try.func7, Try.ntmps7
      go_wp2_with (first
        | (go_at_call 15; refine (CK.out _ X.out.below).mono ?_; rintro e w1 ⟨rfl, hb⟩; have X1 := Lib.hid (X.out.went hb); clear hb; obtain ⟨_, x0, x1, x2, x3⟩ := X1.out)
        | (go_at_call 16; refine (OD.out _ X1.out.below).mono ?_; rintro e w2 ⟨rfl, hb⟩; have X2 := Lib.hid (X1.out.went hb); clear hb x0 x1 x2 x3)
        | fail)
      go_ret
      exact ⟨rfl, X2.out.below⟩
  · have hR : showS G = ⟨#[]⟩ := by unfold showS; rw [if_neg (fun hh => hv hh.1)]; rfl
    rw [hR]
    clear hs hR k OD hr ht
    generalize checkN G = c at *
    unfold gv
    go_enter Try.func7, Try.ntmps7
    go_wp2_with (first
      | (go_at_call 15; refine (CK.out _ X.out.below).mono ?_; rintro e w1 ⟨rfl, hb⟩; have X1 := Lib.hid (X.out.went hb); clear hb)
      | fail)
    go_ret
    exact ⟨rfl, X1.out.below⟩

theorem right_len2 {G : Gram} {l : List Int} (h : ∀ x, (nmL G x).length ≤ 1048576) : (rightL G l).length ≤ 1048577 * l.length := by
  induction l with
  | nil => exact Nat.zero_le _
  | cons x r ih =>
    have h2 := h x
    unfold rightL at ih ⊢
    rw [List.flatMap_cons, List.length_append, List.length_cons, List.length_cons]
    omega

set_option maxHeartbeats 2000000 in
set_option maxRecDepth 100000 in
theorem tells_law (h : Sh) (G : Gram) (r : Int × List Int) (ra : Option Addr) (rc : Nat) (w : World) (k : GAt h G w) (hl : Sep.Reads ra (r.2.map (.int .i64)) w) (hn : r.2.length ≤ 17592186044416) (hnm : ∀ x, (nmL G x).length ≤ 1048576) (hs : checkN G = 0 → ordB G = true → Short G) :
    Calls Try.prog 3 #[gv h G, .agg #[.int .i64 r.1, .slice ra r.2.length rc]] w (Is (.bool true) w) := by
  have AW := Lib.hid awake_any
  have X := Lib.hid (Bx.start h G w 25)
  have MU := Lib.hid (fun w' (b : Below w.heap.size w w') => Gr.much_any h G w' (k.went b))
  have SH := Lib.hid (fun w' (b : Below w.heap.size w w') => show_any h G w' (k.went b) hs)
  have RS := Lib.hid (fun (hr : G.rules.length ≤ 65536) (ht : G.terms.length + G.nons.length ≤ 65536) w' (b : Below w.heap.size w w') => rshow_any h G w' (k.went b) hr ht hs)
  have LL := Lib.hid (show r.2.length ≤ 100 → (ruleL G r).length ≤ 1099511627776 from fun h100 => by
    have h1 := hnm r.1
    have h2 := right_len2 (G := G) (l := r.2) hnm
    unfold ruleL
    simp only [List.length_append, List.length_cons, List.length_nil]
    omega)
  have RU := Lib.hid (fun (h100 : r.2.length ≤ 100) w' (b : Below w.heap.size w w') => rule_any h G r ra rc w' (k.went b) (hl.below b (Nat.le_refl _)) hn (LL.out h100))
  have RR := Lib.hid (fun (h100 : r.2.length ≤ 100) (ht : G.terms.length + G.nons.length ≤ 65536) w' (b : Below w.heap.size w w') => rrule_any h G r ra rc w' (k.went b) (hl.below b (Nat.le_refl _)) hn (LL.out h100) ht)
  clear k hl hnm hs LL
  obtain ⟨x, l⟩ := r
  dsimp only at hn RU RR ⊢
  generalize ruleS G (x, l) = R at *
  generalize showS G = S at *
  unfold gv
  go_enter Try.func3, Try.ntmps3
  go_wp2_with fail
  have XB := (X.out.alloc (.cells #[.int .i64 x, .slice ra l.length rc] 28)).box
  have hsz : (w.alloc (.cells #[.slice h.a1 G.terms.length h.c1, .slice h.a2 G.nons.length h.c2, .slice h.a3 G.rules.length h.c3, .int .i64 G.start] 25)).heap.size = w.heap.size + 1 := by simp
  have y0 : ((w.alloc (.cells #[.slice h.a1 G.terms.length h.c1, .slice h.a2 G.nons.length h.c2, .slice h.a3 G.rules.length h.c3, .int .i64 G.start] 25)).alloc (.cells #[.int .i64 x, .slice ra l.length rc] 28)).cell? ⟨w.heap.size + 1, 0, none⟩ = some (.int .i64 x) := Gr.cell_new hsz.symm rfl
  have y1 : ((w.alloc (.cells #[.slice h.a1 G.terms.length h.c1, .slice h.a2 G.nons.length h.c2, .slice h.a3 G.rules.length h.c3, .int .i64 G.start] 25)).alloc (.cells #[.int .i64 x, .slice ra l.length rc] 28)).cell? ⟨w.heap.size + 1, 1, none⟩ = some (.slice ra l.length rc) := Gr.cell_new hsz.symm rfl
  have HF := Lib.hid (show Below w.heap.size w ((w.alloc (.cells #[.slice h.a1 G.terms.length h.c1, .slice h.a2 G.nons.length h.c2, .slice h.a3 G.rules.length h.c3, .int .i64 G.start] 25)).alloc (.cells #[.int .i64 x, .slice ra l.length rc] 28)) from Gr.step X.out.below (Gr.boxed _ _))
  clear X hsz
  refine (MU.out _ HF.out).mono ?_
  rintro e w1 ⟨n, rfl, hnn, hb⟩
  have HQ0 := sixC XB.x0 XB.x1 XB.x2 XB.x3 y0 y1
  obtain ⟨x0, x1, x2, x3, z0, z1, _⟩ := HQ0 _ hb
  have B1 := Lib.hid (Gr.step HF.out hb)
  clear hb HQ0 XB y0 y1 MU HF
  by_cases hn3 : 300 < n
  · clear hnn
    go_wp2_with (go_at_call 5; refine (AW.out _).mono ?_; rintro e w2 ⟨rfl, hb⟩; have B2 := Lib.hid (Gr.step B1.out hb); clear hb)
    go_ret
    exact ⟨rfl, B2.out⟩
  · have hr : G.rules.length ≤ 65536 := by omega
    have ht : G.terms.length + G.nons.length ≤ 65536 := by omega
    clear hnn
    by_cases h100 : 100 < l.length
    · go_wp2_with (go_at_call 5; refine (AW.out _).mono ?_; rintro e w2 ⟨rfl, hb⟩; have B2 := Lib.hid (Gr.step B1.out hb); clear hb)
      go_ret
      exact ⟨rfl, B2.out⟩
    · have RS := Lib.hid (RS.out hr ht)
      have RU := Lib.hid (RU.out (by omega))
      have RR := Lib.hid (RR.out (by omega) ht)
      clear hr ht
      go_upto_region 3 with fail
      have HQ := Lib.hid (sixC x0 x1 x2 x3 z0 z1)
      have hbd := Gr.drawn w1
      clear x0 x1 x2 x3 z0 z1
      go_region_held3 (fun w' => w'.cell? ⟨w.heap.size, 0, none⟩ = some (.slice h.a1 G.terms.length h.c1) ∧ w'.cell? ⟨w.heap.size, 1, none⟩ = some (.slice h.a2 G.nons.length h.c2) ∧ w'.cell? ⟨w.heap.size, 2, none⟩ = some (.slice h.a3 G.rules.length h.c3) ∧ w'.cell? ⟨w.heap.size, 3, none⟩ = some (.int .i64 G.start) ∧
          w'.cell? ⟨w.heap.size + 1, 0, none⟩ = some (.int .i64 x) ∧ w'.cell? ⟨w.heap.size + 1, 1, none⟩ = some (.slice ra l.length rc) ∧ Below w1.heap.size w1 w')
        (exact HQ.out _ (by assumption))
        (first
          | (go_at_call 6; refine (SH.out _ (Gr.step B1.out (by assumption))).mono ?_; rintro e wa ⟨rfl, hb⟩; have kA : Below w1.heap.size w1 wa := Gr.step (by assumption) hb; clear hb)
          | (go_at_call 7; refine (RS.out _ (Gr.step B1.out (by assumption))).mono ?_; rintro e wb ⟨rfl, hb⟩; have kB : Below w1.heap.size w1 wb := Gr.step (by assumption) hb; clear hb)
          | (go_at_call 8; refine (RU.out _ (Gr.step B1.out (by assumption))).mono ?_; rintro e wc ⟨rfl, hb⟩; have kC : Below w1.heap.size w1 wc := Gr.step (by assumption) hb; clear hb)
          | (go_at_call 9; refine (RR.out _ (Gr.step B1.out (by assumption))).mono ?_; rintro e wd ⟨rfl, hb⟩; have kD : Below w1.heap.size w1 wd := Gr.step (by assumption) hb; clear hb)
          | (go_at_call 5; refine (AW.out _).mono ?_; rintro e we ⟨rfl, hb⟩; have kE : Below w1.heap.size w1 we := Gr.step (by assumption) hb; clear hb)
          | fail)
      all_goals
        go_wp2
        go_ret
        exact ⟨rfl, Gr.step B1.out kE⟩

end Go.Proofs.Ytimfiaphhomelaa.Sw
