/-
  The plain answers of layer 8: right, Rule. Conditions: at most 2^40 bytes.
-/
import Derived.Test.YtimfiaphhomelaaGshowShow
import Derived.Test.YtimfiaphhomelaaGramNames
namespace Go.Proofs.Ytimfiaphhomelaa.Sw
open Go.RowKit Go.Maps
open Go.Proofs.Ytimfiaphhomelaa.Gr (Gram GAt Sh gv Is Bx checkN ordB)
set_option linter.unusedVariables false
set_option linter.unusedSimpArgs false

theorem blank_size (a : ByteArray) : (a ++ (⟨#[32]⟩ : ByteArray)).size = a.size + 1 := by rw [ByteArray.size_append]; rfl
theorem right_next (G : Gram) {l : List Int} {k : Nat} (h : k < l.length) : (str (rightL G (l.take k)) ++ ⟨#[32]⟩) ++ Gr.nameS G l[k] = str (rightL G (l.take (k + 1))) := by
  rw [right_take h, ← nm_str G l[k]]
  show (str _ ++ str [32]) ++ str _ = _
  rw [str_append, str_append, List.append_assoc]
  rfl

/-- The loop over a right side. -/
def RLoop (G : Gram) (l : List Int) (w W2 : World) (s i : Value) (wr : World) : Prop := ∃ k, k ≤ l.length ∧ i = .int .i64 (k : Int) ∧ s = .string (str (rightL G (l.take k))) ∧ Below W2.heap.size W2 wr

set_option maxHeartbeats 1000000 in
set_option maxRecDepth 100000 in
theorem rright_any (h : Sh) (G : Gram) (x : Int) (l : List Int) (ra : Option Addr) (rc : Nat) (w : World) (k : GAt h G w) (hl : Sep.Reads ra (l.map (.int .i64)) w) (hn : l.length ≤ 17592186044416) (hlen : (rightL G l).length ≤ 1099511627776) (ht : G.terms.length + G.nons.length ≤ 65536) :
    Calls Try.prog 18 #[gv h G, .agg #[.int .i64 x, .slice ra l.length rc]] w (Is (.string (str (rightL G l))) w) := by
  have X := Lib.hid (Bx.start h G w 25)
  have K := Lib.hid k
  have HL := Lib.hid hl
  have HM := Lib.hid hlen
  clear k hl hlen
  unfold gv
  go_enter Try.func18, Try.ntmps18
  go_wp2
  have XB := (X.out.alloc (.cells #[.int .i64 x, .slice ra l.length rc] 28)).box
  have hsz : (w.alloc (.cells #[.slice h.a1 G.terms.length h.c1, .slice h.a2 G.nons.length h.c2, .slice h.a3 G.rules.length h.c3, .int .i64 G.start] 25)).heap.size = w.heap.size + 1 := by simp
  have y0 : ((w.alloc (.cells #[.slice h.a1 G.terms.length h.c1, .slice h.a2 G.nons.length h.c2, .slice h.a3 G.rules.length h.c3, .int .i64 G.start] 25)).alloc (.cells #[.int .i64 x, .slice ra l.length rc] 28)).cell? ⟨w.heap.size + 1, 0, none⟩ = some (.int .i64 x) := Gr.cell_new hsz.symm rfl
  have y1 : ((w.alloc (.cells #[.slice h.a1 G.terms.length h.c1, .slice h.a2 G.nons.length h.c2, .slice h.a3 G.rules.length h.c3, .int .i64 G.start] 25)).alloc (.cells #[.int .i64 x, .slice ra l.length rc] 28)).cell? ⟨w.heap.size + 1, 1, none⟩ = some (.slice ra l.length rc) := Gr.cell_new hsz.symm rfl
  have HF := Lib.hid (show Below w.heap.size w ((w.alloc (.cells #[.slice h.a1 G.terms.length h.c1, .slice h.a2 G.nons.length h.c2, .slice h.a3 G.rules.length h.c3, .int .i64 G.start] 25)).alloc (.cells #[.int .i64 x, .slice ra l.length rc] 28)) from Gr.step X.out.below (Gr.boxed _ _))
  clear X hsz
  generalize (w.alloc (.cells #[.slice h.a1 G.terms.length h.c1, .slice h.a2 G.nons.length h.c2, .slice h.a3 G.rules.length h.c3, .int .i64 G.start] 25)).alloc (.cells #[.int .i64 x, .slice ra l.length rc] 28) = W2 at *
  have HQ := Lib.hid (sixC XB.x0 XB.x1 XB.x2 XB.x3 y0 y1)
  clear XB y0 y1
  go_loopw [5, 6] (fun s i wr => RLoop G l w W2 s i wr) (fun _ i _ => l.length - (intOf i).toNat)
  case atStart => exact ⟨0, Nat.zero_le _, rfl, rfl, Below.refl _ _⟩
  case round =>
    obtain ⟨k, hk, rfl, rfl, hb⟩ := hrel
    obtain ⟨x0, x1, x2, x3, y0, y1, _⟩ := HQ.out _ hb
    have B0 := Lib.hid (Gr.step HF.out hb)
    have BB := Lib.hid hb
    clear hb
    by_cases hlt : k < l.length
    · obtain ⟨b0, o0, e, hc⟩ := (HL.out.below B0.out (Nat.le_refl _)) k (by simpa using hlt)
      subst e
      simp only [List.getElem_map] at hc
      have hx := right_take (G := G) hlt
      have hle := right_mono G l (k + 1)
      have hM := HM.out
      rw [hx, List.length_append, List.length_cons] at hle
      have hs1 : (str (rightL G (l.take k))).size ≤ 1099511627776 := by rw [str_size]; omega
      have hs2 := blank_size (str (rightL G (l.take k)))
      have hs3 : (Gr.nameS G l[k]).size ≤ 1099511627776 := by rw [← nm_str, str_size]; omega
      have HN := Lib.hid (right_next G hlt)
      have NM := Lib.hid (fun w' (b : Below wr.heap.size wr w') => Gr.rname_any h G l[k] w' (K.out.went (Gr.step B0.out b)) ht)
      have HQ2 := Lib.hid (fun w' (b : Below wr.heap.size wr w') => (show w'.cell? ⟨w.heap.size, 0, none⟩ = some (.slice h.a1 G.terms.length h.c1) ∧ w'.cell? ⟨w.heap.size, 1, none⟩ = some (.slice h.a2 G.nons.length h.c2) ∧ w'.cell? ⟨w.heap.size, 2, none⟩ = some (.slice h.a3 G.rules.length h.c3) ∧ w'.cell? ⟨w.heap.size, 3, none⟩ = some (.int .i64 G.start) ∧
        w'.cell? ⟨w.heap.size + 1, 1, none⟩ = some (.slice (some ⟨b0, o0, none⟩) l.length rc) ∧ w'.cell? ⟨b0, o0 + k, none⟩ = some (.int .i64 l[k]) ∧ Below wr.heap.size wr w' from
        ⟨Gr.cell_later b x0, Gr.cell_later b x1, Gr.cell_later b x2, Gr.cell_later b x3, Gr.cell_later b y1, Gr.cell_later b hc, b⟩))
      clear hx hle hM
      generalize l[k] = z at *
      generalize Gr.nameS G z = nm at *
      generalize str (rightL G (l.take k)) = T at *
      have hs4 : ¬ 9223372036854775807 < T.size + 1 := by omega
      have hs5 : ¬ 9223372036854775807 < T.size + 1 + nm.size := by omega
      have hbd := Gr.drawn wr
      go_wp2
      go_region_held3 (fun w' => w'.cell? ⟨w.heap.size, 0, none⟩ = some (.slice h.a1 G.terms.length h.c1) ∧ w'.cell? ⟨w.heap.size, 1, none⟩ = some (.slice h.a2 G.nons.length h.c2) ∧ w'.cell? ⟨w.heap.size, 2, none⟩ = some (.slice h.a3 G.rules.length h.c3) ∧ w'.cell? ⟨w.heap.size, 3, none⟩ = some (.int .i64 G.start) ∧
          w'.cell? ⟨w.heap.size + 1, 1, none⟩ = some (.slice (some ⟨b0, o0, none⟩) l.length rc) ∧ w'.cell? ⟨b0, o0 + k, none⟩ = some (.int .i64 z) ∧ Below wr.heap.size wr w')
        (exact HQ2.out _ (by assumption))
        (first
          | (go_at_call 17; refine (NM.out _ (by assumption)).mono ?_; rintro e wa ⟨rfl, hb⟩; have kA : Below wr.heap.size wr wa := Gr.step (by assumption) hb; clear hb)
          | fail)
      all_goals
        go_wp2
        go_round
        case rel => exact ⟨k + 1, hlt, by go_num, by rw [HN.out], Gr.step BB.out kA⟩
        case measure => simp [intOf]; omega
    · obtain rfl : k = l.length := by omega
      rw [List.take_length]
      clear hlt hk HQ
      go_wp2
      go_ret
      exact ⟨rfl, B0.out⟩

theorem colon_size (a : ByteArray) : (a ++ (⟨#[32, 58]⟩ : ByteArray)).size = a.size + 2 := by rw [ByteArray.size_append]; rfl

set_option maxHeartbeats 1000000 in
set_option maxRecDepth 100000 in
theorem rrule_any (h : Sh) (G : Gram) (r : Int × List Int) (ra : Option Addr) (rc : Nat) (w : World) (k : GAt h G w) (hl : Sep.Reads ra (r.2.map (.int .i64)) w) (hn : r.2.length ≤ 17592186044416) (hlen : (ruleL G r).length ≤ 1099511627776) (ht : G.terms.length + G.nons.length ≤ 65536) :
    Calls Try.prog 9 #[gv h G, .agg #[.int .i64 r.1, .slice ra r.2.length rc]] w (Is (.string (ruleS G r)) w) := by
  obtain ⟨x, l⟩ := r
  simp only at hl hn
  have X := Lib.hid (Bx.start h G w 25)
  have hl2 : (nmL G x).length + (2 + (rightL G l).length) ≤ 1099511627776 := by
    unfold ruleL at hlen
    simp only [List.length_append] at hlen
    exact hlen
  have NM := Lib.hid (fun w' (b : Below w.heap.size w w') => Gr.rname_any h G x w' (k.went b) ht)
  have NS := Lib.hid (fun w' (b : Below w.heap.size w w') => rright_any h G x l ra rc w' (k.went b) (hl.below b (Nat.le_refl _)) hn (by omega) ht)
  have hR : (Gr.nameS G x ++ ⟨#[32, 58]⟩) ++ str (rightL G l) = ruleS G (x, l) := by
    rw [← nm_str]
    show (str _ ++ str [32, 58]) ++ str _ = _
    rw [str_append, str_append]
    unfold ruleS ruleL
    rw [List.append_assoc]
  have hs1 : (Gr.nameS G x).size ≤ 1099511627776 := by rw [← nm_str, str_size]; omega
  have hs2 := colon_size (Gr.nameS G x)
  have hs3 : (str (rightL G l)).size ≤ 1099511627776 := by rw [str_size]; omega
  have HR := Lib.hid hR
  clear k hl hlen hl2 hR
  generalize ruleS G (x, l) = R at *
  generalize str (rightL G l) = S at *
  generalize Gr.nameS G x = nm at *
  have hs4 : ¬ 9223372036854775807 < nm.size + 2 := by omega
  have hs5 : ¬ 9223372036854775807 < nm.size + 2 + S.size := by omega
  unfold gv
  go_enter Try.func9, Try.ntmps9
  go_upto_region 1 with fail
  have XB := (X.out.alloc (.cells #[.int .i64 x, .slice ra l.length rc] 28)).box
  have hsz : (w.alloc (.cells #[.slice h.a1 G.terms.length h.c1, .slice h.a2 G.nons.length h.c2, .slice h.a3 G.rules.length h.c3, .int .i64 G.start] 25)).heap.size = w.heap.size + 1 := by simp
  have y0 : ((w.alloc (.cells #[.slice h.a1 G.terms.length h.c1, .slice h.a2 G.nons.length h.c2, .slice h.a3 G.rules.length h.c3, .int .i64 G.start] 25)).alloc (.cells #[.int .i64 x, .slice ra l.length rc] 28)).cell? ⟨w.heap.size + 1, 0, none⟩ = some (.int .i64 x) := Gr.cell_new hsz.symm rfl
  have y1 : ((w.alloc (.cells #[.slice h.a1 G.terms.length h.c1, .slice h.a2 G.nons.length h.c2, .slice h.a3 G.rules.length h.c3, .int .i64 G.start] 25)).alloc (.cells #[.int .i64 x, .slice ra l.length rc] 28)).cell? ⟨w.heap.size + 1, 1, none⟩ = some (.slice ra l.length rc) := Gr.cell_new hsz.symm rfl
  have HF := Lib.hid (show Below w.heap.size w ((w.alloc (.cells #[.slice h.a1 G.terms.length h.c1, .slice h.a2 G.nons.length h.c2, .slice h.a3 G.rules.length h.c3, .int .i64 G.start] 25)).alloc (.cells #[.int .i64 x, .slice ra l.length rc] 28)) from Gr.step X.out.below (Gr.boxed _ _))
  clear X hsz
  generalize (w.alloc (.cells #[.slice h.a1 G.terms.length h.c1, .slice h.a2 G.nons.length h.c2, .slice h.a3 G.rules.length h.c3, .int .i64 G.start] 25)).alloc (.cells #[.int .i64 x, .slice ra l.length rc] 28) = W2 at *
  have HQ := Lib.hid (sixC XB.x0 XB.x1 XB.x2 XB.x3 y0 y1)
  have hbd := Gr.drawn W2
  clear XB y0 y1
  go_region_held3 (fun w' => w'.cell? ⟨w.heap.size, 0, none⟩ = some (.slice h.a1 G.terms.length h.c1) ∧ w'.cell? ⟨w.heap.size, 1, none⟩ = some (.slice h.a2 G.nons.length h.c2) ∧ w'.cell? ⟨w.heap.size, 2, none⟩ = some (.slice h.a3 G.rules.length h.c3) ∧ w'.cell? ⟨w.heap.size, 3, none⟩ = some (.int .i64 G.start) ∧
      w'.cell? ⟨w.heap.size + 1, 0, none⟩ = some (.int .i64 x) ∧ w'.cell? ⟨w.heap.size + 1, 1, none⟩ = some (.slice ra l.length rc) ∧ Below W2.heap.size W2 w')
    (exact HQ.out _ (by assumption))
    (first
      | (go_at_call 17; refine (NM.out _ (Gr.step HF.out (by assumption))).mono ?_; rintro e wa ⟨rfl, hb⟩; have kA : Below W2.heap.size W2 wa := Gr.step (by assumption) hb; clear hb)
      | (go_at_call 18; refine (NS.out _ (Gr.step HF.out (by assumption))).mono ?_; rintro e wb ⟨rfl, hb⟩; have kB : Below W2.heap.size W2 wb := Gr.step (by assumption) hb; clear hb)
      | fail)
  all_goals
    go_wp2
    rw [HR.out]
    go_ret
    exact ⟨rfl, Gr.step HF.out (by first | exact kB | exact kA)⟩

end Go.Proofs.Ytimfiaphhomelaa.Sw
