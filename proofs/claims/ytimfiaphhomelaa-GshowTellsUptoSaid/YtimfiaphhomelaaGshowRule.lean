/-
  gshow's Rule. Conditions: at most 2^40 bytes.
-/
import Derived.Test.YtimfiaphhomelaaGshowNames
namespace Go.Proofs.Ytimfiaphhomelaa.Sw
open Go.RowKit Go.Maps
open Go.Proofs.Ytimfiaphhomelaa.Gr (Gram GAt Sh gv Is Bx)
set_option linter.unusedVariables false
set_option linter.unusedSimpArgs false

/-- Texts just put into a slice, one behind the other. -/
theorem joined_two (a b : ByteArray) (w : World) (hlen : (a.data.toList ++ b.data.toList).length ≤ 140737488355328) :
    Calls Try.prog 12 #[.slice (some ⟨w.heap.size, 0, none⟩) 2 2] (w.alloc (.cells #[.string a, .string b] 9)) (Is (.string (str (a.data.toList ++ b.data.toList))) (w.alloc (.cells #[.string a, .string b] 9))) := by
  have := joined_any w.heap.size 0 2 [a, b] (w.alloc (.cells #[.string a, .string b] 9)) (fun j x hx => by
    have hj : j < 2 := by simpa using (List.getElem?_eq_some_iff.1 hx).1
    have : j = 0 ∨ j = 1 := by omega
    rcases this with rfl | rfl <;> (simp at hx; subst hx; exact Gr.cell_new rfl rfl)) (by simp) (by simp) (Nat.le_refl _) (by simpa using hlen)
  simpa using this
theorem joined_three (a b c : ByteArray) (w : World) (hlen : (a.data.toList ++ (b.data.toList ++ c.data.toList)).length ≤ 140737488355328) :
    Calls Try.prog 12 #[.slice (some ⟨w.heap.size, 0, none⟩) 3 3] (w.alloc (.cells #[.string a, .string b, .string c] 9)) (Is (.string (str (a.data.toList ++ (b.data.toList ++ c.data.toList)))) (w.alloc (.cells #[.string a, .string b, .string c] 9))) := by
  have := joined_any w.heap.size 0 3 [a, b, c] (w.alloc (.cells #[.string a, .string b, .string c] 9)) (fun j x hx => by
    have hj : j < 3 := by simpa using (List.getElem?_eq_some_iff.1 hx).1
    have : j = 0 ∨ j = 1 ∨ j = 2 := by omega
    rcases this with rfl | rfl | rfl <;> (simp at hx; subst hx; exact Gr.cell_new rfl rfl)) (by simp) (by simp) (Nat.le_refl _) (by simpa using hlen)
  simpa using this
theorem joined_four (a b c d : ByteArray) (w : World) (hlen : (a.data.toList ++ (b.data.toList ++ (c.data.toList ++ d.data.toList))).length ≤ 140737488355328) :
    Calls Try.prog 12 #[.slice (some ⟨w.heap.size, 0, none⟩) 4 4] (w.alloc (.cells #[.string a, .string b, .string c, .string d] 9)) (Is (.string (str (a.data.toList ++ (b.data.toList ++ (c.data.toList ++ d.data.toList))))) (w.alloc (.cells #[.string a, .string b, .string c, .string d] 9))) := by
  have := joined_any w.heap.size 0 4 [a, b, c, d] (w.alloc (.cells #[.string a, .string b, .string c, .string d] 9)) (fun j x hx => by
    have hj : j < 4 := by simpa using (List.getElem?_eq_some_iff.1 hx).1
    have : j = 0 ∨ j = 1 ∨ j = 2 ∨ j = 3 := by omega
    rcases this with rfl | rfl | rfl | rfl <;> (simp at hx; subst hx; exact Gr.cell_new rfl rfl)) (by simp) (by simp) (Nat.le_refl _) (by simpa using hlen)
  simpa using this

/-- Six cells that stay. -/
def SixC (w : World) (p1 p2 p3 p4 p5 p6 : Addr) (v1 v2 v3 v4 v5 v6 : Value) : Prop :=
  ∀ w', Below w.heap.size w w' → w'.cell? p1 = some v1 ∧ w'.cell? p2 = some v2 ∧ w'.cell? p3 = some v3 ∧ w'.cell? p4 = some v4 ∧ w'.cell? p5 = some v5 ∧ w'.cell? p6 = some v6 ∧ Below w.heap.size w w'
theorem sixC {w : World} {p1 p2 p3 p4 p5 p6 : Addr} {v1 v2 v3 v4 v5 v6 : Value} (h1 : w.cell? p1 = some v1) (h2 : w.cell? p2 = some v2) (h3 : w.cell? p3 = some v3) (h4 : w.cell? p4 = some v4) (h5 : w.cell? p5 = some v5) (h6 : w.cell? p6 = some v6) :
    SixC w p1 p2 p3 p4 p5 p6 v1 v2 v3 v4 v5 v6 :=
  fun _ hb => ⟨Gr.cell_later hb h1, Gr.cell_later hb h2, Gr.cell_later hb h3, Gr.cell_later hb h4, Gr.cell_later hb h5, Gr.cell_later hb h6, hb⟩

set_option maxHeartbeats 4000000 in
set_option maxRecDepth 100000 in
theorem rule_any (h : Sh) (G : Gram) (r : Int × List Int) (ra : Option Addr) (rc : Nat) (w : World) (k : GAt h G w) (hl : Sep.Reads ra (r.2.map (.int .i64)) w) (hn : r.2.length ≤ 17592186044416) (hlen : (ruleL G r).length ≤ 1099511627776) :
    Calls Try.prog 8 #[gv h G, .agg #[.int .i64 r.1, .slice ra r.2.length rc]] w (Is (.string (ruleS G r)) w) := by
  obtain ⟨x, l⟩ := r
  simp only at hl hn
  have X := Lib.hid (Bx.start h G w 25)
  have hl2 : (nmL G x).length + (2 + (rightL G l).length) ≤ 1099511627776 := by
    unfold ruleL at hlen
    simp only [List.length_append] at hlen
    exact hlen
  have NM := Lib.hid (fun w' (b : Below w.heap.size w w') => Gr.name_any h G x w' (k.went b))
  have NS := Lib.hid (fun w' (b : Below w.heap.size w w') => names_any h G l ra rc w' (k.went b) (hl.below b (Nat.le_refl _)) hn (by omega))
  have JJ := Lib.hid (fun w' => joined_three (Gr.nameS G x) ⟨#[32, 58]⟩ (str (rightL G l)) w' (by rw [str_data]; show (nmL G x ++ ([32, 58] ++ rightL G l)).length ≤ _; simp only [List.length_append]; show _ + (2 + _) ≤ _; omega))
  have hR : str ((Gr.nameS G x).data.toList ++ ((⟨#[32, 58]⟩ : ByteArray).data.toList ++ (str (rightL G l)).data.toList)) = ruleS G (x, l) := by
    rw [str_data]
    rfl
  rw [hR] at JJ
  clear k hl hlen hl2 hR
  generalize ruleS G (x, l) = R at *
  generalize str (rightL G l) = S at *
  generalize Gr.nameS G x = nm at *
  unfold gv
  go_enter Try.func8, Try.ntmps8
  go_upto_region 1 with fail
  have XB := (X.out.alloc (.cells #[.int .i64 x, .slice ra l.length rc] 28)).box
  have hsz : (w.alloc (.cells #[.slice h.a1 G.terms.length h.c1, .slice h.a2 G.nons.length h.c2, .slice h.a3 G.rules.length h.c3, .int .i64 G.start] 25)).heap.size = w.heap.size + 1 := by simp
  have y0 : ((w.alloc (.cells #[.slice h.a1 G.terms.length h.c1, .slice h.a2 G.nons.length h.c2, .slice h.a3 G.rules.length h.c3, .int .i64 G.start] 25)).alloc (.cells #[.int .i64 x, .slice ra l.length rc] 28)).cell? ⟨w.heap.size + 1, 0, none⟩ = some (.int .i64 x) := Gr.cell_new hsz.symm rfl
  have y1 : ((w.alloc (.cells #[.slice h.a1 G.terms.length h.c1, .slice h.a2 G.nons.length h.c2, .slice h.a3 G.rules.length h.c3, .int .i64 G.start] 25)).alloc (.cells #[.int .i64 x, .slice ra l.length rc] 28)).cell? ⟨w.heap.size + 1, 1, none⟩ = some (.slice ra l.length rc) := Gr.cell_new hsz.symm rfl
  have HF := Lib.hid (show Below w.heap.size w ((w.alloc (.cells #[.slice h.a1 G.terms.length h.c1, .slice h.a2 G.nons.length h.c2, .slice h.a3 G.rules.length h.c3, .int .i64 G.start] 25)).alloc (.cells #[.int .i64 x, .slice ra l.length rc] 28)) from Gr.step X.out.below (Gr.boxed _ _))
  clear X hsz
  generalize (w.alloc (.cells #[.slice h.a1 G.terms.length h.c1, .slice h.a2 G.nons.length h.c2, .slice h.a3 G.rules.length h.c3, .int .i64 G.start] 25)).alloc (.cells #[.int .i64 x, .slice ra l.length rc] 28) = W2 at *
  have HQ := Lib.hid (sixC XB.x0 XB.x1 XB.x2 XB.x3 y0 y1)
  have hbd := Gr.drawn W2
  clear XB y0 y1
  go_region_held3 (fun w' => w'.cell? ⟨w.heap.size, 0, none⟩ = some (.slice h.a1 G.terms.length h.c1) ∧ w'.cell? ⟨w.heap.size, 1, none⟩ = some (.slice h.a2 G.nons.length h.c2) ∧ w'.cell? ⟨w.heap.size, 2, none⟩ = some (.slice h.a3 G.rules.length h.c3) ∧ w'.cell? ⟨w.heap.size, 3, none⟩ = some (.int .i64 G.start) ∧
      w'.cell? ⟨w.heap.size + 1, 0, none⟩ = some (.int .i64 x) ∧ w'.cell? ⟨w.heap.size + 1, 1, none⟩ = some (.slice ra l.length rc) ∧ Below W2.heap.size W2 w')
    (exact HQ.out _ (by first | assumption | exact Gr.step (by assumption) (Gr.boxed _ _)))
    (first
      | (go_at_call 19; refine (NM.out _ (Gr.step HF.out (by assumption))).mono ?_; rintro e wa ⟨rfl, hb⟩; have kA : Below W2.heap.size W2 wa := Gr.step (by assumption) hb; clear hb)
      | (go_at_call 20; refine (NS.out _ (Gr.step HF.out (by assumption))).mono ?_; rintro e wb ⟨rfl, hb⟩; have kB : Below W2.heap.size W2 wb := Gr.step (by assumption) hb; clear hb)
      | (go_at_call 12; refine (JJ.out _).mono ?_; rintro e wc ⟨rfl, hb⟩; have kC : Below W2.heap.size W2 wc := Gr.step (Gr.step (by assumption) (Gr.boxed _ _)) hb; clear hb)
      | fail)
  all_goals
    go_wp2
    go_ret
    exact ⟨rfl, Gr.step HF.out kC⟩

end Go.Proofs.Ytimfiaphhomelaa.Sw
