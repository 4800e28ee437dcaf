/-
  Package item, the small ones: augmented, fits, behind, put.
-/
import Derived.Test.YtjjmoonajijnmaaGramRule
import Derived.Test.YtjjmoonajijnmaaItemAt
import Derived.Test.YtjjmoonajijnmaaItemRange
import Derived.DeepKeys4
namespace Go.Proofs.Ytjjmoonajijnmaa.Im
open Go.RowKit Go.Maps
open Go.Proofs.Ytjjmoonajijnmaa.Gr (Gram Sh gv GAt Bx step boxed drawn ruleB ruleR rule_any Ruled cell_new cell_old cell_later free_new free_old bool_of int_of)
set_option linter.unusedVariables false

/-! ### The map's type -/

theorem laidI : laidOutB Try.prog = true := by kernel_rfl
theorem rowI : 51 < Try.prog.types.size := of_decide_eq_true (by kernel_rfl)
theorem lawI : Keyed Try.prog 51 := .of_law (deep_law_laid laidI (m := 2) (by omega) rowI (by kernel_rfl) (by rw [Try.underlying51]))
theorem ktI : Kt Try.prog 51 :=
  kt_of _ _ lawI Try.underlying51 Try.underlying3 Try.underlying3 (by kernel_rfl) (by kernel_rfl) (by kernel_rfl) (by kernel_rfl) rfl rfl (by decide) (by decide) (Try.prog.types.size - 1) (by have := rowI; omega)
theorem zeroI (w : World) : (zeroValue 110).run Try.prog w = .ok (.agg #[]) w := by kernel_rfl

/-- A set of items in block b. -/
abbrev MS (b n : Nat) (X : Itm → Prop) (w : World) : Prop := MSet (H := Nat) Try.prog 51 unitElem (.agg []) b n X w
abbrev MR (b r n q : Nat) (X Lf : Itm → Prop) (w : World) : Prop := MRan (H := Nat) Try.prog 51 unitElem (.agg []) b r n q X Lf w

/-- Behind the boxes of a grammar and of an item, made first. -/
structure Bi (W : World) (h : Sh) (G : Gram) (x : Itm) (w : World) : Prop where
  bx : Bx W h G w
  i0 : w.cell? ⟨W.heap.size + 1, 0, none⟩ = some (.int .i64 x.1)
  i1 : w.cell? ⟨W.heap.size + 1, 1, none⟩ = some (.int .i64 x.2)
theorem Bi.start (h : Sh) (G : Gram) (x : Itm) (w : World) (T U : TypeId) : Bi w h G x ((w.alloc (.cells #[.slice h.a1 G.terms.length h.c1, .slice h.a2 G.nons.length h.c2, .slice h.a3 G.rules.length h.c3, .int .i64 G.start] T)).alloc (.cells #[.int .i64 x.1, .int .i64 x.2] U)) :=
  ⟨(Bx.start h G w T).alloc _, cell_new (by simp) rfl, cell_new (by simp) rfl⟩
theorem Bi.went {W : World} {h : Sh} {G : Gram} {x : Itm} {w w' : World} (k : Bi W h G x w) (hb : Below w.heap.size w w') : Bi W h G x w' := ⟨k.bx.went hb, cell_later hb k.i0, cell_later hb k.i1⟩
theorem Bi.alloc {W : World} {h : Sh} {G : Gram} {x : Itm} {w : World} (k : Bi W h G x w) (o : Obj) : Bi W h G x (w.alloc o) := k.went (boxed _ _)
theorem Bi.below {W : World} {h : Sh} {G : Gram} {x : Itm} {w : World} (k : Bi W h G x w) : Below W.heap.size W w := k.bx.below

/-! ### augmented, fits, behind -/

theorem augmented_any (h : Sh) (G : Gram) (w : World) (k : GAt h G w) :
    Calls Try.prog 40 #[gv h G] w (Gr.Is (.int .i64 (G.rules.length : Int)) w) := by
  have t := k.r2
  clear k
  unfold gv
  go_enter Try.func40, Try.ntmps40
  go_wp2
  go_ret
  exact ⟨rfl, boxed _ _⟩

theorem ruleB_of {G : Gram} {x : Itm} : rightB G x = (ruleB G x.1 && decide (0 ≤ x.2) && decide (x.2 ≤ ((ruleR G x.1).2.length : Int))) := by
  unfold rightB rlen
  rw [Bool.and_assoc]
  congr 1
  rw [Bool.eq_iff_iff]
  simp

set_option maxRecDepth 100000 in
set_option maxHeartbeats 1000000 in
theorem fits_any (h : Sh) (G : Gram) (x : Itm) (w : World) (k : GAt h G w) :
    Calls Try.prog 74 #[gv h G, iv x] w (Gr.Is (.bool (rightB G x)) w) := by
  have R := Lib.hid (fun w1 (b : Below w.heap.size w w1) => rule_any h G x.1 w1 (k.went b))
  clear k
  rw [ruleB_of]
  obtain ⟨xr, xd⟩ := x
  generalize ruleR G (xr, xd).1 = r at R ⊢
  generalize ruleB G (xr, xd).1 = rb at R ⊢
  have X := Lib.hid (Bi.start h G (xr, xd) w 36 51)
  unfold gv iv
  dsimp only at R X ⊢
  go_enter Try.func74, Try.ntmps74
  go_wp2_with (go_at_call 55; refine (R.out _ X.out.below).mono ?_; rintro e w1 ⟨a, c, rfl, hr, hb⟩; have X := Lib.hid ((X.out.went hb).alloc (.cells #[.int .i64 r.1, .slice a r.2.length c] 47)); have HR := Lib.hid hr; have y0 := X.out.i0; have y1 := X.out.i1; clear hb hr)
  all_goals
    go_ret
    exact ⟨bool_of (by first | (simp_all; done) | (simp_all; omega)), X.out.below⟩

/-- What stands behind the dot of an item, told by the rule's number alone, its dot within it. -/
def nextB (G : Gram) (x : Itm) : Bool := decide (0 ≤ x.2 ∧ x.2 < ((ruleR G x.1).2.length : Int))
def nextV (G : Gram) (x : Itm) : Int := if nextB G x then (ruleR G x.1).2.getD x.2.toNat 0 else 0
theorem next_of {G : Gram} {x : Itm} (h : rightB G x = true) : nextB G x = behB G x ∧ nextV G x = behV G x := by
  have e : nextB G x = behB G x := by
    have := right_iff.1 h
    rw [Bool.eq_iff_iff, beh_iff]
    unfold nextB
    rw [decide_eq_true_iff]
    exact ⟨fun k => ⟨h, k.2⟩, fun k => ⟨this.2.1, k.2⟩⟩
  exact ⟨e, by unfold nextV behV; rw [e]⟩

set_option maxRecDepth 100000 in
set_option maxHeartbeats 1000000 in
theorem behind_any (h : Sh) (G : Gram) (x : Itm) (w : World) (k : GAt h G w) :
    Calls Try.prog 76 #[gv h G, iv x] w (Gr.Is (.tuple #[.int .i64 (nextV G x), .bool (nextB G x)]) w) := by
  have R := Lib.hid (fun w1 (b : Below w.heap.size w w1) => rule_any h G x.1 w1 (k.went b))
  clear k
  unfold nextV nextB
  obtain ⟨xr, xd⟩ := x
  generalize ruleR G (xr, xd).1 = r at R ⊢
  generalize ruleB G (xr, xd).1 = rb at R ⊢
  have X := Lib.hid (Bi.start h G (xr, xd) w 36 51)
  unfold gv iv
  dsimp only at R X ⊢
  by_cases h1 : 0 ≤ xd ∧ xd < (r.2.length : Int)
  · obtain ⟨j, rfl⟩ := Int.eq_ofNat_of_zero_le h1.1
    have hj : j < r.2.length := by omega
    have e1 : decide (0 ≤ (j : Int) ∧ (j : Int) < (r.2.length : Int)) = true := decide_eq_true h1
    rw [e1, if_pos rfl, show r.2.getD (Int.toNat (j : Int)) 0 = r.2[j] by simp [hj]]
    clear e1
    go_enter Try.func76, Try.ntmps76
    go_wp2_with (go_at_call 55; refine (R.out _ X.out.below).mono ?_; rintro e w1 ⟨a, c, rfl, hr, hb⟩; have X := Lib.hid ((X.out.went hb).alloc (.cells #[.int .i64 r.1, .slice a r.2.length c] 47)); have HR := Lib.hid hr; have y0 := X.out.i0; have y1 := X.out.i1; obtain ⟨b2, o2, e2, z⟩ := hr j (by simpa [Gr.ivs] using hj); subst e2; have z := cell_old (o := .cells #[.int .i64 r.1, .slice (some ⟨b2, o2, none⟩) r.2.length c] 47) z; clear hb hr)
    go_ret2
    exact ⟨by simp [Gr.ivs, Gr.iv], X.out.below⟩
  · have e1 : decide (0 ≤ xd ∧ xd < (r.2.length : Int)) = false := decide_eq_false h1
    rw [e1]
    by_cases h2 : xd < 0
    · clear h1 e1
      go_enter Try.func76, Try.ntmps76
      go_wp2_with (go_at_call 55; refine (R.out _ X.out.below).mono ?_; rintro e w1 ⟨a, c, rfl, hr, hb⟩; have X := Lib.hid ((X.out.went hb).alloc (.cells #[.int .i64 r.1, .slice a r.2.length c] 47)); have y0 := X.out.i0; have y1 := X.out.i1; clear hb hr)
      all_goals
        go_ret2
        exact ⟨rfl, X.out.below⟩
    · have h3 : (r.2.length : Int) ≤ xd := by omega
      have h4 : 0 ≤ xd := by omega
      clear h1 e1
      go_enter Try.func76, Try.ntmps76
      go_wp2_with (go_at_call 55; refine (R.out _ X.out.below).mono ?_; rintro e w1 ⟨a, c, rfl, hr, hb⟩; have X := Lib.hid ((X.out.went hb).alloc (.cells #[.int .i64 r.1, .slice a r.2.length c] 47)); have y0 := X.out.i0; have y1 := X.out.i1; clear hb hr)
      all_goals
        go_ret2
        exact ⟨rfl, X.out.below⟩

/-! ### put -/

theorem turned_fr {w w' : World} {b : Nat} (h : w.mapTurned w' b) : Sep.Fr (· = b) w w' := by
  obtain ⟨es, c, es', c', h1, rfl⟩ := h
  exact ⟨rfl, rfl, rfl, by simp [ChangeMaps.setBlock], fun k _ hk => ChangeMaps.heap_setBlock_other h1 _ hk⟩

set_option maxRecDepth 100000 in
set_option maxHeartbeats 1000000 in
theorem put_any (x : Itm) (hx : W64 x) (b n : Nat) (Y : Itm → Prop) (w : World) (hs : MS b n Y w) (hn : n < maxLen) :
    Calls Try.prog 75 #[.map (some b), iv x] w fun e w' => ∃ c : Bool, (c = true ↔ ¬ Y x) ∧ e = .returned (.bool c) ∧ MS b (n + 1) (fun y => Y y ∨ y = x) w' ∧ Sep.Fr (· = b) w w' := by
  have S := Lib.hid (fun w1 (k : Below w.heap.size w w1) => hs.went k)
  clear hs
  have z0 := zeroI
  unfold iv
  go_enter Try.func75, Try.ntmps75
  go_wp2_with (first
    | (at_lookup; refine wpList_of_wp rfl fun K' hK' => wp_mset_unit _ _ _ rfl ktI Try.underlying94 (zeroI _) b n Y rfl (S.out _ (boxed _ _)) x rfl hx fun c hc => hK' _ _ ?_)
    | (at_mapUpdate; refine wpList_of_wp rfl fun K' hK' => wp_mset_put _ _ _ _ rfl ktI Try.underlying94 (.agg []) b n Y rfl (S.out _ ((boxed _ _).trans ((boxed _ _).mono (by simp)))) hn x rfl hx [] unitElem_mk fun w2 m1 m2 => hK' _ _ ?_; have M1 := Lib.hid m1; have M2 := Lib.hid m2; clear m1 m2))
  · have hct : c = true := by assumption
    go_ret
    refine ⟨false, ⟨fun e => Bool.noConfusion e, fun e => absurd (hc.1 hct) e⟩, rfl, ((S.out _ ((boxed _ _).trans ((boxed _ _).mono (by simp)))).mono (Nat.le_succ n)).iff fun y _ => ?_, .of_below ((boxed _ _).trans ((boxed _ _).mono (by simp)))⟩
    exact ⟨.inl, fun e => e.elim id fun e => e ▸ hc.1 hct⟩
  · go_ret
    refine ⟨true, ⟨fun _ e => ?_, fun _ => rfl⟩, rfl, M1.out, ?_⟩
    · have q := hc.2 e
      simp_all
    · exact (Sep.Fr.of_below ((boxed _ _).trans ((boxed _ _).mono (by simp)))).trans (turned_fr M2.out) (.refl _ _)

end Go.Proofs.Ytjjmoonajijnmaa.Im
