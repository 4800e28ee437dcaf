/-
  Package auto: states: the list of all states, read out of the builder.
  Package auto: transitions, states: what is built, read out of the builder.
-/
import Derived.Test.YtjjmoonajijnmaaGreatMAutoO
import Derived.Test.YtjjmoonajijnmaaGreatRowLie
import Derived.Test.YtjjmoonajijnmaaGreatRowKit
namespace Go.Proofs.YtjjmoonajijnmaaGreat.Au
open Go.RowKit Go.Maps
open Go.Proofs.YtjjmoonajijnmaaGreat.Gr (Gram Sh gv GAt Box Bx checkN top top_any boxed drawn cell_new cell_old cell_later)
open Go.Proofs.YtjjmoonajijnmaaGreat.Im
open Go.Proofs.YtjjmoonajijnmaaGreat.It (isIn num)
open Go.Proofs.YtjjmoonajijnmaaGreat.Rw (wpList_append_rows)
set_option linter.unusedVariables false

theorem info_trans : (Tryz.prog.info? 59).map (fun i => (i.zero, i.size, i.bytes)) = some (some (.agg #[.int .i64 0, .int .i64 0]), 2, 16) := by kernel_rfl
theorem wf_nat {j : Nat} (h : j < 9223372036854775808) : (Lit.int .i64 (j : Int)).wf = true := by
  simp only [Lit.wf, IntKind.min, IntKind.max, IntKind.signed, IntKind.bits, Bool.and_eq_true, decide_eq_true_eq, if_true]
  omega
/-- A row of one's own comes back. -/
def RowIs (T : TypeId) (Y : List Itm) (w : World) (e : Ending) (w' : World) : Prop := ∃ a c, e = .returned (.slice a Y.length c) ∧ Y.length ≤ c ∧ ItsV T w.heap.size Y (.slice a Y.length c) w' ∧ Below w.heap.size w w'

set_option maxRecDepth 100000 in
set_option maxHeartbeats 2000000 in
theorem transitions_any {W : World} {p : Nat} {S : Nat → Prop} {h : Sh} {G : Gram} {ks : List (List Itm)} {ts : List (List (Int × Int))} {n : Nat} (w : World) (k : BAt W p S h G ks (tgt ts) n w) (kg : GAt h G W) (ht : top G ≤ 1000) (i : Nat) (hi : i ≤ 1000000) :
    Calls Tryz.prog 37 #[.pointer (some ⟨p, 0, none⟩), .int .i64 i] w (RowIs 59 (outOf ts i (top G + 1)) w) := by
  obtain ⟨a0, c0, bt, bn, us, k⟩ := k
  obtain ⟨i0, hj, hz0, hz1, hz2⟩ := info_parts info_trans
  have K := Lib.hid (fun w1 (b : Below w.heap.size w w1) => k.went b)
  have TP := Lib.hid (fun w1 (b : Below w.heap.size w w1) => top_any h G w1 (kg.went (Gr.step k.below b)))
  have R0 := Lib.hid (ItsV.nil 59 w.heap.size w)
  have hwi := wf_nat (j := i) (by omega)
  obtain ⟨x0, x1, x2, x3⟩ := k.box
  clear k kg
  unfold gv at TP
  generalize top G = m at TP ht
  go_enter Tryz.func37, Tryz.ntmps37
  go_wp2_with (go_at_call 52; refine (TP.out _ (.refl _ _)).mono ?_; rintro e w1 ⟨rfl, hb⟩; have HB := Lib.hid hb; have R1 := Lib.hid (R0.out.went hb); clear hb)
  clear R0 x0 x1 x2 x3
  go_loopw [5, 15] (fun v q wr => ∃ j : Nat, q = .int .i64 j ∧ j ≤ m + 1 ∧ ItsV 59 w.heap.size (outOf ts i j) v wr ∧ Below w.heap.size w wr) (fun _ q _ => m + 1 - (intOf q).toNat)
  case atStart => exact ⟨0, rfl, Nat.zero_le _, R1.out, HB.out⟩
  case round =>
    obtain ⟨j, rfl, hj', hV, hW⟩ := hrel
    have hlen := out_len ts i j
    obtain ⟨av, cv, rfl, hcv⟩ := hV.shape
    have V := Lib.hid hV
    have kr := Lib.hid (K.out wr hW)
    have q5 := kr.out.targets
    have hsz := hW.size
    have WW := Lib.hid hW
    clear R1 HB hV hW
    by_cases hlt : j < m + 1
    · have hwj := wf_nat (j := j) (by omega)
      have HX : W64 ((i : Int), (j : Int)) := ⟨hwi, hwj⟩
      have TMj := Lib.hid kr.out.tm
      have OS := Lib.hid (fun t (e : tgt ts ((i : Int), (j : Int)) = some t) => out_some e)
      have ON := Lib.hid (fun (e : tgt ts ((i : Int), (j : Int)) = none) => out_none e)
      generalize eY : outOf ts i (j + 1) = Y' at OS ON
      have EY := Lib.hid eY
      clear eY
      generalize outOf ts i j = Y at *
      cases hx : tgt ts ((i : Int), (j : Int)) with
      | none =>
        have V2 := Lib.hid (show ItsV 59 w.heap.size Y' (.slice av Y.length cv) wr from (ON.out hx).symm ▸ V.out)
        clear OS ON V
        go_wp2_with (at_lookup; refine wpList_tmap_ok _ rfl _ _ rfl kaA Tryz.underlying44 Tryz.underlying3 (zeroA _) bt n (tgt ts) rfl TMj.out ((i : Int), (j : Int)) rfl HX ?_; simp only [hx, Option.getD_none, Option.isSome_none])
        go_roundw
        case rel => exact ⟨j + 1, by go_num, by omega, EY.out.symm ▸ V2.out, WW.out⟩
        case measure => simp [intOf]; omega
      | some t =>
        have hE := Lib.hid (OS.out t hx)
        have hs1 : wr.heap.size = wr.heap.size := rfl
        have ON2 := Lib.hid (item_one 59 w.heap.size wr.heap.size ((j : Int), t) wr rfl hsz)
        have V1 := Lib.hid (V.out.went (boxed wr (.cells #[.int .i64 (j : Int), .int .i64 t] 59)))
        have W1 := Lib.hid (Gr.step WW.out (boxed wr (.cells #[.int .i64 (j : Int), .int .i64 t] 59)))
        have hsz1 := W1.out.size
        clear OS ON V
        go_wp2_with (first
          | (at_lookup; refine wpList_tmap_ok _ rfl _ _ rfl kaA Tryz.underlying44 Tryz.underlying3 (zeroA _) bt n (tgt ts) rfl TMj.out ((i : Int), (j : Int)) rfl HX ?_; simp only [hx, Option.getD_some, Option.isSome_some])
          | (at_builtin; refine wpList_append_rows _ rfl _ _ 53 rfl w.heap.size 59 i0 (.agg #[.int .i64 0, .int .i64 0]) 2 16 Tryz.underlying53 hj hz0 hz1 hz2 rfl (by decide) _ _ _ rfl V1.out w.heap.size _ 1 (ic ((j : Int), t)) rfl ON2.out (ic_one _) (by unfold maxLen; omega) (by omega) hsz1 ?_; intro v' w' hown hg _; have V2 := Lib.hid (ItsV.of_append (Y := [((j : Int), t)]) (by simpa using hown) rfl rfl); have W2 := Lib.hid (W1.out.trans (grown_below2 hg hsz1 (its_own V1.out))); clear hown hg))
        go_roundw
        case rel => exact ⟨j + 1, by go_num, by omega, (EY.out.trans hE.out).symm ▸ V2.out, W2.out⟩
        case measure => simp [intOf]; omega
    · have hE : j = m + 1 := by omega
      subst hE
      go_wp2
      go_ret
      exact ⟨av, cv, rfl, hcv, V.out, WW.out⟩

end Go.Proofs.YtjjmoonajijnmaaGreat.Au

namespace Go.Proofs.YtjjmoonajijnmaaGreat.Au
open Go.RowKit Go.Maps
open Go.Proofs.YtjjmoonajijnmaaGreat.Gr (Gram Sh gv GAt Box Bx checkN top boxed drawn cell_new cell_old cell_later)
open Go.Proofs.YtjjmoonajijnmaaGreat.Im
open Go.Proofs.YtjjmoonajijnmaaGreat.Rw (wpList_append_rows)
set_option linter.unusedVariables false

theorem info_state : (Tryz.prog.info? 55).map (fun i => (i.zero, i.size, i.bytes)) = some (some (.agg #[.slice none 0 0, .slice none 0 0]), 2, 48) := by kernel_rfl
/-- The first i states. -/
def allOf (G : Gram) (ks : List (List Itm)) (ts : List (List (Int × Int))) (i : Nat) : List Sta := (List.range i).map fun j => (stateK ks j, outOf ts (j : Int) (top G + 1))
theorem allOf_zero (G : Gram) (ks : List (List Itm)) (ts : List (List (Int × Int))) : allOf G ks ts 0 = [] := rfl
theorem allOf_succ (G : Gram) (ks : List (List Itm)) (ts : List (List (Int × Int))) (i : Nat) : allOf G ks ts (i + 1) = allOf G ks ts i ++ [(stateK ks i, outOf ts (i : Int) (top G + 1))] := by
  unfold allOf
  rw [List.range_succ, List.map_append]
  rfl
theorem allOf_len (G : Gram) (ks : List (List Itm)) (ts : List (List (Int × Int))) (i : Nat) : (allOf G ks ts i).length = i := by simp [allOf]
theorem allOf_all {G : Gram} {q : Whole} (h : Done G q) : allOf G q.1 q.2 q.1.length = states q := by
  refine List.ext_getElem (by rw [allOf_len, states_len h.all]) fun i h1 h2 => ?_
  rw [allOf_len] at h1
  have hi : i < q.2.length := by rw [h.all]; exact h1
  have e := states_at h.all h1
  rw [List.getElem?_eq_getElem h2, Option.some.injEq] at e
  rw [e]
  simp only [allOf, List.getElem_map, List.getElem_range]
  rw [out_all h.ok hi]

/-- States come back. -/
def StatesIs (X : List Sta) (w : World) (e : Ending) (w' : World) : Prop := ∃ a c, e = .returned (.slice a X.length c) ∧ StaA a X w' ∧ X.length ≤ c ∧ Below w.heap.size w w'

/-- A state's two cells in a new block. -/
theorem state_one (T : TypeId) (base q : Nat) (u v : Value) (w : World) (hq : q = w.heap.size) (hb : base ≤ q) (hu : u.oneCell' = true) (hv : v.oneCell' = true) : (w.alloc (.cells #[u, v] T)).ownsRow base T 2 (.slice (some ⟨q, 0, none⟩) 1 1) 1 [u, v] := by
  subst hq
  exact World.ownsRow_lit w #[u, v] 1 hb (by decide) (by simp)

set_option maxRecDepth 100000 in
set_option maxHeartbeats 2000000 in
theorem states_any {W : World} {p : Nat} {S : Nat → Prop} {h : Sh} {G : Gram} {ks : List (List Itm)} {ts : List (List (Int × Int))} {n : Nat} (w : World) (k : BAt W p S h G ks (tgt ts) n w) (kg : GAt h G W) (ht : top G ≤ 1000) (hl : ks.length ≤ 1000000) :
    Calls Tryz.prog 16 #[.pointer (some ⟨p, 0, none⟩)] w (StatesIs (allOf G ks ts ks.length) w) := by
  have TR := Lib.hid (fun w1 (b : Below w.heap.size w w1) i (hi : i ≤ 1000000) => transitions_any w1 (k.went b) kg ht i hi)
  obtain ⟨a0, c0, bt, bn, us, k⟩ := k
  obtain ⟨i0, hj, hz0, hz1, hz2⟩ := info_parts info_state
  have K := Lib.hid k
  have S0 := Lib.hid (StV.nil 55 w.heap.size w)
  have q4 := k.items
  clear k kg
  go_enter Tryz.func16, Tryz.ntmps16
  go_wp2
  go_loopw [3, 11] (fun v q wr => ∃ (j : Nat) (L : List StC), q = .int .i64 j ∧ j ≤ ks.length ∧ L.map Prod.fst = allOf G ks ts j ∧ StV 55 w.heap.size L v wr ∧ Below w.heap.size w wr) (fun _ q _ => ks.length - (intOf q).toNat)
  case atStart => exact ⟨0, [], rfl, Nat.zero_le _, rfl, S0.out, .refl _ _⟩
  case round =>
    obtain ⟨j, L, rfl, hjl, hM, hV, hW⟩ := hrel
    have hlen : L.length = j := by
      have := congrArg List.length hM
      rwa [List.length_map, allOf_len] at this
    subst hlen
    obtain ⟨av, cv, rfl, hcv⟩ := hV.len
    have V := Lib.hid hV
    have WW := Lib.hid hW
    have MM := Lib.hid hM
    clear S0 hV hM
    by_cases hlt : L.length < ks.length
    · obtain ⟨b, a1, c1, rfl, hc1, l1, i1, _⟩ := K.out.at hlt
      have hc2 := cell_later hW hc1
      have U1 := Lib.hid (show LOk ks[L.length] (.slice a1 ks[L.length].length c1) (.slice av L.length cv) w from ⟨a1, c1, rfl, l1, i1, fun hne b o e g => by
        have h1 := its_lt i1 hne e
        have h2 := (World.ownsRow.lt V.out.row b g).1
        omega⟩)
      have hst := stateK_at hlt
      have EX := Lib.hid (show allOf G ks ts (L.length + 1) = allOf G ks ts L.length ++ [(ks[L.length], outOf ts (L.length : Int) (top G + 1))] from by rw [allOf_succ, hst])
      have TJ := Lib.hid (TR.out wr hW L.length (by omega))
      have hL1 : L.length ≤ 1000000 := by omega
      generalize ks[L.length] = Kj at *
      generalize outOf ts (L.length : Int) (top G + 1) = Y at *
      clear i1 l1 hst hW
      go_wp2_with (first
        | (go_at_call 37; refine TJ.out.mono ?_; rintro e w2 ⟨a2, c2, rfl, l2, v2, b2⟩; have V2 := Lib.hid (V.out.went b2); have W2 := Lib.hid (Gr.step WW.out b2); have U2 := Lib.hid ((U1.out.went WW.out).went b2); have Y2 := Lib.hid (show LOk Y (.slice a2 Y.length c2) (.slice av L.length cv) w2 from ⟨a2, c2, rfl, l2, v2.reads, fun hne b o e g => by
            have h1 := (World.ownsRow.lt V.out.row b g).2
            have h2 := (World.ownsRow.lt v2 b (by rw [e]; rfl)).1
            omega⟩); have hs2 := W2.out.size; have ONE := Lib.hid (state_one 55 w.heap.size w2.heap.size (.slice a1 Kj.length c1) (.slice a2 Y.length c2) w2 rfl hs2 rfl rfl); have b3 := boxed w2 (.cells #[.slice a1 Kj.length c1, .slice a2 Y.length c2] 55); have V3 := Lib.hid (V2.out.went b3); have W3 := Lib.hid (Gr.step W2.out b3); have U3 := Lib.hid (U2.out.went b3); have Y3 := Lib.hid (Y2.out.went b3); have hs3 := W3.out.size; clear l2 v2 b2 b3)
        | (at_builtin; refine wpList_append_rows _ rfl _ _ 28 rfl w.heap.size 55 i0 (.agg #[.slice none 0 0, .slice none 0 0]) 2 48 Tryz.underlying28 hj hz0 hz1 hz2 rfl (by decide) _ _ _ rfl V3.out.row w.heap.size _ 1 [.slice a1 Kj.length c1, .slice a2 Y.length c2] rfl ONE.out (by simp [Value.oneCell']) (by unfold maxLen; omega) (by omega) hs3 ?_; intro v' w4 hown hg hloc; have V4 := Lib.hid (V3.out.snoc ((Kj, Y), (.slice a1 Kj.length c1, .slice a2 Y.length c2)) ⟨U3.out, Y3.out⟩ hown hg (hloc.imp id fun e => ⟨_, Nat.le_refl _, e⟩)); have W4 := Lib.hid (W3.out.trans (grown_below2 hg hs3 fun q hq => (World.ownsRow.lt V3.out.row q hq).1)); clear hown hg hloc))
      go_roundw
      case rel => exact ⟨L.length + 1, _, by go_num, by omega, by rw [List.map_append, MM.out, EX.out]; rfl, V4.out, W4.out⟩
      case measure => simp [intOf]; omega
    · have hE : L.length = ks.length := by omega
      have R := Lib.hid (show StaA av (allOf G ks ts ks.length) wr from by rw [← hE, ← MM.out]; exact V.out.at)
      have hll : (allOf G ks ts ks.length).length = L.length := by rw [allOf_len, hE]
      clear hE
      go_wp2
      go_ret
      exact ⟨av, cv, by rw [hll]; rfl, R.out, by rw [hll]; exact hcv, WW.out⟩

end Go.Proofs.YtjjmoonajijnmaaGreat.Au
