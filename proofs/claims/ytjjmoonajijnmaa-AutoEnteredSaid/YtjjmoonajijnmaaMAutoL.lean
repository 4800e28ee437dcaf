/-
  Package auto: leave, walked.
  Package auto: leave: the transitions of one state.
-/
import Derived.Test.YtjjmoonajijnmaaMAutoS
import Derived.Test.YtjjmoonajijnmaaMAutoT
namespace Go.Proofs.Ytjjmoonajijnmaa.Au
open Go.RowKit Go.Maps
open Go.Proofs.Ytjjmoonajijnmaa.Gr (Gram Sh gv GAt Box Bx checkN top boxed drawn cell_new cell_old cell_later)
open Go.Proofs.Ytjjmoonajijnmaa.Im
set_option linter.unusedVariables false

/-- Behind the symbols below j: half of it. -/
noncomputable def pj (G : Gram) (c : List Itm) (ks : List (List Itm)) (j : Nat) : Half := oneTo G c (j - 1) (ks, [])
theorem pj_zero (G : Gram) (c : List Itm) (ks : List (List Itm)) : pj G c ks 0 = (ks, []) := rfl
theorem pj_skip {G : Gram} (hv : checkN G = 0) {c : List Itm} {ks : List (List Itm)} {j : Nat} (h : stL G c (j : Int) = []) : pj G c ks (j + 1) = pj G c ks j := by
  unfold pj
  cases j with
  | zero => rfl
  | succ j =>
    show oneTo G c (j + 1) (ks, []) = oneTo G c j (ks, [])
    rw [oneTo_succ, oneS_none h]
theorem pj_next {G : Gram} (hv : checkN G = 0) {c : List Itm} {ks : List (List Itm)} {j : Nat} (h : stL G c (j : Int) ≠ []) :
    pj G c ks (j + 1) = (moreK (pj G c ks j).1 (stL G c (j : Int)), (pj G c ks j).2 ++ [((j : Int), (numK (pj G c ks j).1 (stL G c (j : Int)) : Int))]) := by
  cases j with
  | zero => exact absurd (st_zero hv c) h
  | succ j =>
    unfold pj
    show oneTo G c (j + 1) (ks, []) = _
    rw [oneTo_succ]
    unfold oneS moreK numK
    rw [if_neg h]
    rfl
theorem pj_syms {G : Gram} (hv : checkN G = 0) {c : List Itm} {ks : List (List Itm)} {j : Nat} (h : stL G c (j : Int) ≠ []) : ∀ x ∈ (pj G c ks j).2, x.1 ≠ (j : Int) := fun x hx e => by
  have := oneTo_syms G c ks (j - 1) x hx
  cases j with
  | zero => exact h (st_zero hv c)
  | succ j => omega
/-- All states of it are in order, right, and stand once. -/
theorem pj_ok {G : Gram} (hv : checkN G = 0) {q : Whole} (h : WholeOk G (top G) q) (c : List Itm) (j : Nat) : (pj G c q.1 j).1.Nodup ∧ (∀ x ∈ (pj G c q.1 j).1, Fit3 x) ∧ (pj G c q.1 j).1.length ≤ q.1.length + j := by
  have H := half_all (G := G) (c := c) h.nodup (j - 1)
  refine ⟨H.nodup, fun x hx => ?_, by have := oneTo_len G c q.1 (j - 1); unfold pj; omega⟩
  obtain ⟨more, e, hm⟩ := H.front
  unfold pj at hx
  rw [e] at hx
  rcases List.mem_append.1 hx with k | k
  · exact fun y hy => right_fit hv ((h.good x k).2.2 y hy)
  · obtain ⟨i, _, h1, _⟩ := hm x k
    exact fun y hy => by
      rw [h1] at hy
      exact right_fit hv (step_right (((is_st _ _ _).2 y).1 hy)).1
theorem st_fit {G : Gram} (hv : checkN G = 0) (c : List Itm) (s : Int) : Fit3 (stL G c s) ∧ (stL G c s).length ≤ 2709 := by
  have hr : ∀ y ∈ stL G c s, rightB G y = true := fun y hy => (step_right (((is_st _ _ _).2 y).1 hy)).1
  exact ⟨fun y hy => right_fit hv (hr y hy), Nat.le_trans (srt_len (is_st G c s).1 hr) (all_small hv)⟩

/-- What a round of leave knows. -/
structure LvR (W : World) (p : Nat) (S : Nat → Prop) (h : Sh) (G : Gram) (ts : List (List (Int × Int))) (m : Nat) (w2 : World) (H : Half) (wr : World) : Prop where
  own : ∃ T n, BAt W p T h G H.1 (tgt (ts ++ [H.2])) n wr ∧ n ≤ m ∧ Sep.Ext T S w2
  fr : Sep.Fr S w2 wr

/-- What is there behind leave. -/
def Left (W : World) (p : Nat) (S : Nat → Prop) (h : Sh) (G : Gram) (ks : List (List Itm)) (ts : List (List (Int × Int))) (m : Nat) (w : World) (e : Ending) (w' : World) : Prop :=
  e = .returned (.tuple #[]) ∧ ∃ T n, BAt W p T h G ks (tgt ts) n w' ∧ n ≤ m ∧ Sep.Fr S w w' ∧ Sep.Ext T S w

end Go.Proofs.Ytjjmoonajijnmaa.Au

namespace Go.Proofs.Ytjjmoonajijnmaa.Au
open Go.RowKit Go.Maps
open Go.Proofs.Ytjjmoonajijnmaa.Gr (Gram Sh gv GAt Box Bx checkN top boxed drawn cell_new cell_old cell_later)
open Go.Proofs.Ytjjmoonajijnmaa.Im
set_option linter.unusedVariables false

/-- The end of a round with a transition. -/
theorem lv_put {W : World} {p : Nat} {S T T3 : Nat → Prop} {h : Sh} {G : Gram} {ts : List (List (Int × Int))} {m n nn : Nat} {w2 wr w3 w4 : World} {H : Half} {K : List Itm} {j : Nat} {bt : Nat}
    (h5 : w3.cell? ⟨p, 5, none⟩ = some (.map (some bt))) (hB : BAt W p T3 h G (moreK H.1 K) (tgt (ts ++ [H.2])) n w3) (hF : Sep.Fr T wr w3) (hX : Sep.Ext T3 T wr) (hx : Sep.Ext T S w2) (hf : Sep.Fr S w2 wr)
    (hT : TM bt (n + 1) (fun y => if y = ((ts.length : Int), (j : Int)) then some (numK H.1 K : Int) else tgt (ts ++ [H.2]) y) w4) (ht : Sep.Fr (· = bt) w3 w4) (hs : ∀ x ∈ H.2, x.1 ≠ (j : Int)) (hn : n + 1 ≤ m) :
    LvR W p S h G ts m w2 (moreK H.1 K, H.2 ++ [((j : Int), (numK H.1 K : Int))]) w4 := by
  obtain ⟨a, c, bt', bn, us, k⟩ := hB
  have e : bt' = bt := by
    have := k.targets
    rw [h5] at this
    injection this with this
    injection this with this
    injection this with this
    exact this.symm
  subst e
  have k4 := k.turn ht (hT.eq fun y => (tgt_put hs y).symm)
  have hbt : T3 bt' := k.st
  have hX2 : Sep.Ext T3 S w2 := hx.trans hX hf.size
  refine ⟨⟨T3, n + 1, ⟨a, c, bt', bn, us, k4⟩, hn, hX2⟩, ?_⟩
  refine (hf.trans (T := T) hF hx).trans ht fun q hq => hq ▸ hX2 _ hbt

/-- The map of targets, of a builder whose cell says where it is. -/
theorem tm_of {W : World} {p : Nat} {T : Nat → Prop} {h : Sh} {G : Gram} {ks : List (List Itm)} {X : Itm → Option Int} {n bt : Nat} {w : World} (hB : BAt W p T h G ks X n w) (h5 : w.cell? ⟨p, 5, none⟩ = some (.map (some bt))) : TM bt n X w := by
  obtain ⟨a, c, bt', bn, us, k⟩ := hB
  have := k.targets
  rw [h5] at this
  injection this with this
  injection this with this
  injection this with this
  subst this
  exact k.tm
theorem bt_of {W : World} {p : Nat} {T : Nat → Prop} {h : Sh} {G : Gram} {ks : List (List Itm)} {X : Itm → Option Int} {n : Nat} {w : World} (hB : BAt W p T h G ks X n w) : ∃ bt, w.cell? ⟨p, 5, none⟩ = some (.map (some bt)) := by
  obtain ⟨a, c, bt, bn, us, k⟩ := hB
  exact ⟨bt, k.targets⟩
theorem numK_le (ks : List (List Itm)) (K : List Itm) : numK ks K ≤ ks.length := by
  unfold numK
  have h := List.idxOf_lt_length_of_mem (l := ks ++ [K]) (a := K) (by simp)
  rw [List.length_append, List.length_singleton] at h
  omega

set_option maxRecDepth 100000 in
set_option maxHeartbeats 4000000 in
theorem leave_any {W : World} {p : Nat} {S : Nat → Prop} {h : Sh} {G : Gram} {q : Whole} {n : Nat} (w : World) (k : BAt W p S h G q.1 (tgt q.2) n w) (kg : GAt h G W) (hv : checkN G = 0) (ht : top G ≤ 1000)
    (ok : WholeOk G (top G) q) (hq : q.2.length < q.1.length) (hl : q.1.length ≤ 100000) (hn : n ≤ 1000000000) :
    Calls Try.prog 27 #[.pointer (some ⟨p, 0, none⟩), .int .i64 q.2.length] w (Left W p S h G (rnd G (top G) q).1 (rnd G (top G) q).2 (n + (top G + 1)) w) := by
  have ST := Lib.hid (steps_any w k kg hv ht (fun x hx => ⟨Nat.le_trans (srt_len (ok.good x hx).2.1 (ok.good x hx).2.2) (all_small hv), (ok.good x hx).2.2⟩) (by omega) q.2.length hq)
  rw [rnd_of hq]
  have OK := Lib.hid (fun j => pj_ok hv ok (clL G q.1[q.2.length]) j)
  have K0 := Lib.hid k
  have hlen := k.inn
  clear k kg
  generalize clL G q.1[q.2.length] = C at *
  generalize hts : q.2 = ts at *
  generalize hks : q.1 = ks at *
  clear hts hks ok
  go_enter Try.func27, Try.ntmps27
  go_wp2_with (go_at_call 41; refine ST.out.mono ?_; rintro e w2 ⟨b, cc, rfl, hb1, hb2, hrows, hbw⟩; have ROWS := Lib.hid hrows; have HB2 := Lib.hid hbw; clear hrows hbw)
  have R0 := Lib.hid (show LvR W p S h G ts (n + 0) w2 (pj G C ks 0) w2 from ⟨⟨S, n, (K0.out.went HB2.out).eq (fun x => by rw [pj_zero]; exact (tgt_more ts x).symm) (Nat.le_refl _), Nat.le_refl _, .refl _ _⟩, .refl _ _⟩)
  have hsw := HB2.out.size
  go_loopw [10] (fun i wr => ∃ j : Nat, i = .int .i64 j ∧ j ≤ top G + 1 ∧ LvR W p S h G ts (n + j) w2 (pj G C ks j) wr) (fun i _ => top G + 1 - (intOf i).toNat)
  case atStart => exact ⟨0, rfl, Nat.zero_le _, R0.out⟩
  case round =>
    obtain ⟨j, rfl, hj, hR⟩ := hrel
    have R := Lib.hid hR
    clear hR R0
    by_cases hlt : j < top G + 1
    · obtain ⟨a1, c1, hc, hcc, hi1, hnb⟩ := ROWS.out j hlt
      have hsb : ¬ S b := fun q => by have := K0.out.inn b q; omega
      have hc' : wr.cell? ⟨b, j, none⟩ = some (.slice a1 (stL G C (j : Int)).length c1) := R.out.fr.cell hc hsb
      have L2 := Lib.hid (show LAt S (stL G C (j : Int)) (.slice a1 (stL G C (j : Int)).length c1) w2 from ⟨a1, c1, rfl, hcc, hi1, fun _ b' o e q => by
        have := hnb b' o e
        have := K0.out.inn b' q
        omega⟩)
      obtain ⟨hk1, hk2, hk3⟩ := OK.out j
      obtain ⟨hf1, hf2⟩ := st_fit hv C (j : Int)
      have PS := Lib.hid (fun h0 => pj_skip (c := C) (ks := ks) (j := j) hv h0)
      have PN := Lib.hid (fun h0 => pj_next (c := C) (ks := ks) (j := j) hv h0)
      have SY := Lib.hid (fun h0 => pj_syms (c := C) (ks := ks) (j := j) hv h0)
      obtain ⟨⟨T, n1, hB, hn1, hXT⟩, hF⟩ := R.out
      have KN := Lib.hid (fun w1 (b : Below wr.heap.size wr w1) => number_any w1 (hB.went b) (stL G C (j : Int)) a1 c1 ((L2.out.fr hF hXT).went b) hf1 hk2 hk1 (by omega) (by omega))
      clear hc hcc hi1 hnb hf1 hk1 hk2
      by_cases h0 : stL G C (j : Int) = []
      · have PE := Lib.hid (PS.out h0)
        have hz : (stL G C (j : Int)).length = 0 := by rw [h0]; rfl
        rw [hz] at hc'
        clear PS PN SY KN L2 h0 hz
        go_wp2_with fail
        go_roundw
        case rel => exact ⟨j + 1, by go_num, by omega, by rw [PE.out]; exact ⟨⟨T, n1, hB, by omega, hXT⟩, hF⟩⟩
        case measure => simp [intOf]; omega
      · have PE := Lib.hid (PN.out h0)
        have SE := Lib.hid (SY.out h0)
        have hz : 0 < (stL G C (j : Int)).length := List.length_pos_iff.2 h0
        clear PS PN SY L2 h0
        generalize stL G C (j : Int) = K at *
        have kA := drawn wr
        obtain ⟨bt, h5⟩ := bt_of hB
        have h5d : wr.drew.cell? ⟨p, 5, none⟩ = some (.map (some bt)) := h5
        have hnk := numK_le (pj G C ks j).1 K
        have HX : W64 ((ts.length : Int), (j : Int)) := ⟨wf_nat (by omega), wf_nat (by omega)⟩
        have hwf := wf_nat (j := numK (pj G C ks j).1 K) (by omega)
        have END := Lib.hid (fun (T3 : Nat → Prop) w3 w4 h1 h2 h3 h4 h6 h7 => lv_put (W := W) (p := p) (h := h) (G := G) (S := S) (T := T) (T3 := T3) (m := n + (j + 1)) (n := n1) (nn := 0) (w2 := w2) (wr := wr) (w3 := w3) (w4 := w4) (H := pj G C ks j) (K := K) (j := j) (bt := bt) (ts := ts) h1 h2 h3 h4 hXT hF h6 h7 SE.out (by omega))
        go_wp2_with fail
        go_region_law (first
          | (go_simp; go_at_call 25; (with_reducible refine (KN.out _ (by assumption)).mono ?_); rintro e w3 ⟨rfl, T3, hB3, hF3, hX3, h53⟩; have q53 := h53 _ h5d; obtain ⟨w4, hrun, m4, t4⟩ := (tm_of hB3 q53).store (T := 58) kaA Try.underlying58 Try.underlying3 (by unfold maxLen; omega) HX hwf; have hrun2 : (Instr.mapUpdate 58 (.map (some bt)) (.agg #[.int .i64 (ts.length : Int), .int .i64 (j : Int)]) (.int .i64 (numK (pj G C ks j).1 K : Int))).run Try.prog w3 = .ok () w4 := hrun; have E4 := Lib.hid (END.out T3 w3 w4 q53 hB3 ((Sep.Fr.refl T wr).drew.trans hF3 (.refl _ _)) (hX3.at (Nat.le_refl _)) m4 (turned_fr t4)); clear hB3 hF3 hX3 h53 hrun m4 t4))
        all_goals
          go_wp2_with fail
          go_roundw
          case rel => exact ⟨j + 1, by go_num, by omega, by rw [PE.out]; exact E4.out⟩
          case measure => simp [intOf]; omega
    · have hE : j = top G + 1 := by omega
      subst hE
      obtain ⟨⟨T, n1, hB, hn1, hXT⟩, hF⟩ := R.out
      go_wp2
      try simp only [Exit.inBlock, Exit.then]
      refine bodyPost_ret (v := .tuple #[]) (by simp [results, Try.results27, go_sem]) rfl ?_
      exact ⟨rfl, T, n1, hB, hn1, (Sep.Fr.of_below HB2.out).trans hF (.refl _ _), hXT.at hsw⟩

end Go.Proofs.Ytjjmoonajijnmaa.Au
