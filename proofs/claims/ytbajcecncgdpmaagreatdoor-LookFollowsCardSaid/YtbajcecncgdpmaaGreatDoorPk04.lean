/- A part of the proof. -/
import Derived.Test.YtbajcecncgdpmaaGreatDoorPk03
import Derived.Deep.AppendLies
import Derived.Deep.RegionLaw
import Derived.Lib.SmallJoins
import Derived.Deep.Slices
import Derived.Deep.SlicePairs
import Derived.ChangeSame
import Derived.SliceStrings
import Derived.SizedLaws
import Derived.Carry
set_option maxHeartbeats 2000000
set_option maxRecDepth 100000
set_option linter.unusedVariables false
set_option linter.unusedSimpArgs false
namespace Go.Proofs.YtbajcecncgdpmaaGreatDoor
namespace Gr
open Go.RowKit Go.Maps
theorem zGu {x r : ByteArray} (h : x = r) : Ending.returned (.string r) = .returned (.string x) := by rw [h]
theorem zFi (h : Sh) (G : Gram) (s : Int) (w : World) (k : GAt h G w) :
  Calls Tryz.prog 109 #[gv h G, .int .i64 s] w (Is (.string (zEB G s)) w) := by
 have T := zSt (fun w1 (b : Below w.heap.size w w1) => zOk h G s w1 (k.went b))
 have N := zSt (fun w1 (b : Below w.heap.size w w1) => zLe h G s w1 (k.went b))
 have X := zSt (Bx.start h G w 25)
 have t := k.t2
 have n := k.n2
 by_cases h0 : s = 0
 ·subst h0
  have E := zSt (zLc G)
  clear k T N
  unfold gv
  go_enter Tryz.func109, Tryz.ntmps109
  go_wp2
  go_ret
  exact ⟨zGu E.out, X.out.below⟩
 ·by_cases h1 : 1 <= s /\ s <= (G.terms.length : Int)
  ·obtain ⟨j, rfl⟩ : ∃ j : Nat, s = (j : Int) + 1 := ⟨(s - 1).toNat, by omega⟩
   have hj : j < G.terms.length := by omega
   have E := zSt (zLa hj)
   have e1 := zAg.2 h1
   rw [e1] at T
   obtain ⟨a1, c1, a2, c2, a3, c3⟩ := h
   obtain ⟨b, o, e, hc⟩ := k.terms j (by simpa using hj)
   dsimp only at e
   subst e
   simp only [List.getElem_map] at hc
   have HC := zSt (fun w1 (b : Below w.heap.size w w1) => cell_later b hc)
   clear hc k N e1 h1 h0
   generalize zEB G ((j : Int) + 1) = x at E ⊢
   have hx := E.out
   subst hx
   unfold gv
   dsimp only
   go_enter Tryz.func109, Tryz.ntmps109
   go_wp2_with (go_at_call 146; refine (T.out _ X.out.below).mono ?_; rintro e w1 ⟨rfl, hb⟩; have X := zSt (X.out.went hb); obtain ⟨x0, x1, x2, x3⟩ := X.out.box; have hc := HC.out _ X.out.below; clear hb)
   go_ret
   exact ⟨rfl, X.out.below⟩
  ·have e1 : zCW G s = false := by rw [← Bool.not_eq_true, zAg]; exact h1
   rw [e1] at T
   by_cases h2 : (G.terms.length : Int) < s /\ s <= (G.terms.length : Int) + (G.nons.length : Int)
   ·obtain ⟨j, rfl⟩ : ∃ j : Nat, s = ((G.terms.length + j : Nat) : Int) + 1 := ⟨(s - 1 - G.terms.length).toNat, by omega⟩
    have hj : j < G.nons.length := by omega
    have E := zSt (zNr hj)
    have e2 := zAM.2 h2
    rw [e2] at N
    obtain ⟨a1, c1, a2, c2, a3, c3⟩ := h
    obtain ⟨b, o, e, hc⟩ := k.nons j (by simpa using hj)
    dsimp only at e
    subst e
    simp only [List.getElem_map] at hc
    have HC := zSt (fun w1 (b : Below w.heap.size w w1) => cell_later b hc)
    clear hc k e1 e2 h1 h2 h0
    generalize zEB G (((G.terms.length + j : Nat) : Int) + 1) = x at E ⊢
    have hx := E.out
    subst hx
    unfold gv
    dsimp only
    have hi1 : ((G.terms.length + j : Nat) : Int) + 1 - (G.terms.length : Int) = (j : Int) + 1 := by omega
    have hi2 : (G.terms.length : Int) + (j : Int) + 1 - (G.terms.length : Int) = (j : Int) + 1 := by omega
    go_enter Tryz.func109, Tryz.ntmps109
    go_wp2_with (first
     | (go_at_call 146; refine (T.out _ X.out.below).mono ?_; rintro e w1 ⟨rfl, hb⟩; have X := zSt (X.out.went hb); obtain ⟨x0, x1, x2, x3⟩ := X.out.box; clear hb)
     | (go_at_call 110; refine (N.out _ X.out.below).mono ?_; rintro e w1 ⟨rfl, hb⟩; have X := zSt (X.out.went hb); obtain ⟨x0, x1, x2, x3⟩ := X.out.box; have hc := HC.out _ X.out.below; clear hb))
    go_ret
    exact ⟨rfl, X.out.below⟩
   ·have e2 : nonB G s = false := by rw [← Bool.not_eq_true, zAM]; exact h2
    rw [e2] at N
    have E := zSt (zNs (G := G) (s := s) (by unfold top; omega))
    clear k e1 e2 h1 h2
    unfold gv
    go_enter Tryz.func109, Tryz.ntmps109
    go_wp2_with (first
     | (go_at_call 146; refine (T.out _ X.out.below).mono ?_; rintro e w1 ⟨rfl, hb⟩; have X := zSt (X.out.went hb); obtain ⟨x0, x1, x2, x3⟩ := X.out.box; clear hb)
     | (go_at_call 110; refine (N.out _ X.out.below).mono ?_; rintro e w1 ⟨rfl, hb⟩; have X := zSt (X.out.went hb); obtain ⟨x0, x1, x2, x3⟩ := X.out.box; clear hb))
    go_ret
    exact ⟨zGu E.out, X.out.below⟩
end Gr
namespace Gr
open Go.RowKit Go.Maps
def zIm (L : List ByteArray) (s : ByteArray) (k : Nat) : Prop := ∀ j (hj : j < L.length), j < k -> L[j] ≠ s
theorem ahead_zero (L : List ByteArray) (s : ByteArray) : zIm L s 0 := fun _ _ h => absurd h (by omega)
theorem zIp {L : List ByteArray} {s : ByteArray} {k : Nat} (h : zIm L s k) (hk : k < L.length) (hn : L[k] ≠ s) : zIm L s (k + 1) := fun j hj h1 => by
 by_cases e : j = k
 ·subst e
  exact hn
 ·exact h j hj (by omega)
theorem zKA {L : List ByteArray} {s : ByteArray} {k : Nat} (h : zIm L s k) (hk : k < L.length) (he : L[k] = s) : It.place L s = (k : Int) := by
 have hp := It.zSm hk he (fun j hj => h j (by omega) hj)
 rw [It.zFm (by simp [It.isIn, hp])]
 simp [It.num, hp]
theorem zJ9 {L : List ByteArray} {s : ByteArray} {k : Nat} (h : zIm L s k) (hk : ¬ k < L.length) : It.place L s = -1 := by
 refine It.zED ?_
 cases hi : It.isIn L s with
 | false => rfl
 | true =>
  obtain ⟨h1, h2⟩ := It.zIR hi
  exact absurd h2 (h _ h1 (by omega))
theorem zMy {x s : ByteArray} (h : x ≠ s) : (x.toList == s.toList) = false := by
 rw [beq_eq_false_iff_ne, ByteArray.toList_eq, ByteArray.toList_eq]
 exact fun e => h (It.zFL e)
end Gr
namespace Gr
open Go.RowKit Go.Maps
theorem zA5 : (Tryz.prog.info? 3).map (fun i => (i.zero, i.size, i.bytes)) = some (some (.int .i64 0), 1, 8) := by kernel_rfl
def iv (i : Int) : Value := .int .i64 i
def ivs (l : List Int) : List Value := l.map iv
theorem zE2 (l : List Int) : (ivs l).length = l.length := by simp [ivs]
def ofI (R : List (Int × List Int)) (s : Int) (k : Nat) : List Int := (ofTo R s k).map fun i : Nat => (i : Int)
def ofL (G : Gram) (s : Int) : List Int := ofI G.rules s G.rules.length
theorem zBI (G : Gram) (s : Int) : (ofL G s).length = (ofN G s).length := by simp [ofL, ofI, ofN]
theorem zLk (R : List (Int × List Int)) (s : Int) (k : Nat) : (ofI R s k).length <= k := by
 have := zLl R s k
 simpa [ofI] using this
theorem zLj {R : List (Int × List Int)} {s : Int} {k : Nat} (h : leftOf R k = s) : ofI R s (k + 1) = ofI R s k ++ [(k : Int)] := by simp [ofI, zN0 h]
theorem zIS {R : List (Int × List Int)} {s : Int} {k : Nat} (h : ¬ leftOf R k = s) : ofI R s (k + 1) = ofI R s k := by simp [ofI, zLm h]
def New (a : Option Addr) (w : World) : Prop := ∀ x, a = some x -> w.heap.size <= x.block
theorem zDL {W w : World} {base n c : Nat} {e : TypeId} {a : Option Addr} {xs : List Value} (h : w.ownsRow base e 1 (.slice a n c) n xs) (hb : W.heap.size <= base) : New a W := by
 rintro x rfl
 rcases h.2 with ⟨h1, _⟩ | ⟨g, cap, cur, h1, h2, _⟩
 ·cases h1
 ·simp only [Value.slice.injEq, Option.some.injEq] at h1
  obtain ⟨rfl, _⟩ := h1
  simp
  omega
def Listed (l : List Int) (w : World) (e : Ending) (w' : World) : Prop :=
 ∃ a c, e = .returned (.slice a l.length c) /\ Sep.Reads a (ivs l) w' /\ New a w /\ Below w.heap.size w w'
theorem zGj (h : Sh) (G : Gram) (s : Int) (w : World) (k : GAt h G w) (hr : G.rules.length <= 65536) :
  Calls Tryz.prog 113 #[gv h G, .int .i64 s] w (Listed (ofL G s) w) := by
 obtain ⟨i0, hi, hz0, hz1, hz2⟩ := info_parts zA5
 obtain ⟨a1, c1, a2, c2, a3, c3⟩ := h
 have hc3 := k.r2
 have X := zSt (Bx.start ⟨a1, c1, a2, c2, a3, c3⟩ G w 25)
 have K := zSt (fun w1 (b : Below w.heap.size w w1) => (k.went b).rules)
 clear k
 have HO := zSt (show (w.alloc (.cells #[.slice a1 G.terms.length c1, .slice a2 G.nons.length c2, .slice a3 G.rules.length c3, .int .i64 G.start] 25)).ownsRow (w.heap.size + 1) 3 1 (.slice none 0 0) (ofI G.rules s 0).length (ivs (ofI G.rules s 0)) from ⟨rfl, .inl ⟨rfl, rfl⟩⟩)
 unfold gv
 dsimp only
 go_enter Tryz.func113, Tryz.ntmps113
 go_wp2
 go_loopw [5, 11] (fun v i wr => ∃ j : Nat, j <= G.rules.length /\ i = .int .i64 j /\ wr.ownsRow (w.heap.size + 1) 3 1 v (ofI G.rules s j).length (ivs (ofI G.rules s j)) /\ Bx w ⟨a1, c1, a2, c2, a3, c3⟩ G wr) (fun _ i _ => G.rules.length - (intOf i).toNat)
 case atStart => exact ⟨0, Nat.zero_le _, rfl, HO.out, X.out⟩
 case round =>
  obtain ⟨j, hj, rfl, hO, hX⟩ := hrel
  obtain ⟨a', c', rfl⟩ := Sep.zAZ hO
  clear HO X
  have X := zSt hX
  have HO := zSt hO
  have hle := zLk G.rules s j
  clear hO hX
  by_cases hlt : j < G.rules.length
  ·obtain ⟨b, o, ra, rc, e, h1, h2, h3, h4, h5⟩ := K.out _ X.out.below j hlt
   have e1 := zAV hlt
   rw [← e1] at h1
   generalize G.rules[j].2 = rr at h2 h3 h4 h5
   try dsimp only at e
   subst e
   clear e1 h3
   by_cases hs : leftOf G.rules j = s
   ·have HI := zSt (zLj hs)
    subst hs
    generalize leftOf G.rules j = s at *
    go_wp2_with (at_builtin; go_loud (refine wpList_append_own _ rfl _ _ 37 rfl (w.heap.size + 1) 3 i0 (.int .i64 0) 1 8 Tryz.underlying37 hi hz0 hz1 hz2 rfl (by decide) _ _ _ rfl ((HO.out.alloc _).alloc _) ⟨wr.heap.size + 1, 0, none⟩ 1 1 [iv j] rfl rfl ?c1 ?c2 ?c3 ?c4 ?c5 ?_))
    case c1 =>
     intro i u hi
     match i, hi with
     | 0, hi => simp at hi; subst hi; simp [Addr.add, iv]
    case c2 => intro u hu; simp at hu; subst hu; rfl
    case c3 => unfold maxLen; omega
    case c4 => omega
    case c5 => have := X.out.size; simp; omega
    intro v' w2 hown' hgrow _
    have X := zSt (((X.out.alloc _).alloc _).grown hgrow fun q hq => (HO.out.lt q hq).1)
    have HO := zSt (show w2.ownsRow (w.heap.size + 1) 3 1 v' (ofI G.rules s (j + 1)).length (ivs (ofI G.rules s (j + 1))) by rw [HI.out]; simpa [ivs] using hown')
    clear hown' hgrow
    go_wp2
    go_roundw
    case rel => exact ⟨j + 1, by omega, by go_num, HO.out, X.out⟩
    case measure => simp [intOf]; omega
   ·have HI := zSt (zIS hs)
    have hb : (leftOf G.rules j == s) = false := by simpa using hs
    clear hs
    go_wp2_with (at_builtin; fail)
    go_roundw
    case rel => exact ⟨j + 1, by omega, by go_num, by rw [HI.out]; exact HO.out.alloc _, X.out.alloc _⟩
    case measure => simp [intOf]; omega
  ·have hE : j = G.rules.length := by omega
   subst hE
   have HR := zSt (Sep.Reads.of_row HO.out)
   have HN := zSt (zDL (W := w) HO.out (by omega))
   go_wp2
   go_ret
   exact ⟨_, _, rfl, HR.out, HN.out, X.out.below⟩
end Gr
namespace Rw
open Go.RowKit Go.Maps
theorem zEG {P : Program} (w : World) (t ty : TypeId) (base : Nat) (e : TypeId) (i : TypeInfo) (z : Value) (size bytes : Nat) (ht : P.underlying t = some (.slice e)) (hi : P.info? e = some i) (hz : i.zero = some z)
  (hsize : i.size = size) (hby : i.bytes = bytes) (hzs : z.cells.size = size) (hpos : 0 < size) (v : Value) (n : Nat) (xs : List Value) (hown : w.ownsRow base e size v n xs)
  (base2 : Nat) (v2 : Value) (m : Nat) (ys : List Value) (hown2 : w.ownsRow base2 e size v2 m ys) (h1 : ∀ u ∈ ys, u.oneCell' = true)
  (h63 : n + m <= maxLen) (hbytes : (n + m) * bytes <= 140737488355328) (hbase : base <= w.heap.size) :
  ∃ v' w', (Builtin.append_ #[t, t] ty #[v, v2]).run P w = .ok v' w' /\ w'.ownsRow base e size v' (n + m) (xs ++ ys) /\ w.grownBy w' v.ownBlock /\ (v'.ownBlock = v.ownBlock \/ v'.ownBlock = some w.heap.size) := by
 have hlen := hown2.1
 rcases hown2.2 with ⟨rfl, rfl⟩ | ⟨g2, cap2, cur2, rfl, hbg2, hg2, hnc2, hcm2, hcs2, htake2⟩
 ·have h0 : ys = [] := List.eq_nil_of_length_eq_zero (by simpa using hlen)
  subst h0
  refine ⟨v, w, ?_, by simpa using hown, ⟨rfl, rfl, rfl, Nat.le_refl _, fun _ _ _ => rfl⟩, .inl rfl⟩
  rcases hown.2 with ⟨rfl, rfl⟩ | ⟨g, cap, cur, rfl, hbg, hg, hnc, hcm, hcs, htake⟩
  ·simp [Builtin.append_, run_underlying ht, sizeOf, typeInfo, hi, Builtin.lenOf, Builtin.firstCells]
  ·simp [Builtin.append_, run_underlying ht, sizeOf, typeInfo, hi, Builtin.lenOf, Builtin.firstCells, loadCells, storeCells, hnc]
 ·obtain ⟨v', w', h2, h3, h4, _, h5⟩ := run_append_own_at (P := P) w base t ty e i z size bytes ht hi hz hsize hby hzs hpos v n xs hown ⟨g2, 0, none⟩ m cap2 ys hlen (hown2.cells rfl) h1 h63 hbytes hbase
  exact ⟨v', w', h2, h3, h4, h5⟩
theorem zCa {P : Program} (w : World) {o : Oper} {a : Act} {K : Act -> World -> Prop} {Q : Exit -> Act -> World -> Prop} (s x : Operand) (t : TypeId)
  (ho : o.op = .call { callee := .builtin .append, args := #[s, x], argTypes := #[t, t] })
  (base : Nat) (e : TypeId) (i : TypeInfo) (z : Value) (size bytes : Nat) (ht : P.underlying t = some (.slice e)) (hi : P.info? e = some i) (hz : i.zero = some z)
  (hsize : i.size = size) (hby : i.bytes = bytes) (hzs : z.cells.size = size) (hpos : 0 < size) (v : Value) (n : Nat) (xs : List Value) (hs : a.eval s = v) (hown : w.ownsRow base e size v n xs)
  (base2 : Nat) (v2 : Value) (m : Nat) (ys : List Value) (hx : a.eval x = v2) (hown2 : w.ownsRow base2 e size v2 m ys) (h1 : ∀ u ∈ ys, u.oneCell' = true)
  (h63 : n + m <= maxLen) (hbytes : (n + m) * bytes <= 140737488355328) (hbase : base <= w.heap.size)
  (h : ∀ v' w', w'.ownsRow base e size v' (n + m) (xs ++ ys) -> w.grownBy w' v.ownBlock -> (v'.ownBlock = v.ownBlock \/ v'.ownBlock = some w.heap.size) -> K (a.put o.dst v') w') : o.wp P a w K Q := by
 obtain ⟨v', w', hr, h2, h3, h4⟩ := zEG (P := P) w t o.type base e i z size bytes ht hi hz hsize hby hzs hpos v n xs hown base2 v2 m ys hown2 h1 h63 hbytes hbase
 unfold Oper.wp execOp
 simp only [ho, resolve, invoke, builtin, Sem.run_bind, Sem.run_pure, Result.andThen_ok, List.map_toArray, List.map_cons, List.map_nil, hs, hx, hr]
 exact h v' w' h2 h3 h4
theorem zAL {P : Program} (w : World) {ops : Array Oper} {rest : List Oper} {o : Oper} {a : Act} {Q : Exit -> Act -> World -> Prop} (hgd : o.guard = none) (s x : Operand) (t : TypeId)
  (ho : o.op = .call { callee := .builtin .append, args := #[s, x], argTypes := #[t, t] })
  (base : Nat) (e : TypeId) (i : TypeInfo) (z : Value) (size bytes : Nat) (ht : P.underlying t = some (.slice e)) (hi : P.info? e = some i) (hz : i.zero = some z)
  (hsize : i.size = size) (hby : i.bytes = bytes) (hzs : z.cells.size = size) (hpos : 0 < size) (v : Value) (n : Nat) (xs : List Value) (hs : a.eval s = v) (hown : w.ownsRow base e size v n xs)
  (base2 : Nat) (v2 : Value) (m : Nat) (ys : List Value) (hx : a.eval x = v2) (hown2 : w.ownsRow base2 e size v2 m ys) (h1 : ∀ u ∈ ys, u.oneCell' = true)
  (h63 : n + m <= maxLen) (hbytes : (n + m) * bytes <= 140737488355328) (hbase : base <= w.heap.size)
  (h : ∀ v' w', w'.ownsRow base e size v' (n + m) (xs ++ ys) -> w.grownBy w' v.ownBlock -> (v'.ownBlock = v.ownBlock \/ v'.ownBlock = some w.heap.size) -> wpList P ops Q rest (a.put o.dst v') w') : wpList P ops Q (o :: rest) a w :=
 wpList_plain hgd fun _ hK => zCa w s x t ho base e i z size bytes ht hi hz hsize hby hzs hpos v n xs hs hown base2 v2 m ys hx hown2 h1 h63 hbytes hbase fun v' w' h2 h3 h4 => hK _ _ (h v' w' h2 h3 h4)
theorem zAI {P : Program} (w : World) {ops : Array Oper} {o : Oper} {a : Act} {K : Act -> World -> Prop} {Q : Exit -> Act -> World -> Prop} {E : Prop} (hgd : o.guard = none) (s x : Operand) (t : TypeId)
  (ho : o.op = .call { callee := .builtin .append, args := #[s, x], argTypes := #[t, t] })
  (base : Nat) (e : TypeId) (i : TypeInfo) (z : Value) (size bytes : Nat) (ht : P.underlying t = some (.slice e)) (hi : P.info? e = some i) (hz : i.zero = some z)
  (hsize : i.size = size) (hby : i.bytes = bytes) (hzs : z.cells.size = size) (hpos : 0 < size) (v : Value) (n : Nat) (xs : List Value) (hs : a.eval s = v) (hown : w.ownsRow base e size v n xs)
  (base2 : Nat) (v2 : Value) (m : Nat) (ys : List Value) (hx : a.eval x = v2) (hown2 : w.ownsRow base2 e size v2 m ys) (h1 : ∀ u ∈ ys, u.oneCell' = true)
  (h63 : n + m <= maxLen) (hbytes : (n + m) * bytes <= 140737488355328) (hbase : base <= w.heap.size)
  (h : ∀ v' w', w'.ownsRow base e size v' (n + m) (xs ++ ys) -> w.grownBy w' v.ownBlock -> (v'.ownBlock = v.ownBlock \/ v'.ownBlock = some w.heap.size) -> K (a.put o.dst v') w') :
  if Region.wanted o (yielded ops a.tmps) = true then Oper.wp P o a w K Q else E := by
 have hw : Region.wanted o (yielded ops a.tmps) = true := by simp [Region.wanted, hgd]
 rw [if_pos hw]
 exact zCa w s x t ho base e i z size bytes ht hi hz hsize hby hzs hpos v n xs hs hown base2 v2 m ys hx hown2 h1 h63 hbytes hbase h
theorem zAH {w : World} {base size n : Nat} {e : TypeId} {v : Value} {xs : List Value} (h : w.ownsRow base e size v n xs) : ∃ a cap, v = .slice a n cap := by
 rcases h.2 with ⟨rfl, rfl⟩ | ⟨g, cap, cur, rfl, _⟩
 ·exact ⟨_, _, rfl⟩
 ·exact ⟨_, _, rfl⟩
theorem zBG {w : World} {b b' size n : Nat} {e : TypeId} {v : Value} {xs : List Value} (h : w.ownsRow b e size v n xs) (hb : b' <= b) : w.ownsRow b' e size v n xs := by
 obtain ⟨h1, h2⟩ := h
 refine ⟨h1, h2.imp id ?_⟩
 rintro ⟨g, cap, cur, h3, h4, h5⟩
 exact ⟨g, cap, cur, h3, Nat.le_trans hb h4, h5⟩
def Bk (q : Nat) (cs : Array Value) (T : TypeId) (w : World) : Prop := w.heap[q]? = some (.cells cs T)
theorem Bk.new (w : World) (cs : Array Value) (T : TypeId) (n : Nat) (hn : n = w.heap.size) : Bk n cs T (w.alloc (.cells cs T)) := by
 subst hn
 exact heap_alloc_new w _
theorem Bk.lt {q : Nat} {cs : Array Value} {T : TypeId} {w : World} (h : Bk q cs T w) : q < w.heap.size := by
 rcases Nat.lt_or_ge q w.heap.size with h1 | h1
 ·exact h1
 ·unfold Bk at h
  rw [Array.getElem?_eq_none h1] at h
  cases h
theorem Bk.fr {q : Nat} {cs : Array Value} {T : TypeId} {S : Nat -> Prop} {w w' : World} (h : Bk q cs T w) (k : Sep.Fr S w w') (hq : ¬ S q) : Bk q cs T w' := (k.block q h.lt hq).trans h
theorem Bk.went {q : Nat} {cs : Array Value} {T : TypeId} {w w' : World} (h : Bk q cs T w) (k : Below w.heap.size w w') : Bk q cs T w' := (k.block q h.lt).trans h
theorem Bk.cell {q : Nat} {cs : Array Value} {T : TypeId} {w : World} (h : Bk q cs T w) {j : Nat} {v : Value} (hv : cs[j]? = some v) : w.cell? ⟨q, j, none⟩ = some v := by
 unfold Bk at h
 simp [World.cell?, h, hv]
theorem Bk.free {q : Nat} {cs : Array Value} {T : TypeId} {w : World} (h : Bk q cs T w) (j : Nat) : w.frozen? ⟨q, j, none⟩ = false := by
 unfold Bk at h
 simp [World.frozen?, h]
theorem zBz (w : World) (a : Addr) (v : Value) : (w.setCell a v).heap.size = w.heap.size := by simp [World.setCell]
theorem Bk.set {q j : Nat} {cs : Array Value} {T : TypeId} {w : World} (h : Bk q cs T w) (hj : j < cs.size) (v : Value) : Bk q (cs.setIfInBounds j v) T (w.setCell ⟨q, j, none⟩ v) := by
 unfold Bk at h ⊢
 obtain ⟨hl, h⟩ := Array.getElem?_eq_some_iff.1 h
 rw [Array.getElem?_eq_some_iff]
 refine ⟨by rw [zBz]; exact hl, ?_⟩
 simp [World.setCell, Array.getElem_modify, h]
theorem Bk.two {q : Nat} {a b : Value} {T : TypeId} {w : World} (h : Bk q #[a, b] T w) : w.cell? ⟨q, 0, none⟩ = some a /\ w.cell? ⟨q, 1, none⟩ = some b /\ (∀ j, w.frozen? ⟨q, j, none⟩ = false) := ⟨h.cell rfl, h.cell rfl, h.free⟩
theorem zB7 {S : Nat -> Prop} {w w1 w2 : World} (h : Sep.Fr S w w1) (k : Below w1.heap.size w1 w2) : Sep.Fr S w w2 := h.trans (Sep.Fr.of_below (S := S) k) fun _ hk => .inl hk
theorem zB3 {α : Type} (f : α -> List Value) (hf : ∀ x, (f x).length = 2) (L : List α) (j : Nat) (hj : j < L.length) (i : Nat) (hi : i < 2) : (L.flatMap f)[j * 2 + i]? = (f L[j])[i]? := by
 induction L generalizing j with
 | nil => simp at hj
 | cons t T ih =>
  rw [List.flatMap_cons]
  cases j with
  | zero => rw [List.getElem?_append_left (by rw [hf]; omega)]; simp
  | succ j =>
   rw [List.getElem?_append_right (by rw [hf]; omega), hf, show (j + 1) * 2 + i - 2 = j * 2 + i by omega, ih j (by simpa using hj)]
   simp
end Rw
namespace Gr
open Go.RowKit Go.Maps Go.ChangeShapes Go.WideShapes Go.Deep Go.Joins
theorem zEi {H : Type} {P : Program} {e : TypeId} {l : List (DataW H)} {d : DataW H} (h : d ∈ l) : ∀ n ∈ d.weights P e, n ∈ DataW.weightsAll P e l := by
 induction l with
 | nil => cases h
 | cons a r ih =>
  intro n hn
  simp only [DataW.weightsAll, List.mem_append]
  rcases List.mem_cons.1 h with rfl | h
  ·exact .inl hn
  ·exact .inr (ih h n hn)
def Within {H : Type} (P : Program) (t : TypeId) (d : DataW H) : Prop := ∀ n ∈ d.weights P t, n <= 140737488355328
theorem zGx {H : Type} {P : Program} {ts : List TypeId} {ds : List (DataW H)} (h : (DataW.weightsEach P ts ds).all (· <= reachBytes) = true) {j : Nat} {t : TypeId} {d : DataW H} (ht : ts[j]? = some t) (hd : ds[j]? = some d) : Within P t d := fun n hn => by
 have := List.all_eq_true.1 h n (DataW.weights_mem_each ht hd n hn)
 have h2 := reachBytes_lt
 simp at this
 omega
theorem zBb {H : Type} {P : Program} {t : TypeId} {fs : Array Field} {parts : List (DataW H)} (h : Within P t (.agg parts)) (hs : P.underlying t = some (.struct fs)) {j : Nat} {t' : TypeId} {d : DataW H} (ht : (fs.toList.map (·.type))[j]? = some t') (hd : parts[j]? = some d) : Within P t' d := fun n hn => by
 refine h n ?_
 simp only [DataW.weights, hs]
 exact DataW.weights_mem_each ht hd n hn
theorem zEP {H : Type} {P : Program} {t e : TypeId} {elems spare : List (DataW H)} (h : Within P t (.slice elems spare)) (hs : P.underlying t = some (.slice e)) {d : DataW H} (hd : d ∈ elems) : Within P e d := fun n hn => by
 refine h n ?_
 simp only [DataW.weights, hs, List.mem_cons, List.mem_append]
 exact .inr (.inl (zEi hd n hn))
theorem zDN {H : Type} {P : Program} {t e : TypeId} {elems spare : List (DataW H)} (h : Within P t (.slice elems spare)) (hs : P.underlying t = some (.slice e)) : (elems.length + spare.length) * P.bytesOf e <= 140737488355328 := by
 refine h _ ?_
 simp [DataW.weights, hs]
theorem zHE {n : Int} (h : (Lit.int .i64 n).wf = true) : Fits n := by
 simp only [Lit.wf, Bool.and_eq_true, decide_eq_true_eq] at h
 exact ⟨h.1, h.2⟩
theorem zGI : Tryz.prog.cellsOf 9 = 1 := by kernel_rfl
theorem zKM : Tryz.prog.cellsOf 3 = 1 := by kernel_rfl
theorem zGE : Tryz.prog.bytesOf 9 = 16 := by kernel_rfl
theorem zKL : Tryz.prog.bytesOf 3 = 8 := by kernel_rfl
theorem zIy : Tryz.prog.bytesOf 41 = 32 := by kernel_rfl
section
variable {H : Type} {enc : TypeId × Value -> H} {w : World}
theorem zMP {fuel : Nat} {v : Value} {x : DataW H × List MemPlace} (h : DataW.trod enc Tryz.prog w 0 (fun _ => true) true fuel 22 [v] = some x) (hz : Within Tryz.prog 22 x.1) :
  ∃ a c, ∃ L : List ByteArray, v = .slice a L.length c /\ Sep.Reads a (L.map .string) w /\ L.length <= c /\ c <= 8796093022208 /\ ∀ s ∈ L, s.size <= 140737488355328 := by
 rcases open_strings Tryz.underlying22 Tryz.underlying9 zGI h with ⟨hcs, _⟩ | ⟨a, len, cap, ss, hcs, _, hl, hm, hzz, rfl, hcell, hws⟩
 ·simp at hcs
  subst hcs
  exact ⟨none, 0, [], rfl, .nil _ _, Nat.le_refl _, by omega, fun s hs => by cases hs⟩
 ·simp at hcs
  subst hcs
  simp only [if_true] at hzz
  have hcap := zDN hz Tryz.underlying22
  rw [zGE] at hcap
  simp [strs] at hcap
  refine ⟨some a, cap, ss.take len, by simp; omega, fun i hi => ?_, by simp; omega, by omega, fun s hs => ?_⟩
  ·simp only [List.length_map, List.length_take] at hi
   obtain ⟨bb, off, spot⟩ := a
   have hspot : spot = none := by simpa [Addr.add] using World.cell?_spot (hcell 0 (by omega))
   subst hspot
   refine ⟨bb, off, rfl, ?_⟩
   have hc := hcell i (by omega)
   rw [WideShapes.add_plain] at hc
   rw [hc]
   simp [List.getD_eq_getElem?_getD, List.getElem?_eq_getElem (show i < ss.length by omega)]
  ·have := zEP hz Tryz.underlying22 (d := .lit (.string s.data.toList)) (by simp only [strs, List.mem_map]; exact ⟨s, hs, rfl⟩)
   have := this s.data.toList.length (by simp [DataW.weights])
   exact this
theorem zP1 {fuel : Nat} {v : Value} {x : DataW H × List MemPlace} (h : DataW.trod enc Tryz.prog w 0 (fun _ => true) true fuel 37 [v] = some x) (hz : Within Tryz.prog 37 x.1) :
  ∃ a c, ∃ L : List Int, v = .slice a L.length c /\ Sep.Reads a (L.map (.int .i64)) w /\ L.length <= c /\ c <= 17592186044416 /\ ∀ n ∈ L, Fits n := by
 rcases open_ints Tryz.underlying37 Tryz.underlying3 zKM h with ⟨hcs, _⟩ | ⟨a, len, cap, ss, hcs, _, hl, hm, hzz, rfl, hcell, hws⟩
 ·simp at hcs
  subst hcs
  exact ⟨none, 0, [], rfl, .nil _ _, Nat.le_refl _, by omega, fun s hs => by cases hs⟩
 ·simp at hcs
  subst hcs
  simp only [if_true] at hzz
  have hcap := zDN hz Tryz.underlying37
  rw [zKL] at hcap
  simp [lits] at hcap
  refine ⟨some a, cap, ss.take len, by simp; omega, fun i hi => ?_, by simp; omega, by omega, fun n hn => zHE (hws n (List.mem_of_mem_take hn))⟩
  simp only [List.length_map, List.length_take] at hi
  obtain ⟨bb, off, spot⟩ := a
  have hspot : spot = none := by simpa [Addr.add] using World.cell?_spot (hcell 0 (by omega))
  subst hspot
  refine ⟨bb, off, rfl, ?_⟩
  have hc := hcell i (by omega)
  rw [WideShapes.add_plain] at hc
  rw [hc]
  simp [List.getD_eq_getElem?_getD, List.getElem?_eq_getElem (show i < ss.length by omega)]
def zQ7 (a : Option Addr) (i : Nat) (r : Int × List Int) (w : World) : Prop :=
 (∃ b o ra rc, a = some ⟨b, o, none⟩ /\ w.cell? ⟨b, o + i * 2, none⟩ = some (.int .i64 r.1) /\ w.cell? ⟨b, o + i * 2 + 1, none⟩ = some (.slice ra r.2.length rc) /\ Sep.Reads ra (r.2.map (.int .i64)) w /\ r.2.length <= rc /\ r.2.length <= 17592186044416) /\
 Fits r.1 /\ ∀ x ∈ r.2, Fits x
theorem zOZ {fuel : Nat} {v : Value} {x : DataW H × List MemPlace} (h : DataW.trod enc Tryz.prog w 0 (fun _ => true) true fuel 23 [v] = some x) (hz : Within Tryz.prog 23 x.1) :
  ∃ a c, ∃ R : List (Int × List Int), v = .slice a R.length c /\ zA0 a R w /\ R.length <= c /\ c <= 4398046511104 /\ (∀ r ∈ R, Fits r.1) /\ ∀ r ∈ R, ∀ x ∈ r.2, Fits x := by
 rcases open_slice_pairs Tryz.underlying23 Tryz.underlying41 (by kernel_rfl) rfl rfl (by kernel_rfl) (by kernel_rfl) h with ⟨hcs, _⟩ | ⟨a, len, cap, m, n, V0, V1, D0, D1, P0, P1, hcs, _, hl, hm, hmm, rfl, hi⟩
 ·simp at hcs
  subst hcs
  exact ⟨none, 0, [], rfl, fun i hi => absurd hi (by simp), Nat.le_refl _, by omega, (fun r hr => by cases hr), (fun r hr => by cases hr)⟩
 ·simp at hcs
  subst hcs
  simp only [if_true] at hmm
  subst hmm
  have hcap := zDN hz Tryz.underlying23
  rw [zIy] at hcap
  simp at hcap
  have each : ∀ i, i < len -> ∃ r : Int × List Int, zQ7 (some a) i r w := fun i him => by
   obtain ⟨hc0, hc1, ht0, ht1⟩ := hi i (by omega)
   obtain ⟨k, hk, _, hw⟩ := DataW.trod_int Tryz.underlying3 ht0
   simp at hk
   have hzi := zEP hz Tryz.underlying23 (d := .agg [D0 i, D1 i]) (by simp only [List.mem_map]; exact ⟨i, List.mem_range.2 him, rfl⟩)
   have hz1 := zBb hzi Tryz.underlying41 (j := 1) (t' := 37) (d := D1 i) rfl rfl
   obtain ⟨ra, rc, L, hv1, hR, hL, hC, hF⟩ := zP1 ht1 hz1
   rw [hk] at hc0
   rw [hv1] at hc1
   obtain ⟨bb, off, spot⟩ := a
   have hspot : spot = none := by simpa [Addr.add] using World.cell?_spot (hi 0 (by omega)).1
   subst hspot
   rw [WideShapes.add_plain] at hc0 hc1
   exact ⟨(k, L), ⟨bb, off, ra, rc, rfl, hc0, hc1, hR, hL, Nat.le_trans hL hC⟩, zHE hw, hF⟩
  obtain ⟨f, hf⟩ := choose_lt each
  refine ⟨some a, m, (List.range len).map f, by simp, fun i hi => ?_, by simpa using hl, by omega, fun r hr => ?_, fun r hr => ?_⟩
  ·simp only [List.length_map, List.length_range] at hi
   obtain ⟨b, o, ra, rc, e, h1, h2, h3, h4⟩ := (hf i hi).1
   refine ⟨b, o, ra, rc, e, ?_⟩
   simp only [List.getElem_map, List.getElem_range]
   exact ⟨h1, h2, h3, h4⟩
  ·obtain ⟨i, hi, rfl⟩ := List.mem_map.1 hr
   exact (hf i (List.mem_range.1 hi)).2.1
  ·obtain ⟨i, hi, rfl⟩ := List.mem_map.1 hr
   exact (hf i (List.mem_range.1 hi)).2.2
theorem zKo {r : Reach} {b0 : Nat} {v : Value} {d : DataW H} {p : List MemPlace} (hv : Value.okWide Tryz.prog w r b0 25 v) (h : DataW.Trod enc Tryz.prog w 0 (fun _ => true) true 25 v d p) (hz : Within Tryz.prog 25 d) :
  ∃ h G, v = gv h G /\ GAt h G w := by
 obtain ⟨v0, v1, v2, v3, y0, y1, y2, y3, n, rfl, rfl, _, h0, h1, h2, h3⟩ := open_agg4 Tryz.underlying25 (by kernel_rfl) (by kernel_rfl) hv h
 obtain ⟨a1, c1, L1, rfl, r1, l1, m1, s1⟩ := zMP h0 (zBb hz Tryz.underlying25 (j := 0) (t' := 22) rfl rfl)
 obtain ⟨a2, c2, L2, rfl, r2, l2, m2, s2⟩ := zMP h1 (zBb hz Tryz.underlying25 (j := 1) (t' := 22) rfl rfl)
 obtain ⟨a3, c3, R, rfl, r3, l3, m3, s3, s4⟩ := zOZ h2 (zBb hz Tryz.underlying25 (j := 2) (t' := 23) rfl rfl)
 obtain ⟨k, hk, _, hw⟩ := DataW.trod_int Tryz.underlying3 h3
 simp at hk
 subst hk
 exact ⟨⟨a1, c1, a2, c2, a3, c3⟩, ⟨L1, L2, R, k⟩, rfl, ⟨r1, r2, r3, l1, Nat.le_trans l1 m1, Nat.le_trans l2 m2, l3, Nat.le_trans l3 m3, ⟨s1, s2, zHE hw, s3, s4⟩⟩⟩
end
end Gr
namespace Gr
open Go.RowKit Go.Maps
def zBy (L M : List Int) : Bool := decide (L = M)
def eqI (x y : Int) : Bool := decide (x = y)
theorem zGc {α : Type} {L M : List α} (h : L.length ≠ M.length) : ¬ L = M := fun e => h (by rw [e])
def Alike {α : Type} (L M : List α) (k : Nat) : Prop := ∀ j (h1 : j < L.length) (h2 : j < M.length), j < k -> L[j] = M[j]
theorem zEm {α : Type} (L M : List α) : Alike L M 0 := fun _ _ _ h => absurd h (by omega)
theorem zEl {α : Type} {L M : List α} {k : Nat} (h : Alike L M k) (h1 : k < L.length) (h2 : k < M.length) (e : L[k] = M[k]) : Alike L M (k + 1) := fun j g1 g2 hj => by
 by_cases he : j = k
 ·subst he
  exact e
 ·exact h j g1 g2 (by omega)
theorem zF3 {α : Type} {L M : List α} {k : Nat} (h : Alike L M k) (hl : L.length = M.length) (hk : ¬ k < L.length) : L = M := List.ext_getElem hl fun i h1 h2 => h i h1 h2 (by omega)
theorem zEk {α : Type} {L M : List α} {k : Nat} (h1 : k < L.length) (h2 : k < M.length) (e : L[k] ≠ M[k]) : ¬ L = M := fun h => e (by subst h; rfl)
theorem zBT {a : Option Addr} {xs : List Value} {w : World} {k n : Nat} {v : Value} (h : Sep.Reads a xs w) (hl : n = xs.length) (hk : k < n) (hv : xs[k]? = some v) : ∃ b o, a = some ⟨b, o, none⟩ /\ w.cell? ⟨b, o + k, none⟩ = some v := by
 obtain ⟨b, o, e, hc⟩ := h k (by omega)
 refine ⟨b, o, e, hc.trans ?_⟩
 rw [List.getElem?_eq_getElem (by omega)] at hv
 exact hv
theorem zKY (x y : Int) (w : World) : Calls Tryz.prog 168 #[.int .i64 x, .int .i64 y] w fun e w' => e = .returned (.bool (eqI x y)) /\ w = w' := by
 go_enter Tryz.func168, Tryz.ntmps168
 go_wp2
 go_ret
 refine ⟨zAD ?_, rfl⟩
 unfold eqI
 rw [Bool.eq_iff_iff]
 simp
theorem zRL (L M : List Int) (a b : Option Addr) (c d : Nat) (w : World) (ha : Sep.Reads a (ivs L) w) (hb : Sep.Reads b (ivs M) w) (hl : L.length <= 17592186044416) (hm : M.length <= 17592186044416) :
  Calls Tryz.prog 167 #[.slice a L.length c, .slice b M.length d, .func (.func 168) #[] #[]] w fun e w' => e = .returned (.bool (zBy L M)) /\ w = w' := by
 have HA := zSt ha
 have HB := zSt hb
 clear ha hb
 by_cases hlen : L.length = M.length
 ·have HL := zSt hlen
  have hle : M.length <= L.length := by omega
  have hle' : L.length <= M.length := by omega
  have hlb : ((L.length : Int) != (M.length : Int)) = false := by simp [hlen]
  clear hlen
  go_enter Tryz.func167, Tryz.ntmps167
  go_wp2
  go_loop [16] (fun i => ∃ k : Nat, k <= L.length /\ i = .int .i64 k /\ Alike L M k) (fun i => L.length - (intOf i).toNat)
  case atStart => exact ⟨0, Nat.zero_le _, rfl, zEm _ _⟩
  case round =>
   obtain ⟨k, hk, rfl, hA⟩ := hrel
   have A := zSt hA
   clear hA
   by_cases hlt : k < L.length
   ·have hlm : k < M.length := by omega
    obtain ⟨b1, o1, rfl, h1⟩ := zBT (v := .int .i64 L[k]) HA.out (by simp [ivs]) hlt (by simp [ivs, iv, hlt])
    obtain ⟨b2, o2, rfl, h2⟩ := zBT (v := .int .i64 M[k]) HB.out (by simp [ivs]) hlm (by simp [ivs, iv, hlm])
    by_cases he : L[k] = M[k]
    ·have A2 := zSt (zEl A.out hlt hlm he)
     have E := zSt (show eqI L[k] M[k] = true by simp [eqI, he])
     clear he
     generalize L[k] = x at h1 E
     generalize M[k] = y at h2 E
     go_wp2_with (go_at_call 168; refine (zKY _ _ _).mono ?_; rw [E.out]; rintro e w1 ⟨rfl, rfl⟩)
     go_round
     case rel => exact ⟨k + 1, by omega, by go_num, A2.out⟩
     case measure => simp [intOf]; omega
    ·have F := zSt (show zBy L M = false by simpa [zBy] using zEk hlt hlm he)
     have E := zSt (show eqI L[k] M[k] = false by simp [eqI, he])
     clear he
     generalize L[k] = x at h1 E
     generalize M[k] = y at h2 E
     go_wp2_with (go_at_call 168; refine (zKY _ _ _).mono ?_; rw [E.out]; rintro e w1 ⟨rfl, rfl⟩)
     go_ret
     exact ⟨zAD F.out, rfl⟩
   ·have F := zSt (show zBy L M = true by simpa [zBy] using zF3 A.out HL.out hlt)
    go_wp2
    go_ret
    exact ⟨zAD F.out, rfl⟩
 ·have F := zSt (show zBy L M = false by simpa [zBy] using zGc hlen)
  have hlb : ((L.length : Int) != (M.length : Int)) = true := by simpa using fun h => hlen (by omega)
  clear hlen
  go_enter Tryz.func167, Tryz.ntmps167
  go_wp2
  go_ret
  exact ⟨zAD F.out, rfl⟩
theorem zPj (L M : List Int) (a b : Option Addr) (c d : Nat) (w : World) (ha : Sep.Reads a (ivs L) w) (hb : Sep.Reads b (ivs M) w) (hl : L.length <= 17592186044416) (hm : M.length <= 17592186044416) :
  Calls Tryz.prog 147 #[.slice a L.length c, .slice b M.length d] w fun e w' => e = .returned (.bool (zBy L M)) /\ w = w' := by
 have H := zSt (zRL L M a b c d w ha hb hl hm)
 clear ha hb
 go_enter Tryz.func147, Tryz.ntmps147
 go_wp2_with (go_at_call 167; refine H.out.mono ?_; rintro e w1 ⟨rfl, rfl⟩)
 go_ret
 exact ⟨rfl, rfl⟩
theorem zOR (L M : List Int) (a b : Option Addr) (c d : Nat) (w : World) (ha : Sep.Reads a (ivs L) w) (hb : Sep.Reads b (ivs M) w) (hl : L.length <= 17592186044416) (hm : M.length <= 17592186044416) :
  Calls Tryz.prog 141 #[.slice a L.length c, .slice b M.length d] w (Is (.bool (zBy L M)) w) := by
 have HA := zSt ha
 have HB := zSt hb
 clear ha hb
 by_cases hlen : L.length = M.length
 ·have HL := zSt hlen
  have hle : M.length <= L.length := by omega
  have hle' : L.length <= M.length := by omega
  have hlb : ((L.length : Int) != (M.length : Int)) = false := by simp [hlen]
  clear hlen
  go_enter Tryz.func141, Tryz.ntmps141
  go_wp2
  go_loopw [5] (fun i wr => ∃ k : Nat, k <= L.length /\ i = .int .i64 k /\ Alike L M k /\ Below w.heap.size w wr) (fun i _ => L.length - (intOf i).toNat)
  case atStart => exact ⟨0, Nat.zero_le _, rfl, zEm _ _, .refl _ _⟩
  case round =>
   obtain ⟨k, hk, rfl, hA, hW⟩ := hrel
   have A := zSt hA
   have HW := zSt hW
   clear hA
   by_cases hlt : k < L.length
   ·have hlm : k < M.length := by omega
    obtain ⟨b1, o1, rfl, h1⟩ := zBT (v := .int .i64 L[k]) HA.out (by simp [ivs]) hlt (by simp [ivs, iv, hlt])
    obtain ⟨b2, o2, rfl, h2⟩ := zBT (v := .int .i64 M[k]) HB.out (by simp [ivs]) hlm (by simp [ivs, iv, hlm])
    have k1 := cell_later hW h1
    have k2 := cell_later hW h2
    clear h1 h2 hW
    by_cases he : L[k] = M[k]
    ·have A2 := zSt (zEl A.out hlt hlm he)
     rw [he] at k1
     clear he
     generalize M[k] = y at k1 k2
     go_wp2
     go_quiet (fail)
     go_wp2
     go_roundw
     case rel => exact ⟨k + 1, by omega, by go_num, A2.out, HW.out.trans ⟨rfl, rfl, rfl, Nat.le_refl _, fun _ _ => rfl⟩⟩
     case measure => simp [intOf]; omega
    ·have F := zSt (show zBy L M = false by simpa [zBy] using zEk hlt hlm he)
     have E := (show (L[k] != M[k]) = true by simpa using he)
     clear he
     generalize L[k] = x at k1 E
     generalize M[k] = y at k2 E
     go_wp2
     go_quiet (fail)
     go_wp2
     go_ret
     exact ⟨zAD F.out, HW.out.trans ⟨rfl, rfl, rfl, Nat.le_refl _, fun _ _ => rfl⟩⟩
   ·have F := zSt (show zBy L M = true by simpa [zBy] using zF3 A.out HL.out hlt)
    clear hW
    go_wp2
    go_ret
    exact ⟨zAD F.out, HW.out⟩
 ·have F := zSt (show zBy L M = false by simpa [zBy] using zGc hlen)
  have hlb : ((L.length : Int) != (M.length : Int)) = true := by simpa using fun h => hlen (by omega)
  clear hlen
  go_enter Tryz.func141, Tryz.ntmps141
  go_wp2
  go_ret
  exact ⟨zAD F.out, .refl _ _⟩
end Gr
namespace Gr
open Go.RowKit Go.Maps
theorem zME (r q : Int × List Int) (a b : Option Addr) (c d : Nat) (w : World) (ha : Sep.Reads a (ivs r.2) w) (hb : Sep.Reads b (ivs q.2) w) (hl : r.2.length <= 17592186044416) (hm : q.2.length <= 17592186044416) :
  Calls Tryz.prog 112 #[.agg #[.int .i64 r.1, .slice a r.2.length c], .agg #[.int .i64 q.1, .slice b q.2.length d]] w (Is (.bool (zBB r q)) w) := by
 have H := zSt (fun w1 (k : Below w.heap.size w w1) => zPj r.2 q.2 a b c d w1 (ha.below k (Nat.le_refl _)) (hb.below k (Nat.le_refl _)) hl hm)
 have X := zSt (fun o1 o2 => step (boxed w o1) (boxed (w.alloc o1) o2))
 clear ha hb
 by_cases h1 : r.1 = q.1
 ·have E := zSt (show zBB r q = zBy r.2 q.2 by simp [zBB, h1, zBy])
  rw [h1]
  clear h1
  go_enter Tryz.func112, Tryz.ntmps112
  go_wp2_with (go_at_call 147; refine (H.out _ (X.out _ _)).mono ?_; rintro e w1 ⟨rfl, rfl⟩)
  go_ret
  exact ⟨zAD E.out, X.out _ _⟩
 ·have E := zSt (show zBB r q = false by simp [zBB, h1])
  have h2 : (r.1 == q.1) = false := by simpa using h1
  clear h1
  go_enter Tryz.func112, Tryz.ntmps112
  go_wp2
  go_ret
  exact ⟨zAD E.out, X.out _ _⟩
theorem zJb (r q : Int × List Int) (a b : Option Addr) (c d : Nat) (w : World) (ha : Sep.Reads a (ivs r.2) w) (hb : Sep.Reads b (ivs q.2) w) (hl : r.2.length <= 17592186044416) (hm : q.2.length <= 17592186044416) :
  Calls Tryz.prog 104 #[.agg #[.int .i64 r.1, .slice a r.2.length c], .agg #[.int .i64 q.1, .slice b q.2.length d]] w (Is (.bool (zBB r q)) w) := by
 have H := zSt (fun w1 (k : Below w.heap.size w w1) => zOR r.2 q.2 a b c d w1 (ha.below k (Nat.le_refl _)) (hb.below k (Nat.le_refl _)) hl hm)
 have X := zSt (fun o1 o2 => step (boxed w o1) (boxed (w.alloc o1) o2))
 clear ha hb
 by_cases h1 : r.1 = q.1
 ·have E := zSt (show zBB r q = zBy r.2 q.2 by simp [zBB, h1, zBy])
  rw [h1]
  clear h1
  go_enter Tryz.func104, Tryz.ntmps104
  go_wp2_with (go_at_call 141; refine (H.out _ (X.out _ _)).mono ?_; rintro e w1 ⟨rfl, hb⟩; have HB := zSt (step (X.out _ _) hb); clear hb)
  go_ret
  exact ⟨zAD E.out, HB.out⟩
 ·have E := zSt (show zBB r q = false by simp [zBB, h1])
  have h2 : (r.1 == q.1) = false := by simpa using h1
  clear h1
  go_enter Tryz.func104, Tryz.ntmps104
  go_wp2
  go_ret
  exact ⟨zAD E.out, X.out _ _⟩
end Gr
namespace Gr
open Go.RowKit Go.Maps
structure B2 (W : World) (h l : Sh) (G H : Gram) (w : World) : Prop where
 below : Below W.heap.size W w
 b1 : Box W.heap.size h G w
 b2 : Box (W.heap.size + 1) l H w
def Six (w : World) (p1 p2 p3 p4 p5 p6 : Addr) (v1 v2 v3 v4 v5 v6 : Value) : Prop :=
 ∀ w', Below w.heap.size w w' -> w'.cell? p1 = some v1 /\ w'.cell? p2 = some v2 /\ w'.cell? p3 = some v3 /\ w'.cell? p4 = some v4 /\ w'.cell? p5 = some v5 /\ w'.cell? p6 = some v6 /\ Below w.heap.size w w'
theorem six {w : World} {p1 p2 p3 p4 p5 p6 : Addr} {v1 v2 v3 v4 v5 v6 : Value} (h1 : w.cell? p1 = some v1) (h2 : w.cell? p2 = some v2) (h3 : w.cell? p3 = some v3) (h4 : w.cell? p4 = some v4) (h5 : w.cell? p5 = some v5) (h6 : w.cell? p6 = some v6) : Six w p1 p2 p3 p4 p5 p6 v1 v2 v3 v4 v5 v6 :=
 fun _ hb => ⟨cell_later hb h1, cell_later hb h2, cell_later hb h3, cell_later hb h4, cell_later hb h5, cell_later hb h6, hb⟩
