/- A part of the proof. -/
import Derived.Test.YtbajcecncgdpmaaGreatDoorPk04
set_option maxHeartbeats 2000000
set_option maxRecDepth 100000
set_option linter.unusedVariables false
namespace Go.Proofs.YtbajcecncgdpmaaGreatDoor
open Go.RowKit Go.Maps
namespace Gr
theorem zGr {x r : ByteArray} (h : x = r) : Ending.returned (.string r) = .returned (.string x) := by rw [h]
theorem zGG (h : Sh) (G : Gram) (s : Int) (w : World) (k : GAt h G w) :
  Calls Tryz.prog 109 #[gv h G, .int .i64 s] w (Is (.string (zEK G s)) w) := by
 have T := zUB (fun w1 (b : Below w.heap.size w w1) => zN4 h G s w1 (k.went b))
 have N := zUB (fun w1 (b : Below w.heap.size w w1) => zLX h G s w1 (k.went b))
 have X := zUB (Bx.start h G w 25)
 have t := k.t2
 have n := k.n2
 by_cases h0 : s = 0
 ·subst h0
  have E := zUB (zNS G)
  clear k T N
  unfold gv
  go_enter Tryz.func109, Tryz.ntmps109
  go_wp2
  go_ret
  exact ⟨zGr E.out, X.out.below⟩
 ·by_cases h1 : 1 <= s /\ s <= (G.terms.length : Int)
  ·obtain ⟨j, rfl⟩ : ∃ j : Nat, s = (j : Int) + 1 := ⟨(s - 1).toNat, by omega⟩
   have hj : j < G.terms.length := by omega
   have E := zUB (zNJ hj)
   have e1 := zAd.2 h1
   rw [e1] at T
   obtain ⟨a1, c1, a2, c2, a3, c3⟩ := h
   obtain ⟨b, o, e, hc⟩ := k.terms j (by simpa using hj)
   dsimp only at e
   subst e
   simp only [List.getElem_map] at hc
   have HC := zUB (fun w1 (b : Below w.heap.size w w1) => cell_later b hc)
   clear hc k N e1 h1 h0
   generalize zEK G ((j : Int) + 1) = x at E ⊢
   have hx := E.out
   subst hx
   unfold gv
   dsimp only
   go_enter Tryz.func109, Tryz.ntmps109
   go_wp2_with (go_at_call 146; refine (T.out _ X.out.below).mono ?_; rintro e w1 ⟨rfl, hb⟩; have X := zUB (X.out.went hb); obtain ⟨x0, x1, x2, x3⟩ := X.out.box; have hc := HC.out _ X.out.below; clear hb)
   go_ret
   exact ⟨rfl, X.out.below⟩
  ·have e1 : zCk G s = false := by rw [← Bool.not_eq_true, zAd]; exact h1
   rw [e1] at T
   by_cases h2 : (G.terms.length : Int) < s /\ s <= (G.terms.length : Int) + (G.nons.length : Int)
   ·obtain ⟨j, rfl⟩ : ∃ j : Nat, s = ((G.terms.length + j : Nat) : Int) + 1 := ⟨(s - 1 - G.terms.length).toNat, by omega⟩
    have hj : j < G.nons.length := by omega
    have E := zUB (zOa hj)
    have e2 := zAM.2 h2
    rw [e2] at N
    obtain ⟨a1, c1, a2, c2, a3, c3⟩ := h
    obtain ⟨b, o, e, hc⟩ := k.nons j (by simpa using hj)
    dsimp only at e
    subst e
    simp only [List.getElem_map] at hc
    have HC := zUB (fun w1 (b : Below w.heap.size w w1) => cell_later b hc)
    clear hc k e1 e2 h1 h2 h0
    generalize zEK G (((G.terms.length + j : Nat) : Int) + 1) = x at E ⊢
    have hx := E.out
    subst hx
    unfold gv
    dsimp only
    have hi1 : ((G.terms.length + j : Nat) : Int) + 1 - (G.terms.length : Int) = (j : Int) + 1 := by omega
    have hi2 : (G.terms.length : Int) + (j : Int) + 1 - (G.terms.length : Int) = (j : Int) + 1 := by omega
    go_enter Tryz.func109, Tryz.ntmps109
    go_wp2_with (first
     | (go_at_call 146; refine (T.out _ X.out.below).mono ?_; rintro e w1 ⟨rfl, hb⟩; have X := zUB (X.out.went hb); obtain ⟨x0, x1, x2, x3⟩ := X.out.box; clear hb)
     | (go_at_call 110; refine (N.out _ X.out.below).mono ?_; rintro e w1 ⟨rfl, hb⟩; have X := zUB (X.out.went hb); obtain ⟨x0, x1, x2, x3⟩ := X.out.box; have hc := HC.out _ X.out.below; clear hb))
    go_ret
    exact ⟨rfl, X.out.below⟩
   ·have e2 : nonB G s = false := by rw [← Bool.not_eq_true, zAM]; exact h2
    rw [e2] at N
    have E := zUB (zOv (G := G) (s := s) (by unfold top; omega))
    clear k e1 e2 h1 h2
    unfold gv
    go_enter Tryz.func109, Tryz.ntmps109
    go_wp2_with (first
     | (go_at_call 146; refine (T.out _ X.out.below).mono ?_; rintro e w1 ⟨rfl, hb⟩; have X := zUB (X.out.went hb); obtain ⟨x0, x1, x2, x3⟩ := X.out.box; clear hb)
     | (go_at_call 110; refine (N.out _ X.out.below).mono ?_; rintro e w1 ⟨rfl, hb⟩; have X := zUB (X.out.went hb); obtain ⟨x0, x1, x2, x3⟩ := X.out.box; clear hb))
    go_ret
    exact ⟨zGr E.out, X.out.below⟩
def zJe (L : List ByteArray) (s : ByteArray) (k : Nat) : Prop := ∀ j (hj : j < L.length), j < k -> L[j] ≠ s
theorem ahead_zero (L : List ByteArray) (s : ByteArray) : zJe L s 0 := fun _ _ h => absurd h (by omega)
theorem zKW {L : List ByteArray} {s : ByteArray} {k : Nat} (h : zJe L s k) (hk : k < L.length) (hn : L[k] ≠ s) : zJe L s (k + 1) := fun j hj h1 => by
 by_cases e : j = k
 ·subst e
  exact hn
 ·exact h j hj (by omega)
theorem zMt {L : List ByteArray} {s : ByteArray} {k : Nat} (h : zJe L s k) (hk : k < L.length) (he : L[k] = s) : It.place L s = (k : Int) := by
 have hp := It.zTt hk he (fun j hj => h j (by omega) hj)
 rw [It.zFv (by simp [It.isIn, hp])]
 simp [It.num, hp]
theorem zMl {L : List ByteArray} {s : ByteArray} {k : Nat} (h : zJe L s k) (hk : ¬ k < L.length) : It.place L s = -1 := by
 refine It.zD6 ?_
 cases hi : It.isIn L s with
 | false => rfl
 | true =>
  obtain ⟨h1, h2⟩ := It.zI9 hi
  exact absurd h2 (h _ h1 (by omega))
theorem zOc {x s : ByteArray} (h : x ≠ s) : (x.toList == s.toList) = false := by
 rw [beq_eq_false_iff_ne, ByteArray.toList_eq, ByteArray.toList_eq]
 exact fun e => h (It.zGB e)
theorem zAx : (Tryz.prog.info? 3).map (fun i => (i.zero, i.size, i.bytes)) = some (some (.int .i64 0), 1, 8) := by kernel_rfl
def iv (i : Int) : Value := .int .i64 i
def ivs (l : List Int) : List Value := l.map iv
theorem zFc (l : List Int) : (ivs l).length = l.length := by simp [ivs]
def ofI (R : List (Int × List Int)) (s : Int) (k : Nat) : List Int := (ofTo R s k).map fun i : Nat => (i : Int)
def ofL (G : Gram) (s : Int) : List Int := ofI G.rules s G.rules.length
theorem zBB (G : Gram) (s : Int) : (ofL G s).length = (ofN G s).length := by simp [ofL, ofI, ofN]
theorem zJF (R : List (Int × List Int)) (s : Int) (k : Nat) : (ofI R s k).length <= k := by
 have := zL2 R s k
 simpa [ofI] using this
theorem zMm {R : List (Int × List Int)} {s : Int} {k : Nat} (h : leftOf R k = s) : ofI R s (k + 1) = ofI R s k ++ [(k : Int)] := by simp [ofI, zN9 h]
theorem zIx {R : List (Int × List Int)} {s : Int} {k : Nat} (h : ¬ leftOf R k = s) : ofI R s (k + 1) = ofI R s k := by simp [ofI, zNA h]
def New (a : Option Addr) (w : World) : Prop := ∀ x, a = some x -> w.heap.size <= x.block
theorem zDj {W w : World} {base n c : Nat} {e : TypeId} {a : Option Addr} {xs : List Value} (h : w.ownsRow base e 1 (.slice a n c) n xs) (hb : W.heap.size <= base) : New a W := by
 rintro x rfl
 rcases h.2 with ⟨h1, _⟩ | ⟨g, cap, cur, h1, h2, _⟩
 ·cases h1
 ·simp only [Value.slice.injEq, Option.some.injEq] at h1
  obtain ⟨rfl, _⟩ := h1
  simp
  omega
def Listed (l : List Int) (w : World) (e : Ending) (w' : World) : Prop :=
 ∃ a c, e = .returned (.slice a l.length c) /\ Sep.Reads a (ivs l) w' /\ New a w /\ Below w.heap.size w w'
theorem zHb (h : Sh) (G : Gram) (s : Int) (w : World) (k : GAt h G w) (hr : G.rules.length <= 65536) :
  Calls Tryz.prog 113 #[gv h G, .int .i64 s] w (Listed (ofL G s) w) := by
 obtain ⟨i0, hi, hz0, hz1, hz2⟩ := info_parts zAx
 obtain ⟨a1, c1, a2, c2, a3, c3⟩ := h
 have hc3 := k.r2
 have X := zUB (Bx.start ⟨a1, c1, a2, c2, a3, c3⟩ G w 25)
 have K := zUB (fun w1 (b : Below w.heap.size w w1) => (k.went b).rules)
 clear k
 have HO := zUB (show (w.alloc (.cells #[.slice a1 G.terms.length c1, .slice a2 G.nons.length c2, .slice a3 G.rules.length c3, .int .i64 G.start] 25)).ownsRow (w.heap.size + 1) 3 1 (.slice none 0 0) (ofI G.rules s 0).length (ivs (ofI G.rules s 0)) from ⟨rfl, .inl ⟨rfl, rfl⟩⟩)
 unfold gv
 dsimp only
 go_enter Tryz.func113, Tryz.ntmps113
 go_wp2
 go_loopw [5, 11] (fun v i wr => ∃ j : Nat, j <= G.rules.length /\ i = .int .i64 j /\ wr.ownsRow (w.heap.size + 1) 3 1 v (ofI G.rules s j).length (ivs (ofI G.rules s j)) /\ Bx w ⟨a1, c1, a2, c2, a3, c3⟩ G wr) (fun _ i _ => G.rules.length - (intOf i).toNat)
 case atStart => exact ⟨0, Nat.zero_le _, rfl, HO.out, X.out⟩
 case round =>
  obtain ⟨j, hj, rfl, hO, hX⟩ := hrel
  obtain ⟨a', c', rfl⟩ := Sep.zAc hO
  clear HO X
  have X := zUB hX
  have HO := zUB hO
  have hle := zJF G.rules s j
  clear hO hX
  by_cases hlt : j < G.rules.length
  ·obtain ⟨b, o, ra, rc, e, h1, h2, h3, h4, h5⟩ := K.out _ X.out.below j hlt
   have e1 := zAg hlt
   rw [← e1] at h1
   generalize G.rules[j].2 = rr at h2 h3 h4 h5
   try dsimp only at e
   subst e
   clear e1 h3
   by_cases hs : leftOf G.rules j = s
   ·have HI := zUB (zMm hs)
    subst hs
    generalize leftOf G.rules j = s at *
    go_wp2_with (at_builtin; go_loud (refine wpList_append_own _ rfl _ _ 37 rfl (w.heap.size + 1) 3 i0 (.int .i64 0) 1 8 Tryz.underlying37 hi hz0 hz1 hz2 rfl (by decide) _ _ _ rfl ((HO.out.alloc _).alloc _) ⟨wr.heap.size + 1, 0, none⟩ 1 1 [iv j] rfl rfl ?c1 ?c2 ?c3 ?c4 ?c5 ?_))
    case c1 =>
     intro i u hi
     match i, hi with
     | 0, hi => simp at hi; subst hi; simp [Addr.add, iv]
    case c2 => intro u hu; simp at hu; subst hu; rfl
    case c3 => unfold maxLen; omega
    case c4 => omega
    case c5 => have := X.out.size; simp; omega
    intro v' w2 hown' hgrow _
    have X := zUB (((X.out.alloc _).alloc _).grown hgrow fun q hq => (HO.out.lt q hq).1)
    have HO := zUB (show w2.ownsRow (w.heap.size + 1) 3 1 v' (ofI G.rules s (j + 1)).length (ivs (ofI G.rules s (j + 1))) by rw [HI.out]; simpa [ivs] using hown')
    clear hown' hgrow
    go_wp2
    go_roundw
    case rel => exact ⟨j + 1, by omega, by go_num, HO.out, X.out⟩
    case measure => simp [intOf]; omega
   ·have HI := zUB (zIx hs)
    have hb : (leftOf G.rules j == s) = false := by simpa using hs
    clear hs
    go_wp2_with (at_builtin; fail)
    go_roundw
    case rel => exact ⟨j + 1, by omega, by go_num, by rw [HI.out]; exact HO.out.alloc _, X.out.alloc _⟩
    case measure => simp [intOf]; omega
  ·have hE : j = G.rules.length := by omega
   subst hE
   have HR := zUB (Sep.Reads.of_row HO.out)
   have HN := zUB (zDj (W := w) HO.out (by omega))
   go_wp2
   go_ret
   exact ⟨_, _, rfl, HR.out, HN.out, X.out.below⟩
def zB7 (L M : List Int) : Bool := decide (L = M)
def eqI (x y : Int) : Bool := decide (x = y)
theorem zHa {α : Type} {L M : List α} (h : L.length ≠ M.length) : ¬ L = M := fun e => h (by rw [e])
def Alike {α : Type} (L M : List α) (k : Nat) : Prop := ∀ j (h1 : j < L.length) (h2 : j < M.length), j < k -> L[j] = M[j]
theorem zFY {α : Type} (L M : List α) : Alike L M 0 := fun _ _ _ h => absurd h (by omega)
theorem zFB {α : Type} {L M : List α} {k : Nat} (h : Alike L M k) (h1 : k < L.length) (h2 : k < M.length) (e : L[k] = M[k]) : Alike L M (k + 1) := fun j g1 g2 hj => by
 by_cases he : j = k
 ·subst he
  exact e
 ·exact h j g1 g2 (by omega)
theorem zHT {α : Type} {L M : List α} {k : Nat} (h : Alike L M k) (hl : L.length = M.length) (hk : ¬ k < L.length) : L = M := List.ext_getElem hl fun i h1 h2 => h i h1 h2 (by omega)
theorem zE8 {α : Type} {L M : List α} {k : Nat} (h1 : k < L.length) (h2 : k < M.length) (e : L[k] ≠ M[k]) : ¬ L = M := fun h => e (by subst h; rfl)
theorem zBa {a : Option Addr} {xs : List Value} {w : World} {k n : Nat} {v : Value} (h : Sep.Reads a xs w) (hl : n = xs.length) (hk : k < n) (hv : xs[k]? = some v) : ∃ b o, a = some ⟨b, o, none⟩ /\ w.cell? ⟨b, o + k, none⟩ = some v := by
 obtain ⟨b, o, e, hc⟩ := h k (by omega)
 refine ⟨b, o, e, hc.trans ?_⟩
 rw [List.getElem?_eq_getElem (by omega)] at hv
 exact hv
theorem zK6 (x y : Int) (w : World) : Calls Tryz.prog 168 #[.int .i64 x, .int .i64 y] w fun e w' => e = .returned (.bool (eqI x y)) /\ w = w' := by
 go_enter Tryz.func168, Tryz.ntmps168
 go_wp2
 go_ret
 refine ⟨zAE ?_, rfl⟩
 unfold eqI
 rw [Bool.eq_iff_iff]
 simp
theorem zSW (L M : List Int) (a b : Option Addr) (c d : Nat) (w : World) (ha : Sep.Reads a (ivs L) w) (hb : Sep.Reads b (ivs M) w) (hl : L.length <= 17592186044416) (hm : M.length <= 17592186044416) :
  Calls Tryz.prog 167 #[.slice a L.length c, .slice b M.length d, .func (.func 168) #[] #[]] w fun e w' => e = .returned (.bool (zB7 L M)) /\ w = w' := by
 have HA := zUB ha
 have HB := zUB hb
 clear ha hb
 by_cases hlen : L.length = M.length
 ·have HL := zUB hlen
  have hle : M.length <= L.length := by omega
  have hle' : L.length <= M.length := by omega
  have hlb : ((L.length : Int) != (M.length : Int)) = false := by simp [hlen]
  clear hlen
  go_enter Tryz.func167, Tryz.ntmps167
  go_wp2
  go_loop [16] (fun i => ∃ k : Nat, k <= L.length /\ i = .int .i64 k /\ Alike L M k) (fun i => L.length - (intOf i).toNat)
  case atStart => exact ⟨0, Nat.zero_le _, rfl, zFY _ _⟩
  case round =>
   obtain ⟨k, hk, rfl, hA⟩ := hrel
   have A := zUB hA
   clear hA
   by_cases hlt : k < L.length
   ·have hlm : k < M.length := by omega
    obtain ⟨b1, o1, rfl, h1⟩ := zBa (v := .int .i64 L[k]) HA.out (by simp [ivs]) hlt (by simp [ivs, iv, hlt])
    obtain ⟨b2, o2, rfl, h2⟩ := zBa (v := .int .i64 M[k]) HB.out (by simp [ivs]) hlm (by simp [ivs, iv, hlm])
    by_cases he : L[k] = M[k]
    ·have A2 := zUB (zFB A.out hlt hlm he)
     have E := zUB (show eqI L[k] M[k] = true by simp [eqI, he])
     clear he
     generalize L[k] = x at h1 E
     generalize M[k] = y at h2 E
     go_wp2_with (go_at_call 168; refine (zK6 _ _ _).mono ?_; rw [E.out]; rintro e w1 ⟨rfl, rfl⟩)
     go_round
     case rel => exact ⟨k + 1, by omega, by go_num, A2.out⟩
     case measure => simp [intOf]; omega
    ·have F := zUB (show zB7 L M = false by simpa [zB7] using zE8 hlt hlm he)
     have E := zUB (show eqI L[k] M[k] = false by simp [eqI, he])
     clear he
     generalize L[k] = x at h1 E
     generalize M[k] = y at h2 E
     go_wp2_with (go_at_call 168; refine (zK6 _ _ _).mono ?_; rw [E.out]; rintro e w1 ⟨rfl, rfl⟩)
     go_ret
     exact ⟨zAE F.out, rfl⟩
   ·have F := zUB (show zB7 L M = true by simpa [zB7] using zHT A.out HL.out hlt)
    go_wp2
    go_ret
    exact ⟨zAE F.out, rfl⟩
 ·have F := zUB (show zB7 L M = false by simpa [zB7] using zHa hlen)
  have hlb : ((L.length : Int) != (M.length : Int)) = true := by simpa using fun h => hlen (by omega)
  clear hlen
  go_enter Tryz.func167, Tryz.ntmps167
  go_wp2
  go_ret
  exact ⟨zAE F.out, rfl⟩
theorem zQn (L M : List Int) (a b : Option Addr) (c d : Nat) (w : World) (ha : Sep.Reads a (ivs L) w) (hb : Sep.Reads b (ivs M) w) (hl : L.length <= 17592186044416) (hm : M.length <= 17592186044416) :
  Calls Tryz.prog 147 #[.slice a L.length c, .slice b M.length d] w fun e w' => e = .returned (.bool (zB7 L M)) /\ w = w' := by
 have H := zUB (zSW L M a b c d w ha hb hl hm)
 clear ha hb
 go_enter Tryz.func147, Tryz.ntmps147
 go_wp2_with (go_at_call 167; refine H.out.mono ?_; rintro e w1 ⟨rfl, rfl⟩)
 go_ret
 exact ⟨rfl, rfl⟩
theorem zOJ (L M : List Int) (a b : Option Addr) (c d : Nat) (w : World) (ha : Sep.Reads a (ivs L) w) (hb : Sep.Reads b (ivs M) w) (hl : L.length <= 17592186044416) (hm : M.length <= 17592186044416) :
  Calls Tryz.prog 141 #[.slice a L.length c, .slice b M.length d] w (Is (.bool (zB7 L M)) w) := by
 have HA := zUB ha
 have HB := zUB hb
 clear ha hb
 by_cases hlen : L.length = M.length
 ·have HL := zUB hlen
  have hle : M.length <= L.length := by omega
  have hle' : L.length <= M.length := by omega
  have hlb : ((L.length : Int) != (M.length : Int)) = false := by simp [hlen]
  clear hlen
  go_enter Tryz.func141, Tryz.ntmps141
  go_wp2
  go_loopw [5] (fun i wr => ∃ k : Nat, k <= L.length /\ i = .int .i64 k /\ Alike L M k /\ Below w.heap.size w wr) (fun i _ => L.length - (intOf i).toNat)
  case atStart => exact ⟨0, Nat.zero_le _, rfl, zFY _ _, .refl _ _⟩
  case round =>
   obtain ⟨k, hk, rfl, hA, hW⟩ := hrel
   have A := zUB hA
   have HW := zUB hW
   clear hA
   by_cases hlt : k < L.length
   ·have hlm : k < M.length := by omega
    obtain ⟨b1, o1, rfl, h1⟩ := zBa (v := .int .i64 L[k]) HA.out (by simp [ivs]) hlt (by simp [ivs, iv, hlt])
    obtain ⟨b2, o2, rfl, h2⟩ := zBa (v := .int .i64 M[k]) HB.out (by simp [ivs]) hlm (by simp [ivs, iv, hlm])
    have k1 := cell_later hW h1
    have k2 := cell_later hW h2
    clear h1 h2 hW
    by_cases he : L[k] = M[k]
    ·have A2 := zUB (zFB A.out hlt hlm he)
     rw [he] at k1
     clear he
     generalize M[k] = y at k1 k2
     go_wp2
     go_quiet (fail)
     go_wp2
     go_roundw
     case rel => exact ⟨k + 1, by omega, by go_num, A2.out, HW.out.trans ⟨rfl, rfl, rfl, Nat.le_refl _, fun _ _ => rfl⟩⟩
     case measure => simp [intOf]; omega
    ·have F := zUB (show zB7 L M = false by simpa [zB7] using zE8 hlt hlm he)
     have E := (show (L[k] != M[k]) = true by simpa using he)
     clear he
     generalize L[k] = x at k1 E
     generalize M[k] = y at k2 E
     go_wp2
     go_quiet (fail)
     go_wp2
     go_ret
     exact ⟨zAE F.out, HW.out.trans ⟨rfl, rfl, rfl, Nat.le_refl _, fun _ _ => rfl⟩⟩
   ·have F := zUB (show zB7 L M = true by simpa [zB7] using zHT A.out HL.out hlt)
    clear hW
    go_wp2
    go_ret
    exact ⟨zAE F.out, HW.out⟩
 ·have F := zUB (show zB7 L M = false by simpa [zB7] using zHa hlen)
  have hlb : ((L.length : Int) != (M.length : Int)) = true := by simpa using fun h => hlen (by omega)
  clear hlen
  go_enter Tryz.func141, Tryz.ntmps141
  go_wp2
  go_ret
  exact ⟨zAE F.out, .refl _ _⟩
theorem zMr (r q : Int × List Int) (a b : Option Addr) (c d : Nat) (w : World) (ha : Sep.Reads a (ivs r.2) w) (hb : Sep.Reads b (ivs q.2) w) (hl : r.2.length <= 17592186044416) (hm : q.2.length <= 17592186044416) :
  Calls Tryz.prog 112 #[.agg #[.int .i64 r.1, .slice a r.2.length c], .agg #[.int .i64 q.1, .slice b q.2.length d]] w (Is (.bool (zBM r q)) w) := by
 have H := zUB (fun w1 (k : Below w.heap.size w w1) => zQn r.2 q.2 a b c d w1 (ha.below k (Nat.le_refl _)) (hb.below k (Nat.le_refl _)) hl hm)
 have X := zUB (fun o1 o2 => step (boxed w o1) (boxed (w.alloc o1) o2))
 clear ha hb
 by_cases h1 : r.1 = q.1
 ·have E := zUB (show zBM r q = zB7 r.2 q.2 by simp [zBM, h1, zB7])
  rw [h1]
  clear h1
  go_enter Tryz.func112, Tryz.ntmps112
  go_wp2_with (go_at_call 147; refine (H.out _ (X.out _ _)).mono ?_; rintro e w1 ⟨rfl, rfl⟩)
  go_ret
  exact ⟨zAE E.out, X.out _ _⟩
 ·have E := zUB (show zBM r q = false by simp [zBM, h1])
  have h2 : (r.1 == q.1) = false := by simpa using h1
  clear h1
  go_enter Tryz.func112, Tryz.ntmps112
  go_wp2
  go_ret
  exact ⟨zAE E.out, X.out _ _⟩
theorem zJi (r q : Int × List Int) (a b : Option Addr) (c d : Nat) (w : World) (ha : Sep.Reads a (ivs r.2) w) (hb : Sep.Reads b (ivs q.2) w) (hl : r.2.length <= 17592186044416) (hm : q.2.length <= 17592186044416) :
  Calls Tryz.prog 104 #[.agg #[.int .i64 r.1, .slice a r.2.length c], .agg #[.int .i64 q.1, .slice b q.2.length d]] w (Is (.bool (zBM r q)) w) := by
 have H := zUB (fun w1 (k : Below w.heap.size w w1) => zOJ r.2 q.2 a b c d w1 (ha.below k (Nat.le_refl _)) (hb.below k (Nat.le_refl _)) hl hm)
 have X := zUB (fun o1 o2 => step (boxed w o1) (boxed (w.alloc o1) o2))
 clear ha hb
 by_cases h1 : r.1 = q.1
 ·have E := zUB (show zBM r q = zB7 r.2 q.2 by simp [zBM, h1, zB7])
  rw [h1]
  clear h1
  go_enter Tryz.func104, Tryz.ntmps104
  go_wp2_with (go_at_call 141; refine (H.out _ (X.out _ _)).mono ?_; rintro e w1 ⟨rfl, hb⟩; have HB := zUB (step (X.out _ _) hb); clear hb)
  go_ret
  exact ⟨zAE E.out, HB.out⟩
 ·have E := zUB (show zBM r q = false by simp [zBM, h1])
  have h2 : (r.1 == q.1) = false := by simpa using h1
  clear h1
  go_enter Tryz.func104, Tryz.ntmps104
  go_wp2
  go_ret
  exact ⟨zAE E.out, X.out _ _⟩
structure B2 (W : World) (h l : Sh) (G H : Gram) (w : World) : Prop where
 below : Below W.heap.size W w
 b1 : Box W.heap.size h G w
 b2 : Box (W.heap.size + 1) l H w
def Six (w : World) (p1 p2 p3 p4 p5 p6 : Addr) (v1 v2 v3 v4 v5 v6 : Value) : Prop :=
 ∀ w', Below w.heap.size w w' -> w'.cell? p1 = some v1 /\ w'.cell? p2 = some v2 /\ w'.cell? p3 = some v3 /\ w'.cell? p4 = some v4 /\ w'.cell? p5 = some v5 /\ w'.cell? p6 = some v6 /\ Below w.heap.size w w'
theorem six {w : World} {p1 p2 p3 p4 p5 p6 : Addr} {v1 v2 v3 v4 v5 v6 : Value} (h1 : w.cell? p1 = some v1) (h2 : w.cell? p2 = some v2) (h3 : w.cell? p3 = some v3) (h4 : w.cell? p4 = some v4) (h5 : w.cell? p5 = some v5) (h6 : w.cell? p6 = some v6) : Six w p1 p2 p3 p4 p5 p6 v1 v2 v3 v4 v5 v6 :=
 fun _ hb => ⟨cell_later hb h1, cell_later hb h2, cell_later hb h3, cell_later hb h4, cell_later hb h5, cell_later hb h6, hb⟩
