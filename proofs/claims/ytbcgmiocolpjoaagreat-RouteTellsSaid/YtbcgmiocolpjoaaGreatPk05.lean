/- A part of the proof. -/
import Derived.Test.YtbcgmiocolpjoaaGreatPk04
set_option maxHeartbeats 2000000
set_option maxRecDepth 100000
set_option linter.unusedVariables false
namespace Go.Proofs.YtbcgmiocolpjoaaGreat
namespace Gr
open Go.RowKit Go.Maps
theorem zFq {x r : ByteArray} (h : x = r) : Ending.returned (.string r) = .returned (.string x) := by rw [h]
theorem zEu (h : Sh) (G : Gram) (s : Int) (w : World) (k : GAt h G w) :
  Calls Tryz.prog 90 #[gv h G, .int .i64 s] w (Is (.string (zDL G s)) w) := by
 have T := zPB (fun w1 (b : Below w.heap.size w w1) => zHS h G s w1 (k.went b))
 have N := zPB (fun w1 (b : Below w.heap.size w w1) => zGL h G s w1 (k.went b))
 have X := zPB (Bx.start h G w 25)
 have t := k.t2
 have n := k.n2
 by_cases h0 : s = 0
 ·subst h0
  have E := zPB (zJp G)
  clear k T N
  unfold gv
  go_enter Tryz.func90, Tryz.ntmps90
  go_wp2
  go_ret
  exact ⟨zFq E.out, X.out.below⟩
 ·by_cases h1 : 1 <= s /\ s <= (G.terms.length : Int)
  ·obtain ⟨j, rfl⟩ : ∃ j : Nat, s = (j : Int) + 1 := ⟨(s - 1).toNat, by omega⟩
   have hj : j < G.terms.length := by omega
   have E := zPB (zJn hj)
   have e1 := zAR.2 h1
   rw [e1] at T
   obtain ⟨a1, c1, a2, c2, a3, c3⟩ := h
   obtain ⟨b, o, e, hc⟩ := k.terms j (by simpa using hj)
   dsimp only at e
   subst e
   simp only [List.getElem_map] at hc
   have HC := zPB (fun w1 (b : Below w.heap.size w w1) => cell_later b hc)
   clear hc k N e1 h1 h0
   generalize zDL G ((j : Int) + 1) = x at E ⊢
   have hx := E.out
   subst hx
   unfold gv
   dsimp only
   go_enter Tryz.func90, Tryz.ntmps90
   go_wp2_with (go_at_call 71; refine (T.out _ X.out.below).mono ?_; rintro e w1 ⟨rfl, hb⟩; have X := zPB (X.out.went hb); obtain ⟨x0, x1, x2, x3⟩ := X.out.box; have hc := HC.out _ X.out.below; clear hb)
   go_ret
   exact ⟨rfl, X.out.below⟩
  ·have e1 : zBS G s = false := by rw [← Bool.not_eq_true, zAR]; exact h1
   rw [e1] at T
   by_cases h2 : (G.terms.length : Int) < s /\ s <= (G.terms.length : Int) + (G.nons.length : Int)
   ·obtain ⟨j, rfl⟩ : ∃ j : Nat, s = ((G.terms.length + j : Nat) : Int) + 1 := ⟨(s - 1 - G.terms.length).toNat, by omega⟩
    have hj : j < G.nons.length := by omega
    have E := zPB (zLe hj)
    have e2 := zAY.2 h2
    rw [e2] at N
    obtain ⟨a1, c1, a2, c2, a3, c3⟩ := h
    obtain ⟨b, o, e, hc⟩ := k.nons j (by simpa using hj)
    dsimp only at e
    subst e
    simp only [List.getElem_map] at hc
    have HC := zPB (fun w1 (b : Below w.heap.size w w1) => cell_later b hc)
    clear hc k e1 e2 h1 h2 h0
    generalize zDL G (((G.terms.length + j : Nat) : Int) + 1) = x at E ⊢
    have hx := E.out
    subst hx
    unfold gv
    dsimp only
    have hi1 : ((G.terms.length + j : Nat) : Int) + 1 - (G.terms.length : Int) = (j : Int) + 1 := by omega
    have hi2 : (G.terms.length : Int) + (j : Int) + 1 - (G.terms.length : Int) = (j : Int) + 1 := by omega
    go_enter Tryz.func90, Tryz.ntmps90
    go_wp2_with (first
     | (go_at_call 71; refine (T.out _ X.out.below).mono ?_; rintro e w1 ⟨rfl, hb⟩; have X := zPB (X.out.went hb); obtain ⟨x0, x1, x2, x3⟩ := X.out.box; clear hb)
     | (go_at_call 72; refine (N.out _ X.out.below).mono ?_; rintro e w1 ⟨rfl, hb⟩; have X := zPB (X.out.went hb); obtain ⟨x0, x1, x2, x3⟩ := X.out.box; have hc := HC.out _ X.out.below; clear hb))
    go_ret
    exact ⟨rfl, X.out.below⟩
   ·have e2 : nonB G s = false := by rw [← Bool.not_eq_true, zAY]; exact h2
    rw [e2] at N
    have E := zPB (zLf (G := G) (s := s) (by unfold top; omega))
    clear k e1 e2 h1 h2
    unfold gv
    go_enter Tryz.func90, Tryz.ntmps90
    go_wp2_with (first
     | (go_at_call 71; refine (T.out _ X.out.below).mono ?_; rintro e w1 ⟨rfl, hb⟩; have X := zPB (X.out.went hb); obtain ⟨x0, x1, x2, x3⟩ := X.out.box; clear hb)
     | (go_at_call 72; refine (N.out _ X.out.below).mono ?_; rintro e w1 ⟨rfl, hb⟩; have X := zPB (X.out.went hb); obtain ⟨x0, x1, x2, x3⟩ := X.out.box; clear hb))
    go_ret
    exact ⟨zFq E.out, X.out.below⟩
end Gr
namespace Gr
open Go.RowKit Go.Maps
def zHZ (L : List ByteArray) (s : ByteArray) (k : Nat) : Prop := ∀ j (hj : j < L.length), j < k -> L[j] ≠ s
theorem ahead_zero (L : List ByteArray) (s : ByteArray) : zHZ L s 0 := fun _ _ h => absurd h (by omega)
theorem zHd {L : List ByteArray} {s : ByteArray} {k : Nat} (h : zHZ L s k) (hk : k < L.length) (hn : L[k] ≠ s) : zHZ L s (k + 1) := fun j hj h1 => by
 by_cases e : j = k
 ·subst e
  exact hn
 ·exact h j hj (by omega)
theorem zId {L : List ByteArray} {s : ByteArray} {k : Nat} (h : zHZ L s k) (hk : k < L.length) (he : L[k] = s) : It.place L s = (k : Int) := by
 have hp := It.zO6 hk he (fun j hj => h j (by omega) hj)
 rw [It.zEx (by simp [It.isIn, hp])]
 simp [It.num, hp]
theorem zIc {L : List ByteArray} {s : ByteArray} {k : Nat} (h : zHZ L s k) (hk : ¬ k < L.length) : It.place L s = -1 := by
 refine It.zDO ?_
 cases hi : It.isIn L s with
 | false => rfl
 | true =>
  obtain ⟨h1, h2⟩ := It.zG8 hi
  exact absurd h2 (h _ h1 (by omega))
theorem zK3 {x s : ByteArray} (h : x ≠ s) : (x.toList == s.toList) = false := by
 rw [beq_eq_false_iff_ne, ByteArray.toList_eq, ByteArray.toList_eq]
 exact fun e => h (It.zEb e)
end Gr
namespace Gr
open Go.RowKit Go.Maps
theorem zAS : (Tryz.prog.info? 3).map (fun i => (i.zero, i.size, i.bytes)) = some (some (.int .i64 0), 1, 8) := by kernel_rfl
def iv (i : Int) : Value := .int .i64 i
def ivs (l : List Int) : List Value := l.map iv
theorem zHu (l : List Int) : (ivs l).length = l.length := by simp [ivs]
def ofI (R : List (Int × List Int)) (s : Int) (k : Nat) : List Int := (ofTo R s k).map fun i : Nat => (i : Int)
def ofL (G : Gram) (s : Int) : List Int := ofI G.rules s G.rules.length
theorem zA8 (G : Gram) (s : Int) : (ofL G s).length = (ofN G s).length := by simp [ofL, ofI, ofN]
theorem zJt (R : List (Int × List Int)) (s : Int) (k : Nat) : (ofI R s k).length <= k := by
 have := zJu R s k
 simpa [ofI] using this
theorem zJs {R : List (Int × List Int)} {s : Int} {k : Nat} (h : leftOf R k = s) : ofI R s (k + 1) = ofI R s k ++ [(k : Int)] := by simp [ofI, zLl h]
theorem zG9 {R : List (Int × List Int)} {s : Int} {k : Nat} (h : ¬ leftOf R k = s) : ofI R s (k + 1) = ofI R s k := by simp [ofI, zJv h]
def New (a : Option Addr) (w : World) : Prop := ∀ x, a = some x -> w.heap.size <= x.block
theorem zDU {W w : World} {base n c : Nat} {e : TypeId} {a : Option Addr} {xs : List Value} (h : w.ownsRow base e 1 (.slice a n c) n xs) (hb : W.heap.size <= base) : New a W := by
 rintro x rfl
 rcases h.2 with ⟨h1, _⟩ | ⟨g, cap, cur, h1, h2, _⟩
 ·cases h1
 ·simp only [Value.slice.injEq, Option.some.injEq] at h1
  obtain ⟨rfl, _⟩ := h1
  simp
  omega
def Listed (l : List Int) (w : World) (e : Ending) (w' : World) : Prop :=
 ∃ a c, e = .returned (.slice a l.length c) /\ Sep.Reads a (ivs l) w' /\ New a w /\ Below w.heap.size w w'
theorem zCP (h : Sh) (G : Gram) (s : Int) (w : World) (k : GAt h G w) (hr : G.rules.length <= 65536) :
  Calls Tryz.prog 93 #[gv h G, .int .i64 s] w (Listed (ofL G s) w) := by
 obtain ⟨i0, hi, hz0, hz1, hz2⟩ := info_parts zAS
 obtain ⟨a1, c1, a2, c2, a3, c3⟩ := h
 have hc3 := k.r2
 have X := zPB (Bx.start ⟨a1, c1, a2, c2, a3, c3⟩ G w 25)
 have K := zPB (fun w1 (b : Below w.heap.size w w1) => (k.went b).rules)
 clear k
 have HO := zPB (show (w.alloc (.cells #[.slice a1 G.terms.length c1, .slice a2 G.nons.length c2, .slice a3 G.rules.length c3, .int .i64 G.start] 25)).ownsRow (w.heap.size + 1) 3 1 (.slice none 0 0) (ofI G.rules s 0).length (ivs (ofI G.rules s 0)) from ⟨rfl, .inl ⟨rfl, rfl⟩⟩)
 unfold gv
 dsimp only
 go_enter Tryz.func93, Tryz.ntmps93
 go_wp2
 go_loopw [5, 11] (fun v i wr => ∃ j : Nat, j <= G.rules.length /\ i = .int .i64 j /\ wr.ownsRow (w.heap.size + 1) 3 1 v (ofI G.rules s j).length (ivs (ofI G.rules s j)) /\ Bx w ⟨a1, c1, a2, c2, a3, c3⟩ G wr) (fun _ i _ => G.rules.length - (intOf i).toNat)
 case atStart => exact ⟨0, Nat.zero_le _, rfl, HO.out, X.out⟩
 case round =>
  obtain ⟨j, hj, rfl, hO, hX⟩ := hrel
  obtain ⟨a', c', rfl⟩ := Sep.zAe hO
  clear HO X
  have X := zPB hX
  have HO := zPB hO
  have hle := zJt G.rules s j
  clear hO hX
  by_cases hlt : j < G.rules.length
  ·obtain ⟨b, o, ra, rc, e, h1, h2, h3, h4, h5⟩ := K.out _ X.out.below j hlt
   have e1 := zBT hlt
   rw [← e1] at h1
   generalize G.rules[j].2 = rr at h2 h3 h4 h5
   try dsimp only at e
   subst e
   clear e1 h3
   by_cases hs : leftOf G.rules j = s
   ·have HI := zPB (zJs hs)
    subst hs
    generalize leftOf G.rules j = s at *
    go_wp2_with (at_builtin; go_loud (refine wpList_append_own _ rfl _ _ 40 rfl (w.heap.size + 1) 3 i0 (.int .i64 0) 1 8 Tryz.underlying40 hi hz0 hz1 hz2 rfl (by decide) _ _ _ rfl ((HO.out.alloc _).alloc _) ⟨wr.heap.size + 1, 0, none⟩ 1 1 [iv j] rfl rfl ?c1 ?c2 ?c3 ?c4 ?c5 ?_))
    case c1 =>
     intro i u hi
     match i, hi with
     | 0, hi => simp at hi; subst hi; simp [Addr.add, iv]
    case c2 => intro u hu; simp at hu; subst hu; rfl
    case c3 => unfold maxLen; omega
    case c4 => omega
    case c5 => have := X.out.size; simp; omega
    intro v' w2 hown' hgrow _
    have X := zPB (((X.out.alloc _).alloc _).grown hgrow fun q hq => (HO.out.lt q hq).1)
    have HO := zPB (show w2.ownsRow (w.heap.size + 1) 3 1 v' (ofI G.rules s (j + 1)).length (ivs (ofI G.rules s (j + 1))) by rw [HI.out]; simpa [ivs] using hown')
    clear hown' hgrow
    go_wp2
    go_roundw
    case rel => exact ⟨j + 1, by omega, by go_num, HO.out, X.out⟩
    case measure => simp [intOf]; omega
   ·have HI := zPB (zG9 hs)
    have hb : (leftOf G.rules j == s) = false := by simpa using hs
    clear hs
    go_wp2_with (at_builtin; fail)
    go_roundw
    case rel => exact ⟨j + 1, by omega, by go_num, by rw [HI.out]; exact HO.out.alloc _, X.out.alloc _⟩
    case measure => simp [intOf]; omega
  ·have hE : j = G.rules.length := by omega
   subst hE
   have HR := zPB (Sep.Reads.of_row HO.out)
   have HN := zPB (zDU (W := w) HO.out (by omega))
   go_wp2
   go_ret
   exact ⟨_, _, rfl, HR.out, HN.out, X.out.below⟩
end Gr
namespace Le
theorem zBR {M : Nat} {v w : List Int} (h : (v ++ w).length <= M) : putA M (.is v) (.is w) = .is (v ++ w) := if_pos h
theorem zCm {M : Nat} {v w : List Int} (h : ¬ (v ++ w).length <= M) : putA M (.is v) (.is w) = .far := if_neg h
theorem zDP (M : Nat) (a : Ans) : putA M .none a = .none := by cases a <;> rfl
theorem zAi (M : Nat) (a : Ans) : putA M a .none = .none := by cases a <;> rfl
theorem zGP {M : Nat} {a : Ans} (h : a ≠ .none) : putA M a .far = .far := by
 cases a with
 | none => exact absurd rfl h
 | far => rfl
 | is w => rfl
theorem zJ2 {M : Nat} {a : Ans} (h : a ≠ .none) : putA M .far a = .far := by
 cases a with
 | none => exact absurd rfl h
 | far => rfl
 | is w => rfl
theorem zIC (M : Nat) (a b c : Ans) : putA M (putA M a b) c = putA M a (putA M b c) := by
 cases a with
 | none => rw [zDP, zDP, zDP]
 | far =>
  cases b with
  | none => rw [zAi, zDP, zAi]
  | far =>
   cases c with
   | none => rw [zAi, zAi, zAi]
   | far => rfl
   | is z => rfl
  | is y =>
   cases c with
   | none => rw [zAi, zAi, zAi]
   | far => rfl
   | is z =>
    have h : putA M (.is y) (.is z) ≠ .none := fun k => by
     rcases zBG.1 k with k | k <;> cases k
    rw [zJ2 h]
    rfl
 | is x =>
  cases b with
  | none => rw [zAi, zDP, zAi]
  | far =>
   cases c with
   | none => rw [zAi, zAi, zAi]
   | far => rfl
   | is z => rfl
  | is y =>
   cases c with
   | none => rw [zAi, zAi, zAi]
   | far =>
    have h : putA M (.is x) (.is y) ≠ .none := fun k => by
     rcases zBG.1 k with k | k <;> cases k
    rw [zGP h]
    rfl
   | is z =>
    by_cases h : (x ++ y ++ z).length <= M
    ·have h' : (x ++ (y ++ z)).length <= M := by rwa [← List.append_assoc]
     have h1 : (x ++ y).length <= M := by simp only [List.length_append] at h ⊢; omega
     have h2 : (y ++ z).length <= M := by simp only [List.length_append] at h ⊢; omega
     rw [zBR h1, zBR h2, zBR h, zBR h', List.append_assoc]
    ·have h' : ¬ (x ++ (y ++ z)).length <= M := by rwa [← List.append_assoc]
     have l : putA M (putA M (.is x) (.is y)) (.is z) = .far := by
      by_cases h1 : (x ++ y).length <= M
      ·rw [zBR h1, zCm h]
      ·rw [zCm h1]; rfl
     have r : putA M (.is x) (putA M (.is y) (.is z)) = .far := by
      by_cases h2 : (y ++ z).length <= M
      ·rw [zBR h2, zCm h']
      ·rw [zCm h2]; rfl
     rw [l, r]
theorem zJP {M : Nat} {T : Int -> Ans} {l x : List Int} (h : zAh M T l = .is x) : x.length <= M := by
 cases l with
 | nil => injection h with h; subst h; exact Nat.zero_le _
 | cons s l =>
  obtain ⟨v, w, _, _, h3, h4⟩ := zEy (show putA M (T s) (zAh M T l) = .is x from h)
  exact h4
theorem zJ3 {M : Nat} {a : Ans} (h : ∀ x, a = .is x -> x.length <= M) : putA M (.is []) a = a := by
 cases a with
 | none => rfl
 | far => rfl
 | is x => exact zBR (h x rfl)
theorem zGQ {M : Nat} {a : Ans} (h : ∀ x, a = .is x -> x.length <= M) : putA M a (.is []) = a := by
 cases a with
 | none => rfl
 | far => rfl
 | is x =>
  have e : x ++ [] = x := List.append_nil x
  rw [zBR (by rw [e]; exact h x rfl), e]
theorem zGE (M : Nat) (T : Int -> Ans) (l k : List Int) : zAh M T (l ++ k) = putA M (zAh M T l) (zAh M T k) := by
 induction l with
 | nil => exact (zJ3 fun x hx => zJP hx).symm
 | cons s l ih =>
  show putA M (T s) (zAh M T (l ++ k)) = putA M (putA M (T s) (zAh M T l)) (zAh M T k)
  rw [ih, zIC]
theorem join_one {M : Nat} {T : Int -> Ans} {s : Int} (h : ∀ x, T s = .is x -> x.length <= M) : zAh M T [s] = T s := zGQ h
theorem zJQ {M : Nat} {T : Int -> Ans} {l : List Int} {s : Int} (h : ∀ x, T s = .is x -> x.length <= M) : zAh M T (l ++ [s]) = putA M (zAh M T l) (T s) := by
 rw [zGE, join_one h]
theorem zJR {M : Nat} {T : Int -> Ans} {l : List Int} {i : Nat} (hi : i < l.length) (h : ∀ x, T l[i] = .is x -> x.length <= M) : zAh M T (l.take (i + 1)) = putA M (zAh M T (l.take i)) (T l[i]) := by
 rw [List.take_succ_eq_append_getElem hi, zJQ h]
theorem zJO {M : Nat} {T : Int -> Ans} {l : List Int} {s : Int} (hs : s ∈ l) (h : T s = .none) : zAh M T l = .none := by
 induction l with
 | nil => cases hs
 | cons t l ih =>
  rcases List.mem_cons.1 hs with e | e
  ·subst e
   exact zBG.2 (Or.inl h)
  ·exact zBG.2 (Or.inr (ih e))
def lenA : Ans -> Nat
 | .none => 4098
 | .far => 4097
 | .is w => w.length
def zAC : Ans -> List Int
 | .is w => w
 | _ => []
def hasA : Ans -> Bool
 | .none => false
 | _ => true
def farA : Ans -> Bool
 | .far => true
 | _ => false
def isA : Ans -> Bool
 | .is _ => true
 | _ => false
def Bd (a : Ans) : Prop := ∀ x, a = .is x -> x.length <= 4096
def Bnd (T : Int -> Ans) : Prop := ∀ s, Bd (T s)
theorem zEZ : Bd .none := fun x h => by cases h
theorem zEq {a : Ans} (h : Bd a) : lenA a <= 4098 := by
 cases a with
 | none => exact Nat.le_refl _
 | far => show (4097 : Nat) <= 4098; omega
 | is w => have := h w rfl; show w.length <= 4098; omega
theorem zE8 {a : Ans} (h : Bd a) : (zAC a).length <= 4096 := by
 cases a with
 | none => exact Nat.zero_le _
 | far => exact Nat.zero_le _
 | is w => exact h w rfl
theorem zEs {a : Ans} (h : Bd a) : lenA a = 4098 ↔ a = .none := by
 cases a with
 | none => exact ⟨fun _ => rfl, fun _ => rfl⟩
 | far => exact ⟨fun k => absurd k (by show ¬ (4097 : Nat) = 4098; omega), fun k => by cases k⟩
 | is w => exact ⟨fun k => absurd k (by have := h w rfl; show ¬ w.length = 4098; omega), fun k => by cases k⟩
theorem zJb {a : Ans} (h : Bd a) : lenA a <= 4096 ↔ isA a = true := by
 cases a with
 | none => exact ⟨fun k => absurd k (by show ¬ (4098 : Nat) <= 4096; omega), fun k => by cases k⟩
 | far => exact ⟨fun k => absurd k (by show ¬ (4097 : Nat) <= 4096; omega), fun k => by cases k⟩
 | is w => exact ⟨fun _ => rfl, fun _ => h w rfl⟩
theorem zOO {a : Ans} (h : isA a = true) : a = .is (zAC a) := by cases a <;> first | rfl | cases h
theorem zNA {a : Ans} (h : isA a = false) : zAC a = [] := by cases a <;> first | rfl | cases h
theorem zNJ {a : Ans} (h : isA a = true) : lenA a = (zAC a).length := by cases a <;> first | rfl | cases h
def J (T : Int -> Ans) (l : List Int) : Ans := zAh 4096 T l
theorem zA1 (T : Int -> Ans) (l : List Int) : Bd (J T l) := fun x h => zJP h
def zHc (T : Int -> Ans) (l : List Int) (k n : Nat) : Prop := J T (l.take k) ≠ .none /\ n = lenA (J T (l.take k))
theorem zJN {T : Int -> Ans} (hT : Bnd T) {l : List Int} {k : Nat} (hk : k < l.length) : J T (l.take (k + 1)) = putA 4096 (J T (l.take k)) (T l[k]) := zJR hk (hT l[k])
theorem zMG (T : Int -> Ans) (l : List Int) : zHc T l 0 0 := ⟨(fun h => by cases h), rfl⟩
theorem zOh {T : Int -> Ans} {l : List Int} {k n : Nat} (h : zHc T l k n) : n <= 4097 := by
 have h1 := zEq (zA1 T (l.take k))
 have h2 := h.2
 have h3 : lenA (J T (l.take k)) ≠ 4098 := fun e => h.1 ((zEs (zA1 _ _)).1 e)
 omega
theorem zNL {a b : Ans} (ha : a ≠ .none) (hb : b ≠ .none) (da : Bd a) (db : Bd b) : lenA (putA 4096 a b) = min (lenA a + lenA b) 4097 /\ putA 4096 a b ≠ .none := by
 cases a with
 | none => exact absurd rfl ha
 | far =>
  rw [zJ2 hb]
  refine ⟨?_, fun h => by cases h⟩
  show 4097 = min (4097 + lenA b) 4097
  omega
 | is v =>
  cases b with
  | none => exact absurd rfl hb
  | far =>
   rw [zGP ha]
   refine ⟨?_, fun h => by cases h⟩
   show 4097 = min (v.length + 4097) 4097
   omega
  | is w =>
   by_cases h : (v ++ w).length <= 4096
   ·rw [zBR h]
    refine ⟨?_, fun h => by cases h⟩
    show (v ++ w).length = min (v.length + w.length) 4097
    rw [List.length_append] at h ⊢
    omega
   ·rw [zCm h]
    refine ⟨?_, fun h => by cases h⟩
    show 4097 = min (v.length + w.length) 4097
    rw [List.length_append] at h
    omega
theorem zMF {T : Int -> Ans} (hT : Bnd T) {l : List Int} {k n : Nat} (h : zHc T l k n) (hk : k < l.length) (hn : T l[k] ≠ .none) : zHc T l (k + 1) (min (n + lenA (T l[k])) 4097) := by
 have e := zJN hT hk
 have h1 := zNL h.1 hn (zA1 _ _) (hT l[k])
 refine ⟨?_, ?_⟩
 ·rw [e]
  exact h1.2
 ·rw [e, h1.1, h.2]
theorem zHP {T : Int -> Ans} {l : List Int} {k : Nat} (hk : k < l.length) (hn : T l[k] = .none) : J T l = .none := zJO (List.getElem_mem hk) hn
theorem zNt {T : Int -> Ans} {l : List Int} {k n : Nat} (h : zHc T l k n) (hk : ¬ k < l.length) : n = lenA (J T l) := by
 have := h.2
 rwa [List.take_of_length_le (by omega)] at this
def flat (T : Int -> Ans) (l : List Int) : List Int := l.flatMap fun s => zAC (T s)
theorem zI3 {T : Int -> Ans} {l : List Int} {k : Nat} (hk : k < l.length) : flat T (l.take (k + 1)) = flat T (l.take k) ++ zAC (T l[k]) := by
 unfold flat
 rw [List.take_succ_eq_append_getElem hk, List.flatMap_append]
 simp
theorem zM5 (T : Int -> Ans) (l : List Int) (k : Nat) : (flat T (l.take k)).length <= (flat T l).length := by
 have e : flat T l = flat T (l.take k) ++ flat T (l.drop k) := by
  unfold flat
  rw [← List.flatMap_append, List.take_append_drop]
 rw [e, List.length_append]
 omega
theorem zI2 {T : Int -> Ans} {l x : List Int} (h : J T l = .is x) : x = flat T l := by
 induction l generalizing x with
 | nil => injection h with h; exact h.symm
 | cons s l ih =>
  obtain ⟨v, w, h1, h2, h3, h4⟩ := zEy (show putA 4096 (T s) (J T l) = .is x from h)
  rw [h3, ih h2]
  show _ = (s :: l).flatMap _
  rw [List.flatMap_cons]
  show _ = zAC (T s) ++ _
  rw [h1]
  rfl
theorem zFR {T : Int -> Ans} {l : List Int} (h : isA (J T l) = true) : zAC (J T l) = flat T l := zI2 (zOO h)
theorem zLB {T : Int -> Ans} {l : List Int} (h : isA (J T l) = true) : (flat T l).length = lenA (J T l) := by rw [zNJ h, zFR h]
def cmpL : List Int -> List Int -> Int
 | [], [] => 0
 | [], _ :: _ => -1
 | _ :: _, [] => 1
 | x :: r, y :: s => if x < y then -1 else if y < x then 1 else cmpL r s
theorem zMx : ∀ {v w : List Int}, v.length = w.length -> decide (cmpL v w < 0) = lexB v w := by
 intro v
 induction v with
 | nil =>
  intro w hl
  have : w = [] := List.eq_nil_of_length_eq_zero (by simpa using hl.symm)
  subst this
  rfl
 | cons x r ih =>
  intro w hl
  cases w with
  | nil => simp at hl
  | cons y s =>
   have hls : r.length = s.length := by simpa using hl
   show decide ((if x < y then (-1 : Int) else if y < x then 1 else cmpL r s) < 0) = if x = y then lexB r s else decide (x < y)
   by_cases h1 : x < y
   ·rw [if_pos h1, if_neg (by omega)]
    simp [h1]
   ·rw [if_neg h1]
    by_cases h2 : y < x
    ·rw [if_pos h2, if_neg (by omega)]
     simp [h1]
    ·rw [if_neg h2, if_pos (by omega)]
     exact ih hls
def zAp (v w : List Int) (k : Nat) : Prop := v.take k = w.take k
theorem zBs (v w : List Int) : zAp v w 0 := rfl
theorem zBr {v w : List Int} {k : Nat} (h : zAp v w k) (hv : k < v.length) (hw : k < w.length) (e : v[k] = w[k]) : zAp v w (k + 1) := by
 unfold zAp at h ⊢
 rw [List.take_succ_eq_append_getElem hv, List.take_succ_eq_append_getElem hw, h, e]
theorem zCW {v w : List Int} {k : Nat} (h : zAp v w k) (hv : ¬ k < v.length) (hl : v.length = w.length) : v = w := by
 unfold zAp at h
 rwa [List.take_of_length_le (by omega), List.take_of_length_le (by omega)] at h
theorem zEt (v : List Int) : lexB v v = false := by
 induction v with
 | nil => rfl
 | cons x r ih => show (if x = x then lexB r r else _) = false; rw [if_pos rfl, ih]
theorem zK7 (v : List Int) : cmpL v v = 0 := by
 induction v with
 | nil => rfl
 | cons x r ih =>
  show (if x < x then (-1 : Int) else if x < x then 1 else cmpL r r) = 0
  rw [if_neg (by omega), if_neg (by omega), ih]
theorem zJc {v w : List Int} {k : Nat} (h : zAp v w k) (hv : k < v.length) (hw : k < w.length) (e : v[k] ≠ w[k]) : lexB v w = decide (v[k] < w[k]) := by
 induction v generalizing w k with
 | nil => simp at hv
 | cons x r ih =>
  cases w with
  | nil => simp at hw
  | cons y s =>
   cases k with
   | zero =>
    show (if x = y then lexB r s else decide (x < y)) = _
    rw [if_neg (by simpa using e)]
    rfl
   | succ k =>
    unfold zAp at h
    rw [List.take_succ_cons, List.take_succ_cons] at h
    injection h with h1 h2
    show (if x = y then lexB r s else decide (x < y)) = _
    rw [if_pos h1]
    exact ih h2 (by simpa using hv) (by simpa using hw) (by simpa using e)
theorem zOI {v w : List Int} {k : Nat} (h : zAp v w k) (hv : k < v.length) (hw : k < w.length) (e : v[k] ≠ w[k]) : cmpL v w = if v[k] < w[k] then -1 else 1 := by
 induction v generalizing w k with
 | nil => simp at hv
 | cons x r ih =>
  cases w with
  | nil => simp at hw
  | cons y s =>
   cases k with
   | zero =>
    have e' : x ≠ y := by simpa using e
    show (if x < y then (-1 : Int) else if y < x then 1 else cmpL r s) = if x < y then -1 else 1
    by_cases h1 : x < y
    ·rw [if_pos h1, if_pos h1]
    ·rw [if_neg h1, if_neg h1, if_pos (by omega)]
   | succ k =>
    unfold zAp at h
    rw [List.take_succ_cons, List.take_succ_cons] at h
    injection h with h1 h2
    show (if x < y then (-1 : Int) else if y < x then 1 else cmpL r s) = _
    rw [if_neg (by omega), if_neg (by omega)]
    exact ih h2 (by simpa using hv) (by simpa using hw) (by simpa using e)
theorem zIi {a b : Ans} (da : Bd a) (db : Bd b) (h : lenA a ≠ lenA b) : zAQ a b = decide (lenA a < lenA b) := by
 cases a with
 | none =>
  have := zEq db
  rw [decide_eq_false (by show ¬ (4098 : Nat) < lenA b; omega)]
  rfl
 | far =>
  cases b with
  | none => rfl
  | far => exact absurd rfl h
  | is w =>
   have := db w rfl
   rw [decide_eq_false (by show ¬ (4097 : Nat) < w.length; omega)]
   rfl
 | is v =>
  have hv := da v rfl
  cases b with
  | none =>
   rw [decide_eq_true (by show v.length < (4098 : Nat); omega)]
   rfl
  | far =>
   rw [decide_eq_true (by show v.length < (4097 : Nat); omega)]
   rfl
  | is w =>
   show zAy v w = decide (v.length < w.length)
   unfold zAy
   exact if_neg h
theorem zIh {a b : Ans} (da : Bd a) (db : Bd b) (h : lenA a = lenA b) : zAQ a b = lexB (zAC a) (zAC b) /\ (zAC a).length = (zAC b).length := by
 cases a with
 | none =>
  have := (zEs db).1 h.symm
  subst this
  exact ⟨rfl, rfl⟩
 | far =>
  cases b with
  | none => exact absurd h (by show ¬ (4097 : Nat) = 4098; omega)
  | far => exact ⟨rfl, rfl⟩
  | is w => exact absurd h (by have := db w rfl; show ¬ (4097 : Nat) = w.length; omega)
 | is v =>
  have hv := da v rfl
  cases b with
  | none => exact absurd h (by show ¬ v.length = 4098; omega)
  | far => exact absurd h (by show ¬ v.length = 4097; omega)
  | is w =>
   refine ⟨?_, h⟩
   show zAy v w = lexB v w
   unfold zAy
   exact if_pos h
structure TOk (n : Nat) (T : Int -> Ans) : Prop where
 out : ∀ s : Int, ¬ (0 <= s /\ s < (n : Int)) -> T s = .none
 bnd : Bnd T
theorem TOk.set {n : Nat} {T : Int -> Ans} (h : TOk n T) {s : Int} {a : Ans} (h0 : 0 <= s) (hn : s < (n : Int)) (ha : Bd a) : TOk n (setA T s a) := by
 refine ⟨fun t ht => ?_, fun t => ?_⟩
 ·rw [zAT _ _ fun e => ht (by subst e; exact ⟨h0, hn⟩)]
  exact h.out t ht
 ·by_cases e : t = s
  ·subst e
   rw [zAq]
   exact ha
  ·rw [zAT _ _ e]
   exact h.bnd t
end Le
namespace Gr
open Go.RowKit Go.Maps
theorem zDT (h : Sh) (G : Gram) (s : Int) (w : World) (k : GAt h G w) (hr : G.rules.length <= 65536) :
  Calls Tryz.prog 55 #[gv h G, .int .i64 s] w (Listed (ofL G s) w) := by
 obtain ⟨i0, hi, hz0, hz1, hz2⟩ := info_parts zAS
 obtain ⟨a1, c1, a2, c2, a3, c3⟩ := h
 have hc3 := k.r2
 have X := zPB (Bx.start ⟨a1, c1, a2, c2, a3, c3⟩ G w 25)
 have K := zPB (fun w1 (b : Below w.heap.size w w1) => (k.went b).rules)
 clear k
 have HO := zPB (show (w.alloc (.cells #[.slice a1 G.terms.length c1, .slice a2 G.nons.length c2, .slice a3 G.rules.length c3, .int .i64 G.start] 25)).ownsRow (w.heap.size + 1) 3 1 (.slice none 0 0) (ofI G.rules s 0).length (ivs (ofI G.rules s 0)) from ⟨rfl, .inl ⟨rfl, rfl⟩⟩)
 unfold gv
 dsimp only
 go_enter Tryz.func55, Tryz.ntmps55
 go_wp2
 go_loopw [5, 6] (fun v i wr => ∃ j : Nat, j <= G.rules.length /\ i = .int .i64 j /\ wr.ownsRow (w.heap.size + 1) 3 1 v (ofI G.rules s j).length (ivs (ofI G.rules s j)) /\ Bx w ⟨a1, c1, a2, c2, a3, c3⟩ G wr) (fun _ i _ => G.rules.length - (intOf i).toNat)
 case atStart => exact ⟨0, Nat.zero_le _, rfl, HO.out, X.out⟩
 case round =>
  obtain ⟨j, hj, rfl, hO, hX⟩ := hrel
  obtain ⟨a', c', rfl⟩ := Sep.zAe hO
  clear HO X
  have X := zPB hX
  have HO := zPB hO
  have hle := zJt G.rules s j
  clear hO hX
  by_cases hlt : j < G.rules.length
  ·obtain ⟨b, o, ra, rc, e, h1, h2, h3, h4, h5⟩ := K.out _ X.out.below j hlt
   have e1 := zBT hlt
   rw [← e1] at h1
   generalize G.rules[j].2 = rr at h2 h3 h4 h5
   try dsimp only at e
   subst e
   obtain ⟨x0, x1, x2, x3⟩ := X.out.box
   clear e1 h3
   by_cases hs : leftOf G.rules j = s
   ·have HI := zPB (zJs hs)
    subst hs
    generalize leftOf G.rules j = s at *
    go_wp2_with (at_builtin; go_loud (refine wpList_append_own _ rfl _ _ 40 rfl (w.heap.size + 1) 3 i0 (.int .i64 0) 1 8 Tryz.underlying40 hi hz0 hz1 hz2 rfl (by decide) _ _ _ rfl (HO.out.alloc _) ⟨wr.heap.size, 0, none⟩ 1 1 [iv j] rfl rfl ?c1 ?c2 ?c3 ?c4 ?c5 ?_))
    case c1 =>
     intro i u hi
     match i, hi with
     | 0, hi => simp at hi; subst hi; simp [iv]
    case c2 => first | rfl | (intro u hu; simp at hu; subst hu; rfl)
    case c3 => unfold maxLen; omega
    case c4 => omega
    case c5 => have := X.out.size; simp; omega
    intro v' w2 hown' hgrow _
    have X := zPB ((X.out.alloc _).grown hgrow fun q hq => (HO.out.lt q hq).1)
    have HO := zPB (show w2.ownsRow (w.heap.size + 1) 3 1 v' (ofI G.rules s (j + 1)).length (ivs (ofI G.rules s (j + 1))) by rw [HI.out]; simpa [ivs] using hown')
    clear hown' hgrow
    go_wp2
    go_roundw
    case rel => exact ⟨j + 1, by omega, by go_num, HO.out, X.out⟩
    case measure => simp [intOf]; omega
   ·have HI := zPB (zG9 hs)
    have hb : (leftOf G.rules j == s) = false := by simpa using hs
    clear hs
    go_wp2_with (at_builtin; fail)
    go_roundw
    case rel => exact ⟨j + 1, by omega, by go_num, by rw [HI.out]; exact HO.out, X.out⟩
    case measure => simp [intOf]; omega
  ·have hE : j = G.rules.length := by omega
   subst hE
   have HR := zPB (Sep.Reads.of_row HO.out)
   have HN := zPB (zDU (W := w) HO.out (by omega))
   obtain ⟨x0, x1, x2, x3⟩ := X.out.box
   go_wp2
   go_ret
   exact ⟨_, _, rfl, HR.out, HN.out, X.out.below⟩
