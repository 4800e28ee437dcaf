/- A part of the proof. -/
import Derived.Test.YtnfbjlainpenaaaGreatDoorPk02
set_option maxHeartbeats 2000000
set_option maxRecDepth 100000
set_option linter.unusedVariables false
namespace Go.Proofs.YtnfbjlainpenaaaGreatDoor
open Go.RowKit Go.Maps
namespace Gr
theorem zGZ {x r : ByteArray} (h : x = r) : Ending.returned (.string r) = .returned (.string x) := by rw [h]
theorem zFQ (h : Sh) (G : Gram) (s : Int) (w : World) (k : GAt h G w) :
  Calls Tryz.prog 103 #[gv h G, .int .i64 s] w (Is (.string (zEA G s)) w) := by
 have T := zSg (fun w1 (b : Below w.heap.size w w1) => zOd h G s w1 (k.went b))
 have N := zSg (fun w1 (b : Below w.heap.size w w1) => zLL h G s w1 (k.went b))
 have X := zSg (Bx.start h G w 25)
 have t := k.t2
 have n := k.n2
 by_cases h0 : s = 0
 ·subst h0
  have E := zSg (zLK G)
  clear k T N
  unfold gv
  go_enter Tryz.func103, Tryz.ntmps103
  go_wp2
  go_ret
  exact ⟨zGZ E.out, X.out.below⟩
 ·by_cases h1 : 1 <= s /\ s <= (G.terms.length : Int)
  ·obtain ⟨j, rfl⟩ : ∃ j : Nat, s = (j : Int) + 1 := ⟨(s - 1).toNat, by omega⟩
   have hj : j < G.terms.length := by omega
   have E := zSg (zLI hj)
   have e1 := zAp.2 h1
   rw [e1] at T
   obtain ⟨a1, c1, a2, c2, a3, c3⟩ := h
   obtain ⟨b, o, e, hc⟩ := k.terms j (by simpa using hj)
   dsimp only at e
   subst e
   simp only [List.getElem_map] at hc
   have HC := zSg (fun w1 (b : Below w.heap.size w w1) => cell_later b hc)
   clear hc k N e1 h1 h0
   generalize zEA G ((j : Int) + 1) = x at E ⊢
   have hx := E.out
   subst hx
   unfold gv
   dsimp only
   go_enter Tryz.func103, Tryz.ntmps103
   go_wp2_with (go_at_call 137; refine (T.out _ X.out.below).mono ?_; rintro e w1 ⟨rfl, hb⟩; have X := zSg (X.out.went hb); obtain ⟨x0, x1, x2, x3⟩ := X.out.box; have hc := HC.out _ X.out.below; clear hb)
   go_ret
   exact ⟨rfl, X.out.below⟩
  ·have e1 : zDX G s = false := by rw [← Bool.not_eq_true, zAp]; exact h1
   rw [e1] at T
   by_cases h2 : (G.terms.length : Int) < s /\ s <= (G.terms.length : Int) + (G.nons.length : Int)
   ·obtain ⟨j, rfl⟩ : ∃ j : Nat, s = ((G.terms.length + j : Nat) : Int) + 1 := ⟨(s - 1 - G.terms.length).toNat, by omega⟩
    have hj : j < G.nons.length := by omega
    have E := zSg (zNn hj)
    have e2 := zAV.2 h2
    rw [e2] at N
    obtain ⟨a1, c1, a2, c2, a3, c3⟩ := h
    obtain ⟨b, o, e, hc⟩ := k.nons j (by simpa using hj)
    dsimp only at e
    subst e
    simp only [List.getElem_map] at hc
    have HC := zSg (fun w1 (b : Below w.heap.size w w1) => cell_later b hc)
    clear hc k e1 e2 h1 h2 h0
    generalize zEA G (((G.terms.length + j : Nat) : Int) + 1) = x at E ⊢
    have hx := E.out
    subst hx
    unfold gv
    dsimp only
    have hi1 : ((G.terms.length + j : Nat) : Int) + 1 - (G.terms.length : Int) = (j : Int) + 1 := by omega
    have hi2 : (G.terms.length : Int) + (j : Int) + 1 - (G.terms.length : Int) = (j : Int) + 1 := by omega
    go_enter Tryz.func103, Tryz.ntmps103
    go_wp2_with (first
     | (go_at_call 137; refine (T.out _ X.out.below).mono ?_; rintro e w1 ⟨rfl, hb⟩; have X := zSg (X.out.went hb); obtain ⟨x0, x1, x2, x3⟩ := X.out.box; clear hb)
     | (go_at_call 104; refine (N.out _ X.out.below).mono ?_; rintro e w1 ⟨rfl, hb⟩; have X := zSg (X.out.went hb); obtain ⟨x0, x1, x2, x3⟩ := X.out.box; have hc := HC.out _ X.out.below; clear hb))
    go_ret
    exact ⟨rfl, X.out.below⟩
   ·have e2 : nonB G s = false := by rw [← Bool.not_eq_true, zAV]; exact h2
    rw [e2] at N
    have E := zSg (zNo (G := G) (s := s) (by unfold top; omega))
    clear k e1 e2 h1 h2
    unfold gv
    go_enter Tryz.func103, Tryz.ntmps103
    go_wp2_with (first
     | (go_at_call 137; refine (T.out _ X.out.below).mono ?_; rintro e w1 ⟨rfl, hb⟩; have X := zSg (X.out.went hb); obtain ⟨x0, x1, x2, x3⟩ := X.out.box; clear hb)
     | (go_at_call 104; refine (N.out _ X.out.below).mono ?_; rintro e w1 ⟨rfl, hb⟩; have X := zSg (X.out.went hb); obtain ⟨x0, x1, x2, x3⟩ := X.out.box; clear hb))
    go_ret
    exact ⟨zGZ E.out, X.out.below⟩
theorem zBK : (Tryz.prog.info? 3).map (fun i => (i.zero, i.size, i.bytes)) = some (some (.int .i64 0), 1, 8) := by kernel_rfl
def iv (i : Int) : Value := .int .i64 i
def ivs (l : List Int) : List Value := l.map iv
theorem zEr (l : List Int) : (ivs l).length = l.length := by simp [ivs]
def ofI (R : List (Int × List Int)) (s : Int) (k : Nat) : List Int := (ofTo R s k).map fun i : Nat => (i : Int)
def ofL (G : Gram) (s : Int) : List Int := ofI G.rules s G.rules.length
theorem zCN (G : Gram) (s : Int) : (ofL G s).length = (ofN G s).length := by simp [ofL, ofI, ofN]
theorem zO6 (R : List (Int × List Int)) (s : Int) (k : Nat) : (ofI R s k).length <= k := by
 have := zQR R s k
 simpa [ofI] using this
theorem zQQ {R : List (Int × List Int)} {s : Int} {k : Nat} (h : leftOf R k = s) : ofI R s (k + 1) = ofI R s k ++ [(k : Int)] := by simp [ofI, zNv h]
theorem zNu {R : List (Int × List Int)} {s : Int} {k : Nat} (h : ¬ leftOf R k = s) : ofI R s (k + 1) = ofI R s k := by simp [ofI, zLR h]
def New (a : Option Addr) (w : World) : Prop := ∀ x, a = some x -> w.heap.size <= x.block
theorem zFX {W w : World} {base n c : Nat} {e : TypeId} {a : Option Addr} {xs : List Value} (h : w.ownsRow base e 1 (.slice a n c) n xs) (hb : W.heap.size <= base) : New a W := by
 rintro x rfl
 rcases h.2 with ⟨h1, _⟩ | ⟨g, cap, cur, h1, h2, _⟩
 ·cases h1
 ·simp only [Value.slice.injEq, Option.some.injEq] at h1
  obtain ⟨rfl, _⟩ := h1
  simp
  omega
def Listed (l : List Int) (w : World) (e : Ending) (w' : World) : Prop :=
 ∃ a c, e = .returned (.slice a l.length c) /\ Sep.Reads a (ivs l) w' /\ New a w /\ Below w.heap.size w w'
theorem zDS (h : Sh) (G : Gram) (s : Int) (w : World) (k : GAt h G w) (hr : G.rules.length <= 65536) :
  Calls Tryz.prog 107 #[gv h G, .int .i64 s] w (Listed (ofL G s) w) := by
 obtain ⟨i0, hi, hz0, hz1, hz2⟩ := info_parts zBK
 obtain ⟨a1, c1, a2, c2, a3, c3⟩ := h
 have hc3 := k.r2
 have X := zSg (Bx.start ⟨a1, c1, a2, c2, a3, c3⟩ G w 25)
 have K := zSg (fun w1 (b : Below w.heap.size w w1) => (k.went b).rules)
 clear k
 have HO := zSg (show (w.alloc (.cells #[.slice a1 G.terms.length c1, .slice a2 G.nons.length c2, .slice a3 G.rules.length c3, .int .i64 G.start] 25)).ownsRow (w.heap.size + 1) 3 1 (.slice none 0 0) (ofI G.rules s 0).length (ivs (ofI G.rules s 0)) from ⟨rfl, .inl ⟨rfl, rfl⟩⟩)
 unfold gv
 dsimp only
 go_enter Tryz.func107, Tryz.ntmps107
 go_wp2
 go_loopw [5, 11] (fun v i wr => ∃ j : Nat, j <= G.rules.length /\ i = .int .i64 j /\ wr.ownsRow (w.heap.size + 1) 3 1 v (ofI G.rules s j).length (ivs (ofI G.rules s j)) /\ Bx w ⟨a1, c1, a2, c2, a3, c3⟩ G wr) (fun _ i _ => G.rules.length - (intOf i).toNat)
 case atStart => exact ⟨0, Nat.zero_le _, rfl, HO.out, X.out⟩
 case round =>
  obtain ⟨j, hj, rfl, hO, hX⟩ := hrel
  obtain ⟨a', c', rfl⟩ := Sep.zAr hO
  clear HO X
  have X := zSg hX
  have HO := zSg hO
  have hle := zO6 G.rules s j
  clear hO hX
  by_cases hlt : j < G.rules.length
  ·obtain ⟨b, o, ra, rc, e, h1, h2, h3, h4, h5⟩ := K.out _ X.out.below j hlt
   have e1 := zAb hlt
   rw [← e1] at h1
   generalize G.rules[j].2 = rr at h2 h3 h4 h5
   try dsimp only at e
   subst e
   clear e1 h3
   by_cases hs : leftOf G.rules j = s
   ·have HI := zSg (zQQ hs)
    subst hs
    generalize leftOf G.rules j = s at *
    go_wp2_with (at_builtin; go_loud (refine wpList_append_own _ rfl _ _ 55 rfl (w.heap.size + 1) 3 i0 (.int .i64 0) 1 8 Tryz.underlying55 hi hz0 hz1 hz2 rfl (by decide) _ _ _ rfl ((HO.out.alloc _).alloc _) ⟨wr.heap.size + 1, 0, none⟩ 1 1 [iv j] rfl rfl ?c1 ?c2 ?c3 ?c4 ?c5 ?_))
    case c1 =>
     intro i u hi
     match i, hi with
     | 0, hi => simp at hi; subst hi; simp [Addr.add, iv]
    case c2 => intro u hu; simp at hu; subst hu; rfl
    case c3 => unfold maxLen; omega
    case c4 => omega
    case c5 => have := X.out.size; simp; omega
    intro v' w2 hown' hgrow _
    have X := zSg (((X.out.alloc _).alloc _).grown hgrow fun q hq => (HO.out.lt q hq).1)
    have HO := zSg (show w2.ownsRow (w.heap.size + 1) 3 1 v' (ofI G.rules s (j + 1)).length (ivs (ofI G.rules s (j + 1))) by rw [HI.out]; simpa [ivs] using hown')
    clear hown' hgrow
    go_wp2
    go_roundw
    case rel => exact ⟨j + 1, by omega, by go_num, HO.out, X.out⟩
    case measure => simp [intOf]; omega
   ·have HI := zSg (zNu hs)
    have hb : (leftOf G.rules j == s) = false := by simpa using hs
    clear hs
    go_wp2_with (at_builtin; fail)
    go_roundw
    case rel => exact ⟨j + 1, by omega, by go_num, by rw [HI.out]; exact HO.out.alloc _, X.out.alloc _⟩
    case measure => simp [intOf]; omega
  ·have hE : j = G.rules.length := by omega
   subst hE
   have HR := zSg (Sep.Reads.of_row HO.out)
   have HN := zSg (zFX (W := w) HO.out (by omega))
   go_wp2
   go_ret
   exact ⟨_, _, rfl, HR.out, HN.out, X.out.below⟩
