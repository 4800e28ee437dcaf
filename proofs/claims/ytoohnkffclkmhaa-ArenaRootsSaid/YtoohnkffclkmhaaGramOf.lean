/-
  Package gram: Of: a new list of the numbers of a symbol's rules.
-/
import Derived.Test.YtoohnkffclkmhaaGramFind
namespace Go.Proofs.Ytoohnkffclkmhaa.Gr
open Go.RowKit Go.Maps

theorem info_int : (Try.prog.info? 3).map (fun i => (i.zero, i.size, i.bytes)) = some (some (.int .i64 0), 1, 8) := by kernel_rfl

/-- The values of numbers. -/
def iv (i : Int) : Value := .int .i64 i
def ivs (l : List Int) : List Value := l.map iv
theorem ivs_length (l : List Int) : (ivs l).length = l.length := by simp [ivs]
theorem ivs_snoc (l : List Int) (x : Int) : ivs (l ++ [x]) = ivs l ++ [iv x] := by simp [ivs]

/-- The numbers of a symbol's rules, among the first k, as the program's numbers. -/
def ofI (R : List (Int × List Int)) (s : Int) (k : Nat) : List Int := (ofTo R s k).map fun i : Nat => (i : Int)
def ofL (G : Gram) (s : Int) : List Int := ofI G.rules s G.rules.length
theorem ofL_length (G : Gram) (s : Int) : (ofL G s).length = (ofN G s).length := by simp [ofL, ofI, ofN]
theorem ofI_le (R : List (Int × List Int)) (s : Int) (k : Nat) : (ofI R s k).length ≤ k := by
  have := ofTo_le R s k
  simpa [ofI] using this
theorem ofI_hit {R : List (Int × List Int)} {s : Int} {k : Nat} (h : leftOf R k = s) : ofI R s (k + 1) = ofI R s k ++ [(k : Int)] := by simp [ofI, ofTo_hit h]
theorem ofI_miss {R : List (Int × List Int)} {s : Int} {k : Nat} (h : ¬ leftOf R k = s) : ofI R s (k + 1) = ofI R s k := by simp [ofI, ofTo_miss h]

/-- What lies there is new. -/
def New (a : Option Addr) (w : World) : Prop := ∀ x, a = some x → w.heap.size ≤ x.block
theorem row_new {W w : World} {base n c : Nat} {e : TypeId} {a : Option Addr} {xs : List Value} (h : w.ownsRow base e 1 (.slice a n c) n xs) (hb : W.heap.size ≤ base) : New a W := by
  rintro x rfl
  rcases h.2 with ⟨h1, _⟩ | ⟨g, cap, cur, h1, h2, _⟩
  · cases h1
  · simp only [Value.slice.injEq, Option.some.injEq] at h1
    obtain ⟨rfl, _⟩ := h1
    simp
    omega

/-- A new list of numbers comes back; nothing that was there is written. -/
def Listed (l : List Int) (w : World) (e : Ending) (w' : World) : Prop :=
  ∃ a c, e = .returned (.slice a l.length c) ∧ Sep.Reads a (ivs l) w' ∧ New a w ∧ Below w.heap.size w w'

set_option maxHeartbeats 2000000 in
set_option maxRecDepth 100000 in
theorem of_any (h : Sh) (G : Gram) (s : Int) (w : World) (k : GAt h G w) (hr : G.rules.length ≤ 65536) :
    Calls Try.prog 55 #[gv h G, .int .i64 s] w (Listed (ofL G s) w) := by
  obtain ⟨i0, hi, hz0, hz1, hz2⟩ := info_parts info_int
  obtain ⟨a1, c1, a2, c2, a3, c3⟩ := h
  have hc3 := k.r2
  have X := Lib.hid (Bx.start ⟨a1, c1, a2, c2, a3, c3⟩ G w 43)
  have K := Lib.hid (fun w1 (b : Below w.heap.size w w1) => (k.went b).rules)
  clear k
  have HO := Lib.hid (show (w.alloc (.cells #[.slice a1 G.terms.length c1, .slice a2 G.nons.length c2, .slice a3 G.rules.length c3, .int .i64 G.start] 43)).ownsRow (w.heap.size + 1) 3 1 (.slice none 0 0) (ofI G.rules s 0).length (ivs (ofI G.rules s 0)) from ⟨rfl, .inl ⟨rfl, rfl⟩⟩)
  unfold gv
  dsimp only
  go_enter Try.func55, Try.ntmps55
  go_wp2
  go_loopw [5, 11] (fun v i wr => ∃ j : Nat, j ≤ G.rules.length ∧ i = .int .i64 j ∧ wr.ownsRow (w.heap.size + 1) 3 1 v (ofI G.rules s j).length (ivs (ofI G.rules s j)) ∧ Bx w ⟨a1, c1, a2, c2, a3, c3⟩ G wr) (fun _ i _ => G.rules.length - (intOf i).toNat)
  case atStart => exact ⟨0, Nat.zero_le _, rfl, HO.out, X.out⟩
  case round =>
    obtain ⟨j, hj, rfl, hO, hX⟩ := hrel
    obtain ⟨a', c', rfl⟩ := Sep.ownsRow_shape hO
    clear HO X
    have X := Lib.hid hX
    have HO := Lib.hid hO
    have hle := ofI_le G.rules s j
    clear hO hX
    by_cases hlt : j < G.rules.length
    · obtain ⟨b, o, ra, rc, e, h1, h2, h3, h4, h5⟩ := K.out _ X.out.below j hlt
      have e1 := leftOf_get hlt
      rw [← e1] at h1
      generalize G.rules[j].2 = rr at h2 h3 h4 h5
      try dsimp only at e
      subst e
      clear e1 h3
      by_cases hs : leftOf G.rules j = s
      · have HI := Lib.hid (ofI_hit hs)
        subst hs
        generalize leftOf G.rules j = s at *
        go_wp2_with (at_builtin; go_loud (refine wpList_append_own _ rfl _ _ 25 rfl (w.heap.size + 1) 3 i0 (.int .i64 0) 1 8 Try.underlying25 hi hz0 hz1 hz2 rfl (by decide) _ _ _ rfl ((HO.out.alloc _).alloc _) ⟨wr.heap.size + 1, 0, none⟩ 1 1 [iv j] rfl rfl ?c1 ?c2 ?c3 ?c4 ?c5 ?_))
        case c1 =>
          intro i u hi
          match i, hi with
          | 0, hi => simp at hi; subst hi; simp [Addr.add, iv]
        case c2 => intro u hu; simp at hu; subst hu; rfl
        case c3 => unfold maxLen; omega
        case c4 => omega
        case c5 => have := X.out.size; simp; omega
        intro v' w2 hown' hgrow _
        have X := Lib.hid (((X.out.alloc _).alloc _).grown hgrow fun q hq => (HO.out.lt q hq).1)
        have HO := Lib.hid (show w2.ownsRow (w.heap.size + 1) 3 1 v' (ofI G.rules s (j + 1)).length (ivs (ofI G.rules s (j + 1))) by rw [HI.out]; simpa [ivs] using hown')
        clear hown' hgrow
        go_wp2
        go_roundw
        case rel => exact ⟨j + 1, by omega, by go_num, HO.out, X.out⟩
        case measure => simp [intOf]; omega
      · have HI := Lib.hid (ofI_miss hs)
        have hb : (leftOf G.rules j == s) = false := by simpa using hs
        clear hs
        go_wp2_with (at_builtin; fail)
        go_roundw
        case rel => exact ⟨j + 1, by omega, by go_num, by rw [HI.out]; exact HO.out.alloc _, X.out.alloc _⟩
        case measure => simp [intOf]; omega
    · have hE : j = G.rules.length := by omega
      subst hE
      have HR := Lib.hid (Sep.Reads.of_row HO.out)
      have HN := Lib.hid (row_new (W := w) HO.out (by omega))
      go_wp2
      go_ret
      exact ⟨_, _, rfl, HR.out, HN.out, X.out.below⟩

end Go.Proofs.Ytoohnkffclkmhaa.Gr
