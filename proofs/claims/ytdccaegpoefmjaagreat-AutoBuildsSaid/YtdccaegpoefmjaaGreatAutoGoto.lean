/-
  Package auto: within, Goto, Walk: where a symbol leads, and a way.
-/
import Derived.Test.YtdccaegpoefmjaaGreatAutoAt
import Derived.Test.YtdccaegpoefmjaaGreatMAutoP
import Derived.Test.YtdccaegpoefmjaaGreatGramOf
namespace Go.Proofs.YtdccaegpoefmjaaGreat.Au
open Go.RowKit Go.Maps
open Go.Proofs.YtdccaegpoefmjaaGreat.Gr (boxed drawn cell_new cell_old cell_later bool_of int_of ivs)
open Go.Proofs.YtdccaegpoefmjaaGreat.Im
set_option linter.unusedVariables false

/-- No list is long. -/
structure Small (X : List Sta) : Prop where
  len : X.length ≤ 1000000
  items : ∀ s ∈ X, s.1.length ≤ 1000000
  trans : ∀ s ∈ X, s.2.length ≤ 1000000
def inB (X : List Sta) (i : Int) : Bool := decide (0 ≤ i ∧ i < (X.length : Int))
def transOf (X : List Sta) (i : Nat) : List (Int × Int) := (X.getD i ([], [])).2
/-- Where symbol s leads from state i. -/
def gotoS (X : List Sta) (i s : Int) : Int := if inB X i then leads (transOf X i.toNat) s else -1
/-- Where a way leads, the last symbol's number as it stands. -/
def walkF (X : List Sta) (i : Int) (way : List Int) : Int := if inB X i then way.foldl (gotoS X) i else -1
theorem inB_nat {X : List Sta} {i : Nat} (h : i < X.length) : inB X (i : Int) = true := decide_eq_true ⟨by omega, by omega⟩
theorem inB_iff {X : List Sta} {i : Int} : inB X i = true ↔ 0 ≤ i ∧ i < (X.length : Int) := decide_eq_true_iff
theorem gotoS_in {X : List Sta} {i : Nat} (h : i < X.length) (s : Int) : gotoS X (i : Int) s = leads X[i].2 s := by
  unfold gotoS transOf
  rw [inB_nat h, if_pos rfl, Int.toNat_natCast, List.getD_eq_getElem?_getD, List.getElem?_eq_getElem h]
  rfl
theorem gotoS_out {X : List Sta} {i : Int} (h : inB X i = false) (s : Int) : gotoS X i s = -1 := by
  unfold gotoS
  rw [h, if_neg Bool.false_ne_true]
/-- None of the first k is by the symbol. -/
def NoneS (tr : List (Int × Int)) (s : Int) (k : Nat) : Prop := ∀ j (h : j < tr.length), j < k → tr[j].1 ≠ s
theorem noneS_zero (tr : List (Int × Int)) (s : Int) : NoneS tr s 0 := fun _ _ h => absurd h (by omega)
theorem noneS_step {tr : List (Int × Int)} {s : Int} {k : Nat} (h : NoneS tr s k) (hk : k < tr.length) (e : tr[k].1 ≠ s) : NoneS tr s (k + 1) := fun j hj hl => by
  by_cases he : j = k
  · subst he
    exact e
  · exact h j hj (by omega)
theorem leads_hit {tr : List (Int × Int)} {s : Int} {k : Nat} (h : NoneS tr s k) (hk : k < tr.length) (e : tr[k].1 = s) : leads tr s = tr[k].2 := by
  unfold leads
  have : tr.find? (fun x => decide (x.1 = s)) = some tr[k] := by
    rw [List.find?_eq_some_iff_getElem]
    exact ⟨decide_eq_true e, k, hk, rfl, fun j hj => by
      have := h j (by omega) hj
      simpa using this⟩
  rw [this]
  rfl
theorem leads_end {tr : List (Int × Int)} {s : Int} {k : Nat} (h : NoneS tr s k) (hk : ¬ k < tr.length) : leads tr s = -1 := by
  unfold leads
  have : tr.find? (fun x => decide (x.1 = s)) = none := by
    rw [List.find?_eq_none]
    intro x hx
    obtain ⟨j, hj, rfl⟩ := List.mem_iff_getElem.1 hx
    have := h j hj (by omega)
    simpa using this
  rw [this]
  rfl

set_option maxHeartbeats 1000000 in
theorem within_any (X : List Sta) (a : Option Addr) (c : Nat) (i : Int) (w : World) (hl : X.length ≤ 1000000) :
    Calls Tryz.prog 24 #[.slice a X.length c, .int .i64 i] w (Gr.Is (.bool (inB X i)) w) := by
  unfold inB
  generalize X.length = n at *
  by_cases h0 : 0 ≤ i
  · by_cases h1 : i < (n : Int)
    · rw [decide_eq_true (p := 0 ≤ i ∧ i < (n : Int)) ⟨h0, h1⟩]
      go_enter Tryz.func24, Tryz.ntmps24
      go_wp2
      go_ret
      exact ⟨rfl, .refl _ _⟩
    · rw [decide_eq_false (p := 0 ≤ i ∧ i < (n : Int)) (fun q => h1 q.2)]
      go_enter Tryz.func24, Tryz.ntmps24
      go_wp2
      go_ret
      exact ⟨rfl, .refl _ _⟩
  · rw [decide_eq_false (p := 0 ≤ i ∧ i < (n : Int)) (fun q => h0 q.1)]
    have h2 : i < 0 := by omega
    go_enter Tryz.func24, Tryz.ntmps24
    go_wp2
    go_ret
    exact ⟨rfl, .refl _ _⟩

set_option maxRecDepth 100000 in
set_option maxHeartbeats 2000000 in
theorem goto_any (X : List Sta) (a : Option Addr) (c : Nat) (i s : Int) (w : World) (hX : StaA a X w) (sm : Small X) :
    Calls Tryz.prog 9 #[.slice a X.length c, .int .i64 i, .int .i64 s] w (Gr.Is (.int .i64 (gotoS X i s)) w) := by
  have WI := Lib.hid (fun w1 => within_any X a c i w1 sm.len)
  have hxl := sm.len
  cases hin : inB X i with
  | false =>
    rw [gotoS_out hin]
    rw [hin] at WI
    clear hX hin
    go_enter Tryz.func9, Tryz.ntmps9
    go_wp2_with (go_at_call 24; refine (WI.out _).mono ?_; rintro e w1 ⟨rfl, hb⟩; have HB := Lib.hid hb; clear hb)
    go_ret
    exact ⟨rfl, HB.out⟩
  | true =>
    rw [hin] at WI
    obtain ⟨h0, h1⟩ := inB_iff.1 hin
    obtain ⟨k, rfl⟩ := Int.eq_ofNat_of_zero_le h0
    have hk : k < X.length := by omega
    rw [gotoS_in hk]
    obtain ⟨b, o, a1, c1, a2, c2, rfl, z1, z2, i1, i2, l1, l2⟩ := hX k hk
    have TR := Lib.hid (fun w1 (b : Below w.heap.size w w1) => i2.went b)
    have hsm := sm.trans _ (List.getElem_mem hk)
    have Z2 := Lib.hid (fun w1 (b : Below w.heap.size w w1) => cell_later b z2)
    clear hX sm z1 z2 i1 i2 l1 hin h0 h1
    generalize X[k].2 = tr at *
    generalize X.length = n at *
    go_enter Tryz.func9, Tryz.ntmps9
    go_wp2_with (go_at_call 24; refine (WI.out _).mono ?_; rintro e w1 ⟨rfl, hb⟩; have HB := Lib.hid hb; have q2 := Z2.out _ hb; clear hb)
    go_loopw [19] (fun q wr => ∃ j : Nat, q = .int .i64 j ∧ j ≤ tr.length ∧ NoneS tr s j ∧ Below w.heap.size w wr) (fun q _ => tr.length - (intOf q).toNat)
    case atStart => exact ⟨0, rfl, Nat.zero_le _, noneS_zero _ _, HB.out⟩
    case round =>
      obtain ⟨j, rfl, hj, hN, hW⟩ := hrel
      have N := Lib.hid hN
      have HW := Lib.hid hW
      clear hN
      by_cases hlt : j < tr.length
      · obtain ⟨b2, o2, rfl, p0, p1⟩ := (TR.out wr hW).at j hlt
        have NS := Lib.hid (fun e => noneS_step N.out hlt e)
        have NH := Lib.hid (fun e => leads_hit N.out hlt e)
        have e1 : ((tr[j].1, tr[j].2) : Itm) = tr[j] := rfl
        generalize tr[j] = x at *
        obtain ⟨x0, x1⟩ := x
        dsimp only at p0 p1
        clear e1 hW
        have HA := Lib.hid (Gr.step HW.out (boxed wr (.cells #[.int .i64 x0, .int .i64 x1] 59)))
        by_cases he : x0 = s
        · have E := Lib.hid (NH.out he)
          subst he
          clear NS NH
          go_wp2
          go_ret
          exact ⟨int_of E.out, HA.out⟩
        · have E := Lib.hid (NS.out he)
          clear NS NH
          go_wp2
          go_roundw
          case rel => exact ⟨j + 1, by go_num, by omega, E.out, HA.out⟩
          case measure => simp [intOf]; omega
      · have E := Lib.hid (leads_end N.out hlt)
        clear hW
        go_wp2
        go_ret
        exact ⟨int_of E.out, HW.out⟩

set_option maxRecDepth 100000 in
set_option maxHeartbeats 2000000 in
theorem walk_any (X : List Sta) (a : Option Addr) (c : Nat) (i : Int) (L : List Int) (al : Option Addr) (cl : Nat) (w : World) (hX : StaA a X w) (sm : Small X) (hL : Sep.Reads al (ivs L) w) (hl : L.length ≤ 1000000) :
    Calls Tryz.prog 10 #[.slice a X.length c, .int .i64 i, .slice al L.length cl] w (Gr.Is (.int .i64 (walkF X i L)) w) := by
  have WI := Lib.hid (fun w1 => within_any X a c i w1 sm.len)
  unfold walkF
  cases hin : inB X i with
  | false =>
    rw [hin] at WI
    clear hX sm hL
    go_enter Tryz.func10, Tryz.ntmps10
    go_wp2_with (go_at_call 24; refine (WI.out _).mono ?_; rintro e w1 ⟨rfl, hb⟩; have HB := Lib.hid hb; clear hb)
    go_ret
    exact ⟨by simp, HB.out⟩
  | true =>
    rw [hin] at WI
    have GO := Lib.hid (fun i s w1 (b : Below w.heap.size w w1) => goto_any X a c i s w1 (hX.went b) sm)
    have RL := Lib.hid (fun w1 (b : Below w.heap.size w w1) => hL.below b (Nat.le_refl _))
    rw [if_pos rfl]
    clear hX sm hL hin
    generalize X.length = n at *
    go_enter Tryz.func10, Tryz.ntmps10
    go_wp2_with (go_at_call 24; refine (WI.out _).mono ?_; rintro e w1 ⟨rfl, hb⟩; have HB := Lib.hid hb; clear hb)
    go_loopw [1, 15] (fun v q wr => ∃ j : Nat, q = .int .i64 j ∧ j ≤ L.length ∧ v = .int .i64 ((L.take j).foldl (gotoS X) i) ∧ Below w.heap.size w wr) (fun _ q _ => L.length - (intOf q).toNat)
    case atStart => exact ⟨0, rfl, Nat.zero_le _, rfl, HB.out⟩
    case round =>
      obtain ⟨j, rfl, hj, rfl, hW⟩ := hrel
      have HW := Lib.hid hW
      by_cases hlt : j < L.length
      · obtain ⟨b1, o1, ea, h1⟩ := RL.out wr hW j (by simpa [ivs] using hlt)
        simp only [ivs, List.getElem_map, Gr.iv] at h1
        have EX := Lib.hid (show (L.take (j + 1)).foldl (gotoS X) i = gotoS X ((L.take j).foldl (gotoS X) i) L[j] from by rw [List.take_succ_eq_append_getElem hlt, List.foldl_append]; rfl)
        subst ea
        generalize L[j] = s at *
        have GX := Lib.hid (GO.out ((L.take j).foldl (gotoS X) i) s wr hW)
        generalize (L.take j).foldl (gotoS X) i = v0 at GX EX ⊢
        clear hW
        go_wp2_with (go_at_call 9; refine GX.out.mono ?_; rintro e w2 ⟨rfl, hb⟩; have HB2 := Lib.hid (Gr.step HW.out hb); clear hb)
        go_roundw
        case rel => exact ⟨j + 1, by go_num, by omega, by rw [EX.out], HB2.out⟩
        case measure => simp [intOf]; omega
      · have hE : j = L.length := by omega
        subst hE
        rw [List.take_length]
        clear hW
        go_wp2
        go_ret
        exact ⟨rfl, HW.out⟩

end Go.Proofs.YtdccaegpoefmjaaGreat.Au
