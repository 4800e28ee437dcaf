/-
  Package auto: Find: the first state with just these items.
-/
import Derived.Test.YtdccaegpoefmjaaGreatAutoGoto
import Derived.Test.YtdccaegpoefmjaaGreatItemSame
namespace Go.Proofs.YtdccaegpoefmjaaGreat.Au
open Go.RowKit Go.Maps
open Go.Proofs.YtdccaegpoefmjaaGreat.Gr (boxed drawn cell_new cell_old cell_later bool_of int_of ivs)
open Go.Proofs.YtdccaegpoefmjaaGreat.Im
set_option linter.unusedVariables false

/-- The first state with these items. -/
def findS (X : List Sta) (K : List Itm) : Int := match X.findIdx? fun s => decide (s.1 = K) with | some i => (i : Int) | none => -1
def NoneK (X : List Sta) (K : List Itm) (k : Nat) : Prop := ∀ j (h : j < X.length), j < k → X[j].1 ≠ K
theorem noneK_zero (X : List Sta) (K : List Itm) : NoneK X K 0 := fun _ _ h => absurd h (by omega)
theorem noneK_step {X : List Sta} {K : List Itm} {k : Nat} (h : NoneK X K k) (hk : k < X.length) (e : X[k].1 ≠ K) : NoneK X K (k + 1) := fun j hj hl => by
  by_cases he : j = k
  · subst he
    exact e
  · exact h j hj (by omega)
theorem findS_hit {X : List Sta} {K : List Itm} {k : Nat} (h : NoneK X K k) (hk : k < X.length) (e : X[k].1 = K) : findS X K = (k : Int) := by
  have : X.findIdx? (fun s => decide (s.1 = K)) = some k := by
    rw [List.findIdx?_eq_some_iff_getElem]
    exact ⟨hk, decide_eq_true e, fun j hj => by simpa using h j (by omega) hj⟩
  unfold findS
  rw [this]
theorem findS_end {X : List Sta} {K : List Itm} {k : Nat} (h : NoneK X K k) (hk : ¬ k < X.length) : findS X K = -1 := by
  have : X.findIdx? (fun s => decide (s.1 = K)) = none := by
    rw [List.findIdx?_eq_none_iff]
    intro x hx
    obtain ⟨j, hj, rfl⟩ := List.mem_iff_getElem.1 hx
    simpa using h j hj (by omega)
  unfold findS
  rw [this]

set_option maxRecDepth 100000 in
set_option maxHeartbeats 2000000 in
theorem equal_any (X Y : List Itm) (a b : Option Addr) (c d : Nat) (w : World) (hX : ItsA a X w) (hY : ItsA b Y w) (hl : X.length ≤ 1000000) :
    Calls Tryz.prog 27 #[.slice a X.length c, .slice b Y.length d] w (Gr.Is (.bool (decide (X = Y))) w) := by
  by_cases hn : X.length = Y.length
  · have KX := Lib.hid (fun w1 (k : Below w.heap.size w w1) => hX.went k)
    have KY := Lib.hid (fun w1 (k : Below w.heap.size w w1) => hY.went k)
    clear hX hY
    have mixed : Tryz.prog.follows .mixedOrders = true := by kernel_rfl
    have hne := ne_items
    have hgd := Tryz.eqGuardType41
    go_enter Tryz.func27, Tryz.ntmps27
    go_wp2
    go_loopw [13] (fun i wr => ∃ j : Nat, i = .int .i64 j ∧ j ≤ X.length ∧ SameTo X Y j ∧ Below w.heap.size w wr) (fun i _ => X.length - (intOf i).toNat)
    case atStart => exact ⟨0, rfl, Nat.zero_le _, fun i _ _ h => by omega, .refl _ _⟩
    case round =>
      obtain ⟨j, rfl, hj, hS, hB⟩ := hrel
      have HS := Lib.hid hS
      clear hS
      by_cases hlt : j < X.length
      · have hlt' : j < Y.length := by omega
        obtain ⟨b1, o1, rfl, p0, p1⟩ := (KX.out wr hB).at j hlt
        obtain ⟨b2, o2, rfl, q0, q1⟩ := (KY.out wr hB).at j hlt'
        have HN := Lib.hid (fun (e : X[j] = Y[j]) i (h1 : i < X.length) (h2 : i < Y.length) (h3 : i < j + 1) => show X[i] = Y[i] from by
          by_cases e' : i = j
          · subst e'
            exact e
          · exact HS.out i h1 h2 (by omega))
        have HD := Lib.hid (fun (e : ¬ X[j] = Y[j]) (k : X = Y) => e (by simp only [k]))
        generalize X[j] = x at *
        generalize Y[j] = y at *
        obtain ⟨x0, x1⟩ := x
        obtain ⟨y0, y1⟩ := y
        dsimp only at p0 p1 q0 q1
        go_wp2
        go_quiet (fail)
        have hb2 : Below w.heap.size w (wr.drewN nq) := hB.trans ⟨rfl, rfl, rfl, Nat.le_refl _, fun _ _ => rfl⟩
        generalize wr.drewN nq = wn at hb2 ⊢
        clear p0 p1 q0 q1 hB hne
        generalize hbb : eqB (x0, x1) (y0, y1) = bb
        cases bb with
        | true =>
          have HS2 := Lib.hid (show SameTo X Y (j + 1) from HN.out (eqB_iff.1 hbb))
          clear hbb HN HD HS
          go_wp2
          go_roundw
          case rel => exact ⟨j + 1, by go_num, by omega, HS2.out, hb2⟩
          case measure => simp [intOf]; omega
        | false =>
          have HE := Lib.hid (HD.out (of_decide_eq_false hbb))
          clear hbb HN HD HS
          go_wp2
          go_ret
          exact ⟨bool_of (decide_eq_false HE.out), hb2⟩
      · have hE : j = X.length := by omega
        have HE := Lib.hid (show X = Y from same_all hn (by rw [← hE]; exact HS.out))
        go_wp2
        go_ret
        exact ⟨bool_of (decide_eq_true HE.out), hB⟩
  · have hne : ¬ X = Y := fun e => hn (by rw [e])
    clear hX hY
    go_enter Tryz.func27, Tryz.ntmps27
    go_wp2
    go_ret
    exact ⟨bool_of (decide_eq_false hne), .refl _ _⟩

/-- What the closure of Find holds: the variable of the items. -/
structure CapI (q : Nat) (a : Option Addr) (c : Nat) (K : List Itm) (w : World) : Prop where
  cell : w.cell? ⟨q, 0, none⟩ = some (.slice a K.length c)
  its : ItsA a K w
theorem CapI.went {q : Nat} {a : Option Addr} {c : Nat} {K : List Itm} {w w' : World} (k : CapI q a c K w) (hb : Below w.heap.size w w') : CapI q a c K w' := ⟨cell_later hb k.cell, k.its.went hb⟩

set_option maxHeartbeats 1000000 in
theorem find_clo (q : Nat) (a : Option Addr) (c : Nat) (K : List Itm) (s : Sta) (a1 a2 : Option Addr) (c1 c2 : Nat) (w : World) (k : CapI q a c K w) (h1 : ItsA a1 s.1 w) (hl : s.1.length ≤ 1000000) :
    Calls Tryz.prog 26 #[.agg #[.slice a1 s.1.length c1, .slice a2 s.2.length c2], .pointer (some ⟨q, 0, none⟩)] w (Gr.Is (.bool (decide (s.1 = K))) w) := by
  have hb := boxed w (.cells #[.slice a1 s.1.length c1, .slice a2 s.2.length c2] 55)
  have EQ := Lib.hid (equal_any s.1 K a1 a c1 c _ (h1.went hb) (k.its.went hb) hl)
  have HB := Lib.hid hb
  have q0 := k.cell
  have hq : q < w.heap.size := World.block_lt_of_cell? w ⟨q, 0, none⟩ q0
  clear k h1 hb
  generalize decide (s.1 = K) = bb at EQ ⊢
  go_enter Tryz.func26, Tryz.ntmps26
  go_wp2_with (go_at_call 27; refine EQ.out.mono ?_; rintro e w1 ⟨rfl, hb⟩; have HB1 := Lib.hid (Gr.step HB.out hb); clear hb)
  go_ret
  exact ⟨rfl, HB1.out⟩

set_option maxRecDepth 100000 in
set_option maxHeartbeats 2000000 in
theorem index_any (q : Nat) (a0 : Option Addr) (c0 : Nat) (K : List Itm) (X : List Sta) (a : Option Addr) (c : Nat) (w : World) (k : CapI q a0 c0 K w) (hX : StaA a X w) (sm : Small X) :
    Calls Tryz.prog 25 #[.slice a X.length c, .func (.func 26) #[] #[.pointer (some ⟨q, 0, none⟩)]] w (Gr.Is (.int .i64 (findS X K)) w) := by
  have HX := Lib.hid (fun w1 (b : Below w.heap.size w w1) => hX.went b)
  have HK := Lib.hid (fun w1 (b : Below w.heap.size w w1) => k.went b)
  have SM := Lib.hid sm
  have hl := sm.len
  clear hX k sm
  go_enter Tryz.func25, Tryz.ntmps25
  go_wp2
  go_loopw [8] (fun i wr => ∃ j : Nat, j ≤ X.length ∧ i = .int .i64 j ∧ NoneK X K j ∧ Below w.heap.size w wr) (fun i _ => X.length - (intOf i).toNat)
  case atStart => exact ⟨0, Nat.zero_le _, rfl, noneK_zero _ _, .refl _ _⟩
  case round =>
    obtain ⟨j, hj, rfl, hN, hW⟩ := hrel
    have N := Lib.hid hN
    have HW := Lib.hid hW
    clear hN
    by_cases hlt : j < X.length
    · obtain ⟨b, o, a1, c1, a2, c2, rfl, z1, z2, i1, i2, l1, l2⟩ := HX.out wr hW j hlt
      have hs := SM.out.items _ (List.getElem_mem hlt)
      have NS := Lib.hid (fun e => noneK_step N.out hlt e)
      have NH := Lib.hid (fun e => findS_hit N.out hlt e)
      generalize X[j] = s at *
      have CL := Lib.hid (fun w1 (b : Below wr.heap.size wr w1) => find_clo q a0 c0 K s a1 a2 c1 c2 w1 (HK.out _ (Gr.step hW b)) (i1.went b) hs)
      clear hW i1 i2 l1 l2 hs
      by_cases he : s.1 = K
      · have E := Lib.hid (NH.out he)
        rw [decide_eq_true he] at CL
        clear NS NH he
        go_wp2_with (go_at_call 26; refine (CL.out _ (.refl _ _)).mono ?_; rintro e w1 ⟨rfl, hb⟩; have HB := Lib.hid (Gr.step HW.out hb); clear hb)
        go_ret
        exact ⟨int_of E.out, HB.out⟩
      · have E := Lib.hid (NS.out he)
        rw [decide_eq_false he] at CL
        clear NS NH he
        go_wp2_with (go_at_call 26; refine (CL.out _ (.refl _ _)).mono ?_; rintro e w1 ⟨rfl, hb⟩; have HB := Lib.hid (Gr.step HW.out hb); clear hb)
        go_roundw
        case rel => exact ⟨j + 1, by omega, by go_num, E.out, HB.out⟩
        case measure => simp [intOf]; omega
    · have E := Lib.hid (findS_end N.out hlt)
      clear hW
      go_wp2
      go_ret
      exact ⟨int_of E.out, HW.out⟩

set_option maxHeartbeats 1000000 in
theorem find_any (X : List Sta) (K : List Itm) (a b : Option Addr) (c d : Nat) (w : World) (hX : StaA a X w) (sm : Small X) (hK : ItsA b K w) :
    Calls Tryz.prog 11 #[.slice a X.length c, .slice b K.length d] w (Gr.Is (.int .i64 (findS X K)) w) := by
  have hb := boxed w (.cells #[.slice b K.length d] 42)
  have IX := Lib.hid (index_any w.heap.size b d K X a c _ ⟨cell_new rfl rfl, hK.went hb⟩ (hX.went hb) sm)
  have HB := Lib.hid hb
  clear hX sm hK hb
  generalize findS X K = m at IX ⊢
  go_enter Tryz.func11, Tryz.ntmps11
  go_wp2_with (go_at_call 25; refine IX.out.mono ?_; rintro e w1 ⟨rfl, hb⟩; have HB1 := Lib.hid (Gr.step HB.out hb); clear hb)
  go_ret
  exact ⟨rfl, HB1.out⟩

end Go.Proofs.YtdccaegpoefmjaaGreat.Au
