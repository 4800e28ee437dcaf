/-
  Package auto: Find: the first state with just these items.
  Package auto: within, Goto: where a symbol leads; a way through states, as the document has it: the state that is reached, or -1.
  Package auto: Walk: where a way leads. (As Walk stands at 03a0067: it asks at the end whether a state is reached.)
-/
import Derived.Test.YtjjmoonajijnmaaAutoAt
import Derived.Test.YtjjmoonajijnmaaMAutoP
import Derived.Test.YtjjmoonajijnmaaGramOf
import Derived.Test.YtjjmoonajijnmaaItemSame
namespace Go.Proofs.Ytjjmoonajijnmaa.Au
open Go.RowKit Go.Maps
open Go.Proofs.Ytjjmoonajijnmaa.Gr (boxed drawn cell_new cell_old cell_later bool_of int_of ivs)
open Go.Proofs.Ytjjmoonajijnmaa.Im
set_option linter.unusedVariables false

/-- No list is long. -/
structure Small (X : List Sta) : Prop where
  len : X.length ≤ 1000000
  items : ∀ s ∈ X, s.1.length ≤ 1000000
  trans : ∀ s ∈ X, s.2.length ≤ 1000000
def inB (X : List Sta) (i : Int) : Bool := decide (0 ≤ i ∧ i < (X.length : Int))
def transOf (X : List Sta) (i : Nat) : List (Int × Int) := (X.getD i ([], [])).2
/-- Where symbol s leads from state i. -/
def gotoS (X : List Sta) (i s : Int) : Int := if inB X i then leads (transOf X i.toNat) s else -1
theorem inB_nat {X : List Sta} {i : Nat} (h : i < X.length) : inB X (i : Int) = true := decide_eq_true ⟨by omega, by omega⟩
theorem inB_iff {X : List Sta} {i : Int} : inB X i = true ↔ 0 ≤ i ∧ i < (X.length : Int) := decide_eq_true_iff
theorem gotoS_in {X : List Sta} {i : Nat} (h : i < X.length) (s : Int) : gotoS X (i : Int) s = leads X[i].2 s := by
  unfold gotoS transOf
  rw [inB_nat h, if_pos rfl, Int.toNat_natCast, List.getD_eq_getElem?_getD, List.getElem?_eq_getElem h]
  rfl
theorem gotoS_out {X : List Sta} {i : Int} (h : inB X i = false) (s : Int) : gotoS X i s = -1 := by
  unfold gotoS
  rw [h, if_neg Bool.false_ne_true]
/-- None of the first k is by the symbol. -/
def NoneS (tr : List (Int × Int)) (s : Int) (k : Nat) : Prop := ∀ j (h : j < tr.length), j < k → tr[j].1 ≠ s
theorem noneS_zero (tr : List (Int × Int)) (s : Int) : NoneS tr s 0 := fun _ _ h => absurd h (by omega)
theorem noneS_step {tr : List (Int × Int)} {s : Int} {k : Nat} (h : NoneS tr s k) (hk : k < tr.length) (e : tr[k].1 ≠ s) : NoneS tr s (k + 1) := fun j hj hl => by
  by_cases he : j = k
  · subst he
    exact e
  · exact h j hj (by omega)
theorem leads_hit {tr : List (Int × Int)} {s : Int} {k : Nat} (h : NoneS tr s k) (hk : k < tr.length) (e : tr[k].1 = s) : leads tr s = tr[k].2 := by
  unfold leads
  have : tr.find? (fun x => decide (x.1 = s)) = some tr[k] := by
    rw [List.find?_eq_some_iff_getElem]
    exact ⟨decide_eq_true e, k, hk, rfl, fun j hj => by
      have := h j (by omega) hj
      simpa using this⟩
  rw [this]
  rfl
theorem leads_end {tr : List (Int × Int)} {s : Int} {k : Nat} (h : NoneS tr s k) (hk : ¬ k < tr.length) : leads tr s = -1 := by
  unfold leads
  have : tr.find? (fun x => decide (x.1 = s)) = none := by
    rw [List.find?_eq_none]
    intro x hx
    obtain ⟨j, hj, rfl⟩ := List.mem_iff_getElem.1 hx
    have := h j hj (by omega)
    simpa using this
  rw [this]
  rfl

/-! ### A way -/

/-- The state that is reached, or -1. -/
def walkS (X : List Sta) (i : Int) : List Int → Int
  | [] => if inB X i then i else -1
  | s :: way => if inB X i then walkS X (gotoS X i s) way else -1
theorem inB_neg (X : List Sta) : inB X (-1) = false := decide_eq_false (fun h => by omega)
theorem walkS_out {X : List Sta} {i : Int} (h : inB X i = false) (way : List Int) : walkS X i way = -1 := by
  cases way with
  | nil => simp [walkS, h]
  | cons s way => simp [walkS, h]
theorem walkS_nil {X : List Sta} {i : Int} (h : inB X i = true) : walkS X i [] = i := by simp [walkS, h]
theorem walkS_cons (X : List Sta) (i s : Int) (way : List Int) : walkS X i (s :: way) = walkS X (gotoS X i s) way := by
  cases h : inB X i with
  | true => simp [walkS, h]
  | false => rw [walkS_out h, gotoS_out h, walkS_out (inB_neg X)]
theorem walkS_drop {X : List Sta} {L : List Int} {j : Nat} (h : j < L.length) (v : Int) : walkS X v (L.drop j) = walkS X (gotoS X v L[j]) (L.drop (j + 1)) := by
  rw [List.drop_eq_getElem_cons h, walkS_cons]
/-- As the plain facts have it. -/
theorem walkP_s {X : List Sta} {ts : List (List (Int × Int))} (e : ∀ i (h : i < X.length), X[i].2 = ts.getD i []) : ∀ (way : List Int) (i : Int), walkP X.length ts i way = walkS X i way
  | [], i => by
    unfold walkP walkS inB
    by_cases hi : 0 ≤ i ∧ i < (X.length : Int)
    · rw [if_pos hi, decide_eq_true hi, if_pos rfl]
    · rw [if_neg hi, decide_eq_false hi, if_neg Bool.false_ne_true]
  | s :: way, i => by
    have hw : walkP X.length ts i (s :: way) = if 0 ≤ i ∧ i < (X.length : Int) then walkP X.length ts (gotoP X.length ts i s) way else -1 := rfl
    rw [hw, walkS_cons]
    by_cases hi : 0 ≤ i ∧ i < (X.length : Int)
    · rw [if_pos hi, walkP_s e way]
      obtain ⟨n, rfl⟩ := Int.eq_ofNat_of_zero_le hi.1
      have hn : n < X.length := by omega
      congr 1
      rw [gotoS_in hn, e n hn]
      unfold gotoP
      rw [if_pos hi, Int.toNat_natCast]
    · rw [if_neg hi, gotoS_out (decide_eq_false hi), walkS_out (inB_neg X)]

set_option maxHeartbeats 1000000 in
theorem within_any (X : List Sta) (a : Option Addr) (c : Nat) (i : Int) (w : World) (hl : X.length ≤ 1000000) :
    Calls Try.prog 23 #[.slice a X.length c, .int .i64 i] w (Gr.Is (.bool (inB X i)) w) := by
  unfold inB
  generalize X.length = n at *
  by_cases h0 : 0 ≤ i
  · by_cases h1 : i < (n : Int)
    · rw [decide_eq_true (p := 0 ≤ i ∧ i < (n : Int)) ⟨h0, h1⟩]
      go_enter Try.func23, Try.ntmps23
      go_wp2
      go_ret
      exact ⟨rfl, .refl _ _⟩
    · rw [decide_eq_false (p := 0 ≤ i ∧ i < (n : Int)) (fun q => h1 q.2)]
      go_enter Try.func23, Try.ntmps23
      go_wp2
      go_ret
      exact ⟨rfl, .refl _ _⟩
  · rw [decide_eq_false (p := 0 ≤ i ∧ i < (n : Int)) (fun q => h0 q.1)]
    have h2 : i < 0 := by omega
    go_enter Try.func23, Try.ntmps23
    go_wp2
    go_ret
    exact ⟨rfl, .refl _ _⟩

set_option maxRecDepth 100000 in
set_option maxHeartbeats 2000000 in
theorem goto_any (X : List Sta) (a : Option Addr) (c : Nat) (i s : Int) (w : World) (hX : StaA a X w) (sm : Small X) :
    Calls Try.prog 9 #[.slice a X.length c, .int .i64 i, .int .i64 s] w (Gr.Is (.int .i64 (gotoS X i s)) w) := by
  have WI := Lib.hid (fun w1 => within_any X a c i w1 sm.len)
  have hxl := sm.len
  cases hin : inB X i with
  | false =>
    rw [gotoS_out hin]
    rw [hin] at WI
    clear hX hin
    go_enter Try.func9, Try.ntmps9
    go_wp2_with (go_at_call 23; refine (WI.out _).mono ?_; rintro e w1 ⟨rfl, hb⟩; have HB := Lib.hid hb; clear hb)
    go_ret
    exact ⟨rfl, HB.out⟩
  | true =>
    rw [hin] at WI
    obtain ⟨h0, h1⟩ := inB_iff.1 hin
    obtain ⟨k, rfl⟩ := Int.eq_ofNat_of_zero_le h0
    have hk : k < X.length := by omega
    rw [gotoS_in hk]
    obtain ⟨b, o, a1, c1, a2, c2, rfl, z1, z2, i1, i2, l1, l2⟩ := hX k hk
    have TR := Lib.hid (fun w1 (b : Below w.heap.size w w1) => i2.went b)
    have hsm := sm.trans _ (List.getElem_mem hk)
    have Z2 := Lib.hid (fun w1 (b : Below w.heap.size w w1) => cell_later b z2)
    clear hX sm z1 z2 i1 i2 l1 hin h0 h1
    generalize X[k].2 = tr at *
    generalize X.length = n at *
    go_enter Try.func9, Try.ntmps9
    go_wp2_with (go_at_call 23; refine (WI.out _).mono ?_; rintro e w1 ⟨rfl, hb⟩; have HB := Lib.hid hb; have q2 := Z2.out _ hb; clear hb)
    go_loopw [19] (fun q wr => ∃ j : Nat, q = .int .i64 j ∧ j ≤ tr.length ∧ NoneS tr s j ∧ Below w.heap.size w wr) (fun q _ => tr.length - (intOf q).toNat)
    case atStart => exact ⟨0, rfl, Nat.zero_le _, noneS_zero _ _, HB.out⟩
    case round =>
      obtain ⟨j, rfl, hj, hN, hW⟩ := hrel
      have N := Lib.hid hN
      have HW := Lib.hid hW
      clear hN
      by_cases hlt : j < tr.length
      · obtain ⟨b2, o2, rfl, p0, p1⟩ := (TR.out wr hW).at j hlt
        have NS := Lib.hid (fun e => noneS_step N.out hlt e)
        have NH := Lib.hid (fun e => leads_hit N.out hlt e)
        have e1 : ((tr[j].1, tr[j].2) : Itm) = tr[j] := rfl
        generalize tr[j] = x at *
        obtain ⟨x0, x1⟩ := x
        dsimp only at p0 p1
        clear e1 hW
        have HA := Lib.hid (Gr.step HW.out (boxed wr (.cells #[.int .i64 x0, .int .i64 x1] 42)))
        by_cases he : x0 = s
        · have E := Lib.hid (NH.out he)
          subst he
          clear NS NH
          go_wp2
          go_ret
          exact ⟨int_of E.out, HA.out⟩
        · have E := Lib.hid (NS.out he)
          clear NS NH
          go_wp2
          go_roundw
          case rel => exact ⟨j + 1, by go_num, by omega, E.out, HA.out⟩
          case measure => simp [intOf]; omega
      · have E := Lib.hid (leads_end N.out hlt)
        clear hW
        go_wp2
        go_ret
        exact ⟨int_of E.out, HW.out⟩

end Go.Proofs.Ytjjmoonajijnmaa.Au

namespace Go.Proofs.Ytjjmoonajijnmaa.Au
open Go.RowKit Go.Maps
open Go.Proofs.Ytjjmoonajijnmaa.Gr (boxed drawn cell_new cell_old cell_later bool_of int_of ivs)
open Go.Proofs.Ytjjmoonajijnmaa.Im
set_option linter.unusedVariables false

set_option maxRecDepth 100000 in
set_option maxHeartbeats 2000000 in
theorem walk_any (X : List Sta) (a : Option Addr) (c : Nat) (i : Int) (L : List Int) (al : Option Addr) (cl : Nat) (w : World) (hX : StaA a X w) (sm : Small X) (hL : Sep.Reads al (ivs L) w) (hl : L.length ≤ 1000000) :
    Calls Try.prog 11 #[.slice a X.length c, .int .i64 i, .slice al L.length cl] w (Gr.Is (.int .i64 (walkS X i L)) w) := by
  have WI := Lib.hid (fun j w1 => within_any X a c j w1 sm.len)
  have GO := Lib.hid (fun i s w1 (b : Below w.heap.size w w1) => goto_any X a c i s w1 (hX.went b) sm)
  have RL := Lib.hid (fun w1 (b : Below w.heap.size w w1) => hL.below b (Nat.le_refl _))
  have OUT := Lib.hid (fun v (h : inB X v = false) way => walkS_out (X := X) h way)
  have NIL := Lib.hid (fun v (h : inB X v = true) => walkS_nil (X := X) h)
  have DR := Lib.hid (fun j (h : j < L.length) v => walkS_drop (X := X) h v)
  obtain ⟨r, hr⟩ : ∃ r, walkS X i L = r := ⟨_, rfl⟩
  rw [hr]
  have HR := Lib.hid hr
  clear hX sm hL hr
  generalize X.length = n at *
  go_enter Try.func11, Try.ntmps11
  go_wp2
  go_loopw [1, 11] (fun v q wr => ∃ (j : Nat) (z : Int), q = .int .i64 j ∧ j ≤ L.length ∧ v = .int .i64 z ∧ walkS X z (L.drop j) = r ∧ Below w.heap.size w wr) (fun _ q _ => L.length - (intOf q).toNat)
  case atStart => exact ⟨0, i, rfl, Nat.zero_le _, rfl, HR.out, .refl _ _⟩
  case round =>
    obtain ⟨j, z, rfl, hj, rfl, hE, hW⟩ := hrel
    have HW := Lib.hid hW
    have ZE := Lib.hid hE
    clear hE
    by_cases hlt : j < L.length
    · obtain ⟨b1, o1, ea, h1⟩ := RL.out wr hW j (by simpa [ivs] using hlt)
      simp only [ivs, List.getElem_map, Gr.iv] at h1
      have EX := Lib.hid (show walkS X (gotoS X z L[j]) (L.drop (j + 1)) = r from by rw [← DR.out j hlt z]; exact ZE.out)
      subst ea
      generalize L[j] = s at *
      have GX := Lib.hid (GO.out z s wr hW)
      generalize gotoS X z s = z' at GX EX
      clear hW
      go_wp2_with (go_at_call 9; refine GX.out.mono ?_; rintro e w2 ⟨rfl, hb⟩; have HB2 := Lib.hid (Gr.step HW.out hb); clear hb)
      go_roundw
      case rel => exact ⟨j + 1, z', by go_num, by omega, rfl, EX.out, HB2.out⟩
      case measure => simp [intOf]; omega
    · have hE : j = L.length := by omega
      have ZN := Lib.hid (show walkS X z [] = r from by rw [← ZE.out, hE, List.drop_length])
      have WX := Lib.hid (WI.out z wr)
      clear hW
      cases hb' : inB X z with
      | false =>
        have E := Lib.hid (show (-1 : Int) = r from by rw [← ZN.out, OUT.out z hb'])
        rw [hb'] at WX
        clear hb'
        go_wp2_with (go_at_call 23; refine WX.out.mono ?_; rintro e w3 ⟨rfl, hb⟩; have HB3 := Lib.hid (Gr.step HW.out hb); clear hb)
        go_ret
        exact ⟨int_of E.out.symm, HB3.out⟩
      | true =>
        have E := Lib.hid (show z = r from by rw [← ZN.out, NIL.out z hb'])
        rw [hb'] at WX
        clear hb'
        go_wp2_with (go_at_call 23; refine WX.out.mono ?_; rintro e w3 ⟨rfl, hb⟩; have HB3 := Lib.hid (Gr.step HW.out hb); clear hb)
        go_ret
        exact ⟨int_of E.out.symm, HB3.out⟩

end Go.Proofs.Ytjjmoonajijnmaa.Au

namespace Go.Proofs.Ytjjmoonajijnmaa.Au
open Go.RowKit Go.Maps
open Go.Proofs.Ytjjmoonajijnmaa.Gr (boxed drawn cell_new cell_old cell_later bool_of int_of ivs)
open Go.Proofs.Ytjjmoonajijnmaa.Im
set_option linter.unusedVariables false

/-- The first state with these items. -/
def findS (X : List Sta) (K : List Itm) : Int := match X.findIdx? fun s => decide (s.1 = K) with | some i => (i : Int) | none => -1
def NoneK (X : List Sta) (K : List Itm) (k : Nat) : Prop := ∀ j (h : j < X.length), j < k → X[j].1 ≠ K
theorem noneK_zero (X : List Sta) (K : List Itm) : NoneK X K 0 := fun _ _ h => absurd h (by omega)
theorem noneK_step {X : List Sta} {K : List Itm} {k : Nat} (h : NoneK X K k) (hk : k < X.length) (e : X[k].1 ≠ K) : NoneK X K (k + 1) := fun j hj hl => by
  by_cases he : j = k
  · subst he
    exact e
  · exact h j hj (by omega)
theorem findS_hit {X : List Sta} {K : List Itm} {k : Nat} (h : NoneK X K k) (hk : k < X.length) (e : X[k].1 = K) : findS X K = (k : Int) := by
  have : X.findIdx? (fun s => decide (s.1 = K)) = some k := by
    rw [List.findIdx?_eq_some_iff_getElem]
    exact ⟨hk, decide_eq_true e, fun j hj => by simpa using h j (by omega) hj⟩
  unfold findS
  rw [this]
theorem findS_end {X : List Sta} {K : List Itm} {k : Nat} (h : NoneK X K k) (hk : ¬ k < X.length) : findS X K = -1 := by
  have : X.findIdx? (fun s => decide (s.1 = K)) = none := by
    rw [List.findIdx?_eq_none_iff]
    intro x hx
    obtain ⟨j, hj, rfl⟩ := List.mem_iff_getElem.1 hx
    simpa using h j hj (by omega)
  unfold findS
  rw [this]

set_option maxRecDepth 100000 in
set_option maxHeartbeats 2000000 in
theorem equal_any (X Y : List Itm) (a b : Option Addr) (c d : Nat) (w : World) (hX : ItsA a X w) (hY : ItsA b Y w) (hl : X.length ≤ 1000000) :
    Calls Try.prog 21 #[.slice a X.length c, .slice b Y.length d] w (Gr.Is (.bool (decide (X = Y))) w) := by
  by_cases hn : X.length = Y.length
  · have KX := Lib.hid (fun w1 (k : Below w.heap.size w w1) => hX.went k)
    have KY := Lib.hid (fun w1 (k : Below w.heap.size w w1) => hY.went k)
    clear hX hY
    have mixed : Try.prog.follows .mixedOrders = true := by kernel_rfl
    have hne := ne_items
    have hgd := Try.eqGuardType51
    go_enter Try.func21, Try.ntmps21
    go_wp2
    go_loopw [13] (fun i wr => ∃ j : Nat, i = .int .i64 j ∧ j ≤ X.length ∧ SameTo X Y j ∧ Below w.heap.size w wr) (fun i _ => X.length - (intOf i).toNat)
    case atStart => exact ⟨0, rfl, Nat.zero_le _, fun i _ _ h => by omega, .refl _ _⟩
    case round =>
      obtain ⟨j, rfl, hj, hS, hB⟩ := hrel
      have HS := Lib.hid hS
      clear hS
      by_cases hlt : j < X.length
      · have hlt' : j < Y.length := by omega
        obtain ⟨b1, o1, rfl, p0, p1⟩ := (KX.out wr hB).at j hlt
        obtain ⟨b2, o2, rfl, q0, q1⟩ := (KY.out wr hB).at j hlt'
        have HN := Lib.hid (fun (e : X[j] = Y[j]) i (h1 : i < X.length) (h2 : i < Y.length) (h3 : i < j + 1) => show X[i] = Y[i] from by
          by_cases e' : i = j
          · subst e'
            exact e
          · exact HS.out i h1 h2 (by omega))
        have HD := Lib.hid (fun (e : ¬ X[j] = Y[j]) (k : X = Y) => e (by simp only [k]))
        generalize X[j] = x at *
        generalize Y[j] = y at *
        obtain ⟨x0, x1⟩ := x
        obtain ⟨y0, y1⟩ := y
        dsimp only at p0 p1 q0 q1
        go_wp2
        go_quiet (fail)
        have hb2 : Below w.heap.size w (wr.drewN nq) := hB.trans ⟨rfl, rfl, rfl, Nat.le_refl _, fun _ _ => rfl⟩
        generalize wr.drewN nq = wn at hb2 ⊢
        clear p0 p1 q0 q1 hB hne
        generalize hbb : eqB (x0, x1) (y0, y1) = bb
        cases bb with
        | true =>
          have HS2 := Lib.hid (show SameTo X Y (j + 1) from HN.out (eqB_iff.1 hbb))
          clear hbb HN HD HS
          go_wp2
          go_roundw
          case rel => exact ⟨j + 1, by go_num, by omega, HS2.out, hb2⟩
          case measure => simp [intOf]; omega
        | false =>
          have HE := Lib.hid (HD.out (of_decide_eq_false hbb))
          clear hbb HN HD HS
          go_wp2
          go_ret
          exact ⟨bool_of (decide_eq_false HE.out), hb2⟩
      · have hE : j = X.length := by omega
        have HE := Lib.hid (show X = Y from same_all hn (by rw [← hE]; exact HS.out))
        go_wp2
        go_ret
        exact ⟨bool_of (decide_eq_true HE.out), hB⟩
  · have hne : ¬ X = Y := fun e => hn (by rw [e])
    clear hX hY
    go_enter Try.func21, Try.ntmps21
    go_wp2
    go_ret
    exact ⟨bool_of (decide_eq_false hne), .refl _ _⟩

/-- What the closure of Find holds: the variable of the items. -/
structure CapI (q : Nat) (a : Option Addr) (c : Nat) (K : List Itm) (w : World) : Prop where
  cell : w.cell? ⟨q, 0, none⟩ = some (.slice a K.length c)
  its : ItsA a K w
theorem CapI.went {q : Nat} {a : Option Addr} {c : Nat} {K : List Itm} {w w' : World} (k : CapI q a c K w) (hb : Below w.heap.size w w') : CapI q a c K w' := ⟨cell_later hb k.cell, k.its.went hb⟩

set_option maxHeartbeats 1000000 in
theorem find_clo (q : Nat) (a : Option Addr) (c : Nat) (K : List Itm) (s : Sta) (a1 a2 : Option Addr) (c1 c2 : Nat) (w : World) (k : CapI q a c K w) (h1 : ItsA a1 s.1 w) (hl : s.1.length ≤ 1000000) :
    Calls Try.prog 20 #[.agg #[.slice a1 s.1.length c1, .slice a2 s.2.length c2], .pointer (some ⟨q, 0, none⟩)] w (Gr.Is (.bool (decide (s.1 = K))) w) := by
  have hb := boxed w (.cells #[.slice a1 s.1.length c1, .slice a2 s.2.length c2] 28)
  have EQ := Lib.hid (equal_any s.1 K a1 a c1 c _ (h1.went hb) (k.its.went hb) hl)
  have HB := Lib.hid hb
  have q0 := k.cell
  have hq : q < w.heap.size := World.block_lt_of_cell? w ⟨q, 0, none⟩ q0
  clear k h1 hb
  generalize decide (s.1 = K) = bb at EQ ⊢
  go_enter Try.func20, Try.ntmps20
  go_wp2_with (go_at_call 21; refine EQ.out.mono ?_; rintro e w1 ⟨rfl, hb⟩; have HB1 := Lib.hid (Gr.step HB.out hb); clear hb)
  go_ret
  exact ⟨rfl, HB1.out⟩

set_option maxRecDepth 100000 in
set_option maxHeartbeats 2000000 in
theorem index_any (q : Nat) (a0 : Option Addr) (c0 : Nat) (K : List Itm) (X : List Sta) (a : Option Addr) (c : Nat) (w : World) (k : CapI q a0 c0 K w) (hX : StaA a X w) (sm : Small X) :
    Calls Try.prog 19 #[.slice a X.length c, .func (.func 20) #[] #[.pointer (some ⟨q, 0, none⟩)]] w (Gr.Is (.int .i64 (findS X K)) w) := by
  have HX := Lib.hid (fun w1 (b : Below w.heap.size w w1) => hX.went b)
  have HK := Lib.hid (fun w1 (b : Below w.heap.size w w1) => k.went b)
  have SM := Lib.hid sm
  have hl := sm.len
  clear hX k sm
  go_enter Try.func19, Try.ntmps19
  go_wp2
  go_loopw [8] (fun i wr => ∃ j : Nat, j ≤ X.length ∧ i = .int .i64 j ∧ NoneK X K j ∧ Below w.heap.size w wr) (fun i _ => X.length - (intOf i).toNat)
  case atStart => exact ⟨0, Nat.zero_le _, rfl, noneK_zero _ _, .refl _ _⟩
  case round =>
    obtain ⟨j, hj, rfl, hN, hW⟩ := hrel
    have N := Lib.hid hN
    have HW := Lib.hid hW
    clear hN
    by_cases hlt : j < X.length
    · obtain ⟨b, o, a1, c1, a2, c2, rfl, z1, z2, i1, i2, l1, l2⟩ := HX.out wr hW j hlt
      have hs := SM.out.items _ (List.getElem_mem hlt)
      have NS := Lib.hid (fun e => noneK_step N.out hlt e)
      have NH := Lib.hid (fun e => findS_hit N.out hlt e)
      generalize X[j] = s at *
      have CL := Lib.hid (fun w1 (b : Below wr.heap.size wr w1) => find_clo q a0 c0 K s a1 a2 c1 c2 w1 (HK.out _ (Gr.step hW b)) (i1.went b) hs)
      clear hW i1 i2 l1 l2 hs
      by_cases he : s.1 = K
      · have E := Lib.hid (NH.out he)
        rw [decide_eq_true he] at CL
        clear NS NH he
        go_wp2_with (go_at_call 20; refine (CL.out _ (.refl _ _)).mono ?_; rintro e w1 ⟨rfl, hb⟩; have HB := Lib.hid (Gr.step HW.out hb); clear hb)
        go_ret
        exact ⟨int_of E.out, HB.out⟩
      · have E := Lib.hid (NS.out he)
        rw [decide_eq_false he] at CL
        clear NS NH he
        go_wp2_with (go_at_call 20; refine (CL.out _ (.refl _ _)).mono ?_; rintro e w1 ⟨rfl, hb⟩; have HB := Lib.hid (Gr.step HW.out hb); clear hb)
        go_roundw
        case rel => exact ⟨j + 1, by omega, by go_num, E.out, HB.out⟩
        case measure => simp [intOf]; omega
    · have E := Lib.hid (findS_end N.out hlt)
      clear hW
      go_wp2
      go_ret
      exact ⟨int_of E.out, HW.out⟩

set_option maxHeartbeats 1000000 in
theorem find_any (X : List Sta) (K : List Itm) (a b : Option Addr) (c d : Nat) (w : World) (hX : StaA a X w) (sm : Small X) (hK : ItsA b K w) :
    Calls Try.prog 7 #[.slice a X.length c, .slice b K.length d] w (Gr.Is (.int .i64 (findS X K)) w) := by
  have hb := boxed w (.cells #[.slice b K.length d] 23)
  have IX := Lib.hid (index_any w.heap.size b d K X a c _ ⟨cell_new rfl rfl, hK.went hb⟩ (hX.went hb) sm)
  have HB := Lib.hid hb
  clear hX sm hK hb
  generalize findS X K = m at IX ⊢
  go_enter Try.func7, Try.ntmps7
  go_wp2_with (go_at_call 19; refine IX.out.mono ?_; rintro e w1 ⟨rfl, hb⟩; have HB1 := Lib.hid (Gr.step HB.out hb); clear hb)
  go_ret
  exact ⟨rfl, HB1.out⟩

end Go.Proofs.Ytjjmoonajijnmaa.Au
