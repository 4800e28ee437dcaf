/-
  The plain answers of layer 13: Goto, Walk.
-/
import Derived.Test.YtjjmoonajijnmaaMAutoF
namespace Go.Proofs.Ytjjmoonajijnmaa.Au
open Go.RowKit Go.Maps
open Go.Proofs.Ytjjmoonajijnmaa.Gr (boxed drawn cell_new cell_old cell_later bool_of int_of ivs)
open Go.Proofs.Ytjjmoonajijnmaa.Im
set_option linter.unusedVariables false

set_option maxRecDepth 100000 in
set_option maxHeartbeats 2000000 in
theorem rgoto_any (X : List Sta) (a : Option Addr) (c : Nat) (i s : Int) (w : World) (hX : StaA a X w) (sm : Small X) :
    Calls Try.prog 10 #[.slice a X.length c, .int .i64 i, .int .i64 s] w (Gr.Is (.int .i64 (gotoS X i s)) w) := by
  have hxl := sm.len
  by_cases h0 : 0 ≤ i
  · by_cases h1 : i < (X.length : Int)
    · obtain ⟨k, rfl⟩ := Int.eq_ofNat_of_zero_le h0
      have hk : k < X.length := by omega
      rw [gotoS_in hk]
      obtain ⟨b, o, a1, c1, a2, c2, rfl, z1, z2, i1, i2, l1, l2⟩ := hX k hk
      have TR := Lib.hid (fun w1 (b : Below w.heap.size w w1) => i2.went b)
      have hsm := sm.trans _ (List.getElem_mem hk)
      have Z2 := Lib.hid (fun w1 (b : Below w.heap.size w w1) => cell_later b z2)
      clear hX sm z1 i1 i2 l1
      generalize X[k].2 = tr at *
      generalize X.length = n at *
      go_enter Try.func10, Try.ntmps10
      go_wp2
      go_loopw [7] (fun q wr => ∃ j : Nat, q = .int .i64 j ∧ j ≤ tr.length ∧ NoneS tr s j ∧ Below w.heap.size w wr) (fun q _ => tr.length - (intOf q).toNat)
      case atStart => exact ⟨0, rfl, Nat.zero_le _, noneS_zero _ _, .refl _ _⟩
      case round =>
        obtain ⟨j, rfl, hj, hN, hW⟩ := hrel
        have N := Lib.hid hN
        have HW := Lib.hid hW
        have q2 := Z2.out wr hW
        clear hN
        by_cases hlt : j < tr.length
        · obtain ⟨b2, o2, rfl, p0, p1⟩ := (TR.out wr hW).at j hlt
          have NS := Lib.hid (fun e => noneS_step N.out hlt e)
          have NH := Lib.hid (fun e => leads_hit N.out hlt e)
          have e1 : ((tr[j].1, tr[j].2) : Itm) = tr[j] := rfl
          generalize tr[j] = x at *
          obtain ⟨x0, x1⟩ := x
          dsimp only at p0 p1
          clear e1 hW
          by_cases he : x0 = s
          · have E := Lib.hid (NH.out he)
            subst he
            clear NS NH
            go_wp2
            go_ret
            exact ⟨int_of E.out, HW.out⟩
          · have E := Lib.hid (NS.out he)
            clear NS NH
            go_wp2
            go_roundw
            case rel => exact ⟨j + 1, by go_num, by omega, E.out, HW.out⟩
            case measure => simp [intOf]; omega
        · have E := Lib.hid (leads_end N.out hlt)
          clear hW
          go_wp2
          go_ret
          exact ⟨int_of E.out, HW.out⟩
    · rw [gotoS_out (decide_eq_false fun q => h1 q.2)]
      clear hX sm
      generalize X.length = n at *
      go_enter Try.func10, Try.ntmps10
      go_wp2
      go_ret
      exact ⟨rfl, .refl _ _⟩
  · rw [gotoS_out (decide_eq_false fun q => h0 q.1)]
    have h2 : i < 0 := by omega
    clear hX sm
    generalize X.length = n at *
    go_enter Try.func10, Try.ntmps10
    go_wp2
    go_ret
    exact ⟨rfl, .refl _ _⟩

set_option maxRecDepth 100000 in
set_option maxHeartbeats 2000000 in
theorem rwalk_any (X : List Sta) (a : Option Addr) (c : Nat) (i : Int) (L : List Int) (al : Option Addr) (cl : Nat) (w : World) (hX : StaA a X w) (sm : Small X) (hL : Sep.Reads al (ivs L) w) (hl : L.length ≤ 1000000) :
    Calls Try.prog 12 #[.slice a X.length c, .int .i64 i, .slice al L.length cl] w (Gr.Is (.int .i64 (walkS X i L)) w) := by
  have hxl := sm.len
  have GO := Lib.hid (fun i s w1 (b : Below w.heap.size w w1) => rgoto_any X a c i s w1 (hX.went b) sm)
  have RL := Lib.hid (fun w1 (b : Below w.heap.size w w1) => hL.below b (Nat.le_refl _))
  clear hX sm hL
  by_cases h0 : 0 ≤ i
  · by_cases h1 : i < (X.length : Int)
    · have HI := Lib.hid (show inB X i = true from inB_iff.2 ⟨h0, h1⟩)
      have BI := Lib.hid (fun v => inB_iff (X := X) (i := v))
      have OUT := Lib.hid (fun v (h : inB X v = false) way => walkS_out (X := X) h way)
      have NIL := Lib.hid (fun v (h : inB X v = true) => walkS_nil (X := X) h)
      have DR := Lib.hid (fun j (h : j < L.length) v => walkS_drop (X := X) h v)
      obtain ⟨r, hr⟩ : ∃ r, walkS X i L = r := ⟨_, rfl⟩
      rw [hr]
      have HR := Lib.hid hr
      clear hr
      generalize hn : X.length = n at *
      go_enter Try.func12, Try.ntmps12
      go_wp2
      go_loopw [1, 7] (fun v q wr => ∃ (j : Nat) (z : Int), q = .int .i64 j ∧ j ≤ L.length ∧ v = .int .i64 z ∧ inB X z = true ∧ walkS X z (L.drop j) = r ∧ Below w.heap.size w wr) (fun _ q _ => L.length - (intOf q).toNat)
      case atStart => exact ⟨0, i, rfl, Nat.zero_le _, rfl, HI.out, HR.out, .refl _ _⟩
      case round =>
        obtain ⟨j, z, rfl, hj, rfl, hz, hE, hW⟩ := hrel
        have HW := Lib.hid hW
        have ZE := Lib.hid hE
        have ZI := Lib.hid hz
        clear hE hz
        by_cases hlt : j < L.length
        · obtain ⟨b1, o1, ea, p1⟩ := RL.out wr hW j (by simpa [ivs] using hlt)
          simp only [ivs, List.getElem_map, Gr.iv] at p1
          have EX := Lib.hid (show walkS X (gotoS X z L[j]) (L.drop (j + 1)) = r from by rw [← DR.out j hlt z]; exact ZE.out)
          subst ea
          generalize L[j] = s at *
          have GX := Lib.hid (GO.out z s wr hW)
          generalize gotoS X z s = z' at GX EX
          clear hW
          by_cases g0 : z' < 0
          · have O := Lib.hid (OUT.out z' (decide_eq_false fun q => by omega) (L.drop (j + 1)))
            go_wp2_with (go_at_call 10; refine GX.out.mono ?_; rintro e w2 ⟨rfl, hb⟩; have HB2 := Lib.hid (Gr.step HW.out hb); clear hb)
            go_ret
            exact ⟨int_of (by rw [← EX.out, O.out]), HB2.out⟩
          · by_cases g1 : (n : Int) ≤ z'
            · have O := Lib.hid (OUT.out z' (decide_eq_false fun q => by omega) (L.drop (j + 1)))
              clear hn
              go_wp2_with (go_at_call 10; refine GX.out.mono ?_; rintro e w2 ⟨rfl, hb⟩; have HB2 := Lib.hid (Gr.step HW.out hb); clear hb)
              go_ret
              exact ⟨int_of (by rw [← EX.out, O.out]), HB2.out⟩
            · have I2 := Lib.hid ((BI.out z').2 ⟨by omega, by omega⟩)
              clear hn
              go_wp2_with (go_at_call 10; refine GX.out.mono ?_; rintro e w2 ⟨rfl, hb⟩; have HB2 := Lib.hid (Gr.step HW.out hb); clear hb)
              go_roundw
              case rel => exact ⟨j + 1, z', by go_num, by omega, rfl, I2.out, EX.out, HB2.out⟩
              case measure => simp [intOf]; omega
        · have hE : j = L.length := by omega
          have E := Lib.hid (show z = r from by rw [← ZE.out, hE, List.drop_length, NIL.out z ZI.out])
          clear hW
          go_wp2
          go_ret
          exact ⟨int_of E.out.symm, HW.out⟩
    · rw [walkS_out (decide_eq_false fun q => h1 q.2)]
      generalize X.length = n at *
      go_enter Try.func12, Try.ntmps12
      go_wp2
      go_ret
      exact ⟨rfl, .refl _ _⟩
  · rw [walkS_out (decide_eq_false fun q => h0 q.1)]
    have h2 : i < 0 := by omega
    generalize X.length = n at *
    go_enter Try.func12, Try.ntmps12
    go_wp2
    go_ret
    exact ⟨rfl, .refl _ _⟩

end Go.Proofs.Ytjjmoonajijnmaa.Au
