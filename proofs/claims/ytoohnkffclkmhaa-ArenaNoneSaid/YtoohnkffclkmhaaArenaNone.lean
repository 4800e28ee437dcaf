/-
  ArenaNone, as given: no tree.
-/
import Derived.Test.YtoohnkffclkmhaaArenaAwake
import Derived.Test.YtoohnkffclkmhaaArenaArg
namespace Go.Proofs.Ytoohnkffclkmhaa.Tr
open Go.RowKit Go.Maps
open Go.Proofs.Ytoohnkffclkmhaa.Sep
open Go.Proofs.Ytoohnkffclkmhaa.Rw (Bk)
open Go.Proofs.Ytoohnkffclkmhaa.Gr (Gram Sh gv GAt Fits cell_later boxed drawn Is bool_of int_of ivs iv Listed New)
set_option linter.unusedVariables false
set_option linter.unusedSimpArgs false

def Gz : Gram := { terms := [], nons := [], rules := [], start := 0 }
def hz : Sh := ⟨none, 0, none, 0, none, 0⟩
theorem gz_at (w : World) : GAt hz Gz w := by
  refine ⟨.nil _ _, .nil _ _, fun i hi => by simp [Gz] at hi, by simp [Gz], by simp [Gz], by simp [Gz], by simp [Gz], by simp [Gz], ⟨fun s h => by simp [Gz] at h, fun s h => by simp [Gz] at h, ⟨by decide, by decide⟩, fun s h => by simp [Gz] at h, fun s h => by simp [Gz] at h⟩⟩
theorem gz_name (s : Int) : (Gr.nameS Gz s).size ≤ 1 := by
  unfold Gr.nameS
  split
  · decide
  · split
    · rename_i h1 h2
      have h3 : (Gr.top Gz : Int) = 0 := rfl
      omega
    · decide
theorem none_o (w : World) : TrO (.pointer none) (fun _ => False) (fun _ => False) [] w := .inl ⟨rfl, rfl, fun _ h => h, fun _ h => h⟩
theorem none_in (i : Int) : inP (([] : List Nv).map Prod.fst) i = false := by unfold inP; rw [decide_eq_false_iff_not]; simp
theorem none_vis (i : Int) : visI (([] : List Nv).map Prod.fst) i = [] := visI_out (none_in i)
theorem none_wf : Wf (([] : List Nv).map Prod.fst) := fun i n h => by simp at h
theorem none_lef (i : Int) (f : Nd → Int) : lefL (([] : List Nv).map Prod.fst) f i = [] := by
  unfold lefL lefI belI
  rw [none_vis]
  rfl
theorem no_len {l : List Int} (e : l = []) {w : World} {x : Ending} {w' : World} (h : Listed l w x w') : (∃ a c, x = .returned (.slice a 0 c)) ∧ Below w.heap.size w w' := by
  subst e
  obtain ⟨a, c, rfl, _, _, hb⟩ := h
  exact ⟨⟨a, c, rfl⟩, hb⟩

set_option maxHeartbeats 4000000 in
set_option maxRecDepth 100000 in
theorem none_law (x : OpD) (ka : Option Addr) (kc : Nat) (i : Int) (W : World) (hx : OpI x ka kc W) (hfi : Fits i) : Calls Try.prog 4 #[opv x ka kc, .int .i64 i] W (Is (.bool true) W) := by
  have B0 := boxed W (.cells #[.bool x.leaf, .int .i64 x.sym, .int .i64 x.n, .slice ka x.kids.length kc] 27)
  have Q0 := Lib.hid (Bk.new W #[.bool x.leaf, .int .i64 x.sym, .int .i64 x.n, .slice ka x.kids.length kc] 27 _ rfl)
  have few := hx.cap
  have few2 := hx.few
  generalize hw1 : W.alloc (.cells #[.bool x.leaf, .int .i64 x.sym, .int .i64 x.n, .slice ka x.kids.length kc] 27) = w1 at *
  have HB := Lib.hid B0
  have x0 := Q0.out.cell (j := 0) rfl
  have x1 := Q0.out.cell (j := 1) rfl
  have x2 := Q0.out.cell (j := 2) rfl
  have x3 := Q0.out.cell (j := 3) rfl
  unfold opv
  by_cases hk : 1000 < x.kids.length
  · have AW := Lib.hid (awake_any w1)
    clear hx few few2 B0
    generalize x.kids.length = kn at *
    have hk2 : (1000 : Int) < (kn : Int) := by omega
    go_enter Try.func4, Try.ntmps4
    go_wp2_with (go_at_call 10; refine AW.out.mono ?_; rintro e w2 ⟨rfl, hb⟩; have H2 := Lib.hid (Gr.step HB.out hb); clear hb)
    go_ret
    exact ⟨rfl, H2.out⟩
  · have NO := Lib.hid (fun w => node_o (none_o w) i)
    have LE := Lib.hid (fun w => leaf_nil x.sym x.n w)
    have JO := Lib.hid (fun w => join_nil x.sym x.n (.slice ka x.kids.length kc) w)
    have LN := Lib.hid len_nil
    have RO := Lib.hid (fun w => (roots_any (none_o w)).mono fun e w' h => no_len rfl h)
    have LV := Lib.hid (fun w => (leaves_any _ _ _ _ i w (none_o w) none_wf hfi (by rw [none_vis]; exact Nat.zero_le _)).mono fun e w' h => no_len (none_lef i _) h)
    have YL := Lib.hid (fun w => (yield_any _ _ _ _ i w (none_o w) none_wf hfi (by rw [none_vis]; exact Nat.zero_le _)).mono fun e w' h => no_len (none_lef i _) h)
    have CK := Lib.hid (fun w => chk_any _ _ _ _ hz Gz i w (none_o w) none_wf (gz_at w) hfi (by rw [none_vis]; exact Nat.zero_le _))
    have SW := Lib.hid (fun w => show_any _ _ _ _ hz Gz i w (none_o w) none_wf (gz_at w) hfi (by rw [none_vis]; exact Nat.zero_le _) 1 gz_name (by decide))
    have TW := Lib.hid twin_nil
    have AW := Lib.hid awake_any
    have hck : chkP (([] : List Nv).map Prod.fst) Gz i = false := by unfold chkP; rw [none_in, Bool.false_and]
    have hsw : showI (([] : List Nv).map Prod.fst) Gz i = [] := by unfold showI; rw [none_vis]; rfl
    rw [hck] at CK
    rw [hsw] at SW
    have hnp : nodeP (([] : List Nv).map Prod.fst) i = ⟨0, 0, 0, [], false, false⟩ := by unfold nodeP; rw [none_in]; rfl
    rw [hnp, none_in] at NO
    unfold gv hz Gz at CK SW
    simp only [List.length_nil] at CK SW
    clear hx hck hsw hnp few few2 B0
    generalize x.kids.length = kn at *
    have hk2 : ¬ (1000 : Int) < (kn : Int) := by omega
    go_enter Try.func4, Try.ntmps4
    go_wp2_with fail
    refine (NO.out _).mono ?_
    rintro e w2 ⟨a2, c2, rfl, -, -, hb⟩
    have Q2 := Lib.hid (Q0.out.went hb)
    have H2 := Lib.hid (Gr.step HB.out hb)
    clear hb x0 x1 x2 x3 NO
    simp only [List.length_nil]
    have b3 := boxed w2 (.cells #[.int .i64 0, .int .i64 0, .int .i64 0, .slice a2 0 c2] 35)
    have Q3 := Lib.hid (Q2.out.went b3)
    have H3 := Lib.hid (Gr.step H2.out b3)
    clear b3
    have x1 := Q3.out.cell (j := 1) rfl
    have x2 := Q3.out.cell (j := 2) rfl
    have x3 := Q3.out.cell (j := 3) rfl
    go_wp2_with fail
    refine (LE.out _).mono ?_
    rintro e w4 ⟨rfl, hb⟩
    have Q4 := Lib.hid (Q3.out.went hb)
    have H4 := Lib.hid (Gr.step H3.out hb)
    clear hb x1 x2 x3 LE
    have x1 := Q4.out.cell (j := 1) rfl
    have x2 := Q4.out.cell (j := 2) rfl
    have x3 := Q4.out.cell (j := 3) rfl
    go_wp2_with fail
    refine (JO.out _).mono ?_
    rintro e w5 ⟨rfl, hb⟩
    have H5 := Lib.hid (Gr.step H4.out hb)
    clear hb x1 x2 x3 JO
    go_wp2_with fail
    refine (LN.out _).mono ?_
    rintro e w6 ⟨rfl, hb⟩
    have H6 := Lib.hid (Gr.step H5.out hb)
    clear hb
    go_wp2_with fail
    refine (RO.out _).mono ?_
    rintro e w7 ⟨⟨a7, c7, rfl⟩, hb⟩
    have H7 := Lib.hid (Gr.step H6.out hb)
    clear hb
    go_wp2_with fail
    refine (LV.out _).mono ?_
    rintro e w8 ⟨⟨a8, c8, rfl⟩, hb⟩
    have H8 := Lib.hid (Gr.step H7.out hb)
    clear hb
    go_wp2_with fail
    refine (YL.out _).mono ?_
    rintro e w9 ⟨⟨a9, c9, rfl⟩, hb⟩
    have H9 := Lib.hid (Gr.step H8.out hb)
    clear hb
    go_wp2_with fail
    refine (CK.out _).mono ?_
    rintro e w10 ⟨rfl, hb⟩
    have H10 := Lib.hid (Gr.step H9.out hb)
    clear hb
    go_wp2_with fail
    refine (SW.out _).mono ?_
    rintro e w11 ⟨rfl, hb⟩
    have H11 := Lib.hid (Gr.step H10.out hb)
    clear hb
    go_wp2_with fail
    refine (TW.out _).mono ?_
    rintro e w12 ⟨rfl, hb⟩
    have H12 := Lib.hid (Gr.step H11.out hb)
    clear hb
    go_wp2_with fail
    refine (AW.out _).mono ?_
    rintro e w13 ⟨rfl, hb⟩
    have H13 := Lib.hid (Gr.step H12.out hb)
    clear hb
    go_wp2_with fail
    go_ret
    exact ⟨rfl, H13.out⟩

end Go.Proofs.Ytoohnkffclkmhaa.Tr
