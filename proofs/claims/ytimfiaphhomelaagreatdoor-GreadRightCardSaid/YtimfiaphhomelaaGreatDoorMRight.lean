/-
  Statement GreadRight of layer 7: for every text, what gread.Parse reads is a valid grammar whose nonterminals are in order (gram.Check, gram.Ordered), and an error goes with the empty grammar. No condition of ours: the statement's row lists errors' own variable for the type error, tied to the program's text; that MaxLen's variable holds a number is the world's shape.
  The walk of the statement that what is read is a valid grammar in order. Conditions: errors' variable for the type error and MaxLen's hold what the program's text lays there.
-/
import Derived.Test.YtimfiaphhomelaaGreatDoorMAwake
import Derived.Test.YtimfiaphhomelaaGreatDoorMPlain
import Derived.Test.YtimfiaphhomelaaGreatDoorMSame
import Derived.Test.YtimfiaphhomelaaGreatDoorMMuch
import Derived.Test.YtimfiaphhomelaaGreatDoorMCheck
import Derived.Test.YtimfiaphhomelaaGreatDoorRows
import Derived.Test.YtimfiaphhomelaaGreatDoorCards
import Derived.Test.YtimfiaphhomelaaGreatDoorTie
import Derived.WalkKit
import Derived.ProofKit
import Derived.OpenShut
import Derived.ShutString
import Derived.ChangeOld
import Derived.ChangeSame
import Derived.ChangeVars
import Derived.Below
import Derived.LaidLaws
import Derived.LaidHandle
import Derived.SizedLaws
import Derived.Stop.Joined
import Derived.Deep.DeepHandedRow
import Derived.Shelf.Vars
import Derived.SevenTiedAt
import Derived.IntWalk
namespace Go.Proofs.YtimfiaphhomelaaGreatDoor.Rd
open Go.RowKit Go.Maps
open Go.Proofs.YtimfiaphhomelaaGreatDoor.Tk (Tok MaxLen)
set_option linter.unusedVariables false
set_option linter.unusedSimpArgs false

/-- Every text has a grammar, or an error. -/
theorem parse_total (l : List UInt8) : ∃ y, ParseIs l y := by
  obtain ⟨r, hr⟩ := Tk.lexes_total l
  cases r with
  | bad n p => exact ⟨.no n p, _, hr, rfl⟩
  | ok T =>
    obtain ⟨t1, t2, t3⟩ := lexes_ok hr
    have hne := sourceP_in T.length T t1 (Nat.le_refl _)
    cases hx : sourceP T.length T with
    | out => exact absurd hx hne
    | no n q => exact ⟨.no n q, _, hr, _, ⟨_, hx, (fun h => by cases h)⟩, rfl⟩
    | ok src rest => exact ⟨makeM src, _, hr, _, ⟨_, hx, (fun h => by cases h)⟩, rfl⟩
/-- What is read is valid, in order, and has a nonterminal. -/
theorem parse_good {l : List UInt8} {G : Gr.Gram} (h : ParseIs l (.ok G)) : Gr.checkN G = 0 ∧ Gr.ordB G = true ∧ 0 < G.nons.length := by
  obtain ⟨r, hr, hy⟩ := h
  cases r with
  | bad n p => cases hy
  | ok T =>
    obtain ⟨x, ⟨f, hf, hne⟩, hy⟩ := hy
    cases x with
    | out => exact absurd rfl hne
    | no n q => cases hy
    | ok src rest => exact makeM_good (show makeM src = .ok G from hy.symm) (sourceP_well hf (lexes_well hr))

/-- The empty grammar. -/
def zG : Gr.Gram := ⟨[], [], [], 0⟩
def zsh : Gr.Sh := ⟨none, 0, none, 0, none, 0⟩
theorem z_at (w : World) : Gr.GAt zsh zG w :=
  ⟨fun i hi => absurd hi (by simp [zG]), fun i hi => absurd hi (by simp [zG]), fun i hi => absurd hi (by simp [zG]), by simp [zG], by simp [zG], by simp [zG, zsh], by simp [zG],
    ⟨fun s hs => by simp [zG] at hs, fun s hs => by simp [zG] at hs, ⟨by decide, by decide⟩, fun r hr => by simp [zG] at hr, fun r hr => by simp [zG] at hr⟩⟩
theorem same_z (w : World) : Calls Tryz.prog 8 #[.agg #[.slice none 0 0, .slice none 0 0, .slice none 0 0, .int .i64 0], .agg #[.slice none 0 0, .slice none 0 0, .slice none 0 0, .int .i64 0]] w (Gr.Is (.bool true) w) := by
  have := Gr.rsame_any zsh zsh zG zG w (z_at w) (z_at w)
  rw [Gr.sameG_self] at this
  exact this

set_option maxHeartbeats 4000000 in
set_option maxRecDepth 100000 in
theorem right_law (s : ByteArray) (w : World) (he : Fa.ErrType w) (hm : MaxLen w) (hs : s.size ≤ 140737488355328) : Calls Tryz.prog 3 #[.string s] w (Gr.Is (.bool true) w) := by
  have AW := Lib.hid (fun w1 (b : Below w.heap.size w w1) => awake_any w1 (he.keep b) (hm.keep b))
  by_cases hl : 3000 < s.size
  · clear he hm
    go_enter Tryz.func3, Tryz.ntmps3
    go_wp2_with (go_at_call 6; refine (AW.out _ (Below.refl _ _)).mono ?_; rintro e w1 ⟨rfl, hb⟩; have B1 := Lib.hid hb; clear hb)
    go_ret
    exact ⟨rfl, B1.out⟩
  · obtain ⟨y, hy⟩ := parse_total s.data.toList
    have PA := Lib.hid (parse_any s y w hy hs hm)
    clear he hm
    cases y with
    | no n p =>
      go_enter Tryz.func3, Tryz.ntmps3
      go_upto_region 4 with (go_at_call 7; refine PA.out.mono ?_; rintro e w1 ⟨rfl, hb⟩; have B1 := Lib.hid hb; clear hb)
      have B2 := Lib.hid (Gr.step B1.out (Gr.boxed w1 (.cells zg 26)))
      have z0 : (w1.alloc (.cells zg 26)).cell? ⟨w1.heap.size, 0, none⟩ = some (.slice none 0 0) := Gr.cell_new rfl rfl
      have z1 : (w1.alloc (.cells zg 26)).cell? ⟨w1.heap.size, 1, none⟩ = some (.slice none 0 0) := Gr.cell_new rfl rfl
      have z2 : (w1.alloc (.cells zg 26)).cell? ⟨w1.heap.size, 2, none⟩ = some (.slice none 0 0) := Gr.cell_new rfl rfl
      have z3 : (w1.alloc (.cells zg 26)).cell? ⟨w1.heap.size, 3, none⟩ = some (.int .i64 0) := Gr.cell_new rfl rfl
      generalize w1.alloc (.cells zg 26) = W1 at *
      clear B1 hy PA
      go_wp2_with (first
        | (go_at_call 8; refine (same_z _).mono ?_; rintro e w2 ⟨rfl, hb⟩; have B3 := Lib.hid (Gr.step B2.out hb); clear hb)
        | (go_at_call 6; refine (AW.out _ B3.out).mono ?_; rintro e w3 ⟨rfl, hb⟩; have B4 := Lib.hid (Gr.step B3.out hb); clear hb))
      go_ret
      exact ⟨rfl, B4.out⟩
    | ok G =>
      obtain ⟨g1, g2, g3⟩ := parse_good hy
      have GN := Lib.hid g3
      have CK := Lib.hid (fun sh w1 (k : Gr.GAt sh G w1) => show Calls Tryz.prog 9 #[Gr.gv sh G] w1 (Gr.Is (.int .i64 0) w1) from by have := Gr.check_any sh G w1 k; rw [g1] at this; exact this)
      have OD := Lib.hid (fun sh w1 (k : Gr.GAt sh G w1) => show Calls Tryz.prog 10 #[Gr.gv sh G] w1 (Gr.Is (.bool true) w1) from by have := Gr.ordered_any sh G w1 k; rw [g2] at this; exact this)
      clear g1 g2 g3 hy
      go_enter Tryz.func3, Tryz.ntmps3
      go_upto_region 4 with (go_at_call 7; refine PA.out.mono ?_; rintro e w1 ⟨sh, rfl, hG, hb⟩; have G1 := Lib.hid hG; have B1 := Lib.hid hb; clear hG hb)
      have b := Gr.boxed w1 (.cells #[.slice sh.a1 G.terms.length sh.c1, .slice sh.a2 G.nons.length sh.c2, .slice sh.a3 G.rules.length sh.c3, .int .i64 G.start] 26)
      have X2 := Lib.hid (Gr.Bx.start sh G w1 26)
      have G2 := Lib.hid (G1.out.went b)
      have B2 := Lib.hid (Gr.step B1.out b)
      clear b G1 B1 PA
      generalize w1.alloc (.cells #[.slice sh.a1 G.terms.length sh.c1, .slice sh.a2 G.nons.length sh.c2, .slice sh.a3 G.rules.length sh.c3, .int .i64 G.start] 26) = W1 at *
      obtain ⟨_, x0, x1, x2, x3⟩ := X2.out
      go_wp2_with (first
        | (go_at_call 9; refine (CK.out sh _ G2.out).mono ?_; rintro e w2 ⟨rfl, hb⟩; have X3 := Lib.hid (X2.out.went hb); have G3 := Lib.hid (G2.out.went hb); have B3 := Lib.hid (Gr.step B2.out hb); clear hb; clear x0 x1 x2 x3; obtain ⟨_, x0, x1, x2, x3⟩ := X3.out)
        | (go_at_call 10; refine (OD.out sh _ G3.out).mono ?_; rintro e w3 ⟨rfl, hb⟩; have X4 := Lib.hid (X3.out.went hb); have G4 := Lib.hid (G3.out.went hb); have B4 := Lib.hid (Gr.step B3.out hb); clear hb; clear x0 x1 x2 x3; obtain ⟨_, x0, x1, x2, x3⟩ := X4.out)
        | (go_at_call 11; refine (Gr.much_any sh G _ G4.out).mono ?_; rintro e w4 ⟨n, rfl, hn, hb⟩; have hn0 : 0 < n := (by have := GN.out; omega); have B5 := Lib.hid (Gr.step B4.out hb); clear hb)
        | (go_at_call 6; refine (AW.out _ B5.out).mono ?_; rintro e w5 ⟨rfl, hb⟩; have B6 := Lib.hid (Gr.step B5.out hb); clear hb))
      go_ret
      exact ⟨rfl, B6.out⟩

end Go.Proofs.YtimfiaphhomelaaGreatDoor.Rd

namespace Go.Proofs.YtimfiaphhomelaaGreatDoor.greadRight
open Go.ChangeShapes Go.WideShapes Go.ChangeAt Go.RowKit Go.Lib
open Go.ChangeMaps (open_string shut_string)
set_option linter.unusedVariables false

theorem own : ownKnob Tryz.prog.godebug = none := by kernel_rfl
theorem et : Tryz.prog.globalNamed "errors.errorType" = some 0 := by kernel_rfl
theorem rt : (Tryz.prog.cutTypes.find? (·.1 == "internal/reflectlite.rtype")).map (·.2) = some 157 := by kernel_rfl
theorem oneRow : ((List.range 214).filter fun t => Tryz.prog.rowNamed t [101, 114, 114, 111, 114]) = [28] := by kernel_rfl
theorem size : Tryz.prog.types.size = 214 := by kernel_rfl

/-- What the row's premise on errors' own variable gives a walk: its one cell. -/
theorem handle_of_laid {W : World} (h : laidMetH Tryz.prog Rows.greadRightRow.laid W) : Fa.ErrType W := by
  have h' : laidMet Tryz.prog [] W ∧ handlesMet Tryz.prog Rows.greadRightRow.laid W := h
  obtain ⟨name, u, ty, e1, e2, e3, e4, e5⟩ := h'.2 _ (List.mem_singleton.2 rfl)
  have en : name = [101, 114, 114, 111, 114] := (Option.some.inj e1).symm
  subst en
  obtain rfl := Option.some.inj (rt.symm.trans e2)
  have hm : ty ∈ (List.range 214).filter fun t => Tryz.prog.rowNamed t [101, 114, 114, 111, 114] := List.mem_filter.2 ⟨List.mem_range.2 (by rw [← size]; exact e3), e4⟩
  rw [oneRow] at hm
  obtain rfl := List.mem_singleton.1 hm
  have hh : typeHandle Tryz.prog 28 = .pointer (some ⟨2, 28, none⟩) := by kernel_rfl
  rw [hh] at e5
  simpa [Fa.ErrType] using World.var?_cell et e5 0

/-- That variable of the library's holds a number. -/
theorem max_len {W : World} (h : W.ShapedOpen Tryz.prog) : Tk.MaxLen W :=
  cell_of_shapedOpen_int (g := 1) (t := 3) (zero := #[.int .i64 0]) h (of_decide_eq_true (by kernel_rfl)) (by kernel_rfl) rfl (by kernel_rfl) (by kernel_rfl) Tryz.underlying3

/-- A start in which that variable holds it. -/
noncomputable def laidWorld (os : Os) : World :=
  let w0 := World.holding Tryz.prog os ⟨#[], #[], []⟩
  { w0 with heap := w0.heap.modify 0 fun
      | .cells _ t frozen => .cells #[.iface 157 (.agg #[.pointer (some ⟨2, 28, none⟩)])] t frozen
      | o => o }
theorem laidWorld_met (os : Os) (args : Array Value) : laidMetH Tryz.prog Rows.greadRightRow.laid ((laidWorld os).forCall (fun _ _ => 0) ⟨#[], args, []⟩).memory :=
  laidMetH_of_parts (laidMet_nil _ _) (by kernel_rfl)

set_option maxRecDepth 100000 in
set_option maxHeartbeats 2000000 in
theorem lifted (os : Os) (started : os.Started) (H : Type) (enc : TypeId × Value → H) (F : Stop.Interp) :
    ReturnsInHanded {} Tryz.checked os 3 .any ((OpenSpec.ofChange Rows.greadRightSpec).preRow enc Tryz.prog Tryz.f3 Rows.greadRightRow.domain false Rows.greadRightRow.laid) (((OpenSpec.ofChange Rows.greadRightSpec).at F).post enc Tryz.prog Tryz.f3 false true false false) := by
  refine returnsInHanded_of_row (C := Tryz.checked) (s := OpenSpec.ofChange Rows.greadRightSpec) own started (by kernel_rfl) Tryz.func3
    (witness_row_at (enc := enc) (C := Tryz.checked) false (laidWorld os) #[.string ⟨#[]⟩] rfl (by kernel_rfl) (by kernel_rfl) (by kernel_rfl)
      (OpenSpec.preRow_of_B rfl 8 (by kernel_rfl) (by kernel_rfl) (laidWorld_met os _))) ?_
  intro W base args ds gs before hval0 hW _ _ hsz hL hsh _
  have hval : ∀ (j : Nat) t v, Tryz.f3.params[j]? = some t → args[j]? = some v → Value.okWide Tryz.prog W .any base t v := hval0
  have hW' := hW
  obtain ⟨p, q, hA0, hV0, rfl, _, _⟩ := hW
  have hA : DataW.TrodAll enc Tryz.prog W 0 (fun _ => true) true Tryz.f3.params.toList args.toList ds p := hA0
  rw [Tryz.params3] at hA hval
  obtain ⟨v0, vs0, d0, ds0, p0, q0, hargs, rfl, rfl, h0, r0⟩ := trodAll_cons hA
  obtain ⟨rfl, rfl, rfl⟩ := trodAll_nil r0
  obtain rfl : args = #[v0] := by cases args; simp_all
  obtain ⟨rfl, rfl⟩ := trodVars_none hV0
  obtain ⟨a0, rfl, rfl, rfl, w0⟩ := open_string Tryz.underlying9 (hval 0 9 v0 rfl rfl) h0
  have hs : a0.size ≤ 140737488355328 := by
    have h1 := sized_string hsz (j := 0) (t := 9) rfl rfl
    have h47 := reachBytes_lt
    have h2 : a0.data.toList.length = a0.size := by simp
    omega
  clear hA0 hV0 hval0
  have hg := handle_of_laid hL
  have hm := max_len hsh
  refine (Rd.right_law a0 W hg hm hs).mono fun e W' ⟨he, bel⟩ => ?_
  subst he
  exact ⟨_, rfl, _, _, _, [], _, [], hW', trodAll_mk1 (shut_bool Tryz.underlying4 _), (trodAll_cons_mk (shut_string Tryz.underlying9 w0) trodAll_mk0), rfl, bel.frame _, fun h => by cases h⟩

theorem over : Rows.greadRightRow.holds Tryz.pinned (OpenSpec.ofChange Rows.greadRightSpec) :=
  OpenClaim.holds_of_cond 3 Tryz.f3 rfl rfl rfl rfl rfl rfl rfl ⟨rfl, rfl, rfl, rfl, rfl⟩ rfl rfl rfl rfl rfl (by kernel_rfl) Tryz.func3 (by kernel_rfl)
    (of_decide_eq_true (by kernel_rfl)) (by unfold Func.isWrapper; first | (rw [if_pos (by decide +kernel)]; kernel_rfl) | (rw [if_neg (by decide +kernel)]; exact ⟨rfl, rfl⟩))
    (fun os started H enc _ F0 => by rw [OpenClaim.pre_eq_preRow]; exact lifted os started H enc F0)

/-- The statement. -/
theorem proved : Rows.GreadRightCardSaid :=
  Claim7.holds_tied_plain_at .later [] [.handle] true _ true
    over (fun _ h => by cases h) (by kernel_rfl) (fun _ h => by cases h) greadRight_row_tie rfl ⟨rfl, rfl⟩ (by kernel_rfl) rfl
    (fun f fn hf hfn => by
      obtain rfl : f = 3 := Option.some.inj ((show Tryz.prog.funcNamed Rows.greadRightRow.func = some 3 by kernel_rfl).symm.trans hf) |>.symm
      obtain rfl : fn = Tryz.f3 := (Option.some.inj (Tryz.func3.symm.trans hfn)).symm
      exact ⟨by kernel_rfl, fun j t ht => by
        rw [Tryz.params3] at ht
        have hm : t ∈ [9] := by simpa using Array.mem_of_getElem? ht
        have hall : ([9].all fun u => !Tryz.prog.wantsStandIn u) = true := by kernel_rfl
        exact (show Tryz.prog.wantsStandIn t = false by simpa using List.all_eq_true.1 hall t hm)⟩)
    (by kernel_rfl)
#print axioms proved
end Go.Proofs.YtimfiaphhomelaaGreatDoor.greadRight
