/-
  Statement GshowAgain of layer 8: for every text of at most 2000 bytes that is read as a grammar, the text that is shown of it is read as the same grammar, and that is shown as the same text. No condition of ours: that the variable MaxLen of the library holds a number is the shape of the world.
  Every text has a grammar, or an error; and the grammar is valid and in order. No program in the statements; they speak of what Parse answers.
  The walk of the statement that a text that is read, shown and read again is one grammar. Condition: MaxLen's variable holds a number.
-/
import Derived.Test.YtimfiaphhomelaaGreatMParse
import Derived.Test.YtimfiaphhomelaaGreatMPlain
import Derived.Test.YtimfiaphhomelaaGreatMShow
import Derived.Test.YtimfiaphhomelaaGreatRows
import Derived.WalkKit
import Derived.ProofKit
import Derived.OpenShut
import Derived.ShutString
import Derived.ChangeOld
import Derived.Below
import Derived.SizedLaws
import Derived.Carry
import Derived.HandedShaped
import Derived.Shelf.Vars
namespace Go.Proofs.YtimfiaphhomelaaGreat.Rd
open Go.RowKit Go.Maps
set_option linter.unusedVariables false
set_option linter.unusedSimpArgs false

/-- Every text has a grammar, or an error. -/
theorem parse_total (l : List UInt8) : ∃ y, ParseIs l y := by
  obtain ⟨r, hr⟩ := Tk.lexes_total l
  cases r with
  | bad n p => exact ⟨.no n p, _, hr, rfl⟩
  | ok T =>
    obtain ⟨t1, t2, t3⟩ := lexes_ok hr
    have hne := sourceP_in T.length T t1 (Nat.le_refl _)
    cases hx : sourceP T.length T with
    | out => exact absurd hx hne
    | no n q => exact ⟨.no n q, _, hr, _, ⟨_, hx, (fun h => by cases h)⟩, rfl⟩
    | ok src rest => exact ⟨makeM src, _, hr, _, ⟨_, hx, (fun h => by cases h)⟩, rfl⟩
/-- What is read is valid, in order, and has a nonterminal. -/
theorem parse_good {l : List UInt8} {G : Gr.Gram} (h : ParseIs l (.ok G)) : Gr.checkN G = 0 ∧ Gr.ordB G = true ∧ 0 < G.nons.length := by
  obtain ⟨r, hr, hy⟩ := h
  cases r with
  | bad n p => cases hy
  | ok T =>
    obtain ⟨x, ⟨f, hf, hne⟩, hy⟩ := hy
    cases x with
    | out => exact absurd rfl hne
    | no n q => cases hy
    | ok src rest => exact makeM_good (show makeM src = .ok G from hy.symm) (sourceP_well hf (lexes_well hr))

end Go.Proofs.YtimfiaphhomelaaGreat.Rd

namespace Go.Proofs.YtimfiaphhomelaaGreat.Sw
open Go.RowKit Go.Maps
open Go.Proofs.YtimfiaphhomelaaGreat.Gr (Gram GAt Sh gv Is Bx checkN ordB)
open Go.Proofs.YtimfiaphhomelaaGreat.Tk (MaxLen)
open Go.Proofs.YtimfiaphhomelaaGreat.Rd (ParseIs ParseGave parse_any Mo zg)
set_option linter.unusedVariables false
set_option linter.unusedSimpArgs false

set_option maxHeartbeats 1000000 in
set_option maxRecDepth 100000 in
theorem again_law (s : ByteArray) (w : World) (hm : MaxLen w) (hs : s.size ≤ 140737488355328) : Calls Tryz.prog 4 #[.string s] w (Is (.bool true) w) := by
  have AW := Lib.hid awake_any
  by_cases hl : 2000 < s.size
  · clear hm
    go_enter Tryz.func4, Tryz.ntmps4
    go_wp2_with (go_at_call 8; refine (AW.out _).mono ?_; rintro e w1 ⟨rfl, hb⟩; have B1 := Lib.hid hb; clear hb)
    go_ret
    exact ⟨rfl, B1.out⟩
  · obtain ⟨y, hy⟩ := Rd.parse_total s.data.toList
    have PA := Lib.hid (parse_any s y w hy hs hm)
    have HM := Lib.hid hm
    clear hm
    cases y with
    | no n p =>
      clear hy
      go_enter Tryz.func4, Tryz.ntmps4
      go_wp2_with (first
        | (go_at_call 10; refine PA.out.mono ?_; rintro e w1 ⟨rfl, hb⟩; have B1 := Lib.hid (Gr.step hb (Gr.boxed w1 (.cells zg 25))); clear hb)
        | (go_at_call 8; refine (AW.out _).mono ?_; rintro e w2 ⟨rfl, hb⟩; have B2 := Lib.hid (Gr.step B1.out hb); clear hb)
        | fail)
      go_ret
      exact ⟨rfl, B2.out⟩
    | ok G =>
      obtain ⟨hv, ho, _⟩ := Rd.parse_good hy
      clear hy
      have SH := Lib.hid (fun l w' (m : GAt l G w') => show_any l G w' m (fun _ _ => short_of hv ho))
      have hsz : (showS G).size = (showL G).length := by rw [show_is hv ho, str_size]
      have SM := Lib.hid (fun l l2 w' (m : GAt l G w') (m2 : GAt l2 G w') => show Calls Tryz.prog 11 #[gv l G, gv l2 G] w' (Is (.bool true) w') from by have := Gr.rsame_any l l2 G G w' m m2; rw [Gr.sameG_self] at this; exact this)
      by_cases hl2 : 8192 < (showL G).length
      · clear hv ho SM
        rw [← hsz] at hl2
        clear hsz
        generalize showS G = S at *
        go_enter Tryz.func4, Tryz.ntmps4
        go_wp2_with (first
          | (go_at_call 10; refine PA.out.mono ?_; rintro e w1 ⟨l, rfl, hG, hb⟩; have X1 := Lib.hid (Bx.start l G w1 25); have G1 := Lib.hid (hG.went (Gr.boxed w1 (.cells #[.slice l.a1 G.terms.length l.c1, .slice l.a2 G.nons.length l.c2, .slice l.a3 G.rules.length l.c3, .int .i64 G.start] 25))); have B1 := Lib.hid hb; clear hb hG)
          | (go_at_call 9; refine (SH.out l _ G1.out).mono ?_; rintro e w2 ⟨rfl, hb⟩; have B2 := Lib.hid (Gr.step (Gr.step B1.out (Gr.boxed _ _)) hb); clear hb)
          | (go_at_call 8; refine (AW.out _).mono ?_; rintro e w5 ⟨rfl, hb⟩; have B5 := Lib.hid (Gr.step B2.out hb); clear hb)
          | fail)
        go_ret
        exact ⟨rfl, B5.out⟩
      · have PB := Lib.hid (fun w' (b : Below w.heap.size w w') => read_back hv ho (by omega) w' (HM.out.keep b))
        clear hv ho
        rw [← hsz] at hl2
        clear hsz
        generalize showS G = S at *
        go_enter Tryz.func4, Tryz.ntmps4
        go_upto_region 6 with (go_at_call 10; refine PA.out.mono ?_; rintro e w1 ⟨l, rfl, hG, hb⟩; have X1 := Lib.hid (Bx.start l G w1 25); have G1 := Lib.hid (hG.went (Gr.boxed w1 (.cells #[.slice l.a1 G.terms.length l.c1, .slice l.a2 G.nons.length l.c2, .slice l.a3 G.rules.length l.c3, .int .i64 G.start] 25))); have B1 := Lib.hid (Gr.step hb (Gr.boxed w1 (.cells #[.slice l.a1 G.terms.length l.c1, .slice l.a2 G.nons.length l.c2, .slice l.a3 G.rules.length l.c3, .int .i64 G.start] 25))); clear hb hG)
        generalize w1.alloc (.cells #[.slice l.a1 G.terms.length l.c1, .slice l.a2 G.nons.length l.c2, .slice l.a3 G.rules.length l.c3, .int .i64 G.start] 25) = W1 at *
        obtain ⟨_, x0, x1, x2, x3⟩ := X1.out
        go_upto_region 10 with (first
          | (go_at_call 9; refine (SH.out l _ G1.out).mono ?_; rintro e w2 ⟨rfl, hb⟩; have X2 := Lib.hid (X1.out.went hb); have G2 := Lib.hid (G1.out.went hb); have B2 := Lib.hid (Gr.step B1.out hb); clear hb x0 x1 x2 x3)
          | (go_at_call 10; refine (PB.out _ B2.out).mono ?_; rintro e w3 ⟨l2, rfl, hG, hb⟩; have b := Gr.step hb (Gr.boxed w3 (.cells #[.slice l2.a1 G.terms.length l2.c1, .slice l2.a2 G.nons.length l2.c2, .slice l2.a3 G.rules.length l2.c3, .int .i64 G.start] 25)); have X3 := Lib.hid (X2.out.went b); have G3 := Lib.hid (G2.out.went b); have B3 := Lib.hid (Gr.step B2.out b); have Y3 := Lib.hid (Bx.start l2 G w3 25); have H3 := Lib.hid (hG.went (Gr.boxed w3 (.cells #[.slice l2.a1 G.terms.length l2.c1, .slice l2.a2 G.nons.length l2.c2, .slice l2.a3 G.rules.length l2.c3, .int .i64 G.start] 25))); clear hb hG b)
          | fail)
        generalize w3.alloc (.cells #[.slice l2.a1 G.terms.length l2.c1, .slice l2.a2 G.nons.length l2.c2, .slice l2.a3 G.rules.length l2.c3, .int .i64 G.start] 25) = W3 at *
        obtain ⟨_, x0, x1, x2, x3⟩ := X3.out
        obtain ⟨_, y0, y1, y2, y3⟩ := Y3.out
        go_wp2_with (first
          | (go_at_call 11; refine (SM.out l l2 _ G3.out H3.out).mono ?_; rintro e w4 ⟨rfl, hb⟩; have Y4 := Lib.hid (Y3.out.went hb); have H4 := Lib.hid (H3.out.went hb); have B4 := Lib.hid (Gr.step B3.out hb); clear hb x0 x1 x2 x3 y0 y1 y2 y3; obtain ⟨_, y0, y1, y2, y3⟩ := Y4.out)
          | (go_at_call 9; refine (SH.out l2 _ H4.out).mono ?_; rintro e w5 ⟨rfl, hb⟩; have B5 := Lib.hid (Gr.step B4.out hb); clear hb y0 y1 y2 y3)
          | (go_at_call 8; refine (AW.out _).mono ?_; rintro e w6 ⟨rfl, hb⟩; have B6 := Lib.hid (Gr.step B5.out hb); clear hb)
          | fail)
        go_ret
        exact ⟨rfl, B6.out⟩

end Go.Proofs.YtimfiaphhomelaaGreat.Sw

namespace Go.Proofs.YtimfiaphhomelaaGreat.gshowAgain
open Go.ChangeShapes Go.WideShapes Go.ChangeAt Go.RowKit
open Go.ChangeMaps (open_string shut_string)
open Go.Proofs.YtimfiaphhomelaaGreat
set_option linter.unusedVariables false

theorem own : ownKnob Tryz.prog.godebug = none := by kernel_rfl
theorem laidOut : laidOutB Tryz.prog = true := by kernel_rfl

/-- That variable of the library's holds a number. -/
theorem max_len {W : World} (h : W.ShapedOpen Tryz.prog) : Tk.MaxLen W :=
  cell_of_shapedOpen_int (g := 0) (t := 3) (zero := #[.int .i64 0]) h (of_decide_eq_true (by kernel_rfl)) (by kernel_rfl) rfl (by kernel_rfl) (by kernel_rfl) Tryz.underlying3

set_option maxRecDepth 100000 in
theorem lifted (os : Os) (started : os.Started) (H : Type) (enc : TypeId × Value → H) :
    ReturnsInHanded {} Tryz.checked os 4 .any (Rows.gshowAgainSpec.pre6 enc Tryz.prog Tryz.f4 Rows.gshowAgainRow.domain false) (Rows.gshowAgainSpec.post enc Tryz.prog Tryz.f4 false true false false) := by
  refine returnsInHanded_of_change_shaped (C := Tryz.checked) own started (by kernel_rfl) Tryz.func4
    (ChangeSpec.witness6 (enc := enc) (C := Tryz.checked) false ⟨#[], #[.string ByteArray.empty], []⟩ 8 (by kernel_rfl) (by kernel_rfl) (by kernel_rfl) (by kernel_rfl)) ?_
  intro W base args ds gs before hval0 hW hcnd hsz hsh _
  have hval : ∀ (j : Nat) t v, Tryz.f4.params[j]? = some t → args[j]? = some v → Value.okWide Tryz.prog W .any base t v := hval0
  have hW' := hW
  obtain ⟨p, q, hA0, hV, rfl, hfz, hnd⟩ := hW
  have hA : DataW.TrodAll enc Tryz.prog W 0 (fun _ => true) true Tryz.f4.params.toList args.toList ds p := hA0
  rw [Tryz.params4] at hA hval
  obtain ⟨v0, vs0, d0, ds0, p0, q0, hargs, rfl, rfl, h0, r0⟩ := trodAll_cons hA
  obtain ⟨rfl, rfl, rfl⟩ := trodAll_nil r0
  obtain rfl : args = #[v0] := by cases args; simp_all
  obtain ⟨rfl, rfl⟩ := trodVars_none hV
  obtain ⟨a0, rfl, rfl, rfl, w0⟩ := open_string Tryz.underlying9 (hval 0 9 v0 rfl rfl) h0
  have hs0 : a0.size ≤ 140737488355328 := by
    have h1 := sized_string hsz (j := 0) (t := 9) rfl rfl
    have h47 := reachBytes_lt
    have h2 : a0.data.toList.length = a0.size := by simp
    omega
  have hm := max_len hsh
  clear hA0 hval0
  refine (Sw.again_law a0 W hm hs0).mono fun e W' ⟨he, bel⟩ => ?_
  subst he
  exact ⟨_, rfl, _, _, _, [], _, [], hW', trodAll_mk1 (shut_bool Tryz.underlying4 _), (trodAll_cons_mk (shut_string Tryz.underlying9 w0) trodAll_mk0), rfl, bel.frame _, fun h => by cases h⟩

theorem over : Rows.gshowAgainRow.holds Tryz.pinned (OpenSpec.ofChange Rows.gshowAgainSpec) :=
  OpenClaim.holds_of_wide 4 Tryz.f4 rfl rfl rfl rfl rfl rfl rfl ⟨rfl, rfl, rfl, rfl, rfl⟩ rfl rfl rfl rfl rfl (by kernel_rfl) Tryz.func4 (by kernel_rfl)
    (of_decide_eq_true (by kernel_rfl)) (by unfold Func.isWrapper; first | (rw [if_pos (by decide +kernel)]; kernel_rfl) | (rw [if_neg (by decide +kernel)]; exact ⟨rfl, rfl⟩))
    (fun os started H enc _ => lifted os started H enc)

/-- The statement. -/
theorem proved : Rows.GshowAgainSaid := over
#print axioms proved
end Go.Proofs.YtimfiaphhomelaaGreat.gshowAgain
