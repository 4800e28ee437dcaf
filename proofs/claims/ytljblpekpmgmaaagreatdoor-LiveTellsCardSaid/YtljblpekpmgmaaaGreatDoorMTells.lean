/-
  Statement LiveTells of layer 9: of every grammar: what is productive, and reached; whether all is of use; what is left of it, are what the plain answers of the document are. No condition of ours: the statement lists the table of the library in math.bits, tied to the text of the program.
  The walk of the statement on any grammar: what is productive, and reached; whether all is of use; what is left of it. Condition: the library's table in math/bits holds its numbers.
-/
import Derived.Test.YtljblpekpmgmaaaGreatDoorMRef
import Derived.Test.YtljblpekpmgmaaaGreatDoorGramRSame
import Derived.Test.YtljblpekpmgmaaaGreatDoorGramMuch
import Derived.Test.YtljblpekpmgmaaaGreatDoorRows
import Derived.Test.YtljblpekpmgmaaaGreatDoorCards
import Derived.Test.YtljblpekpmgmaaaGreatDoorTie
import Derived.WalkKit
import Derived.ProofKit
import Derived.OpenShut
import Derived.ShutString
import Derived.ChangeOld
import Derived.ChangeSame
import Derived.Below
import Derived.LaidMore
import Derived.Lib.LaidTab
import Derived.MakeChecks
import Derived.Stop.Joined
import Derived.SevenTiedAt
import Derived.Carry
import Derived.Test.YtljblpekpmgmaaaGreatDoorGramOpen
namespace Go.Proofs.YtljblpekpmgmaaaGreatDoor.Lv
open Go.RowKit Go.Maps
open Go.Proofs.YtljblpekpmgmaaaGreatDoor.Gr
open Go.Proofs.YtljblpekpmgmaaaGreatDoor.Rw (Bk)
open Go.Proofs.YtljblpekpmgmaaaGreatDoor.Bt (Tab)
set_option linter.unusedVariables false

set_option maxHeartbeats 16000000 in
set_option maxRecDepth 100000 in
theorem tells_law (h : Sh) (G : Gram) (w : World) (k : GAt h G w) (hT : Tab w) :
    Calls Tryz.prog 3 #[gv h G] w (Is (.bool true) w) := by
  have X := Lib.hid (Bx.start h G w 25)
  have MU := Lib.hid (fun w1 (b : Below w.heap.size w w1) => much_any h G w1 (k.went b))
  have T1 := Lib.hid (fun w1 (b : Below w.heap.size w w1) => tell_any h G w1 (k.went b))
  have T2 := Lib.hid (fun w1 (b : Below w.heap.size w w1) => rtell_any h G w1 (k.went b))
  have R1 := Lib.hid (fun w1 (b : Below w.heap.size w w1) => trim_any h G w1 (k.went b))
  have R2 := Lib.hid (fun w1 (b : Below w.heap.size w w1) => rtrim_any h G w1 (k.went b))
  have PA := Lib.hid (fun w1 (b : Below w.heap.size w w1) => productive_any h G w1 (k.went b) (hT.below b hT.pos))
  have PB := Lib.hid (fun w1 (b : Below w.heap.size w w1) => rproductive_any h G w1 (k.went b))
  have RA := Lib.hid (fun w1 (b : Below w.heap.size w w1) => reached_any h G w1 (k.went b) (hT.below b hT.pos))
  have RB := Lib.hid (fun w1 (b : Below w.heap.size w w1) => rreached_any h G w1 (k.went b))
  have AW := Lib.hid (fun w1 (b : Below w.heap.size w w1) => awake_any w1 (hT.below b hT.pos))
  have hpl := prodL_len (G := G)
  have hrl := rchL_len (G := G)
  clear k hT
  obtain ⟨x0, x1, x2, x3⟩ := X.out.box
  unfold gv
  go_enter Tryz.func3, Tryz.ntmps3
  go_wp2_with fail
  refine (MU.out _ X.out.below).mono ?_
  rintro e w1 ⟨n, rfl, hn, hb⟩
  have X := Lib.hid (X.out.went hb)
  clear hb MU x0 x1 x2 x3
  obtain ⟨x0, x1, x2, x3⟩ := X.out.box
  by_cases hn9 : 200 < n
  · clear hn
    go_wp2_with (go_at_call 5; refine (AW.out _ X.out.below).mono ?_; rintro e w2 ⟨rfl, hb⟩; have HB := Lib.hid (Gr.step X.out.below hb); clear hb)
    go_ret
    exact ⟨rfl, HB.out⟩
  have htop : top G ≤ 200 := by unfold top; omega
  clear hn
  generalize prodL G = A1 at *
  generalize rchL G = A3 at *
  generalize checkL G = cl at *
  obtain ⟨cl1, cl2⟩ := cl
  generalize trimR G = H at *
  generalize trimB G = tb at *
  unfold Trimmed at R1 R2
  generalize trimR G = H at *
  generalize trimB G = tb at *
  go_wp2_with fail
  refine (T1.out _ X.out.below).mono ?_
  rintro e w2 ⟨rfl, hb⟩
  have X2 := Lib.hid (X.out.went hb)
  clear hb X x0 x1 x2 x3 T1
  obtain ⟨x0, x1, x2, x3⟩ := X2.out.box
  go_wp2_with fail
  refine (T2.out _ X2.out.below).mono ?_
  rintro e w3 ⟨rfl, hb⟩
  have X3 := Lib.hid (X2.out.went hb)
  clear hb X2 x0 x1 x2 x3 T2
  obtain ⟨x0, x1, x2, x3⟩ := X3.out.box
  go_wp2_with fail
  refine (R1.out _ X3.out.below).mono ?_
  rintro e w4 ⟨⟨b1, e1, b2, e2, b3, e3⟩, rfl, hG, hb⟩
  have bx := boxed w4 (.cells #[.slice b1 H.terms.length e1, .slice b2 H.nons.length e2, .slice b3 H.rules.length e3, .int .i64 H.start] 25)
  have X4 := Lib.hid ((X3.out.went hb).went bx)
  have Q4 := Lib.hid (Bk.new w4 #[.slice b1 H.terms.length e1, .slice b2 H.nons.length e2, .slice b3 H.rules.length e3, .int .i64 H.start] 25 _ rfl)
  have K4 := Lib.hid (hG.at_.went bx)
  have XX := Lib.hid (X3.out.went hb)
  have hw4 : w.heap.size < w4.heap.size := XX.out.size
  clear hb hG bx X3 x0 x1 x2 x3 R1
  obtain ⟨x0, x1, x2, x3⟩ := XX.out.box
  go_wp2_with fail
  generalize hW4 : w4.alloc (.cells #[.slice b1 H.terms.length e1, .slice b2 H.nons.length e2, .slice b3 H.rules.length e3, .int .i64 H.start] 25) = W4 at *
  clear hW4
  refine (R2.out _ X4.out.below).mono ?_
  rintro e w5 ⟨⟨b4, e4, b5, e5, b6, e6⟩, rfl, hG, hb⟩
  have bx := boxed w5 (.cells #[.slice b4 H.terms.length e4, .slice b5 H.nons.length e5, .slice b6 H.rules.length e6, .int .i64 H.start] 25)
  have X5 := Lib.hid ((X4.out.went hb).went bx)
  have Q5 := Lib.hid ((Q4.out.went hb).went bx)
  have K5 := Lib.hid (K4.out.went (Gr.step hb bx))
  have L5 := Lib.hid (hG.at_.went bx)
  have R5 := Lib.hid (Bk.new w5 #[.slice b4 H.terms.length e4, .slice b5 H.nons.length e5, .slice b6 H.rules.length e6, .int .i64 H.start] 25 _ rfl)
  clear hb hG bx X4 Q4 K4 x0 x1 x2 x3 XX hw4 R2
  go_wp2
  generalize hq4 : w4.heap.size = q4 at *
  generalize hq5 : w5.heap.size = q5 at *
  generalize hW5 : w5.alloc (.cells #[.slice b4 H.terms.length e4, .slice b5 H.nons.length e5, .slice b6 H.rules.length e6, .int .i64 H.start] 25) = W5 at *
  clear hW5 hq4 hq5
  have HQ := Lib.hid (show ∀ w', Below W5.heap.size W5 w' → w'.cell? ⟨w.heap.size, 0, none⟩ = some (.slice h.a1 G.terms.length h.c1) ∧ w'.cell? ⟨w.heap.size, 1, none⟩ = some (.slice h.a2 G.nons.length h.c2) ∧ w'.cell? ⟨w.heap.size, 2, none⟩ = some (.slice h.a3 G.rules.length h.c3) ∧ w'.cell? ⟨w.heap.size, 3, none⟩ = some (.int .i64 G.start) ∧
      w'.cell? ⟨q4, 0, none⟩ = some (.slice b1 H.terms.length e1) ∧ w'.cell? ⟨q4, 1, none⟩ = some (.slice b2 H.nons.length e2) ∧ w'.cell? ⟨q4, 2, none⟩ = some (.slice b3 H.rules.length e3) ∧ w'.cell? ⟨q4, 3, none⟩ = some (.int .i64 H.start) ∧
      w'.cell? ⟨q5, 0, none⟩ = some (.slice b4 H.terms.length e4) ∧ w'.cell? ⟨q5, 1, none⟩ = some (.slice b5 H.nons.length e5) ∧ w'.cell? ⟨q5, 2, none⟩ = some (.slice b6 H.rules.length e6) ∧ w'.cell? ⟨q5, 3, none⟩ = some (.int .i64 H.start) ∧ Below W5.heap.size W5 w' from fun w' hb => by
    obtain ⟨x0, x1, x2, x3⟩ := (X5.out.went hb).box
    obtain ⟨y0, y1, y2, y3, _⟩ := (Q5.out.went hb).four
    obtain ⟨z0, z1, z2, z3, _⟩ := (R5.out.went hb).four
    exact ⟨x0, x1, x2, x3, y0, y1, y2, y3, z0, z1, z2, z3, hb⟩)
  have hbd := drawn W5
  have SM := Lib.hid (fun w1 (b : Below W5.heap.size W5 w1) => show Calls Tryz.prog 15 _ w1 (Is (.bool true) w1) from by
    have := rsame_any ⟨b1, e1, b2, e2, b3, e3⟩ ⟨b4, e4, b5, e5, b6, e6⟩ H H w1 (K5.out.went b) (L5.out.went b)
    rw [sameG_self] at this
    exact this)
  have B5 := Lib.hid X5.out.below
  clear X5 Q5 R5 K5 L5
  go_region_held3 (fun w' => w'.cell? ⟨w.heap.size, 0, none⟩ = some (.slice h.a1 G.terms.length h.c1) ∧ w'.cell? ⟨w.heap.size, 1, none⟩ = some (.slice h.a2 G.nons.length h.c2) ∧ w'.cell? ⟨w.heap.size, 2, none⟩ = some (.slice h.a3 G.rules.length h.c3) ∧ w'.cell? ⟨w.heap.size, 3, none⟩ = some (.int .i64 G.start) ∧
      w'.cell? ⟨q4, 0, none⟩ = some (.slice b1 H.terms.length e1) ∧ w'.cell? ⟨q4, 1, none⟩ = some (.slice b2 H.nons.length e2) ∧ w'.cell? ⟨q4, 2, none⟩ = some (.slice b3 H.rules.length e3) ∧ w'.cell? ⟨q4, 3, none⟩ = some (.int .i64 H.start) ∧
      w'.cell? ⟨q5, 0, none⟩ = some (.slice b4 H.terms.length e4) ∧ w'.cell? ⟨q5, 1, none⟩ = some (.slice b5 H.nons.length e5) ∧ w'.cell? ⟨q5, 2, none⟩ = some (.slice b6 H.rules.length e6) ∧ w'.cell? ⟨q5, 3, none⟩ = some (.int .i64 H.start) ∧ Below W5.heap.size W5 w')
    (exact HQ.out _ (by assumption))
    (first
      | (go_at_call 11; refine (PA.out _ (Gr.step B5.out hbd)).mono ?_; rintro e v1 ⟨pa, qa, rfl, hRa, hNa, hb⟩; have l1 : Below W5.heap.size W5 v1 := Gr.step hbd hb; clear hb hNa)
      | (go_at_call 12; refine (PB.out v1 (Gr.step B5.out l1)).mono ?_; rintro e v2 ⟨pb, qb, rfl, hRb, hNb, hb⟩; have l2 : Below W5.heap.size W5 v2 := Gr.step l1 hb; have hRa2 := Sep.Reads.below hRa hb (Nat.le_refl _); clear hb hNb hRa)
      | (go_at_call 10; ((with_reducible refine (rsame_ints A1 pa pb qa qb v2 hRa2 hRb (by omega)).mono ?_)); rintro e v3 ⟨rfl, hb⟩; have l3 : Below W5.heap.size W5 v3 := Gr.step l2 hb; clear hb hRa2 hRb)
      | (go_at_call 13; refine (RA.out v3 (Gr.step B5.out l3)).mono ?_; rintro e v4 ⟨pc, qc, rfl, hRc, hNc, hb⟩; have l4 : Below W5.heap.size W5 v4 := Gr.step l3 hb; clear hb hNc)
      | (go_at_call 14; refine (RB.out v4 (Gr.step B5.out l4)).mono ?_; rintro e v5 ⟨pd, qd, rfl, hRd, hNd, hb⟩; have l5 : Below W5.heap.size W5 v5 := Gr.step l4 hb; have hRc2 := Sep.Reads.below hRc hb (Nat.le_refl _); clear hb hNd hRc)
      | (go_at_call 10; ((with_reducible refine (rsame_ints A3 pc pd qc qd v5 hRc2 hRd (by omega)).mono ?_)); rintro e v6 ⟨rfl, hb⟩; have l6 : Below W5.heap.size W5 v6 := Gr.step l5 hb; clear hb hRc2 hRd)
      | (go_at_call 15; refine (SM.out v6 l6).mono ?_; rintro e v7 ⟨rfl, hb⟩; have l7 : Below W5.heap.size W5 v7 := Gr.step l6 hb; clear hb)
      | (go_at_call 5; refine (AW.out v7 (Gr.step B5.out l7)).mono ?_; rintro e v8 ⟨rfl, hb⟩; have l8 : Below W5.heap.size W5 v8 := Gr.step l7 hb; clear hb)
      | fail)
  go_wp2
  go_ret
  exact ⟨rfl, Gr.step B5.out l8⟩

end Go.Proofs.YtljblpekpmgmaaaGreatDoor.Lv

namespace Go.Proofs.YtljblpekpmgmaaaGreatDoor.liveTells
open Go.ChangeShapes Go.WideShapes Go.ChangeAt Go.RowKit
set_option linter.unusedVariables false

theorem own : ownKnob Tryz.prog.godebug = none := by kernel_rfl
theorem laidOut : laidOutB Tryz.prog = true := by kernel_rfl

theorem table_eq : (Rows.laid_math_bits_deBruijn64tab : DataW Unit) = Lib.tabData .u8 (Lib.deBruijn64tab.map fun n : Nat => (n : Int)) := by kernel_rfl

/-- What the premise on the library's table gives a walk. -/
theorem tab_of_laid {W : World} (h : laidMetH Tryz.prog Rows.liveTellsRow.laid W) : Bt.Tab W := by
  rw [MakeChecks.laidMetH_plain _ _ _ (by kernel_rfl)] at h
  have h2 : laidMet Tryz.prog [(_, Rows.laid_math_bits_deBruijn64tab)] W := h
  rw [table_eq] at h2
  have hT := Lib.tabIs_of_head (g := 0) (t := 90) (e := 5) (n := 64) (by kernel_rfl) (by kernel_rfl) Tryz.underlying90 Tryz.underlying5 (by kernel_rfl) (by kernel_rfl) h2
  intro j hj
  have hc := hT.cell (g := 0) (by kernel_rfl) j (by simpa using hj)
  rw [hc]
  simp [List.getD, hj]

/-- A start in which that variable holds it. -/
theorem door_met (os : Os) (args : Array Value) : laidMetH Tryz.prog Rows.liveTellsRow.laid ((World.doorLaid Tryz.prog 400 os).forCall (fun _ _ => 0) ⟨#[], args, []⟩).memory :=
  laidMetH_of_parts3 (fuel := 8) (laidMet_of_run' 8 (by kernel_rfl) (by kernel_rfl)) (by kernel_rfl) (by kernel_rfl)

theorem cellsInt : Tryz.prog.cellsOf 3 = 1 := by kernel_rfl

set_option maxRecDepth 100000 in
theorem lifted (os : Os) (started : os.Started) (H : Type) (enc : TypeId × Value → H) :
    ReturnsInHanded {} Tryz.checked os 3 .any (fun w args => (Rows.liveTellsSpec.pre enc Tryz.prog Tryz.f3 [] false w args ∧ laidMetH Tryz.prog Rows.liveTellsRow.laid w) ∧ sizedMet enc Tryz.prog Tryz.f3 (OpenSpec.ofChange Rows.liveTellsSpec) false w args)
      (Rows.liveTellsSpec.post enc Tryz.prog Tryz.f3 false true false false) := by
  refine returnsInHanded_of_change_and (C := Tryz.checked) (X := fun w _ => laidMetH Tryz.prog Rows.liveTellsRow.laid w) (fun _ _ _ hh h => h.of_heap hh) own started (by kernel_rfl) Tryz.func3
    (ChangeSpec.witness_shaped (enc := enc) (C := Tryz.checked) (os := os) (X := fun w _ => laidMetH Tryz.prog Rows.liveTellsRow.laid w) false (World.doorLaid Tryz.prog 400 os) #[.agg #[.slice none 0 0, .slice none 0 0, .slice none 0 0, .int .i64 0]] 8 rfl (World.shaped_of_RefB (by kernel_rfl) (by kernel_rfl)) (by kernel_rfl) (by kernel_rfl) (by kernel_rfl) (door_met os _)) ?_
  intro W base args ds gs before hval0 hW _ hsz hL _
  have hval : ∀ (j : Nat) t v, Tryz.f3.params[j]? = some t → args[j]? = some v → Value.okWide Tryz.prog W .any base t v := hval0
  have hW' := hW
  obtain ⟨p, q, hA0, hV, rfl, hfz, hnd⟩ := hW
  have hA : DataW.TrodAll enc Tryz.prog W 0 (fun _ => true) true Tryz.f3.params.toList args.toList ds p := hA0
  rw [Tryz.params3] at hA hval
  obtain ⟨v0, vs0, d0, ds0, p0, q0, hargs, rfl, rfl, h0, r0⟩ := trodAll_cons hA
  obtain ⟨rfl, rfl, rfl⟩ := trodAll_nil r0
  obtain rfl : args = #[v0] := by cases args; simp_all
  obtain ⟨rfl, rfl⟩ := trodVars_none hV
  have hlt0 : ∀ x ∈ p0, x.block < W.heap.size := fun x hx => hW'.lt x (by simp [hx])
  obtain ⟨sh0, G0, rfl, g0⟩ := Gr.gram_of (hval 0 25 v0 rfl rfl) h0 (Gr.within_of hsz (j := 0) (t := 25) rfl rfl)
  clear hA0 hval0
  have hT := tab_of_laid hL
  refine (Lv.tells_law sh0 G0 W g0 hT).mono fun e W' ⟨he, bel⟩ => ?_
  subst he
  exact ⟨_, rfl, _, _, _, [], _, [], hW', trodAll_mk1 (shut_bool Tryz.underlying4 _), (trodAll_cons_mk (Below.trod laidOut (by kernel_rfl) (of_decide_eq_true (by kernel_rfl)) h0 bel hlt0) trodAll_mk0), rfl, bel.frame _, fun h => by cases h⟩

theorem over : Rows.liveTellsRow.holds Tryz.pinned (OpenSpec.ofChange Rows.liveTellsSpec) :=
  OpenClaim.holds_of_wide 3 Tryz.f3 rfl rfl rfl rfl rfl rfl rfl ⟨rfl, rfl, rfl, rfl, rfl⟩ rfl rfl rfl rfl rfl (by kernel_rfl) Tryz.func3 (by kernel_rfl)
    (of_decide_eq_true (by kernel_rfl)) (by unfold Func.isWrapper; first | (rw [if_pos (by decide +kernel)]; kernel_rfl) | (rw [if_neg (by decide +kernel)]; exact ⟨rfl, rfl⟩))
    (fun os started H enc _ => lifted os started H enc)

/-- The statement. -/
theorem proved : Rows.LiveTellsCardSaid :=
  Claim7.holds_tied_plain_at .later [] [.data] true _ false
    over (fun _ h => by cases h) (by kernel_rfl) (fun _ h => by cases h) liveTells_row_tie rfl ⟨rfl, rfl⟩ (by kernel_rfl) rfl
    (fun f fn hf hfn => by
      obtain rfl : f = 3 := Option.some.inj ((show Tryz.prog.funcNamed Rows.liveTellsRow.func = some 3 by kernel_rfl).symm.trans hf) |>.symm
      obtain rfl : fn = Tryz.f3 := (Option.some.inj (Tryz.func3.symm.trans hfn)).symm
      exact ⟨by kernel_rfl, fun j t ht => by
        rw [Tryz.params3] at ht
        have hm : t ∈ [25] := by simpa using Array.mem_of_getElem? ht
        have hall : ([25].all fun u => !Tryz.prog.wantsStandIn u) = true := by kernel_rfl
        exact (show Tryz.prog.wantsStandIn t = false by simpa using List.all_eq_true.1 hall t hm)⟩)
    (by kernel_rfl)
#print axioms proved
end Go.Proofs.YtljblpekpmgmaaaGreatDoor.liveTells
