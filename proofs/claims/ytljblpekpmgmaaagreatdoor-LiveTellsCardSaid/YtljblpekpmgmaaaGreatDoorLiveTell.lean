/-
  Package live: Productive, Reached, Check. Condition: the library's table in math/bits holds its numbers.
-/
import Derived.Test.YtljblpekpmgmaaaGreatDoorLiveReach
namespace Go.Proofs.YtljblpekpmgmaaaGreatDoor.Lv
open Go.RowKit Go.Maps
open Go.Proofs.YtljblpekpmgmaaaGreatDoor.Gr
open Go.Proofs.YtljblpekpmgmaaaGreatDoor.Bt (SetAt SetV has Keeps Upto Tab els)
set_option linter.unusedVariables false

theorem prod_els {G : Gram} {B : Nat → Bool} (hc : checkN G = 0) (hB : Upto B (top G + 1)) (h : Full (Prod G) B) : (els B).map Bt.iv = ivs (prodL G) := by
  have h4 := (sml_of hc).known
  unfold prodL
  rw [if_pos hc, ← els_sel hB h fun h0 => by have := nonB_iff.1 (prod_non h4 h0); omega]
  unfold ivs
  rw [List.map_map]
  rfl
theorem rch_els {G : Gram} {B : Nat → Bool} (hk : knownB G = true) (hB : Upto B (top G + 1)) (h : Full (Rch G) B) : (els B).map Bt.iv = ivs (fromL G) := by
  unfold fromL
  rw [← els_sel hB h fun h0 => by have := rch_in hk h0; omega]
  unfold ivs
  rw [List.map_map]
  rfl
theorem listed_of {l : List Int} {B : Nat → Bool} {W w : World} {e : Ending} {w' : World} (hE : (els B).map Bt.iv = ivs l) (hb : Below W.heap.size W w) (h : Bt.Listed B w e w') : Listed l W e w' := by
  obtain ⟨v, rfl, ho, hb2⟩ := h
  have hl : (els B).length = l.length := by
    have := congrArg List.length hE
    simpa [ivs] using this
  rw [hE, hl] at ho
  obtain ⟨a, c, rfl⟩ := Sep.ownsRow_shape ho
  exact ⟨a, c, rfl, Sep.Reads.of_row ho, row_new ho hb.size, Gr.step hb hb2⟩

set_option maxHeartbeats 4000000 in
theorem productive_any (h : Sh) (G : Gram) (w : World) (k : GAt h G w) (hT : Tab w) :
    Calls Tryz.prog 11 #[gv h G] w (Listed (prodL G) w) := by
  have X := Lib.hid (Bx.start h G w 25)
  have C := Lib.hid (fun w1 (b : Below w.heap.size w w1) => check_any h G w1 (k.went b))
  obtain ⟨x0, x1, x2, x3⟩ := X.out.box
  by_cases hc : checkN G = 0
  · have F := Lib.hid (fun w1 (b : Below w.heap.size w w1) => findProductive_any h G w1 (k.went b) (sml_of hc))
    have E := Lib.hid (fun B hB hf => prod_els (B := B) hc hB hf)
    rw [hc] at C
    have TB := Lib.hid (fun w1 (b : Below w.heap.size w w1) => hT.below b hT.pos)
    clear k hc hT
    unfold gv
    go_enter Tryz.func11, Tryz.ntmps11
    go_wp2_with (first
      | (go_at_call 16; refine (C.out _ X.out.below).mono ?_; rintro e w1 ⟨rfl, hb⟩; have X := Lib.hid (X.out.went hb); clear x0 x1 x2 x3; obtain ⟨x0, x1, x2, x3⟩ := X.out.box; clear hb)
      | (go_at_call 18; refine (F.out _ X.out.below).mono ?_; rintro e w2 ⟨p, d, B, rfl, hp, hd, hS, hf, hb⟩; have X := Lib.hid (X.out.went hb); have S := Lib.hid hS; have EE := Lib.hid (E.out B hS.upto hf); clear hb hS hf)
      | (go_at_call 32; refine (Bt.list_any _ (.at_ S.out) (TB.out _ X.out.below)).mono ?_; rintro e w3 hl; have L := Lib.hid (listed_of EE.out X.out.below hl); obtain ⟨v, rfl, _, _⟩ := hl))
    go_ret
    exact L.out
  · have E := Lib.hid (show prodL G = [] by unfold prodL; rw [if_neg hc])
    have hb : (checkN G != 0) = true := by simpa using hc
    clear k hc hT
    generalize checkN G = ck at *
    unfold gv
    go_enter Tryz.func11, Tryz.ntmps11
    go_wp2_with (go_at_call 16; refine (C.out _ X.out.below).mono ?_; rintro e w1 ⟨rfl, hb⟩; have X := Lib.hid (X.out.went hb); clear hb)
    go_ret
    rw [E.out]
    exact ⟨none, 0, rfl, .nil _ _, (fun x h => by cases h), X.out.below⟩

set_option maxHeartbeats 4000000 in
theorem reached_any (h : Sh) (G : Gram) (w : World) (k : GAt h G w) (hT : Tab w) :
    Calls Tryz.prog 13 #[gv h G] w (Listed (rchL G) w) := by
  have X := Lib.hid (Bx.start h G w 25)
  have C := Lib.hid (fun w1 (b : Below w.heap.size w w1) => check_any h G w1 (k.went b))
  obtain ⟨x0, x1, x2, x3⟩ := X.out.box
  by_cases hc : checkN G = 0
  · have F := Lib.hid (fun w1 (b : Below w.heap.size w w1) => findReached_any h G w1 (k.went b) (sml_of hc))
    have E := Lib.hid (fun B hB hf => rch_els (B := B) (sml_of hc).known hB hf)
    have E2 := Lib.hid (show rchL G = fromL G by unfold rchL; rw [if_pos hc])
    rw [hc] at C
    have TB := Lib.hid (fun w1 (b : Below w.heap.size w w1) => hT.below b hT.pos)
    clear k hc hT
    unfold gv
    go_enter Tryz.func13, Tryz.ntmps13
    go_wp2_with (first
      | (go_at_call 16; refine (C.out _ X.out.below).mono ?_; rintro e w1 ⟨rfl, hb⟩; have X := Lib.hid (X.out.went hb); clear x0 x1 x2 x3; obtain ⟨x0, x1, x2, x3⟩ := X.out.box; clear hb)
      | (go_at_call 17; refine (F.out _ X.out.below).mono ?_; rintro e w2 ⟨p, d, B, rfl, hp, hd, hS, hf, hb⟩; have X := Lib.hid (X.out.went hb); have S := Lib.hid hS; have EE := Lib.hid (E.out B hS.upto hf); clear hb hS hf)
      | (go_at_call 32; refine (Bt.list_any _ (.at_ S.out) (TB.out _ X.out.below)).mono ?_; rintro e w3 hl; have L := Lib.hid (listed_of EE.out X.out.below hl); obtain ⟨v, rfl, _, _⟩ := hl))
    go_ret
    rw [E2.out]
    exact L.out
  · have E := Lib.hid (show rchL G = [] by unfold rchL; rw [if_neg hc])
    have hb : (checkN G != 0) = true := by simpa using hc
    clear k hc hT
    generalize checkN G = ck at *
    unfold gv
    go_enter Tryz.func13, Tryz.ntmps13
    go_wp2_with (go_at_call 16; refine (C.out _ X.out.below).mono ?_; rintro e w1 ⟨rfl, hb⟩; have X := Lib.hid (X.out.went hb); clear hb)
    go_ret
    rw [E.out]
    exact ⟨none, 0, rfl, .nil _ _, (fun x h => by cases h), X.out.below⟩

/-! ### Check -/

/-- Two numbers come back; nothing that was there is written. -/
def Told (c : Int × Int) (w : World) (e : Ending) (w' : World) : Prop := e = .returned (.tuple #[.int .i64 c.1, .int .i64 c.2]) ∧ Below w.heap.size w w'

/-- The two sets of Check. -/
structure Two (W : World) (h : Sh) (G : Gram) (p1 d1 p2 d2 n : Nat) (B1 B2 : Nat → Bool) (w : World) : Prop where
  x : Bx W h G w
  s1 : SetAt p1 d1 n B1 w
  s2 : SetAt p2 d2 n B2 w
theorem Two.went {W : World} {h : Sh} {G : Gram} {p1 d1 p2 d2 n : Nat} {B1 B2 : Nat → Bool} {w w' : World} (k : Two W h G p1 d1 p2 d2 n B1 B2 w) (hb : Below w.heap.size w w') : Two W h G p1 d1 p2 d2 n B1 B2 w' :=
  ⟨k.x.went hb, set_went k.s1 hb, set_went k.s2 hb⟩
/-- None of the first j symbols is of no use. -/
def NoDead (G : Gram) (j : Nat) : Prop := ∀ t : Nat, t < j → ¬ Dead G ((t : Int) + 1)
theorem dead_rch {G : Gram} {B1 : Nat → Bool} (f1 : Full (Rch G) B1) {s : Int} (h : has B1 s = false) : Dead G s := .inl fun hr => by
  rw [(f1 s).2 hr] at h
  cases h
theorem dead_by {G : Gram} {B1 B2 : Nat → Bool} (f1 : Full (Rch G) B1) (f2 : Full (Prod G) B2) {s : Int} (h : has B1 s = true) : Dead G s ↔ deadB G B2 s = true := by
  have hr := (f1 s).1 h
  unfold Dead deadB
  rw [Bool.and_eq_true, ← f2 s]
  constructor
  · rintro (h1 | ⟨h1, h2⟩)
    · exact absurd hr h1
    · exact ⟨h1, by simpa using h2⟩
  · rintro ⟨h1, h2⟩
    exact .inr ⟨h1, by simpa using h2⟩
theorem tell_dead {G : Gram} {j : Nat} (hc : checkN G = 0) (hj : j < top G) (hn : NoDead G j) (hd : Dead G ((j : Int) + 1)) : checkL G = (11, (j : Int) + 1) := by
  unfold checkL
  have e := dead_at hj hn hd
  rw [if_pos hc, e, if_neg (by omega)]
theorem tell_ok {G : Gram} (hc : checkN G = 0) (hn : NoDead G (top G)) : checkL G = (0, 0) := by
  unfold checkL
  rw [if_pos hc, if_pos (dead_not hn)]
theorem noDead_step {G : Gram} {j : Nat} (h : NoDead G j) (hd : ¬ Dead G ((j : Int) + 1)) : NoDead G (j + 1) := fun t ht => by
  by_cases e : t = j
  · subst e
    exact hd
  · exact h t (by omega)

def CkLoop (W : World) (h : Sh) (G : Gram) (p1 d1 p2 d2 n : Nat) (B1 B2 : Nat → Bool) (i : Value) (w : World) : Prop :=
  ∃ j : Nat, j ≤ top G ∧ i = .int .i64 j ∧ Two W h G p1 d1 p2 d2 n B1 B2 w ∧ NoDead G j

set_option maxRecDepth 100000 in
set_option maxHeartbeats 8000000 in
theorem tell_any (h : Sh) (G : Gram) (w : World) (k : GAt h G w) :
    Calls Tryz.prog 6 #[gv h G] w (Told (checkL G) w) := by
  have X := Lib.hid (Bx.start h G w 25)
  have C := Lib.hid (fun w1 (b : Below w.heap.size w w1) => check_any h G w1 (k.went b))
  obtain ⟨x0, x1, x2, x3⟩ := X.out.box
  by_cases hc : checkN G = 0
  · have FP := Lib.hid (fun w1 (b : Below w.heap.size w w1) => findProductive_any h G w1 (k.went b) (sml_of hc))
    have FR := Lib.hid (fun w1 (b : Below w.heap.size w w1) => findReached_any h G w1 (k.went b) (sml_of hc))
    have T := Lib.hid (fun w1 (b : Below w.heap.size w w1) => top_any h G w1 (k.went b))
    have D := Lib.hid (fun s p d n B w1 (b : Below w.heap.size w w1) hS hs => dead_any h G s p d n B w1 (k.went b) hS hs)
    have TD := Lib.hid (fun j hj hn hd => tell_dead (G := G) (j := j) hc hj hn hd)
    have TO := Lib.hid (fun hn => tell_ok (G := G) hc hn)
    have htop : top G ≤ 240 := by have := (sml_of hc).t; have := (sml_of hc).n; unfold top; omega
    rw [hc] at C
    clear k hc
    unfold gv
    go_enter Tryz.func6, Tryz.ntmps6
    go_wp2_with (go_at_call 16; refine (C.out _ X.out.below).mono ?_; rintro e w1 ⟨rfl, hb⟩; have X := Lib.hid (X.out.went hb); clear x0 x1 x2 x3; obtain ⟨x0, x1, x2, x3⟩ := X.out.box; clear hb)
    have HQ := Lib.hid (four x0 x1 x2 x3)
    have hbd := drawn w1
    clear x0 x1 x2 x3
    go_region_held3 (fun w' => w'.cell? ⟨w.heap.size, 0, none⟩ = some (.slice h.a1 G.terms.length h.c1) ∧ w'.cell? ⟨w.heap.size, 1, none⟩ = some (.slice h.a2 G.nons.length h.c2) ∧ w'.cell? ⟨w.heap.size, 2, none⟩ = some (.slice h.a3 G.rules.length h.c3) ∧ w'.cell? ⟨w.heap.size, 3, none⟩ = some (.int .i64 G.start) ∧ Below w1.heap.size w1 w')
      (exact HQ.out _ (by assumption))
      (first
        | (go_at_call 17; refine (FR.out _ (Gr.step X.out.below hbd)).mono ?_; rintro e w2 ⟨p1, d1, B1, rfl, hp1, hd1, hS1, hf1, hb⟩; have l1 : Below w1.heap.size w1 w2 := Gr.step hbd hb; clear hb)
        | (go_at_call 18; refine (FP.out _ (Gr.step X.out.below l1)).mono ?_; rintro e w3 ⟨p2, d2, B2, rfl, hp2, hd2, hS2, hf2, hb⟩; have l2 : Below w1.heap.size w1 w3 := Gr.step l1 hb; have hS3 := set_went hS1 hb; clear hb)
        | fail)
    have TW := Lib.hid (show Two w h G p1 d1 p2 d2 (top G + 1) B1 B2 w3 from ⟨X.out.went l2, hS3, hS2⟩)
    have F1 := Lib.hid hf1
    have F2 := Lib.hid hf2
    clear hS1 hS2 hS3 hf1 hf2 l1 l2 hp1 hp2 hd1 hd2 X HQ hbd C FP FR
    obtain ⟨x0, x1, x2, x3⟩ := TW.out.x.box
    go_wp2_with (go_at_call 19; refine (T.out _ TW.out.x.below).mono ?_; rintro e w4 ⟨rfl, hb⟩; have TV := Lib.hid (TW.out.went hb); clear hb)
    clear x0 x1 x2 x3 TW
    go_loopw [20] (fun i wr => CkLoop w h G p1 d1 p2 d2 (top G + 1) B1 B2 i wr) (fun i _ => top G - (intOf i).toNat)
    case atStart => exact ⟨0, Nat.zero_le _, rfl, TV.out, fun t ht => absurd ht (by omega)⟩
    case round =>
      clear TV
      obtain ⟨j, hj, rfl, hT, hN⟩ := hrel
      have TV := Lib.hid hT
      have ND := Lib.hid hN
      obtain ⟨x0, x1, x2, x3⟩ := hT.x.box
      clear hT hN
      by_cases hlt : j < top G
      · have H := Lib.hid (Bt.has_any wr (.at_ TV.out.s1) ((j : Int) + 1) (by omega))
        cases hh : has B1 ((j : Int) + 1) with
        | false =>
          have R := Lib.hid (TD.out j hlt ND.out (dead_rch F1.out hh))
          rw [hh] at H
          clear hh D T
          go_wp2_with (go_at_call 20; refine H.out.mono ?_; rintro e w5 ⟨rfl, m, rfl⟩; have X := Lib.hid (TV.out.x.went (drawnN _ m)))
          go_ret2
          rw [R.out]
          exact ⟨rfl, X.out.below⟩
        | true =>
          have DB := Lib.hid (dead_by F1.out F2.out hh)
          rw [hh] at H
          have DC := Lib.hid (fun w1 (b : Below wr.heap.size wr w1) => D.out ((j : Int) + 1) p2 d2 (top G + 1) B2 w1 (Gr.step TV.out.x.below b) (set_went TV.out.s2 b) (by omega))
          clear hh
          cases hd : deadB G B2 ((j : Int) + 1) with
          | false =>
            rw [hd] at DC
            have N2 := Lib.hid (noDead_step ND.out fun hh => by rw [DB.out.1 hh] at hd; cases hd)
            clear hd
            go_wp2_with (first
              | (go_at_call 20; refine H.out.mono ?_; rintro e w5 ⟨rfl, m, rfl⟩; clear x0 x1 x2 x3; obtain ⟨x0, x1, x2, x3⟩ := (TV.out.x.went (drawnN _ m)).box)
              | (go_at_call 21; refine (DC.out _ (drawnN _ m)).mono ?_; rintro e w6 ⟨rfl, hb⟩; have T6 := Lib.hid (TV.out.went (Gr.step (drawnN _ m) hb)); clear hb))
            go_roundw
            case rel => exact ⟨j + 1, by omega, by go_num, T6.out, N2.out⟩
            case measure => simp [intOf]; omega
          | true =>
            rw [hd] at DC
            have R := Lib.hid (TD.out j hlt ND.out (DB.out.2 hd))
            clear hd
            go_wp2_with (first
              | (go_at_call 20; refine H.out.mono ?_; rintro e w5 ⟨rfl, m, rfl⟩; clear x0 x1 x2 x3; obtain ⟨x0, x1, x2, x3⟩ := (TV.out.x.went (drawnN _ m)).box)
              | (go_at_call 21; refine (DC.out _ (drawnN _ m)).mono ?_; rintro e w6 ⟨rfl, hb⟩; have T6 := Lib.hid (TV.out.went (Gr.step (drawnN _ m) hb)); clear hb))
            go_ret2
            rw [R.out]
            exact ⟨rfl, T6.out.x.below⟩
      · have hE : j = top G := by omega
        subst hE
        have R := Lib.hid (TO.out ND.out)
        go_wp2
        go_ret2
        rw [R.out]
        exact ⟨rfl, TV.out.x.below⟩
  · have E := Lib.hid (show checkL G = (checkN G, 0) by unfold checkL; rw [if_neg hc])
    have hb : (checkN G != 0) = true := by simpa using hc
    clear k hc
    generalize checkN G = ck at *
    unfold gv
    go_enter Tryz.func6, Tryz.ntmps6
    go_wp2_with (go_at_call 16; refine (C.out _ X.out.below).mono ?_; rintro e w1 ⟨rfl, hb⟩; have X := Lib.hid (X.out.went hb); clear hb)
    go_ret2
    rw [E.out]
    exact ⟨rfl, X.out.below⟩

end Go.Proofs.YtljblpekpmgmaaaGreatDoor.Lv
