/-
  Package live: findProductive, and Productive. Condition: the grammar's sizes are within bounds and its numbers are symbols; for Productive none.
-/
import Derived.Test.YtljblpekpmgmaaaGreatDoorLiveSets
import Derived.Deep.LoopGhost
namespace Go.Proofs.YtljblpekpmgmaaaGreatDoor.Lv
open Go.RowKit Go.Maps
open Go.Proofs.YtljblpekpmgmaaaGreatDoor.Gr
open Go.Proofs.YtljblpekpmgmaaaGreatDoor.Bt (SetAt SetV has Keeps putR putI Upto)
set_option linter.unusedVariables false

theorem bx_keeps {W w w' : World} {h : Sh} {G : Gram} {d : Nat} (k : Bx W h G w) (hk : Keeps d w w') (hd : W.heap.size < d) : Bx W h G w' := by
  have e : w'.heap[W.heap.size]? = w.heap[W.heap.size]? := hk.block _ (World.block_lt_of_cell? w ⟨W.heap.size, 0, none⟩ k.box.x0) (fun e => by omega)
  refine ⟨k.below.trans (hk.below (by omega) k.below.size), ?_⟩
  exact ⟨(World.cell?_of_block (a := ⟨W.heap.size, 0, none⟩) e).trans k.box.x0, (World.cell?_of_block (a := ⟨W.heap.size, 1, none⟩) e).trans k.box.x1,
    (World.cell?_of_block (a := ⟨W.heap.size, 2, none⟩) e).trans k.box.x2, (World.cell?_of_block (a := ⟨W.heap.size, 3, none⟩) e).trans k.box.x3⟩

/-- Behind the box of a grammar and a set of the call's own. -/
structure St (W : World) (h : Sh) (G : Gram) (p d n : Nat) (B : Nat → Bool) (w : World) : Prop where
  x : Bx W h G w
  set : SetAt p d n B w
  hp : W.heap.size < p
  hd : W.heap.size < d
theorem St.went {W : World} {h : Sh} {G : Gram} {p d n : Nat} {B : Nat → Bool} {w w' : World} (k : St W h G p d n B w) (hb : Below w.heap.size w w') : St W h G p d n B w' :=
  ⟨k.x.went hb, set_went k.set hb, k.hp, k.hd⟩
theorem St.wrote {W : World} {h : Sh} {G : Gram} {p d n : Nat} {B C : Nat → Bool} {w w' : World} (k : St W h G p d n B w) (hs : SetAt p d n C w') (hk : Keeps d w w') : St W h G p d n C w' :=
  ⟨bx_keeps k.x hk k.hd, hs, k.hp, k.hd⟩

theorem put_hit {B : Nat → Bool} {n : Nat} {s : Int} (h : has B s = true) : putR B n s = false ∧ putI B n s = B := by
  obtain ⟨j, rfl, hj⟩ := has_int.1 h
  refine ⟨by simp [putR, hj], ?_⟩
  unfold putI
  split
  · exact Bt.put_same (by simpa using hj)
  · rfl
theorem put_miss {B : Nat → Bool} {n : Nat} {s : Int} (h : has B s = false) (h0 : 0 ≤ s) (hn : s < n) : putR B n s = true ∧ putI B n s = Bt.put B s.toNat ∧ B s.toNat = false := by
  have hb : B s.toNat = false := by
    cases hb : B s.toNat with
    | false => rfl
    | true => rw [has_int.2 ⟨s.toNat, by omega, hb⟩] at h; cases h
  refine ⟨by simp [putR, hb, h0, hn], ?_, hb⟩
  unfold putI
  rw [if_pos (by omega)]

/-- A set of the call's own comes back, that holds just what is so; nothing that was there is written. -/
def Found (n : Nat) (Q : Int → Prop) (w : World) (e : Ending) (w' : World) : Prop :=
  ∃ p d B, e = .returned (.pointer (some ⟨p, 0, none⟩)) ∧ w.heap.size ≤ p ∧ w.heap.size ≤ d ∧ SetAt p d n B w' ∧ Full Q B ∧ Below w.heap.size w w'

def OutP (W : World) (h : Sh) (G : Gram) (p d n g : Nat) (m : Value) (w : World) : Prop :=
  ∃ B b, m = .bool b ∧ St W h G p d n B w ∧ Sound (Prod G) B ∧ (b = true → miss n B + 1 ≤ g) ∧ (b = false → Full (Prod G) B)
def InP (W : World) (h : Sh) (G : Gram) (p d n : Nat) (B0 : Nat → Bool) (m i : Value) (w : World) : Prop :=
  ∃ (j : Nat) (B : Nat → Bool) (b : Bool), j ≤ G.nons.length ∧ i = .int .i64 j ∧ m = .bool b ∧ St W h G p d n B w ∧ Sound (Prod G) B ∧ (b = false → B = B0 ∧ DoneTo G B0 j) ∧ (b = true → miss n B < miss n B0)

set_option maxRecDepth 100000 in
set_option maxHeartbeats 8000000 in
theorem findProductive_any (h : Sh) (G : Gram) (w : World) (k : GAt h G w) (hs : Sml G) :
    Calls Tryz.prog 18 #[gv h G] w (Found (top G + 1) (Prod G) w) := by
  have X := Lib.hid (Bx.start h G w 25)
  obtain ⟨x0, x1, x2, x3⟩ := X.out.box
  have T := Lib.hid (fun w1 (b : Below w.heap.size w w1) => top_any h G w1 (k.went b))
  have D := Lib.hid (fun w1 (b : Below w.heap.size w w1) s p d B (hS : SetAt p d (top G + 1) B w1) => derives_any h G s p d (top G + 1) B w1 (k.went b) hS (Nat.le_trans hs.r (by omega)))
  have ht := hs.t
  have hn := hs.n
  have SM := Lib.hid hs
  have htop : top G ≤ 240 := by unfold top; omega
  have TE := Lib.hid (show top G = G.terms.length + G.nons.length from rfl)
  have hcap : Bt.cap ((top G : Int) + 1) = top G + 1 := by unfold Bt.cap; omega
  have N := Lib.hid (fun w1 => Bt.new_any ((top G : Int) + 1) w1)
  rw [hcap] at N
  clear k hs hcap
  generalize top G = tp at *
  unfold gv
  go_enter Tryz.func18, Tryz.ntmps18
  go_wp2_with (first
    | (go_at_call 19; refine (T.out _ X.out.below).mono ?_; rintro e w1 ⟨rfl, hb⟩; have X := Lib.hid (X.out.went hb); clear hb)
    | (go_at_call 42; refine (N.out _).mono ?_; rintro e w2 ⟨p, d, rfl, hp, hd, hS, hb, _⟩; have X2 := Lib.hid (X.out.went hb); have hsz := X.out.size; have S := Lib.hid (show St w h G p d (tp + 1) (fun _ => false) w2 from ⟨X2.out, hS, by omega, by omega⟩); clear hb hS hp hd hsz X2 x0 x1 x2 x3))
  clear X
  go_loopg [4] (tp + 2) (fun g m wr => OutP w h G p d (tp + 1) g m wr)
  case atStart => exact ⟨_, true, rfl, S.out, sound_empty _, fun _ => by have := miss_le (tp + 1) (fun _ => false); omega, fun h => by cases h⟩
  case round =>
    clear S
    obtain ⟨B, b, rfl, hS, hso, hg, hf⟩ := hrel
    cases b with
    | false =>
      have F := Lib.hid (hf rfl)
      have S := Lib.hid hS
      clear hS hso hg hf
      go_wp2
      go_ret
      exact ⟨p, d, B, rfl, Nat.le_of_lt S.out.hp, Nat.le_of_lt S.out.hd, S.out.set, F.out, S.out.x.below⟩
    | true =>
      have GG := Lib.hid (hg rfl)
      have S := Lib.hid hS
      have SO := Lib.hid hso
      obtain ⟨x0, x1, x2, x3⟩ := S.out.x.box
      clear hS hso hg hf
      go_wp2
      clear x0 x1 x2 x3
      go_loopw [4, 15] (fun m i wr => InP w h G p d (tp + 1) B m i wr) (fun _ i _ => G.nons.length - (intOf i).toNat)
      case atStart => exact ⟨0, B, false, Nat.zero_le _, rfl, rfl, S.out, SO.out, fun _ => ⟨rfl, done_zero _ _⟩, fun h => by cases h⟩
      case round =>
        clear S SO
        obtain ⟨j, C, b, hj, rfl, rfl, hS, hso, h1, h2⟩ := hrel
        have S := Lib.hid hS
        have SO := Lib.hid hso
        have H1 := Lib.hid h1
        have H2 := Lib.hid h2
        obtain ⟨x0, x1, x2, x3⟩ := S.out.x.box
        clear hS hso h1 h2
        by_cases hlt : j < G.nons.length
        · have DD := Lib.hid (D.out _ S.out.x.below ((G.terms.length : Int) + 1 + j) p d C S.out.set)
          cases hd : derB G C ((G.terms.length : Int) + 1 + j) with
          | false =>
            have R := Lib.hid (show (b = false → C = B ∧ DoneTo G B (j + 1)) from fun e => by
              obtain ⟨e1, e2⟩ := H1.out e
              subst e1
              exact ⟨rfl, done_step e2 fun h => by rw [hd] at h; cases h⟩)
            rw [hd] at DD
            clear hd H1
            go_wp2_with (go_at_call 44; refine DD.out.mono ?_; rintro e w1 ⟨rfl, hb⟩; have S1 := Lib.hid (S.out.went hb); clear hb)
            go_roundw
            case rel => exact ⟨j + 1, C, b, by omega, by go_num, rfl, S1.out, SO.out, R.out, H2.out⟩
            case measure => simp [intOf]; omega
          | true =>
            have SP := Lib.hid (der_sound SO.out hd)
            cases hh : has C ((G.terms.length : Int) + 1 + j) with
            | true =>
              have R := Lib.hid (show (b = false → C = B ∧ DoneTo G B (j + 1)) from fun e => by
                obtain ⟨e1, e2⟩ := H1.out e
                subst e1
                exact ⟨rfl, done_step e2 fun _ => hh⟩)
              obtain ⟨e1, e2⟩ := put_hit (n := tp + 1) hh
              have P := Lib.hid (fun w1 (hS : SetAt p d (tp + 1) C w1) => Bt.put_any w1 hS ((G.terms.length : Int) + 1 + j) (by omega))
              rw [e1, e2] at P
              rw [hd] at DD
              clear hd hh H1 e1 e2
              go_wp2_with (first
                | (go_at_call 44; refine DD.out.mono ?_; rintro e w1 ⟨rfl, hb⟩; have S1 := Lib.hid (S.out.went hb); clear hb)
                | (go_at_call 45; refine (P.out _ S1.out.set).mono ?_; rintro e w2 ⟨rfl, hS, hk⟩; have S2 := Lib.hid (S1.out.wrote hS hk); clear hS hk))
              go_roundw
              case rel => exact ⟨j + 1, C, b, by omega, by go_num, rfl, S2.out, SO.out, R.out, H2.out⟩
              case measure => simp [intOf]; omega
            | false =>
              obtain ⟨e1, e2, e3⟩ := put_miss (n := tp + 1) hh (by omega) (by have := TE.out; omega)
              have P := Lib.hid (fun w1 (hS : SetAt p d (tp + 1) C w1) => Bt.put_any w1 hS ((G.terms.length : Int) + 1 + j) (by omega))
              rw [e1, e2] at P
              have hms := miss_put (n := tp + 1) (by have := TE.out; omega) e3
              have R := Lib.hid (show miss (tp + 1) (Bt.put C ((G.terms.length : Int) + 1 + j).toNat) < miss (tp + 1) B from by
                cases b with
                | false => rw [(H1.out rfl).1] at hms ⊢; exact hms
                | true => exact Nat.lt_trans hms (H2.out rfl))
              have SO2 := Lib.hid (sound_put (i := ((G.terms.length : Int) + 1 + j).toNat) SO.out (by
                have e4 : ((((G.terms.length : Int) + 1 + j).toNat : Nat) : Int) = (G.terms.length : Int) + 1 + j := by omega
                rw [e4]
                exact SP.out))
              rw [hd] at DD
              clear hd hh H1 H2 e1 e2 e3 hms SP SO
              generalize Bt.put C ((G.terms.length : Int) + 1 + j).toNat = C2 at *
              go_wp2_with (first
                | (go_at_call 44; refine DD.out.mono ?_; rintro e w1 ⟨rfl, hb⟩; have S1 := Lib.hid (S.out.went hb); clear hb)
                | (go_at_call 45; refine (P.out _ S1.out.set).mono ?_; rintro e w2 ⟨rfl, hS, hk⟩; have S2 := Lib.hid (S1.out.wrote hS hk); clear hS hk))
              go_roundw
              case rel => exact ⟨j + 1, C2, true, by omega, by go_num, rfl, S2.out, SO2.out, (fun h => by cases h), fun _ => R.out⟩
              case measure => simp [intOf]; omega
        · have hE : j = G.nons.length := by omega
          have R := Lib.hid (show b = false → Full (Prod G) C from fun e => by
            obtain ⟨e1, e2⟩ := H1.out e
            subst e1
            rw [hE] at e2
            exact done_full SM.out.known SO.out e2)
          clear hE H1
          go_wp2
          have hgg := GG.out
          go_roundg (miss (tp + 1) B)
          case measure => omega
          case rel => exact ⟨C, b, rfl, S.out, SO.out, fun e => by have := H2.out e; omega, R.out⟩

end Go.Proofs.YtljblpekpmgmaaaGreatDoor.Lv
