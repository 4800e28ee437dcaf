/- A part of the proof. -/
import Derived.Test.YtbcgmiocolpjoaaGreatPk40
set_option maxHeartbeats 2000000
set_option maxRecDepth 100000
set_option linter.unusedVariables false
namespace Go.Proofs.YtbcgmiocolpjoaaGreat
namespace Ro
open Go.RowKit Go.Maps
open Gr (Gram Sh GAt gv Is)
open Le (zAC isA)
open Im
open Au
def Ob (G : Gram) (o : Option Whole) (v : Value) (w : World) : Prop :=
 (o = none /\ v = .pointer none) \/ ∃ (q : Whole) (p bE : Nat) (E : Nat -> Nat × Int) (u : Value), o = some q /\ v = .pointer (some ⟨p, 0, none⟩) /\ RtAt G q p bE E u w /\ Done G q /\ q.1.length <= 2000
theorem Ob.went {G : Gram} {o : Option Whole} {v : Value} {w w' : World} (h : Ob G o v w) (hb : Below w.heap.size w w') : Ob G o v w' :=
 h.imp id fun ⟨q, p, bE, E, u, h1, h2, h3, h4⟩ => ⟨q, p, bE, E, u, h1, h2, h3.went hb, h4⟩
def OIs (G : Gram) (er : Int) (o : Option Whole) : Prop := (er ≠ 0 /\ Built G er [] /\ o = none) \/ (er = 0 /\ ∃ q, o = some q /\ Built G 0 (states q) /\ Done G q /\ q.1.length <= 2000)
theorem zIR {q r : Whole} (hq : q.2.length = q.1.length) (hr : r.2.length = r.1.length) (h : states q = states r) : q = r := by
 have h1 : q.1 = r.1 := by
  have := congrArg (List.map Prod.fst) h
  unfold states at this
  rwa [List.map_fst_zip (by omega), List.map_fst_zip (by omega)] at this
 have h2 : q.2 = r.2 := by
  have := congrArg (List.map Prod.snd) h
  unfold states at this
  rwa [List.map_snd_zip (by omega), List.map_snd_zip (by omega)] at this
 exact Prod.ext h1 h2
theorem OIs.uniq {G : Gram} {er er' : Int} {o o' : Option Whole} (h : OIs G er o) (k : OIs G er' o') : er = er' /\ o = o' := by
 rcases h with ⟨h1, h2, rfl⟩ | ⟨rfl, q, rfl, h2, h3, _⟩ <;> rcases k with ⟨k1, k2, rfl⟩ | ⟨rfl, r, rfl, k2, k3, _⟩
 ·exact ⟨(h2.uniq k2).1, rfl⟩
 ·exact absurd (h2.uniq k2).1 h1
 ·exact absurd (k2.uniq h2).1 k1
 ·exact ⟨rfl, congrArg some (zIR h3.all k3.all (h2.uniq k2).2)⟩
theorem zNK {G : Gram} {er : Int} {o : Option Whole} (h : OIs G er o) : lenO o <= 2000 := by
 rcases h with ⟨_, _, rfl⟩ | ⟨_, q, rfl, _, _, h⟩
 ·exact Nat.zero_le _
 ·exact h
def OfO (G : Gram) (w : World) (e : Ending) (w' : World) : Prop := ∃ (er : Int) (o : Option Whole) (v : Value), e = .returned (.tuple #[v, .int .i64 er]) /\ OIs G er o /\ Ob G o v w' /\ Below w.heap.size w w'
theorem zO4 (h : Sh) (G : Gram) (w : World) (k : GAt h G w) : Calls Tryz.prog 8 #[gv h G] w (OfO G w) :=
 (zCP h G w k).mono fun e w' hg => by
  rcases hg with ⟨er, h0, h1, h2, h3⟩ | ⟨q, p, bE, E, u, h0, h1, h2, h3, h4, h5, h6⟩
  ·exact ⟨er, none, _, h2, .inl ⟨h0, h1, rfl⟩, .inl ⟨rfl, rfl⟩, h3⟩
  ·exact ⟨0, some q, _, h4, .inr ⟨rfl, q, rfl, h3, h1, h2⟩, .inr ⟨q, p, bE, E, u, rfl, rfl, h5, h1, h2⟩, h6⟩
theorem zOV (G : Gram) (o : Option Whole) (v : Value) (w : World) (h : Ob G o v w) : Calls Tryz.prog 10 #[v] w (Is (.int .i64 (lenO o : Int)) w) := by
 rcases h with ⟨rfl, rfl⟩ | ⟨q, p, bE, E, u, rfl, rfl, h, _⟩
 ·exact len_nil w
 ·exact zEr G q p bE E u w h
theorem zGb (i : Int) (w : World) : Calls Tryz.prog 12 #[.pointer none, .int .i64 i] w (Two [] false w) := by
 have LE := zPB (len_nil w)
 by_cases h0 : i < 0
 ·go_enter Tryz.func12, Tryz.ntmps12
  go_wp2
  exact bodyPost_ret (v := .tuple #[.slice none 0 0, .bool false]) (by simp [results, Tryz.results12, go_sem]) rfl (zBL _ _ (.refl _ _))
 ·have h1 : (0 : Int) <= i := by omega
  go_enter Tryz.func12, Tryz.ntmps12
  go_wp2_with (go_at_call 10; refine LE.out.mono ?_; rintro e w1 ⟨rfl, hb⟩; have B := zPB hb; clear hb)
  exact bodyPost_ret (v := .tuple #[.slice none 0 0, .bool false]) (by simp [results, Tryz.results12, go_sem]) rfl (zBL _ _ B.out)
theorem zOk (G : Gram) (o : Option Whole) (v : Value) (i : Int) (w : World) (h : Ob G o v w) : Calls Tryz.prog 12 #[v, .int .i64 i] w fun e w' => Two (wayL G o i) (wayB G o i) w e w' /\ (wayL G o i).length <= 4000 := by
 unfold wayL wayB
 rcases h with ⟨rfl, rfl⟩ | ⟨q, p, bE, E, u, rfl, rfl, h, D, hl⟩
 ·rw [zBw]
  exact (zGb i w).mono fun e w' h => ⟨h, Nat.zero_le _⟩
 ·refine (zE7 G q hl p bE E u i w h).mono fun e w' hw => ?_
  rcases hw with ⟨h1, h2, h3⟩ | ⟨n, W, a, c, rfl, h2, h3, h4, h5, h6, h7⟩
  ·rw [zC6 h1, h2]
   exact ⟨zBL _ _ h3, Nat.zero_le _⟩
  ·rw [zCa (zAa D) h2 h3]
   exact ⟨⟨a, c, h4, h5, h7⟩, h6⟩
theorem zHU (i : Int) (w : World) : Calls Tryz.prog 14 #[.pointer none, .int .i64 i] w (Two [] false w) := by
 have WA := zPB (zGb i w)
 go_enter Tryz.func14, Tryz.ntmps14
 go_wp2_with fail
 refine WA.out.mono ?_
 rintro e w1 ⟨ad, c, rfl, _, hb⟩
 have B := zPB hb
 clear hb
 dsimp only [List.length_nil]
 go_wp2
 exact bodyPost_ret (v := .tuple #[.slice none 0 0, .bool false]) (by simp [results, Tryz.results14, go_sem]) rfl (zBL _ _ B.out)
theorem zKe (G : Gram) (o : Option Whole) (v : Value) (i : Int) (w : World) (h : Ob G o v w) : Calls Tryz.prog 14 #[v, .int .i64 i] w (Two (zAC (zAw G o i)) (isA (zAw G o i)) w) := by
 rcases h with ⟨rfl, rfl⟩ | ⟨q, p, bE, E, u, rfl, rfl, h, D, hl⟩
 ·rw [zCh (zBw G i)]
  exact zHU i w
 ·refine (zHT G q hl p bE E u i w h).mono fun e w' hw => ?_
  rcases hw with ⟨h1, h2, h3⟩ | ⟨n, W, rfl, h2, h3, h4⟩
  ·rw [zCh (zC6 h1), h2]
   exact zBL _ _ h3
  ·rw [zHw (zCa (zAa D) h2 h3)]
   exact h4
