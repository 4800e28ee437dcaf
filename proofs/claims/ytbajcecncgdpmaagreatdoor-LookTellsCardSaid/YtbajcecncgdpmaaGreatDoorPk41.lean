/- A part of the proof. -/
import Derived.Test.YtbajcecncgdpmaaGreatDoorPk40
import Derived.Test.YtbajcecncgdpmaaGreatDoorPk39
import Derived.Test.YtbajcecncgdpmaaGreatDoorPk38
set_option maxHeartbeats 8000000
set_option maxRecDepth 100000
set_option linter.unusedVariables false
namespace Go.Proofs.YtbajcecncgdpmaaGreatDoor
open Go.RowKit Go.Maps
namespace Lk
open Gr (Gram cell_later zAA boxed drawn step zAD zAN)
open Im
open Au
open Bt (els zHP)
open Rw (zAJ)
theorem zLC {X : List Lkx} {Y : List (Nat × List Nat)} (h : X.map (·.1) = Y.map fun y => (y.1 : Int)) : X.length = Y.length := by
 have := congrArg List.length h
 simpa using this
theorem zGe {W : World} {K : Fk} {G : Gram} {q : Whole} {N : Nt} {S : Nat -> Prop} (FX : Fix W K G q) (w : World) (h : NAt W K G q N S w) (L1 : Lk1 G q N) (i r : Nat) (d : Int) (hi : i < q.1.length) (hr : r <= G.rules.length) (hd0 : 0 <= d) (hd1 : d <= 1000000) {kk : Nat} (hk : N.pls[kk]? = some (i, rep G ((r : Int), d))) :
  Calls Tryz.prog 26 #[.pointer (some ⟨K.p, 0, none⟩), .int .i64 (i : Int), .agg #[.int .i64 (r : Int), .int .i64 d]] w (fun e w' => e = .returned (.int .i64 (kk : Int)) /\ Below w.heap.size w w') := by
 have SM := Fi.zAs FX.ok
 have hT := SM.t
 have hR := SM.r
 have hq := FX.len
 refine (zC6 FX w h (Nat.le_trans (zBW FX.ok L1 hq) (by omega)) (by omega) i r d (by omega) hr (by omega) hd0 hd1).mono ?_
 rintro e w' ⟨k, M, rfl, hM, hc, _⟩
 have hin := List.mem_of_getElem? hk
 rcases hc with ⟨_, rfl, hb⟩ | ⟨h1, _⟩
 ·refine ⟨?_, hb⟩
  have hl := zAY hk
  have hl2 := zAY hM
  rw [List.getElem?_eq_getElem hl] at hk
  rw [List.getElem?_eq_getElem hl2] at hM
  injection hk with hk
  injection hM with hM
  have h1 := L1.nd.idxOf_getElem k hl2
  have h2 := L1.nd.idxOf_getElem kk hl
  rw [hM] at h1
  rw [hk] at h2
  rw [← h1, ← h2]
 ·exact absurd hin h1
open Classical in
theorem zPq {W : World} {K : Fk} {G : Gram} {q : Whole} {N : Nt} {S : Nat -> Prop} (FX : Fix W K G q) (w : World) (h : NAt W K G q N S w) (L1 : Lk1 G q N) (hF : ∀ (k i : Nat) (c : Itm) (t : Nat), N.pls[k]? = some (i, c) -> (N.S k t = true ↔ La G q i c (t : Int)))
  (hL : ∀ j, j < q.1.length -> ∀ y, Clo G (zAG q.1 j) y -> Lkd G q N j y) (htab : Bt.Tab w) (i : Nat) (hi : i < q.1.length) :
  Calls Tryz.prog 28 #[.pointer (some ⟨K.p, 0, none⟩), .int .i64 (i : Int)] w (zKp G q i w) := by
 have CLO := zUB (zEl FX w h i hi)
 have CE := zUB (fun w1 (b : Below w.heap.size w w1) (r : Nat) (d : Int) (hr : r <= G.rules.length) (hd0 : 0 <= d) (hd1 : d <= 1000000) (kk : Nat) (hk : N.pls[kk]? = some (i, rep G ((r : Int), d))) => zGe FX w1 (h.went b) L1 i r d hi hr hd0 hd1 hk)
 obtain ⟨lab, cv, qv, h, _⟩ := h
 obtain ⟨aC, cC, rfl⟩ := Rw.zAH h.row
 have F := zUB (fun w1 (b : Below w.heap.size w w1) => FX.at_ w1 (h.went b).fr)
 have P := zUB (fun w1 (b : Below w.heap.size w w1) => (h.went b).eight)
 have CC := zUB (fun w1 (b : Below w.heap.size w w1) (k : Nat) (hk : k < N.pls.length) => (h.went b).cell hk)
 have LI := zUB (fun w1 (b : Below w.heap.size w w1) (k : Nat) (hk : k < N.pls.length) (x : Itm) (hx : N.pls[k]? = some (i, rep G x)) (hr : zAN G x.1 = true) => (show Calls Tryz.prog 61 #[.pointer (some ⟨N.D k, 0, none⟩)] w1 (fun e w' => ∃ a c, e = .returned (.slice a (laL G q i x).length c) /\ w'.ownsRow w1.heap.size 3 1 (.slice a (laL G q i x).length c) (laL G q i x).length (nivs (laL G q i x)) /\ Below w1.heap.size w1 w') from by
  have hs := (h.went b).sets k hk
  refine (Bt.zCh w1 (.at_ hs) (htab.below b htab.pos)).mono ?_
  rintro e w' ⟨v, rfl, h1, h2⟩
  have he : els (N.S k) = laL G q i x := by
   rw [zHP (Bt.SetV.upto (.at_ hs))]
   unfold laL
   refine List.filter_congr fun t _ => ?_
   rw [Bool.eq_iff_iff, hF k i _ t hx, zJY FX.ok hr, decide_eq_true_iff]
  rw [he] at h1
  obtain ⟨a, c, rfl⟩ := Rw.zAH h1
  exact ⟨a, c, rfl, h1, h2⟩))
 have SM := Fi.zAs FX.ok
 have hR := SM.r
 have hq := FX.len
 have hWs : W.heap.size <= w.heap.size := h.fr.size
 have CLm := zUB (fun x => zEg FX.done FX.ok hi x)
 have EP := zUB (fun x hx hb => zLg FX.done FX.ok hL hi (x := x) hx hb)
 have hcl : (cloL G (zAG q.1 i) (zBt q i)).length <= 2709 := Nat.le_trans (zBx (zDS FX.done FX.ok hi) (M := allI G) fun x hx => zCD (zAT ((CLm.out x).1 hx))) (zAW FX.ok)
 have SO := zUB (fun (base : Nat) (X Y : List Lkx) (v : Value) (w1 w2 : World) (e : EndI G q i base (cloL G (zAG q.1 i) (zBt q i)) X v w1) => e.sorted FX.done FX.ok hi (Y := Y) (w2 := w2))
 have RS := zUB (fun w1 (F : FixAt K G q w1) (r : Nat) (hr : r <= G.rules.length) => F.rules r hr)
 have CLr := zUB (fun x hx => (zDV ((zEg FX.done FX.ok hi x).1 hx)))
 have hrs := fun (r : Nat) (hr : r <= G.rules.length) => zBF FX.ok (r := r) hr
 have hKp : K.p < w.heap.size := h.lab_lt h.lp (by intro e; cases e)
 have hgC : ∀ g, aC = some ⟨g, 0, none⟩ -> g < w.heap.size := fun g e => h.lab_lt (h.lr g (by rw [e]; rfl)) (by intro e; cases e)
 obtain ⟨i0, hj, hz0, hz1, hz2⟩ := info_parts zGw
 unfold zKp
 clear h htab L1 hF hL
 generalize cloL G (zAG q.1 i) (zBt q i) = L at *
 go_enter Tryz.func28, Tryz.ntmps28
 go_wp2_with (go_at_call 23; refine CLO.out.mono ?_; rintro e w1 ⟨aL, cL, rfl, h1, h2⟩; have V1 := zUB h1; have B1 := zUB h2; clear h1 h2)
 go_loopw [5, 12] (fun v t wr => ∃ (j : Nat) (X : List Lkx) (a : Option Addr) (c : Nat), t = .int .i64 j /\ j <= L.length /\ v = .slice a X.length c /\ EndI G q i w1.heap.size (L.take j) X v wr /\ Below w1.heap.size w1 wr) (fun _ t _ => L.length - (intOf t).toNat)
 case atStart => exact ⟨0, [], none, 0, rfl, Nat.zero_le _, rfl, EndI.nil G q i _ _, .refl _ _⟩
 case round =>
  obtain ⟨j, X, a, c, rfl, hj1, rfl, hE, hB⟩ := hrel
  have E := zUB hE
  have B := zUB (B1.out.trans (hB.mono B1.out.size))
  have BL := zUB hB
  clear hE hB
  have hXl : X.length <= 2709 := Nat.le_trans E.out.len (by rw [List.length_take]; omega)
  by_cases hlt : j < L.length
  ·have hxm := List.getElem_mem hlt
   have hxc := (CLm.out _).1 hxm
   have EPx := zUB (EP.out _ hxc)
   obtain ⟨⟨r0, r1⟩, d0, d1⟩ := zAL.1 (zAT hxc)
   have hxs : L.take (j + 1) = L.take j ++ [L[j]] := by rw [List.take_succ_eq_append_getElem hlt]
   have hxe := CLr.out _ hxm
   obtain ⟨b2, o2, rfl, t0, t1⟩ := (V1.out.went BL.out).reads.at j hlt
   generalize L[j] = x at *
   obtain ⟨xr, xd⟩ := x
   dsimp only at r0 r1 d0 d1 t0 t1
   obtain ⟨r, rfl⟩ := Int.eq_ofNat_of_zero_le r0
   obtain ⟨d, rfl⟩ := Int.eq_ofNat_of_zero_le d0
   have hrr : r <= G.rules.length := by omega
   have hrb : zAN G (r : Int) = true := by unfold zAN; exact decide_eq_true ⟨r0, r1⟩
   have hrl : rlen G (r : Int) = (zAD G (r : Int)).2.length := rfl
   have hrs1 := hrs r hrr
   rw [hrl] at d1 hrs1
   have bx : Below wr.heap.size wr (wr.alloc (.cells #[.int .i64 (r : Int), .int .i64 (d : Int)] 57)) := boxed _ _
   have x0 : (wr.alloc (.cells #[.int .i64 (r : Int), .int .i64 (d : Int)] 57)).cell? ⟨wr.heap.size, 0, none⟩ = some (.int .i64 (r : Int)) := zAA rfl rfl
   have x1 : (wr.alloc (.cells #[.int .i64 (r : Int), .int .i64 (d : Int)] 57)).cell? ⟨wr.heap.size, 1, none⟩ = some (.int .i64 (d : Int)) := zAA rfl rfl
   have BX := zUB bx
   have Bx := zUB (Gr.step B.out bx)
   obtain ⟨_, _, p2, _, _, p5, _, _⟩ := P.out _ Bx.out
   obtain ⟨aR, cR, _, f1, _⟩ := RS.out _ (F.out _ Bx.out) r hrr
   have hri : (r : Int) < ((G.rules.length + 1 : Nat) : Int) := by omega
   have hri2 : (r : Int) < (G.rules.length : Int) + 1 := by omega
   have hsz := B.out.size
   clear bx
   go_wp2_with fail
   generalize wr.alloc (.cells #[.int .i64 (r : Int), .int .i64 (d : Int)] 57) = wx at *
   go_region
   have kA0 := drawn wx
   have BX1 := zUB (BX.out.drew)
   have Bx1 := zUB (Bx.out.drew)
   by_cases hde : d = (zAD G (r : Int)).2.length
   ·have hb : behB G ((r : Int), (d : Int)) = false := by
     cases e : behB G ((r : Int), (d : Int)) with
     | false => rfl
     | true =>
      have := (zAa.1 e).2
      dsimp only at this
      omega
    have hex : ((r : Int), (d : Int)) = endI G r := by unfold endI; rw [hde]
    have hin := EPx.out hb
    obtain ⟨kk, hkl, hkk⟩ := List.getElem_of_mem hin
    have hkk : N.pls[kk]? = some (i, rep G ((r : Int), (d : Int))) := by rw [List.getElem?_eq_getElem hkl, hkk]
    obtain ⟨g, cg, eg, _, _, g0, _, _, _⟩ := CC.out _ Bx1.out kk hkl
    injection eg with eg _ ecg
    subst eg
    subst ecg
    have hgl := hgC g rfl
    have CEx := zUB (fun w1 (b : Below w.heap.size w w1) => CE.out w1 b r (d : Int) hrr (by omega) (by omega) kk hkk)
    have LIx := zUB (fun w1 (b : Below w.heap.size w w1) => LI.out w1 b kk hkl _ hkk hrb)
    have hkki : (kk : Int) < (N.pls.length : Int) := by omega
    have hkk0 : (0 : Int) <= (kk : Int) := by omega
    have gx : wx.cell? ⟨g, kk * 3, none⟩ = some (.pointer (some ⟨N.D kk, 0, none⟩)) := by simpa using g0
    have hw1r := BL.out.size
    have kA : Below wx.heap.size wx wx.drew.drew := Gr.step (drawn wx) (drawn _)
    rw [hex] at LIx
    have hla : (laL G q i (endI G r)).length <= 1000000 := by
     unfold laL
     refine Nat.le_trans (List.length_filter_le _ _) ?_
     rw [List.length_range]
     have := SM.t
     omega
    generalize hLL : laL G q i (endI G r) = T at *
    have hgX : ∀ g2, a = some ⟨g2, 0, none⟩ -> w1.heap.size <= g2 /\ g2 < wr.heap.size := fun g2 e => World.ownsRow.lt E.out.row g2 (by rw [e]; rfl)
    have hw1 := B1.out.size
    have hvb : ∀ g2, (Value.slice a X.length c).ownBlock = some g2 -> w1.heap.size <= g2 /\ g2 < wr.heap.size := fun g2 e => World.ownsRow.lt E.out.row g2 e
    have KD := zUB (fun (w8 w9 : World) (b8 : Below wx.heap.size wx w8) (hg : w8.grownBy w9 (Value.slice a X.length c).ownBlock) => (show w9.cell? ⟨K.p, 5, none⟩ = some (.slice (some ⟨g, 0, none⟩) N.pls.length cC) /\ w9.cell? ⟨wr.heap.size, 0, none⟩ = some (.int .i64 (r : Int)) /\ w9.cell? ⟨wr.heap.size, 1, none⟩ = some (.int .i64 (d : Int)) /\ w9.cell? ⟨g, kk * 3, none⟩ = some (.pointer (some ⟨N.D kk, 0, none⟩)) from by
     have k : ∀ (p : Addr) u, wx.cell? p = some u -> (∀ g2, (Value.slice a X.length c).ownBlock = some g2 -> g2 ≠ p.block) -> w9.cell? p = some u := fun p u hu hne => by
      have hlt := World.block_lt_of_cell? wx p hu
      exact (World.cell?_of_block (hg.block p.block (Nat.lt_of_lt_of_le hlt b8.size) fun e => hne _ e.symm rfl)).trans (cell_later b8 hu)
     refine ⟨k _ _ p5 fun g2 e e2 => ?_, k _ _ x0 fun g2 e e2 => ?_, k _ _ x1 fun g2 e e2 => ?_, k _ _ gx fun g2 e e2 => ?_⟩ <;> (have := hvb g2 e; dsimp only at e2; omega)))
    have HQ := zUB (fun w' (b : Below wx.heap.size wx w') => (show w'.cell? ⟨K.p, 5, none⟩ = some (.slice (some ⟨g, 0, none⟩) N.pls.length cC) /\ w'.cell? ⟨wr.heap.size, 0, none⟩ = some (.int .i64 (r : Int)) /\ w'.cell? ⟨wr.heap.size, 1, none⟩ = some (.int .i64 (d : Int)) /\ w'.cell? ⟨g, kk * 3, none⟩ = some (.pointer (some ⟨N.D kk, 0, none⟩)) from ⟨cell_later b p5, cell_later b x0, cell_later b x1, cell_later b gx⟩))
    have FN := zUB (fun (w8 : World) (a8 : Option Addr) (c8 : Nat) (w7 : World) (b7 : Below wx.heap.size wx w7) (h8 : w8.ownsRow w7.heap.size 3 1 (.slice a8 T.length c8) T.length (nivs T)) (b8 : Below wx.heap.size wx w8) => (show
      (w8.alloc (.cells #[.int .i64 (r : Int), .slice a8 T.length c8] 39)).ownsRow w1.heap.size 39 2 (.slice a X.length c) X.length (X.flatMap lc) /\
      (w8.alloc (.cells #[.int .i64 (r : Int), .slice a8 T.length c8] 39)).ownsRow w1.heap.size 39 2 (.slice (some ⟨w8.heap.size, 0, none⟩) 1 1) 1 [.int .i64 (r : Int), .slice a8 T.length c8] /\
      ∀ w9 v', w9.ownsRow w1.heap.size 39 2 v' (X.length + 1) (X.flatMap lc ++ [.int .i64 (r : Int), .slice a8 T.length c8]) -> (w8.alloc (.cells #[.int .i64 (r : Int), .slice a8 T.length c8] 39)).grownBy w9 (Value.slice a X.length c).ownBlock -> (v'.ownBlock = (Value.slice a X.length c).ownBlock \/ v'.ownBlock = some (w8.alloc (.cells #[.int .i64 (r : Int), .slice a8 T.length c8] 39)).heap.size) ->
       EndI G q i w1.heap.size (L.take (j + 1)) (X ++ [((r : Int), a8, T.length, c8)]) v' w9 /\ Below w1.heap.size w1 w9 from by
     have ba := boxed w8 (.cells #[.int .i64 (r : Int), .slice a8 T.length c8] 39)
     have bwa : Below wr.heap.size wr (w8.alloc (.cells #[.int .i64 (r : Int), .slice a8 T.length c8] 39)) := Gr.step (Gr.step BX.out b8) ba
     refine ⟨((E.out.went bwa).row), zId 39 w1.heap.size w8.heap.size ((r : Int), a8, T.length, c8) w8 rfl (Nat.le_trans hw1r (Nat.le_trans BX.out.size b8.size)), fun w9 v' hown hg hv => ⟨?_, ?_⟩⟩
     ·rw [hxs, hex]
      rw [hex] at hb
      refine E.out.snoc hb (y := ((r : Int), a8, T.length, c8)) rfl bwa hw1r ?_ hown hg (hv.imp id fun e g2 e2 => ?_)
      ·rw [hLL]
       exact Sep.zAC (Rw.zA7 h8 (Nat.le_trans BX.out.size b7.size)) fun g2 e => ba.block g2 (World.ownsRow.lt h8 g2 e).2
      ·rw [e] at e2
       injection e2 with e2
       omega
     ·have b9 : Below w1.heap.size w1 (w8.alloc (.cells #[.int .i64 (r : Int), .slice a8 T.length c8] 39)) := BL.out.trans (bwa.mono hw1r)
      exact b9.trans ⟨hg.os, hg.tape, hg.output, hg.size, fun k hk => hg.block k (Nat.lt_of_lt_of_le hk b9.size) fun e => by
       have := (hvb k e.symm).1
       omega⟩))
    clear CE LI E B V1 P F RS CLm CLr hex hb hLL hxs hxe
    generalize (zAD G (r : Int)).2.length = ln at *
    subst hde
    go_wp2_with fail
    go_region_held3 (fun w' => w'.cell? ⟨K.p, 5, none⟩ = some (.slice (some ⟨g, 0, none⟩) N.pls.length cC) /\ w'.cell? ⟨wr.heap.size, 0, none⟩ = some (.int .i64 (r : Int)) /\ w'.cell? ⟨wr.heap.size, 1, none⟩ = some (.int .i64 (d : Int)) /\ w'.cell? ⟨g, kk * 3, none⟩ = some (.pointer (some ⟨N.D kk, 0, none⟩)))
     (first | assumption | exact HQ.out _ (by assumption) | exact HQ.out _ (Below.alloc (by assumption) (Below.size (by assumption)) _))
     (first
      | (go_at_call 26; (with_reducible refine (CEx.out _ (Bx.out.trans (kA.mono Bx.out.size))).mono ?_); rintro e w7 ⟨rfl, hb7⟩; have k7 : Below wx.heap.size wx w7 := Gr.step kA hb7; clear hb7)
      | (go_at_call 61; ((with_reducible refine (LIx.out _ (Bx.out.trans (k7.mono Bx.out.size))).mono ?_); rintro e w8 ⟨a8, c8, rfl, h8, hb8⟩; have k8 : Below wx.heap.size wx w8 := Gr.step k7 hb8; obtain ⟨hr1, hr2, hr3⟩ := FN.out w8 a8 c8 w7 k7 h8 k8; have R1 := zUB hr1; have R2 := zUB hr2; have R3 := zUB hr3; have hs8 : w1.heap.size <= (w8.alloc (.cells #[.int .i64 (r : Int), .slice a8 T.length c8] 39)).heap.size := Nat.le_trans hw1r (Nat.le_trans BX.out.size (Nat.le_trans k8.size (by simp))); clear hr1 hr2 hr3 h8 hb8))
      | (refine zAJ _ (by rfl) _ _ 36 (by rfl) w1.heap.size 39 i0 (.agg #[.int .i64 0, .slice none 0 0]) 2 32 Tryz.underlying36 hj hz0 hz1 hz2 rfl (by decide) (.slice a X.length c) X.length (X.flatMap lc) (by rfl) R1.out w1.heap.size (.slice (some ⟨w8.heap.size, 0, none⟩) 1 1) 1 [.int .i64 (r : Int), .slice a8 T.length c8] (by rfl) R2.out (zP9 ((r : Int), a8, T.length, c8)) (by unfold maxLen; omega) (by omega) hs8 ?_; intro v9 w9 hown9 hg9 hloc9; have kd := KD.out _ w9 (Gr.step k8 (boxed _ _)) hg9; have R9 := zUB (R3.out w9 v9 hown9 hg9 hloc9); obtain ⟨a9, c9, rfl⟩ := Rw.zAH hown9; clear hown9 hg9 hloc9)
      | fail)
    go_wp2_with fail
    go_roundw
    case rel => exact ⟨j + 1, X ++ [((r : Int), a8, T.length, c8)], a9, c9, by go_num, by omega, by rw [List.length_append]; rfl, R9.out.1, R9.out.2⟩
    case measure => simp [intOf]; omega
   ·have hb : behB G ((r : Int), (d : Int)) = true := zAa.2 ⟨zAL.2 ⟨⟨r0, r1⟩, d0, by dsimp only; omega⟩, by dsimp only; omega⟩
    go_wp2_with fail
    go_roundw
    case rel => exact ⟨j + 1, X, a, c, by go_num, by omega, rfl, by rw [hxs]; exact (E.out.went BX1.out).skip hb, BL.out.trans (BX1.out.mono BL.out.size)⟩
    case measure => simp [intOf]; omega
  ·have hjl : j = L.length := by omega
   subst hjl
   have E2 := zUB (show EndI G q i w1.heap.size L X (.slice a X.length c) wr from by have := E.out; rwa [List.take_length] at this)
   go_wp2_with (go_at_call 62; (refine (zPF w1.heap.size X a c wr E2.out.row (by omega)).mono ?_; rintro e w9 ⟨rfl, Y, hp, hs, hr, hg⟩; have V9 := zUB (SO.out _ _ _ _ _ _ E2.out hp (hs.imp fun h => Int.not_lt.1 h) hr hg); have G9 := zUB hg; clear hp hs hr hg))
   go_ret
   have hl : X.length = (zAe G q i).length := by
    obtain ⟨Z, z1, z2, z3⟩ := V9.out
    have := Rw.zAH z1
    obtain ⟨a', c', e⟩ := this
    injection e with _ e
    rw [e]
    exact zLC z2
   have hb9 : Below w.heap.size w w9 := B.out.trans ⟨G9.out.os, G9.out.tape, G9.out.output, G9.out.size, fun k hk => G9.out.block k (Nat.lt_of_lt_of_le hk B.out.size) fun e => by
    have := (World.ownsRow.lt E2.out.row k e.symm).1
    have := B1.out.size
    omega⟩
   rw [hl] at V9
   exact ⟨a, c, (by show Ending.returned (Value.slice a X.length c) = _; rw [hl]), V9.out.mono B1.out.size, hb9⟩
end Lk
namespace Lk
open Gr (Gram checkN)
open Im
open Au
def EndO (base : Nat) (Y : List (Nat × List Nat)) (v : Value) (w : World) (o : Option Nat) : Prop :=
 ∃ X : List Lkx, LksV base X v w /\ X.map (·.1) = Y.map (fun y => (y.1 : Int)) /\ (∀ k (h : k < X.length) (h' : k < Y.length), zMs base X[k] Y[k].2 w) /\ (∀ g, v.ownBlock = some g -> o ≠ some g) /\ ∀ k (h : k < X.length) (h' : k < Y.length), ∀ g, (lks X[k]).ownBlock = some g -> o ≠ some g
section
variable {base : Nat} {Y : List (Nat × List Nat)} {v : Value} {w w' : World} {o o' : Option Nat}
theorem EndO.endV (h : EndO base Y v w o) : EndV base Y v w := by
 obtain ⟨X, h1, h2, h3, _⟩ := h
 exact ⟨X, h1, h2, h3⟩
theorem EndV.endO (h : EndV base Y v w) (ho : ∀ g, o = some g -> g < base) : EndO base Y v w o := by
 obtain ⟨X, h1, h2, h3⟩ := h
 refine ⟨X, h1, h2, h3, fun g e e2 => ?_, fun k a b g e e2 => ?_⟩
 ·have p1 := (World.ownsRow.lt h1 g e).1
  have p2 := ho g e2
  omega
 ·have p1 := (World.ownsRow.lt (h3 k a b) g e).1
  have p2 := ho g e2
  omega
theorem EndO.mono {b' : Nat} (h : EndO base Y v w o) (hb : b' <= base) : EndO b' Y v w o := by
 obtain ⟨X, h1, h2, h3, h4⟩ := h
 exact ⟨X, Rw.zA7 h1 hb, h2, fun k a b => Rw.zA7 (h3 k a b) hb, h4⟩
theorem EndO.keep (h : EndO base Y v w o) (hg : w.grownBy w' o) : EndO base Y v w' o := by
 obtain ⟨X, h1, h2, h3, h4, h5⟩ := h
 exact ⟨X, Sep.zAC h1 fun g e => hg.block g (World.ownsRow.lt h1 g e).2 fun e2 => h4 g e e2.symm, h2, fun k a b => Sep.zAC (h3 k a b) fun g e => hg.block g (World.ownsRow.lt (h3 k a b) g e).2 fun e2 => h5 k a b g e e2.symm, h4, h5⟩
theorem EndO.went (h : EndO base Y v w o) (hb : Below w.heap.size w w') : EndO base Y v w' o := by
 obtain ⟨X, h1, h2, h3, h4⟩ := h
 exact ⟨X, Sep.zAC h1 fun g e => hb.block g (World.ownsRow.lt h1 g e).2, h2, fun k a b => Sep.zAC (h3 k a b) fun g e => hb.block g (World.ownsRow.lt (h3 k a b) g e).2, h4⟩
theorem EndO.turn (h : EndO base Y v w o) (ho : ∀ g, o' = some g -> w.heap.size <= g) : EndO base Y v w o' := by
 obtain ⟨X, h1, h2, h3, _⟩ := h
 refine ⟨X, h1, h2, h3, fun g e e2 => ?_, fun k a b g e e2 => ?_⟩
 ·have p1 := (World.ownsRow.lt h1 g e).2
  have p2 := ho g e2
  omega
 ·have p1 := (World.ownsRow.lt (h3 k a b) g e).2
  have p2 := ho g e2
  omega
end
theorem EndO.grow {base : Nat} {Y : List (Nat × List Nat)} {v : Value} {w w' : World} {o o' : Option Nat} (h : EndO base Y v w o) (hg : w.grownBy w' o) (hr : o' = o \/ ∀ g, o' = some g -> w.heap.size <= g) : EndO base Y v w' o' := by
 rcases hr with r | r
 ·rw [r]
  exact h.keep hg
 ·obtain ⟨X, h1, h2, h3, h4, h5⟩ := h
  refine ⟨X, Sep.zAC h1 fun g e => hg.block g (World.ownsRow.lt h1 g e).2 fun e2 => h4 g e e2.symm, h2, fun k a b => Sep.zAC (h3 k a b) fun g e => hg.block g (World.ownsRow.lt (h3 k a b) g e).2 fun e2 => h5 k a b g e e2.symm, fun g e e2 => ?_, fun k a b g e e2 => ?_⟩
  ·have p1 := (World.ownsRow.lt h1 g e).2
   have p2 := r g e2
   omega
  ·have p1 := (World.ownsRow.lt (h3 k a b) g e).2
   have p2 := r g e2
   omega
theorem zLc (V : Nat -> Value) (i : Nat) (u : Value) : (List.range (i + 1)).map (upd V i u) = (List.range i).map V ++ [u] := by
 rw [List.range_succ, List.map_append, List.map_cons, List.map_nil, upd_same]
 congr 1
 refine List.map_congr_left fun k hk => zAB ?_
 have := List.mem_range.1 hk
 omega
structure LsI (G : Gram) (q : Whole) (base i : Nat) (V : Nat -> Value) (v : Value) (w : World) : Prop where
 row : w.ownsRow base 36 1 v i ((List.range i).map V)
 ends : ∀ k, k < i -> EndO base (zAe G q k) (V k) w v.ownBlock
theorem LsI.nil (G : Gram) (q : Whole) (base : Nat) (V : Nat -> Value) (w : World) : LsI G q base 0 V (.slice none 0 0) w := ⟨World.ownsRow_nil _ _ _ _, fun k hk => absurd hk (Nat.not_lt_zero k)⟩
theorem LsI.snoc {G : Gram} {q : Whole} {base i : Nat} {V : Nat -> Value} {v v' u : Value} {w w1 w2 : World} (h : LsI G q base i V v w) (hz : base <= w.heap.size) (hw : Below w.heap.size w w1) (hE : EndV w.heap.size (zAe G q i) u w1) (hown : w2.ownsRow base 36 1 v' (i + 1) ((List.range i).map V ++ [u])) (hg : w1.grownBy w2 v.ownBlock) (hv : v'.ownBlock = v.ownBlock \/ ∀ g, v'.ownBlock = some g -> w1.heap.size <= g) :
  LsI G q base (i + 1) (upd V i u) v' w2 := by
 refine ⟨by rw [zLc]; exact hown, fun k hk => ?_⟩
 have h1 : EndO base (zAe G q k) (upd V i u k) w1 v.ownBlock := by
  by_cases e : k = i
  ·subst e
   rw [upd_same]
   exact (hE.endO fun g e => (World.ownsRow.lt h.row g e).2).mono hz
  ·rw [zAB e]
   exact (h.ends k (by omega)).went hw
 exact h1.grow hg hv
def AllV (base : Nat) (Ys : List (List (Nat × List Nat))) (v : Value) (w : World) : Prop :=
 ∃ V : Nat -> Value, w.ownsRow base 36 1 v Ys.length ((List.range Ys.length).map V) /\ ∀ k (h : k < Ys.length), EndV base Ys[k] (V k) w
theorem LsI.all {G : Gram} {q : Whole} {base : Nat} {V : Nat -> Value} {v : Value} {w : World} (h : LsI G q base q.1.length V v w) : AllV base (zCO G q) v w := by
 refine ⟨V, by rw [zBI]; exact h.row, fun k hk => ?_⟩
 have hk' : k < q.1.length := by rw [zBI] at hk; exact hk
 have e : (zCO G q)[k] = zAe G q k := by simp [zCO]
 rw [e]
 exact (h.ends k hk').endV
theorem AllV.mono {b b' : Nat} {Ys : List (List (Nat × List Nat))} {v : Value} {w : World} (h : AllV b Ys v w) (hb : b' <= b) : AllV b' Ys v w := by
 obtain ⟨V, h1, h2⟩ := h
 exact ⟨V, Rw.zA7 h1 hb, fun k hk => (h2 k hk).mono hb⟩
inductive LookIs (G : Gram) : Int -> List (List (Nat × List Nat)) -> Prop
 | bad {er : Int} : Built G er [] -> er ≠ 0 -> LookIs G er []
 | all {q : Whole} : checkN G = 0 -> Done G q -> q.1.length <= 2000 -> Built G 0 (states q) -> LookIs G 0 (zCO G q)
def zOq (G : Gram) (w : World) (e : Ending) (w' : World) : Prop :=
 ∃ (er : Int) (Ys : List (List (Nat × List Nat))) (a : Option Addr) (c : Nat), e = .returned (.tuple #[.slice a Ys.length c, .int .i64 er]) /\ LookIs G er Ys /\ AllV w.heap.size Ys (.slice a Ys.length c) w' /\ Below w.heap.size w w'
theorem zEd {G : Gram} {X : List Sta} (h : Built G 0 X) : Small X := (zTL h).small
theorem zD8 {G : Gram} {er : Int} {X : List Sta} (h : Built G er X) : (er ≠ 0 /\ X = [] /\ Built G er []) \/ (er = 0 /\ checkN G = 0 /\ ∃ q, X = states q /\ Done G q /\ q.1.length <= 2000 /\ Built G 0 (states q)) := by
 cases h with
 | bad h1 => exact .inl ⟨h1, rfl, .bad h1⟩
 | many h1 h2 h3 => exact .inl ⟨by decide, rfl, .many h1 h2 h3⟩
 | all h1 h2 h3 => exact .inr ⟨rfl, h1, _, rfl, h2.done h3, by omega, .all h1 h2 h3⟩
structure OfI (W : World) (K : Fk) (G : Gram) (q : Whole) (S : Nat -> Prop) (i j : Nat) (L : List Itm) (N : Nt) (T : Nat -> Prop) (w : World) : Prop where
 at_ : NAt W K G q N T w
 fr : Sep.Fr S W w
 ext : Sep.Ext T S W
 lk : LkI G q N (2 * (i * 3000 + j))
 past : ∀ k, k < i -> ∀ x, Clo G (zAG q.1 k) x -> Lkd G q N k x
 here : ∀ x ∈ L.take j, Lkd G q N i x
section
variable {W : World} {K : Fk} {G : Gram} {q : Whole} {S T : Nat -> Prop} {i j : Nat} {L : List Itm} {N : Nt} {w w' : World}
theorem OfI.went (h : OfI W K G q S i j L N T w) (hb : Below w.heap.size w w') : OfI W K G q S i j L N T w' :=
 ⟨h.at_.went hb, h.fr.trans (.of_below hb) h.ext, h.ext, h.lk, h.past, h.here⟩
theorem OfI.open (h : OfI W K G q S i 0 [] N T w) (L : List Itm) : OfI W K G q S i 0 L N T w := ⟨h.at_, h.fr, h.ext, h.lk, h.past, fun x hx => by cases hx⟩
theorem OfI.next (h : OfI W K G q S i L.length L N T w) (hl : L.length <= 3000) (hm : ∀ x, Clo G (zAG q.1 i) x -> x ∈ L) : OfI W K G q S (i + 1) 0 [] N T w :=
 ⟨h.at_, h.fr, h.ext, h.lk.mono (by omega), fun k hk x hx => by
  by_cases e : k = i
  ·subst e
   exact h.here x (by rw [List.take_length]; exact hm x hx)
  ·exact h.past k (by omega) x hx, fun x hx => by cases hx⟩
end
end Lk
namespace Lk
open Gr (Gram cell_later zAA boxed drawn step)
open Im
open Au
open Bt (SetAt)
theorem zOf (f : Nat -> Value) : (List.range 88).map f = [f 0, f 1, f 2, f 3, f 4, f 5, f 6, f 7, f 8, f 9, f 10, f 11, f 12, f 13, f 14, f 15, f 16, f 17, f 18, f 19, f 20, f 21, f 22, f 23, f 24, f 25, f 26, f 27, f 28, f 29, f 30, f 31, f 32, f 33, f 34, f 35, f 36, f 37, f 38, f 39, f 40, f 41, f 42, f 43, f 44, f 45, f 46, f 47, f 48, f 49, f 50, f 51, f 52, f 53, f 54, f 55, f 56, f 57, f 58, f 59, f 60, f 61, f 62, f 63, f 64, f 65, f 66, f 67, f 68, f 69, f 70, f 71, f 72, f 73, f 74, f 75, f 76, f 77, f 78, f 79, f 80, f 81, f 82, f 83, f 84, f 85, f 86, f 87] := rfl
structure Fr88 (K : Fk) (a : Act) : Prop where
 size : a.tmps.size = 88
 zero : a.tmps[0]? = some (.pointer (some ⟨K.p, 0, none⟩))
 defers : a.defers = []
theorem Fr88.open {K : Fk} {a : Act} (h : Fr88 K a) : ∃ u : Nat -> Value, a = { tmps := #[.pointer (some ⟨K.p, 0, none⟩), u 1, u 2, u 3, u 4, u 5, u 6, u 7, u 8, u 9, u 10, u 11, u 12, u 13, u 14, u 15, u 16, u 17, u 18, u 19, u 20, u 21, u 22, u 23, u 24, u 25, u 26, u 27, u 28, u 29, u 30, u 31, u 32, u 33, u 34, u 35, u 36, u 37, u 38, u 39, u 40, u 41, u 42, u 43, u 44, u 45, u 46, u 47, u 48, u 49, u 50, u 51, u 52, u 53, u 54, u 55, u 56, u 57, u 58, u 59, u 60, u 61, u 62, u 63, u 64, u 65, u 66, u 67, u 68, u 69, u 70, u 71, u 72, u 73, u 74, u 75, u 76, u 77, u 78, u 79, u 80, u 81, u 82, u 83, u 84, u 85, u 86, u 87], defers := [] } := by
 obtain ⟨⟨l⟩, d⟩ := a
 obtain ⟨h1, h2, h3⟩ := h
 simp only [List.size_toArray, List.getElem?_toArray] at h1 h2 h3
 subst h3
 have e : l = (List.range 88).map fun i => l.getD i undef := by
  apply List.ext_getElem?
  intro i
  by_cases hi : i < 88
  ·rw [List.getElem?_map, List.getElem?_range hi, Option.map_some, List.getElem?_eq_getElem (by omega), List.getD_eq_getElem?_getD, List.getElem?_eq_getElem (by omega), Option.getD_some]
  ·rw [List.getElem?_eq_none (by omega), List.getElem?_eq_none (by simp; omega)]
 have e0 : l.getD 0 undef = .pointer (some ⟨K.p, 0, none⟩) := by rw [List.getD_eq_getElem?_getD, h2, Option.getD_some]
 rw [zOf, e0] at e
 exact ⟨fun i => l.getD i undef, congrArg (fun z => ({ tmps := ⟨z⟩, defers := [] } : Act)) e⟩
def Jmp (W : World) (K : Fk) (G : Gram) (q : Whole) (S : Nat -> Prop) (w0 : World) (N : Nt) (k0 : Nat) (M : Nt) (a : Act) (w : World) : Prop :=
 Fr88 K a /\ ∃ T, Ps W K G q S w0 N k0 M M.Ys T w
def zQA (W : World) (K : Fk) (G : Gram) (q : Whole) (S : Nat -> Prop) (N : Nt) (k0 : Nat) (w : World) (e : Ending) (w' : World) : Prop :=
 e = .returned (.tuple #[]) /\ ∃ M T, Ps W K G q S w N k0 M M.Ys T w' /\ M.qs = []
theorem zIW {W : World} {K : Fk} {G : Gram} {q : Whole} {N : Nt} {S : Nat -> Prop} (FX : Fix W K G q) (w : World) (h : NAt W K G q N S w) {cnt : Nat} (hL : LkI G q N cnt) (hcnt : cnt <= 100000000) (k0 : Nat) (hk0 : N.pls[k0]? = some (0, ((G.rules.length : Int), 0))) :
  Calls Tryz.prog 25 #[.pointer (some ⟨K.p, 0, none⟩), .int .i64 (k0 : Int)] w (zQA W K G q S N k0 w) := by
 have SM := Fi.zAs FX.ok
 have hT : G.terms.length <= 1000 := by have := SM.t; omega
 have hC := zBW FX.ok hL.lk FX.len
 go_enter Tryz.func25, Tryz.ntmps25
 go_wp2
 refine zHo 0 (Jmp W K G q S w N k0) (fun M => M.num (G.terms.length + 1)) rfl ?pass ?first
 case pass =>
  rintro M a w1 ⟨ha, T, hP⟩
  obtain ⟨u, rfl⟩ := ha.open
  clear ha
  have kps := hP.kp
  have hlM : M.pls.length = N.pls.length := by rw [kps.1]
  obtain ⟨lab, cv, qv, hN, rfl⟩ := hP.at_
  obtain ⟨aq, cq, rfl⟩ := Rw.zAH hN.queue
  have HP := zUB hP
  have H := zUB hN
  obtain ⟨_, _, _, _, _, p5, _, p7⟩ := hN.eight
  by_cases hq0 : M.qs = []
  ·rw [hq0] at p7
   clear hN hP
   go_wp2
   try simp only [Exit.jump]
   refine bodyPost_ret (v := .tuple #[]) (by simp [results, Tryz.results25, go_sem]) rfl ?_
   exact ⟨rfl, M, _, HP.out, hq0⟩
  ·obtain ⟨l, k, hlk⟩ : ∃ l k, M.qs = l ++ [k] := by
    rcases List.eq_nil_or_concat M.qs with e | ⟨l, k, e⟩
    ·exact absurd e hq0
    ·exact ⟨l, k, by simpa using e⟩
   have hql : M.qs.length = l.length + 1 := by rw [hlk]; simp
   have hqb := hP.sp.qlen
   have hqr := hN.queue
   have hqk : ∃ b, aq = some ⟨b, 0, none⟩ /\ w1.cell? ⟨b, l.length, none⟩ = some (.int .i64 (k : Int)) /\ l.length + 1 <= cq := by
    rcases hqr.2 with ⟨_, h0⟩ | ⟨g, cap, cur, e, _, hg, hnc, _, _, _⟩
    ·omega
    ·have hrd := World.ownsRow.cells hqr (g := g) (by rw [e]; rfl) l.length (.int .i64 (k : Int)) (by rw [hlk]; simp [nivs])
     rw [WideShapes.add_plain] at hrd
     simp only [Value.slice.injEq, true_and] at e
     obtain ⟨rfl, rfl⟩ := e
     exact ⟨g, rfl, by simpa using hrd, by omega⟩
   obtain ⟨bq, rfl, q1, hcq⟩ := hqk
   rw [hql] at p7
   clear hN hP hqr
   have hll : l.length <= 100000000 := by omega
   obtain ⟨hk, hsome, hsp⟩ := HP.out.sp.pop hlk
   obtain ⟨g, c, rfl, hgl, _, c0, c1, c2, c3⟩ := H.out.cell hk
   have hgp : g ≠ K.p := fun e => by rw [e, H.out.lp] at hgl; cases hgl
   have hpg : K.p ≠ g := fun e => hgp e.symm
   obtain ⟨aw, cw, hwv⟩ := Rw.zAH (H.out.ways k hk)
   rw [hwv] at c1
   have f7 := H.out.box.free 7
   have hwr : IntKind.i64.wrap ((l.length : Int) + 1 - 1) = (l.length : Int) := by rw [Int.add_sub_cancel]; exact IntWalk.i64_in _ (by omega)
   have hkp : k < M.pls.length := hk
   go_wp2_with fail
   go_region
   go_wp2_with fail
   go_region
   go_wp2_with fail
   have H3 := H.out.shift rfl (by rw [hql]; omega)
   rw [hql, Nat.add_sub_cancel] at H3
   have H4 := H3.1.wait (k := k) hk rfl false
   have P5 := zUB ((HP.out.turn (L := M.pop k) (Y := upd M.Ys k []) (U := fun b => lab b ≠ .no) ⟨lab, _, _, H4.1, rfl⟩ (H3.2.trans H4.2).fr (H3.2.trans H4.2).ext (Kps.pop M k) hsp HP.out.zero).went ((drawn _).drew))
   clear H3 H4
   generalize ((w1.setCell ⟨K.p, 7, none⟩ (.slice (some ⟨bq, 0, none⟩) l.length cq)).setCell ⟨g, k * 3 + 2, none⟩ (.bool false)).drew.drew = w5 at *
   have LM := zUB (kps.lk hL.lk)
   have YK := zUB (H.out.yok k hk)
   have hC2 : M.pls.length <= 100000000 := by omega
   have hYl : (M.Ys k).length <= 100000000 := by rw [kps.2.1]; exact Nat.le_trans (hL.ys k (by omega)) hcnt
   have NP0 := zUB (zQ8 (m := G.terms.length + 1) hlk)
   clear c0 c1 c2 c3 p5 p7 f7 q1 hgl hgp hpg hwr hsp
   rw [show ((l.length : Int) + 1 == 0) = false from by rw [beq_eq_false_iff_ne]; omega]
   go_loopw [61] (fun t wr => ∃ (j : Nat) (L : Nt) (T : Nat -> Prop), t = .int .i64 j /\ j <= (M.Ys k).length /\ Ps W K G q S w N k0 L (upd M.Ys k ((M.Ys k).take j)) T wr /\ Kps M L /\ (∃ t, L.S k t = true) /\ L.num (G.terms.length + 1) <= (M.pop k).num (G.terms.length + 1)) (fun t _ => (M.Ys k).length - (intOf t).toNat)
   case atStart => exact ⟨0, M.pop k, _, rfl, Nat.zero_le _, P5.out, Kps.pop M k, hsome, Nat.le_refl _⟩
   case round =>
    obtain ⟨j, L, T, rfl, hj, hPs, hKp, hne, hnum⟩ := hrel
    clear P5 hsome
    by_cases hlt : j < (M.Ys k).length
    ·have WS := zUB (zOt FX.ok LM.out hKp hk hlt hPs.sp hne (YOk.upto (YK.out _ (List.getElem_mem hlt)) hT))
     have YO := YK.out _ (List.getElem_mem hlt)
     obtain ⟨lab2, cv2, qv2, hN2, rfl⟩ := hPs.at_
     have hkL : k < L.pls.length := by rw [hKp.1]; exact hk
     have hlt2 : j < (L.Ys k).length := by rw [hKp.2.1]; exact hlt
     obtain ⟨gw, cw', ew, hlw, y0, y1, y2⟩ := hN2.way hkL hlt2
     rw [hKp.2.2.1, hwv] at ew
     simp only [Value.slice.injEq] at ew
     obtain ⟨rfl, e8, e9⟩ := ew
     clear e8 e9
     have eY : (L.Ys k)[j] = (M.Ys k)[j] := by simp only [hKp.2.1]
     rw [eY] at y0 y1 y2
     have hto := WS.out.1
     have hql2 := WS.out.2.1.qlen
     have hqL := hPs.sp.qlen
     have hCL : L.pls.length <= 100000000 := by rw [hKp.1]; exact hC2
     have PS := zUB hPs
     generalize (M.Ys k)[j] = y at *
     obtain ⟨pa, hpa⟩ := YO.ptr
     rw [hpa] at y0
     have bx : Below wr.heap.size wr (wr.alloc (.cells #[.pointer pa, .bool y.e, .int .i64 (y.to : Int)] 117)) := boxed _ _
     have N3 := hN2.went bx
     have G1 := zUB (zF2 (S := fun b => lab2 b ≠ .no) (wr.alloc (.cells #[.pointer pa, .bool y.e, .int .i64 (y.to : Int)] 117)) ⟨lab2, _, _, N3, rfl⟩ hto hCL hqL (N3.given FX YO hto))
     rw [hpa] at G1
     have hoff : ¬ lab2 wr.heap.size ≠ .no := fun e => Nat.lt_irrefl _ (hN2.inn _ e)
     have e0 : (wr.alloc (.cells #[.pointer pa, .bool y.e, .int .i64 (y.to : Int)] 117)).cell? ⟨wr.heap.size, 0, none⟩ = some (.pointer pa) := zAA rfl rfl
     have e1 : (wr.alloc (.cells #[.pointer pa, .bool y.e, .int .i64 (y.to : Int)] 117)).cell? ⟨wr.heap.size, 1, none⟩ = some (.bool y.e) := zAA rfl rfl
     have e2 : (wr.alloc (.cells #[.pointer pa, .bool y.e, .int .i64 (y.to : Int)] 117)).cell? ⟨wr.heap.size, 2, none⟩ = some (.int .i64 (y.to : Int)) := zAA rfl rfl
     have BX := zUB (fun (w6 : World) (f : Sep.Fr (fun b => lab2 b ≠ .no) (wr.alloc (.cells #[.pointer pa, .bool y.e, .int .i64 (y.to : Int)] 117)) w6) => (show w6.cell? ⟨wr.heap.size, 1, none⟩ = some (.bool y.e) /\ w6.cell? ⟨wr.heap.size, 2, none⟩ = some (.int .i64 (y.to : Int)) from ⟨f.cell e1 hoff, f.cell e2 hoff⟩))
     have PB := zUB (PS.out.went bx)
     clear hPs hN2 N3 hoff
     cases hye : y.e with
     | false =>
      have EG := zUB (show L.go (G.terms.length + 1) k y = L.give (G.terms.length + 1) y.to y.f from by unfold Nt.go; rw [hye]; rfl)
      rw [hye] at e1 BX G1 y1 PB
      clear e0
      go_wp2_with (go_at_call 58; (with_reducible refine (G1.out).mono ?_); rintro e w6 ⟨rfl, T6, hn6, hf6, hx6⟩; obtain ⟨d1, d2⟩ := BX.out w6 hf6; have P6 := zUB (PB.out.turn hn6 hf6 hx6 (Kps.give _ L y.to y.f) (by have := WS.out.2.2.1; rw [EG.out] at this; exact this) (zBi _ _ _ _ PS.out.zero)); clear hn6 hf6 hx6)
      go_roundw
      case rel => exact ⟨j + 1, L.give (G.terms.length + 1) y.to y.f, T6, by go_num, by omega, P6.out, hKp.trans (Kps.give _ _ _ _), by rw [← EG.out]; exact WS.out.2.2.2.1, by rw [← EG.out]; exact Nat.le_trans WS.out.2.2.2.2 hnum⟩
      case measure => simp [intOf]; omega
     | true =>
      have EG := zUB (show L.go (G.terms.length + 1) k y = (L.give (G.terms.length + 1) y.to y.f).give (G.terms.length + 1) y.to ((L.give (G.terms.length + 1) y.to y.f).S k) from by unfold Nt.go; rw [hye]; rfl)
      rw [hye] at e1 BX G1 y1 PB
      have S2 := zUB WS.out.2.2.1
      rw [EG.out] at S2
      have hq1 : (L.give (G.terms.length + 1) y.to y.f).qs.length <= (L.give (G.terms.length + 1) y.to y.f).pls.length := hql2
      have GG := zUB (fun (w6 : World) (T6 : Nat -> Prop) (p6 : Ps W K G q S w N k0 (L.give (G.terms.length + 1) y.to y.f) (upd M.Ys k ((M.Ys k).take j)) T6 w6) => (show ∃ g6 c6, w6.cell? ⟨K.p, 5, none⟩ = some (.slice (some ⟨g6, 0, none⟩) L.pls.length c6) /\ w6.cell? ⟨g6, k * 3, none⟩ = some (.pointer (some ⟨L.D k, 0, none⟩)) /\ Calls Tryz.prog 58 #[.pointer (some ⟨K.p, 0, none⟩), .int .i64 (y.to : Int), .pointer (some ⟨L.D k, 0, none⟩)] w6.drew (NWr W K G q (L.go (G.terms.length + 1) k y) (.tuple #[]) T6 w6.drew) from by
       obtain ⟨lab3, cv3, qv3, hN3, rfl⟩ := p6.at_
       obtain ⟨g6, c6, ecv, _, _, z0, _, _, _⟩ := hN3.cell (k := k) hkL
       have p5 := hN3.eight.2.2.2.2.2.1
       rw [ecv] at p5
       refine ⟨g6, c6, p5, z0, ?_⟩
       rw [EG.out]
       have hN4 := hN3.went (drawn w6)
       exact zF2 w6.drew ⟨lab3, _, _, hN4, rfl⟩ hto hCL hq1 (hN4.given2 hkL hto)))
      clear e0
      go_wp2_with (go_at_call 58; (with_reducible refine (G1.out).mono ?_); rintro e w6 ⟨rfl, T6, hn6, hf6, hx6⟩; obtain ⟨d1, d2⟩ := BX.out w6 hf6; have P6 := zUB (PB.out.turn hn6 hf6 hx6 (Kps.give _ L y.to y.f) WS.out.2.1 (zBi _ _ _ _ PS.out.zero)); obtain ⟨g6, c6, z5, z0, hG2⟩ := GG.out w6 T6 P6.out; have G2 := zUB hG2; clear hn6 hf6 hx6 hG2)
      have P6D := zUB (P6.out.went (drawn w6))
      have hkL2 : (k : Int) < (L.pls.length : Int) := by omega
      go_region_law (first
       | (go_simp; go_at_call 58; (with_reducible refine (G2.out).mono ?_); rintro e w7 ⟨rfl, T7, hn7, hf7, hx7⟩; have P7 := zUB (P6D.out.turn hn7 hf7 hx7 (by rw [EG.out]; exact Kps.give _ _ _ _) WS.out.2.2.1 (by rw [EG.out]; exact zBi _ _ _ _ P6D.out.zero)); clear hn7 hf7 hx7)
       | fail)
      all_goals
       go_wp2_with fail
       go_roundw
       case rel => exact ⟨j + 1, L.go (G.terms.length + 1) k y, T7, by go_num, by omega, P7.out, hKp.trans (Kps.go _ _ _ _), WS.out.2.2.2.1, Nat.le_trans WS.out.2.2.2.2 hnum⟩
       case measure => simp [intOf]; omega
    ·have hE : j = (M.Ys k).length := by omega
     subst hE
     rw [List.take_length, zNd] at hPs
     have PF := zUB hPs
     clear hPs
     go_wp2_with fail
     go_step3
     refine ⟨rfl, L, ⟨⟨rfl, rfl, rfl⟩, T, ?_⟩, Nat.lt_of_le_of_lt hnum NP0.out⟩
     rw [hKp.2.1]
     exact PF.out
 case first =>
  intro R
  obtain ⟨lab, cv, qv, hN, rfl⟩ := h
  have hk := zAY hk0
  have bl : Below w.heap.size w (w.alloc (.cells #[.int .i64 0] 3)) := boxed _ _
  have HB := zUB bl
  have H := zUB hN
  have SE := zUB (show Calls Tryz.prog 59 #[.pointer (some ⟨K.p, 0, none⟩), .slice (some ⟨w.heap.size, 0, none⟩) 1 1] (w.alloc (.cells #[.int .i64 0] 3)) (zHq (G.terms.length + 1) (inL (G.terms.length + 1) [0]) (w.alloc (.cells #[.int .i64 0] 3))) from
   zHs G.terms.length K.p [0] (some ⟨w.heap.size, 0, none⟩) 1 _ hT (cell_later bl hN.eight.2.1) (Gr.zBH (zAA rfl rfl)) (by simp) (fun t ht => by rw [List.mem_singleton] at ht; omega))
  have SP := hL.sp3 (G := G) (q := q) (m := G.terms.length + 1) (by omega)
  have SG := zUB (SP.give (k := k0) (F := inL (G.terms.length + 1) [0]) hk0 (fun t ht => by
   unfold inL at ht
   have := (of_decide_eq_true ht).2
   rw [List.mem_singleton] at this
   rw [this]
   exact .start))
  have ZE := zUB (zEi (G.terms.length + 1) N k0 (inL (G.terms.length + 1) [0]) ⟨by omega, fun i hi => by
   unfold inL
   exact decide_eq_false (by omega)⟩ (t := 0) (by unfold inL; exact decide_eq_true ⟨by omega, List.mem_singleton.2 rfl⟩))
  have hEl := hN.lab_lt (hN.lE k0 hk) (by intro e; cases e)
  have GI := zUB (fun (w2 : World) (P D : Nat) (hb : Below w.heap.size w w2) (h1 : w.heap.size <= P) (h2 : w.heap.size <= D) (hs : SetAt P D (G.terms.length + 1) (inL (G.terms.length + 1) [0]) w2) => zF2 (S := fun b => lab b ≠ .no) w2 ⟨lab, _, _, H.out.went hb, rfl⟩ hk (by omega) (by rw [hL.qs]; exact Nat.zero_le _) (u := .pointer (some ⟨P, 0, none⟩)) (F := inL (G.terms.length + 1) [0]) (.inl ⟨G.terms.length + 1, .at_ hs (by omega) (by omega)⟩))
  clear hN bl SP
  go_wp2_with (first
   | (go_at_call 59; (with_reducible refine (SE.out).mono ?_); rintro e w2 ⟨P, D, rfl, hP, hD, hs, hb⟩; have hs1 : (w.alloc (.cells #[.int .i64 0] 3)).heap.size = w.heap.size + 1 := (by simp); have B2 := zUB (Gr.step HB.out hb); have G2 := zUB (GI.out w2 P D B2.out (by omega) (by omega) hs); clear hs hb)
   | (go_at_call 58; (with_reducible refine (G2.out).mono ?_); rintro e w3 ⟨rfl, T3, hn3, hf3, hx3⟩; have P3 : Hid (Ps W K G q (fun b => lab b ≠ .no) w N k0 (N.give (G.terms.length + 1) k0 (inL (G.terms.length + 1) [0])) (N.give (G.terms.length + 1) k0 (inL (G.terms.length + 1) [0])).Ys T3 w3) := ⟨hn3, (Sep.Fr.of_below B2.out).trans hf3 (.refl _ _), hx3.at B2.out.size, Kps.give _ _ _ _, SG.out, ZE.out⟩; clear hn3 hf3 hx3))
  go_step3
  rename_i K1 hK1
  exact hK1 _ _ (R _ _ _ ⟨⟨rfl, rfl, rfl⟩, T3, P3.out⟩)
end Lk
namespace Au
open Gr (Gram Sh gv GAt Bx checkN zBZ top)
open Im
theorem zTO {Y : List Itm} {a : Option Addr} {c : Nat} {w w' : World} {S : Nat -> Prop} (h : ItsV 57 w.heap.size Y (.slice a Y.length c) w') (hS : ∀ k, S k -> k < w.heap.size) : LAt S Y (.slice a Y.length c) w' := by
 obtain ⟨a', c', e, hc⟩ := h.shape
 simp only [Value.slice.injEq] at e
 obtain ⟨rfl, _, rfl⟩ := e
 exact ⟨a, c, rfl, hc, h.reads, fun _ b o e q => by
  have := (World.ownsRow.lt h b (by rw [e]; rfl)).1
  have := hS b q
  omega⟩
theorem zQv {G : Gram} {Y : List Itm} (hv : checkN G = 0) (h : Y = [((G.rules.length : Int), 0)]) : Fit3 Y := fun x hx => by
 rw [h, List.mem_singleton] at hx
 subst hx
 exact zDK hv (zA2 (Nat.le_refl _))
theorem zOo {w : World} {p : Nat} {T : Nat -> Prop} {h : Sh} {G : Gram} {Y : List Itm} {X : Itm -> Option Int} {n : Nat} {w' : World} (e : Y = [((G.rules.length : Int), 0)]) (k : BAt w p T h G (zHD [] Y) X n w') : BAt w p T h G [[((G.rules.length : Int), 0)]] X n w' := by
 subst e
 exact k
theorem zM3 (h : Sh) (G : Gram) (w : World) (k : GAt h G w) (ht : checkN G = 0 -> top G <= 1000) :
  Calls Tryz.prog 15 #[gv h G] w (zHY G w) := by
 have C := zUB (fun w1 (b : Below w.heap.size w w1) => zBZ h G w1 (k.went b))
 have X := zUB (Bx.start h G w 25)
 by_cases hc : checkN G = 0
 ·have BG := zUB (fun w1 (b : Below w.heap.size w w1) => zC2 h G w1 (k.went b))
  have KG := zUB k
  replace ht := ht hc
  rw [hc] at C
  have hmm := @run_makeMap Tryz.prog
  clear k
  unfold gv at C BG ⊢
  go_enter Tryz.func15, Tryz.ntmps15
  go_wp2_with (first
   | (go_at_call 39; refine (C.out _ X.out.below).mono ?_; rintro e w1 ⟨rfl, hb⟩; have X1 := zUB (X.out.went hb); obtain ⟨g0, g1, g2, g3⟩ := X1.out.box; have hq : w.heap.size < w1.heap.size := World.block_lt_of_cell? w1 ⟨w.heap.size, 0, none⟩ g0; have hq2 : w.heap.size < w1.heap.size + 1 := (by omega); have hq3 : w.heap.size < w1.heap.size + 1 + 1 := (by omega); have B0 := zUB (fresh h G w w1 X1.out.below 95); have X2 := zUB (((X1.out.alloc (.map #[] 0)).alloc (.map #[] 0)).alloc (.cells #[.slice h.a1 G.terms.length h.c1, .slice h.a2 G.nons.length h.c2, .slice h.a3 G.rules.length h.c3, .int .i64 G.start, .slice none 0 0, .map (some w1.heap.size), .map (some (w1.heap.size + 1))] 95)); clear hb)
   | (go_at_call 27; refine (BG.out _ X2.out.below).mono ?_; rintro e w3 ⟨Y, a3, c3, rfl, y1, y2, y3⟩; have HY := zUB (show Y = [((G.rules.length : Int), 0)] from (y1.iff (Q := fun x => x = ((G.rules.length : Int), 0)) fun x => ⟨fun q => q.2, fun q => ⟨hc, q⟩⟩).uniq ⟨zCt _, fun x => List.mem_singleton⟩); have U3 := zUB (zTO y2 B0.out.inn); have B3 := zUB (B0.out.went y3); have X3 := zUB (X2.out.went y3); clear y1 y2 y3)
   | (go_at_call 40; refine (zFa _ B3.out Y a3 c3 U3.out (zQv hc HY.out) (fun x hx => by cases hx) List.nodup_nil (Nat.zero_le _) (by rw [HY.out]; simp)).mono ?_; rintro e w4 ⟨rfl, T4, b4, f4, x4, _⟩; have R0 := zUB (BdR.start (zOo HY.out b4)); clear b4 f4 x4))
  clear C BG X hmm
  go_loopw [6] (fun i wr => ∃ m : Nat, i = .int .i64 m /\ m <= 2000 /\ BdR w (w1.heap.size + 1 + 1) h G m wr) (fun i _ => 2001 - (intOf i).toNat)
  case atStart => exact ⟨0, rfl, Nat.zero_le _, R0.out⟩
  case round =>
   obtain ⟨m, rfl, hm, hR⟩ := hrel
   have R := zUB hR
   clear hR R0
   obtain ⟨⟨T, n, hB, hn⟩, hg, hfew⟩ := R.out
   have hgl := hg.len
   by_cases hlt : m < (runs G (top G) m).1.length
   ·have LV := zMF (W := w) wr hB KG.out hc ht (zDU G (top G) m) (by omega) (by omega) (by omega)
    rw [hgl] at LV
    have LVh := zUB LV
    have NX := zUB (fun (hs : ¬ 2000 < (runs G (top G) (m + 1)).1.length) => (show zEr G (m + 1) /\ (runs G (top G) (m + 1)).1.length <= 2000 from ⟨hg.next (R.out.not hlt), by omega⟩))
    have MY := zUB (R.out.many hlt)
    obtain ⟨a0, c0, bt, bn, us, k0⟩ := hB
    have q4 := k0.items
    clear k0 LV
    go_wp2_with (go_at_call 41; refine LVh.out.mono ?_; rintro e w5 ⟨rfl, T5, n5, b5, l5, f5, x5⟩; obtain ⟨a5, c5, bt5, bn5, us5, k5⟩ := b5; have K5 := zUB k5; have q5 : w5.cell? ⟨w1.heap.size + 1 + 1, 4, none⟩ = some (.slice a5 (runs G (top G) (m + 1)).1.length c5) := k5.items; clear k5 f5 x5)
    ·go_ret2
     exact ⟨[], 7, none, 0, rfl, .many hc (MY.out (by omega)) (by omega), .nil _ _, Nat.le_refl _, K5.out.below⟩
    ·obtain ⟨n1, n2⟩ := NX.out (by omega)
     refine ⟨⟨m + 1, by go_num, by omega, ⟨⟨T5, n5, ⟨a5, c5, bt5, bn5, us5, K5.out⟩, by omega⟩, n1, n2⟩⟩, ?_⟩
     simp [intOf]
     omega
   ·obtain ⟨d1, d2⟩ := R.out.done hlt
    have SA := zUB (zJ0 (W := w) wr hB KG.out ht (by omega))
    have DN := zUB (d1.done d2)
    have AO := zUB (zM0 DN.out)
    obtain ⟨a0, c0, bt, bn, us, k0⟩ := hB
    have q4 := k0.items
    have HW := zUB k0.below
    clear k0
    go_wp2_with (go_at_call 42; refine SA.out.mono ?_; rintro e w5 ⟨a5, c5, rfl, s1, s2, s3⟩; have S1 := zUB s1; have S2 := zUB s2; have S3 := zUB (Gr.step HW.out s3); clear s1 s2 s3)
    go_ret2
    exact ⟨_, 0, a5, c5, rfl, AO.out ▸ .all hc d1 d2, S1.out, S2.out, S3.out⟩
 ·have hcb : (checkN G != 0) = true := by simpa using hc
  clear k
  unfold gv at C ⊢
  go_enter Tryz.func15, Tryz.ntmps15
  go_wp2_with (go_at_call 39; refine (C.out _ X.out.below).mono ?_; rintro e w1 ⟨rfl, hb⟩; have X1 := zUB (X.out.went hb); clear hb)
  go_ret2
  exact ⟨[], checkN G, none, 0, rfl, .bad hc, .nil _ _, Nat.le_refl _, X1.out.below⟩
end Au
namespace Au
open Gr (Gram Sh Bx checkN top boxed)
open Im
theorem zFK (G : Gram) (ks : List (List Itm)) (c : List Itm) (n : Nat) : (zAm G ks c n).length <= n := by
 unfold zAm
 exact Nat.le_trans (List.length_filterMap_le _ _) (by rw [List.length_range]; exact Nat.le_refl _)
theorem zP1 {G : Gram} {c : List Itm} {ks : List (List Itm)} (h : ks.Nodup) (n : Nat) : (zAk G c n (ks, [])).2.length <= n := by
 rw [(zC8 (G := G) (c := c) h n).trans]
 exact zFK _ _ _ _
theorem zFh {G : Gram} (hv : checkN G = 0) {q : Whole} (h : WholeOk G (top G) q) (c : List Itm) (n : Nat) : (zAk G c n (q.1, [])).1.Nodup /\ ∀ x ∈ (zAk G c n (q.1, [])).1, x.length <= 2709 := by
 have H := zC8 (G := G) (c := c) h.nodup n
 refine ⟨H.nodup, fun x hx => ?_⟩
 obtain ⟨more, e, hm⟩ := H.front
 rw [e] at hx
 rcases List.mem_append.1 hx with k | k
 ·exact Nat.le_trans (zBe (h.good x k).2.1 (h.good x k).2.2) (zAW hv)
 ·obtain ⟨i, _, h1, _⟩ := hm x k
  rw [h1]
  exact (zQL hv c _).2
theorem zIF {G : Gram} {q : Whole} (h : WholeOk G (top G) q) : ∀ t ∈ q.2, t.length <= top G := fun t ht => by
 obtain ⟨i, hi, rfl⟩ := List.mem_iff_getElem.1 ht
 have := h.trans i hi
 rw [List.getD_eq_getElem?_getD, List.getElem?_eq_getElem hi] at this
 rw [show q.2[i] = zAm G q.1 (clL G (zAG q.1 i)) (top G) from this]
 exact zFK _ _ _ _
theorem zKA {G : Gram} (hv : checkN G = 0) {q : Whole} (h : WholeOk G (top G) q) (c : List Itm) (n : Nat) (hn : n <= top G) (hl : q.1.length <= 2000) : Small (mkSt (zAk G c n (q.1, [])).1 q.2) := by
 have h1 := zDC G c q.1 n
 have h2 := zC5 hv
 exact zNf (by omega) (fun k hk => Nat.le_trans ((zFh hv h c n).2 k hk) (by omega)) fun t ht => Nat.le_trans (zIF h t ht) (by omega)
theorem RbH.addr {TS TT : TypeId} {W : World} {h : Sh} {G : Gram} {ts : List (List (Int × Int))} {C : List Itm} {cv : Value} {p : Half} {v5 v8 : Value} {w : World} (k : RbH TS TT W h G ts C cv p v5 v8 w) (h0 : 0 < p.1.length) : ∃ g c, v5 = .slice (some ⟨g, 0, none⟩) p.1.length c := by
 obtain ⟨L, e, r, l⟩ := k.sts
 have hl : L.length = p.1.length := by
  have := congrArg List.length e
  rwa [List.length_map, zAQ] at this
 rcases r.2 with ⟨_, q⟩ | ⟨g, cap, cur, q, _⟩
 ·omega
 ·exact ⟨g, cap, by rw [q, hl]⟩
theorem RbH.own5 {TS TT : TypeId} {W : World} {h : Sh} {G : Gram} {ts : List (List (Int × Int))} {C : List Itm} {cv : Value} {p : Half} {v5 v8 : Value} {w : World} (k : RbH TS TT W h G ts C cv p v5 v8 w) : ∀ g, v5.ownBlock = some g -> g < w.heap.size := fun g hg => by
 obtain ⟨L, e, r, l⟩ := k.sts
 exact (r.lt g hg).2
theorem RbH.own8 {TS TT : TypeId} {W : World} {h : Sh} {G : Gram} {ts : List (List (Int × Int))} {C : List Itm} {cv : Value} {p : Half} {v5 v8 : Value} {w : World} (k : RbH TS TT W h G ts C cv p v5 v8 w) : ∀ g, v8.ownBlock = some g -> g < w.heap.size := fun g hg => (World.ownsRow.lt k.tr g hg).2
theorem RbH.new {TS TT : TypeId} {W : World} {h : Sh} {G : Gram} {ts : List (List (Int × Int))} {C : List Itm} {cv : Value} {p : Half} {v5 v8 : Value} {w w' : World} (k : RbH TS TT W h G ts C cv p v5 v8 w) {K : List Itm} {a : Option Addr} {c : Nat} (hc : K.length <= c) (hK : ItsA a K w') (hn : Nw w a) : L2 K (.slice a K.length c) v5 v8 w' :=
 ⟨a, c, rfl, hc, hK, fun _ b o e => by
  have h1 := hn b o e
  exact ⟨fun q => by have := k.own5 b q; omega, fun q => by have := k.own8 b q; omega⟩⟩
theorem zPY {TS : TypeId} {w w3 : World} {h : Sh} {G : Gram} {Y : List Itm} {a : Option Addr} {c : Nat} (bx : Bx w h G w3) (e : Y = [((G.rules.length : Int), 0)]) (hc : Y.length <= c) (hY : ItsA a Y w3) :
  RbR TS w h G (runs G (top G) 0) (.slice (some ⟨w3.heap.size, 0, none⟩) 1 1) (w3.alloc (.cells #[.slice a Y.length c, .slice none 0 0] TS)) := by
 have hb := boxed w3 (.cells #[.slice a Y.length c, .slice none 0 0] TS)
 have hlt : w.heap.size < w3.heap.size := World.block_lt_of_cell? w3 ⟨w.heap.size, 0, none⟩ bx.box.x0
 refine ⟨bx.went hb, [((Y, []), (.slice a Y.length c, .slice none 0 0))], ?_, ?_, fun x hx => ?_⟩
 ·subst e
  rfl
 ·exact zEn TS (w.heap.size + 1) w3.heap.size (.slice a Y.length c) (.slice none 0 0) w3 rfl (by omega) rfl rfl
 ·rw [List.mem_singleton] at hx
  subst hx
  refine ⟨⟨a, c, rfl, hc, hY.went hb, fun hn b o q q2 => ?_⟩, LOk.nil _ _⟩
  have := zDM hY hn q
  have h2 : some w3.heap.size = some b := q2
  injection h2 with h2
  omega
