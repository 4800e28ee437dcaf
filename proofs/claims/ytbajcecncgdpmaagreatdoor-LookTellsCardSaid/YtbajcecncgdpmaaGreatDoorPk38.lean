/- A part of the proof. -/
import Derived.Test.YtbajcecncgdpmaaGreatDoorPk35
import Derived.Test.YtbajcecncgdpmaaGreatDoorPk37
set_option maxHeartbeats 8000000
set_option maxRecDepth 100000
set_option linter.unusedVariables false
namespace Go.Proofs.YtbajcecncgdpmaaGreatDoor
open Go.RowKit Go.Maps
namespace Gr
def zTN (r : Int × List Int) (ok : Bool) (w : World) (e : Ending) (w' : World) : Prop :=
 ∃ a c, e = .returned (.tuple #[.agg #[.int .i64 r.1, .slice a r.2.length c], .bool ok]) /\ Sep.Reads a (ivs r.2) w' /\ Below w.heap.size w w' /\ r.2.length <= c
theorem zKq (h : Sh) (G : Gram) (i : Int) (w : World) (k : GAt h G w) :
  Calls Tryz.prog 12 #[gv h G, .int .i64 i] w (zTN (zAD G i) (zAN G i) w) := by
 have X := zUB (Bx.start h G w 25)
 have hc3 := k.r2
 by_cases h0 : i < 0 \/ (G.rules.length : Int) < i
 ·obtain ⟨e1, e2⟩ := zCY h0
  rw [e1, e2]
  clear k e1 e2
  by_cases h1 : i < 0
  ·clear h0
   unfold gv
   go_enter Tryz.func12, Tryz.ntmps12
   go_wp2
   exact bodyPost_ret (v := .tuple #[.agg #[.int .i64 0, .slice Option.none 0 0], .bool false]) (by simp [results, Tryz.results12, go_sem]) rfl ⟨_, _, rfl, .nil _ _, (X.out.alloc _).below, Nat.le_refl _⟩
  ·have h2 : (G.rules.length : Int) < i := by omega
   clear h0
   unfold gv
   go_enter Tryz.func12, Tryz.ntmps12
   go_wp2
   exact bodyPost_ret (v := .tuple #[.agg #[.int .i64 0, .slice Option.none 0 0], .bool false]) (by simp [results, Tryz.results12, go_sem]) rfl ⟨_, _, rfl, .nil _ _, (X.out.alloc _).below, Nat.le_refl _⟩
 ·by_cases h1 : i = (G.rules.length : Int)
  ·subst h1
   obtain ⟨e1, e2⟩ := zAZ G
   rw [e1, e2]
   clear k e1 e2 h0
   unfold gv
   go_enter Tryz.func12, Tryz.ntmps12
   go_wp2
   refine bodyPost_ret (v := .tuple #[.agg #[.int .i64 0, .slice (some ⟨w.heap.size + 1 + 1, 0, Option.none⟩) 1 1], .bool true]) (by simp [results, Tryz.results12, go_sem]) rfl ⟨_, _, rfl, zBH (zAA (by simp) rfl), ((X.out.alloc _).alloc _).below, Nat.le_refl _⟩
  ·obtain ⟨j, rfl⟩ : ∃ j : Nat, i = (j : Int) := ⟨i.toNat, by omega⟩
   have hj : j < G.rules.length := by omega
   obtain ⟨e1, e2⟩ := zAi hj
   rw [e1, e2]
   obtain ⟨a1, c1, a2, c2, a3, c3⟩ := h
   obtain ⟨b, o, ra, rc, e, g1, g2, g3, g4, g5⟩ := k.rules j hj
   dsimp only at e
   subst e
   generalize G.rules[j] = r at g1 g2 g3 g4 g5 ⊢
   have hblt : b < w.heap.size := World.block_lt_of_cell? w ⟨b, o + j * 2, Option.none⟩ g1
   have HR := zUB (show Sep.Reads ra (ivs r.2) w from g3)
   clear k e1 e2 h0 h1 g3
   unfold gv
   dsimp only
   go_enter Tryz.func12, Tryz.ntmps12
   go_wp2
   exact bodyPost_ret (v := .tuple #[.agg #[.int .i64 r.1, .slice ra r.2.length rc], .bool true]) (by simp [results, Tryz.results12, go_sem]) rfl ⟨_, _, rfl, HR.out.below (X.out.alloc _).below (Nat.le_refl _), (X.out.alloc _).below, g4⟩
end Gr
namespace Im
open Gr (boxed drawn zAA cell_later)
def GotN (L : List Itm) (a0 : Option Addr) (w : World) (e : Ending) (w' : World) : Prop := ∃ a c, e = .returned (.slice a L.length c) /\ L.length <= c /\ ItsA a L w' /\ Below w.heap.size w w' /\ ∀ b o, a = some ⟨b, o, none⟩ -> a = a0 \/ w.heap.size <= b
theorem zSk : Tryz.prog.underlying 49 = some (.slice (Tryz.prog.elem 49)) := by kernel_rfl
theorem zS9 (w : World) : (sizeOf (Tryz.prog.elem 49)).run Tryz.prog w = .ok 2 w := by kernel_rfl
theorem zQs {a : Option Addr} {X : List Itm} {w : World} (h : ItsA a X w) {k c : Nat} (hk : k <= X.length) (hc : X.length <= c) :
  ∃ a1 c1, (∀ W, (Instr.slice 49 (.slice a X.length c) none (some (.int .i64 (k : Int))) none).run Tryz.prog W = .ok (.slice a1 k c1) W) /\ (∀ p, a1 = some p -> ∀ j u, ((X.take k).flatMap ic)[j]? = some u -> w.cell? (p.add j) = some u) /\ (a1 = none -> k = 0) := by
 have e : (if c = 0 then a else a.map (·.add (0 * 2))) = a := by
  split
  ·rfl
  ·cases a <;> simp [Addr.add]
 refine ⟨a, c, fun W => ?_, (h.take k).lie.1, fun q => ?_⟩
 ·rw [run_slice_h W 49 a X.length c zSk .i64 (k : Int) (by omega) (by omega), zS9]
  simp only [Result.andThen_ok, sliced]
  rw [e]
  simp
 ·have := (h.take k).lie.2 q
  rw [List.length_take] at this
  omega
theorem zRs {a : Option Addr} {X : List Itm} {w : World} (h : ItsA a X w) {k c : Nat} (hk : k <= X.length) (hc : X.length <= c) :
  ∃ a1 c1, (∀ W, (Instr.slice 49 (.slice a X.length c) (some (.int .i64 (k : Int))) none none).run Tryz.prog W = .ok (.slice a1 (X.length - k) c1) W) /\ (∀ p, a1 = some p -> ∀ j u, ((X.drop k).flatMap ic)[j]? = some u -> w.cell? (p.add j) = some u) /\ (a1 = none -> X.length - k = 0) := by
 refine ⟨if c = k then a else a.map (·.add (k * 2)), c - k, fun W => ?_, fun p hp j u hu => ?_, fun q => ?_⟩
 ·rw [run_slice_l W 49 a X.length c zSk .i64 (k : Int) (by omega) (by omega), zS9]
  simp [Result.andThen_ok, sliced]
 ·have hl := zAS (X.drop k)
  rw [List.length_drop] at hl
  have hj : j < ((X.drop k).flatMap ic).length := (List.getElem?_eq_some_iff.1 hu).1
  have hck : ¬ c = k := by omega
  rw [if_neg hck] at hp
  cases a with
  | none => cases hp
  | some q =>
   obtain ⟨b, o, eq, _⟩ := h 0 (by rw [zAS]; omega)
   injection eq with eq
   subst eq
   have := (h.drop k).lie.1 _ rfl j u hu
   simp only [Option.map_some, Option.some.injEq] at hp
   subst hp
   rw [WideShapes.add_plain] at *
   rw [WideShapes.add_plain]
   exact this
 ·by_cases hck : c = k
  ·omega
  ·rw [if_neg hck, Option.map_eq_none_iff] at q
   have := h.lie.2 q
   omega
def Sc (X : List Itm) (x : Itm) (j : Nat) : Prop := ∀ i (h : i < X.length), i < j -> ltP X[i] x
theorem zRa {X : List Itm} {x : Itm} {j : Nat} (h : Sc X x j) (hj : j < X.length) (k : zKz X[j] x = true) : Sc X x (j + 1) := fun i hi hij => by
 by_cases e : i = j
 ·subst e
  exact of_decide_eq_true k
 ·exact h i hi (by omega)
structure Bp (W : World) (x : Itm) (w : World) : Prop where
 below : Below W.heap.size W w
 i0 : w.cell? ⟨W.heap.size, 0, none⟩ = some (.int .i64 x.1)
 i1 : w.cell? ⟨W.heap.size, 1, none⟩ = some (.int .i64 x.2)
theorem Bp.went {W : World} {x : Itm} {w w' : World} (k : Bp W x w) (hb : Below w.heap.size w w') : Bp W x w' := ⟨Gr.step k.below hb, cell_later hb k.i0, cell_later hb k.i1⟩
theorem Bp.start (x : Itm) (w : World) (T : TypeId) : Bp w x (w.alloc (.cells #[.int .i64 x.1, .int .i64 x.2] T)) := ⟨boxed _ _, zAA rfl rfl, zAA rfl rfl⟩
def Stop (X : List Itm) (x : Itm) (j : Nat) : Prop := ∀ h : j < X.length, ¬ ltP X[j] x
def hitB (X : List Itm) (x : Itm) (j : Nat) : Bool := decide (X[j]? = some x)
theorem zS3 {X : List Itm} {x : Itm} {j : Nat} (h : j < X.length) : hitB X x j = eqB X[j] x := by
 unfold hitB eqB
 rw [List.getElem?_eq_getElem h]
 simp
theorem zQm {X : List Itm} {x : Itm} {j : Nat} (h : ¬ j < X.length) : hitB X x j = false := by
 unfold hitB
 rw [List.getElem?_eq_none (by omega)]
 rfl
theorem zSH {X : List Itm} {x : Itm} {j : Nat} (hj : j <= X.length) (h1 : Sc X x j) (h2 : Stop X x j) (h : hitB X x j = true) : putI X x = X := by
 rw [zMR hj (fun i hi hij => h1 i hi hij) h2, if_pos (of_decide_eq_true h)]
theorem zOB {X : List Itm} {x : Itm} {j : Nat} (hj : j <= X.length) (h1 : Sc X x j) (h2 : Stop X x j) (h : hitB X x j = false) : putI X x = (X.take j ++ [x]) ++ X.drop j := by
 rw [zMR hj (fun i hi hij => h1 i hi hij) h2, if_neg (of_decide_eq_false h)]
 simp
theorem zIt (X : List Itm) (a : Option Addr) (c : Nat) (x : Itm) (w : World) (hX : ItsA a X w) (hc : X.length <= c) (hl : X.length <= 100000) :
    Calls Tryz.prog 44 #[.slice a X.length c, iv x] w (GotN (putI X x) a w) := by
  have KX := zUB (fun w1 (b : Below w.heap.size w w1) => hX.went b)
  have B0 := zUB (Bp.start x w 57)
  have LS := zUB (fun (y : Itm) (W : World) => zLb y x W)
  have mixed : Tryz.prog.follows .mixedOrders = true := by kernel_rfl
  have HC := zUB hc
  clear hX hc
  obtain ⟨xr, xd⟩ := x
  unfold iv at *
  dsimp only at B0 LS ⊢
  go_enter Tryz.func44, Tryz.ntmps44
  go_wp2
  go_loopw [5] (fun i wr => ∃ j : Nat, i = .int .i64 j /\ j <= X.length /\ Sc X (xr, xd) j /\ Bp w (xr, xd) wr) (fun i _ => X.length - (intOf i).toNat)
  case atStart => exact ⟨0, rfl, Nat.zero_le _, fun i _ h => by omega, B0.out⟩
  case round =>
    obtain ⟨j, rfl, hj, hS, hB⟩ := hrel
    clear B0
    have HS := zUB hS
    have B := zUB hB
    clear hS hB
    have hGw : ∀ m os, Gw wr (Go.Sort.grow (wr.drewN m) os) := fun m os => ⟨m, os, rfl⟩
    have q0 : ∀ m os, (Go.Sort.grow (wr.drewN m) os).cell? ⟨w.heap.size, 0, none⟩ = some (.int .i64 xr) := fun m os => cell_later (hGw m os).below B.out.i0
    have q1 : ∀ m os, (Go.Sort.grow (wr.drewN m) os).cell? ⟨w.heap.size, 1, none⟩ = some (.int .i64 xd) := fun m os => cell_later (hGw m os).below B.out.i1
    by_cases hgo : ∃ h : j < X.length, zKz X[j] (xr, xd) = true
    · obtain ⟨hlt, hls⟩ := hgo
      have HT := zUB (zRa HS.out hlt hls)
      obtain ⟨b1, o1, ea, p0, p1⟩ := (KX.out wr B.out.below).at j hlt
      have e1 : ((X[j].1, X[j].2) : Itm) = X[j] := rfl
      generalize X[j] = y at p0 p1 e1 hls
      obtain ⟨y0, y1⟩ := y
      dsimp only at p0 p1
      clear e1
      subst ea
      have k0 : ∀ m os, (Go.Sort.grow (wr.drewN m) os).cell? ⟨b1, o1 + j * 2, none⟩ = some (.int .i64 y0) := fun m os => cell_later (hGw m os).below p0
      have k1 : ∀ m os, (Go.Sort.grow (wr.drewN m) os).cell? ⟨b1, o1 + j * 2 + 1, none⟩ = some (.int .i64 y1) := fun m os => cell_later (hGw m os).below p1
      have CL := zUB (fun m os => LS.out (y0, y1) (Go.Sort.grow (wr.drewN m) os))
      unfold iv at CL
      dsimp only at CL
      rw [hls] at CL
      clear p0 p1 hls
      go_wp2
      go_quiet_grown (first | (go_at_call 80; refine Calls.grown_of (CL.out _ _)))
      have B2 := zUB (B.out.went (hGw nq osq).below)
      generalize Go.Sort.grow (wr.drewN nq) osq = w2 at B2 ⊢
      clear q0 q1 k0 k1 hGw CL
      go_wp2
      go_roundw
      case rel => exact ⟨j + 1, by go_num, by omega, HT.out, B2.out⟩
      case measure => simp [intOf]; omega
    · have HP := zUB (show Stop X (xr, xd) j from fun h q => hgo ⟨h, decide_eq_true q⟩)
      have HL := zUB (fun (h : j < X.length) => show zKz X[j] (xr, xd) = false from decide_eq_false (HP.out h))
      clear hgo
      go_wp2
      go_cut [17] (fun s wx => s = .bool false /\ Bp w (xr, xd) wx)
      case first =>
        by_cases hlt : j < X.length
        · have hls := HL.out hlt
          obtain ⟨b1, o1, ea, p0, p1⟩ := (KX.out wr B.out.below).at j hlt
          have e1 : ((X[j].1, X[j].2) : Itm) = X[j] := rfl
          generalize X[j] = y at p0 p1 e1 hls
          obtain ⟨y0, y1⟩ := y
          dsimp only at p0 p1
          clear e1
          subst ea
          have k0 : ∀ m os, (Go.Sort.grow (wr.drewN m) os).cell? ⟨b1, o1 + j * 2, none⟩ = some (.int .i64 y0) := fun m os => cell_later (hGw m os).below p0
          have k1 : ∀ m os, (Go.Sort.grow (wr.drewN m) os).cell? ⟨b1, o1 + j * 2 + 1, none⟩ = some (.int .i64 y1) := fun m os => cell_later (hGw m os).below p1
          have CL := zUB (fun m os => LS.out (y0, y1) (Go.Sort.grow (wr.drewN m) os))
          unfold iv at CL
          dsimp only at CL
          rw [hls] at CL
          clear p0 p1 hls HL
          go_quiet_grown (first | (go_at_call 80; refine Calls.grown_of (CL.out _ _)))
          have B2 := zUB (B.out.went (hGw nq osq).below)
          generalize Go.Sort.grow (wr.drewN nq) osq = w2 at B2 ⊢
          clear q0 q1 k0 k1 hGw CL
          go_wp2
          go_meet
          case rel => exact ⟨rfl, B2.out⟩
        · have hnl : (X.length : Int) <= (j : Int) := by omega
          clear HL
          go_quiet_grown (first | (go_at_call 80; fail))
          have B2 := zUB (B.out.went (hGw nq osq).below)
          generalize Go.Sort.grow (wr.drewN nq) osq = w2 at B2 ⊢
          clear q0 q1 hGw
          go_wp2
          go_meet
          case rel => exact ⟨rfl, B2.out⟩
      case rest =>
        obtain ⟨rfl, hB2⟩ := hcut
        have B2 := zUB hB2
        clear hB2 B q0 q1 hGw HL LS
        go_wp2
        go_cut [31] (fun s wx => s = .bool (hitB X (xr, xd) j) /\ Bp w (xr, xd) wx)
        case first =>
          have hd3 : ∀ m, Below wc.heap.size wc (wc.drewN m) := fun m => ⟨rfl, rfl, rfl, Nat.le_refl _, fun _ _ => rfl⟩
          have y0 := B2.out.i0
          have y1 := B2.out.i1
          dsimp only at y0 y1
          have heq := zJD
          have hgd := Tryz.eqGuardType57
          by_cases hlt : j < X.length
          · have hh := zS3 (x := (xr, xd)) hlt
            obtain ⟨b1, o1, ea, p0, p1⟩ := (KX.out wc B2.out.below).at j hlt
            have e1 : ((X[j].1, X[j].2) : Itm) = X[j] := rfl
            generalize X[j] = y at p0 p1 e1 hh
            obtain ⟨z0, z1⟩ := y
            dsimp only at p0 p1
            clear e1
            subst ea
            have HH := zUB hh
            clear hh
            go_quiet (fail)
            have B3 := zUB (B2.out.went (hd3 nq))
            generalize wc.drewN nq = w2 at B3 ⊢
            clear hd3 y0 y1 p0 p1 heq
            go_wp2
            go_meet
            case rel => exact ⟨by rw [HH.out], B3.out⟩
          · have hnl : (X.length : Int) <= (j : Int) := by omega
            have HH := zUB (zQm (x := (xr, xd)) hlt)
            go_quiet (fail)
            have B3 := zUB (B2.out.went (hd3 nq))
            generalize wc.drewN nq = w2 at B3 ⊢
            clear hd3 y0 y1 heq
            go_wp2
            go_meet
            case rel => exact ⟨by rw [HH.out], B3.out⟩
        case rest =>
          obtain ⟨rfl, hB3⟩ := hcut
          have B3 := zUB hB3
          clear hB3 B2
          cases hh : hitB X (xr, xd) j with
          | true =>
            have HE := zUB (zSH hj HS.out HP.out hh)
            go_wp2
            go_ret
            exact ⟨a, c, by rw [HE.out]; rfl, by rw [HE.out]; exact HC.out, by rw [HE.out]; exact KX.out _ B3.out.below, B3.out.below, fun _ _ _ => .inl rfl⟩
          | false =>
            have HE := zUB (zOB hj HS.out HP.out hh)
            clear hh HS HP
            go_wp2
            generalize hw3 : wc = w3 at B3 ⊢
            clear hw3
            obtain ⟨i0, hi, hz0, hz1, hz2⟩ := info_parts zCG
            have hbn := zEz
            obtain ⟨a1, c1, e1, t1, t2⟩ := zQs (KX.out w3 B3.out.below) (k := j) hj HC.out
            obtain ⟨a2, c2, e2, t3, t4⟩ := zRs (KX.out w3 B3.out.below) (k := j) hj HC.out
            have T1 := zUB (fun w1 (b : Below w3.heap.size w3 w1) => fun p hp i u hu => cell_later b (t1 p hp i u hu))
            have T3 := zUB (fun w1 (b : Below w3.heap.size w3 w1) => fun p hp i u hu => cell_later b (t3 p hp i u hu))
            have l1 : ((X.take j).flatMap ic).length = j * 2 := by rw [zAS, List.length_take, Nat.min_eq_left hj]
            have l2 : ((X.drop j).flatMap ic).length = (X.length - j) * 2 := by rw [zAS, List.length_drop]
            have hjl : j <= 100000 := by omega
            have hxj : X.length - j <= 100000 := by omega
            have y0 := B3.out.i0
            have y1 := B3.out.i1
            dsimp only at y0 y1
            have hq0 : w.heap.size < w3.heap.size := World.block_lt_of_cell? w3 ⟨w.heap.size, 0, none⟩ y0
            have hsW : w3.drew.heap.size = w3.heap.size := rfl
            have ONE := zUB (show ∀ u ∈ ic (xr, xd), u.oneCell' = true from fun u hu => by simp only [ic, List.mem_cons, List.not_mem_nil, or_false] at hu; rcases hu with rfl | rfl <;> rfl)
            have FIN := zUB (fun v w9 (q : w9.ownsRow w3.heap.size 57 2 v (j + 1 + (X.length - j)) (((X.take j).flatMap ic ++ ic (xr, xd)) ++ (X.drop j).flatMap ic)) (b : Below w3.heap.size w3 w9) => show GotN (putI X (xr, xd)) a w (.returned v) w9 from by
              have h1 : ItsV 57 w3.heap.size (X.take j ++ [(xr, xd)]) v w9 \/ True := .inr trivial
              have h2 : ItsV 57 w3.heap.size ((X.take j ++ [(xr, xd)]) ++ X.drop j) v w9 := ItsV.of_append (n := j + 1) (m := X.length - j) (by simpa [zFT, List.flatMap_cons] using q) (by rw [List.length_append, List.length_take, List.length_singleton, Nat.min_eq_left hj]) (by rw [List.length_drop])
              rw [← HE.out] at h2
              obtain ⟨a9, c9, rfl, hc9⟩ := h2.shape
              exact ⟨a9, c9, rfl, hc9, h2.reads, Gr.step B3.out.below b, fun b9 o9 e9 => .inr (Nat.le_trans B3.out.below.size (World.ownsRow.lt h2 b9 (by rw [e9]; rfl)).1)⟩)
            clear t1 t3 hj HC
            go_region_law (first
            | (refine Rw.zCP _ (by rfl) (.tmp 33) (.tmp 36) 49 (by rfl) w3.heap.size 57 i0 (.agg #[.int .i64 0, .int .i64 0]) 2 16 Tryz.underlying49 hi hz0 hz1 hz2 rfl (by decide) _ 0 [] (by rfl) (Rw.zJP (by first | exact zBS _ _ | exact zCQ (by simp) | exact zCd (zBS _ _)) (by first | exact Nat.le_refl _ | (simp; done) | (simp; omega))) a1 j c1 ((X.take j).flatMap ic) (by rfl) l1 (T1.out _ (by first | exact Gr.step (boxed _ _) (drawn _) | exact Gr.step (drawn _) (boxed _ _) | exact Gr.step (Gr.step (boxed _ _) (drawn _)) (boxed _ _) | exact Gr.step (Gr.step (boxed _ _) (boxed _ _)) (drawn _) | exact Gr.step (Gr.step (drawn _) (boxed _ _)) (boxed _ _))) t2 (zH7 _) (by unfold maxLen; omega) (by omega) (by first | (simp; done) | (simp; omega)) ?_
               intro v7 w7 hown4 hg4 _
               obtain ⟨a7, c7, rfl⟩ := Rw.zAH hown4
               rw [Nat.zero_add] at hown4 ⊢
               have K4 := zUB (show Below w3.heap.size w3 w7 from Below.grown (by first | exact Gr.step (boxed _ _) (drawn _) | exact Gr.step (drawn _) (boxed _ _) | exact Gr.step (Gr.step (boxed _ _) (drawn _)) (boxed _ _) | exact Gr.step (Gr.step (boxed _ _) (boxed _ _)) (drawn _) | exact Gr.step (Gr.step (drawn _) (boxed _ _)) (boxed _ _)) hg4 (Below.size (by first | exact Gr.step (boxed _ _) (drawn _) | exact Gr.step (drawn _) (boxed _ _) | exact Gr.step (Gr.step (boxed _ _) (drawn _)) (boxed _ _) | exact Gr.step (Gr.step (boxed _ _) (boxed _ _)) (drawn _) | exact Gr.step (Gr.step (drawn _) (boxed _ _)) (boxed _ _))) (fun k hk => by simp [Value.ownBlock] at hk; omega))
               have O4 := zUB (show w7.ownsRow w3.heap.size 57 2 (.slice a7 j c7) j ((X.take j).flatMap ic) from hown4)
               (first
                 | (have RB4 := zUB (show w7.heap[w3.heap.size + 1]? = some (.cells #[.int .i64 xr, .int .i64 xd] 57 (0, 0)) from (hg4.block _ (by simp) (by simp [Value.ownBlock])).trans (by first | exact zCQ (by simp) | exact zCQ rfl)))
                 | (have RB4 := zUB (show w7.heap[w3.heap.size]? = some (.cells #[.int .i64 xr, .int .i64 xd] 57 (0, 0)) from (hg4.block _ (by simp; try omega) (by simp [Value.ownBlock])).trans (by first | exact zCd (zCQ rfl) | exact zCd (zBS _ _))))
                 | skip)
               have hs4 := K4.out.size
               have y0 := (B3.out.went K4.out).i0
               have y1 := (B3.out.went K4.out).i1
               dsimp only at y0 y1
               have hq04 : w.heap.size < w7.heap.size := World.block_lt_of_cell? w7 ⟨w.heap.size, 0, none⟩ y0
               clear hown4 hg4)
            | (refine Rw.zAJ _ (by rfl) (.tmp 37) (.tmp 39) 49 (by rfl) w3.heap.size 57 i0 (.agg #[.int .i64 0, .int .i64 0]) 2 16 Tryz.underlying49 hi hz0 hz1 hz2 rfl (by decide) (.slice a7 j c7) j ((X.take j).flatMap ic) (by rfl) (by first | exact O4.out | exact Sep.zAC O4.out fun g hg => Below.heap_alloc _ _ _ (O4.out.lt g hg).2) w3.heap.size (.slice (some ⟨w3.heap.size + 1, 0, none⟩) 1 1) 1 (ic (xr, xd)) (by rfl) (zLv (x := (xr, xd)) RB4.out (by omega)) ONE.out (by unfold maxLen; omega) (by omega) (by first | exact K4.out.size | exact (Gr.step K4.out (boxed _ _)).size) ?_
               intro v8 w8 hown2 hg2 _
               have K5 := zUB (show Below w3.heap.size w3 w8 from Below.grown (w := _) (by first | exact K4.out | exact Gr.step K4.out (boxed _ _)) hg2 (by first | exact K4.out.size | exact (Gr.step K4.out (boxed _ _)).size) (fun k hk => (O4.out.lt k hk).1))
               obtain ⟨a8, c8, rfl⟩ := Rw.zAH hown2
               have O5 := zUB hown2
               have y0 := (B3.out.went K5.out).i0
               have y1 := (B3.out.went K5.out).i1
               dsimp only at y0 y1
               clear hown2 hg2)
            | (refine Rw.zAJ _ (by rfl) (.tmp 37) (.tmp 39) 49 (by rfl) w3.heap.size 57 i0 (.agg #[.int .i64 0, .int .i64 0]) 2 16 Tryz.underlying49 hi hz0 hz1 hz2 rfl (by decide) (.slice a7 j c7) j ((X.take j).flatMap ic) (by rfl) (by first | exact O4.out | exact Sep.zAC O4.out fun g hg => Below.heap_alloc _ _ _ (O4.out.lt g hg).2) w3.heap.size (.slice (some ⟨w3.heap.size, 0, none⟩) 1 1) 1 (ic (xr, xd)) (by rfl) (zLv (x := (xr, xd)) RB4.out (by omega)) ONE.out (by unfold maxLen; omega) (by omega) (by first | exact K4.out.size | exact (Gr.step K4.out (boxed _ _)).size) ?_
               intro v8 w8 hown2 hg2 _
               have K5 := zUB (show Below w3.heap.size w3 w8 from Below.grown (w := _) (by first | exact K4.out | exact Gr.step K4.out (boxed _ _)) hg2 (by first | exact K4.out.size | exact (Gr.step K4.out (boxed _ _)).size) (fun k hk => (O4.out.lt k hk).1))
               obtain ⟨a8, c8, rfl⟩ := Rw.zAH hown2
               have O5 := zUB hown2
               have y0 := (B3.out.went K5.out).i0
               have y1 := (B3.out.went K5.out).i1
               dsimp only at y0 y1
               clear hown2 hg2)
            | (refine Rw.zAJ _ (by rfl) (.tmp 37) (.tmp 39) 49 (by rfl) w3.heap.size 57 i0 (.agg #[.int .i64 0, .int .i64 0]) 2 16 Tryz.underlying49 hi hz0 hz1 hz2 rfl (by decide) (.slice a7 j c7) j ((X.take j).flatMap ic) (by rfl) (by first | exact O4.out | exact Sep.zAC O4.out fun g hg => Below.heap_alloc _ _ _ (O4.out.lt g hg).2) w3.heap.size (.slice (some ⟨w7.heap.size, 0, none⟩) 1 1) 1 (ic (xr, xd)) (by rfl) (zLv (x := (xr, xd)) (zBS _ _) (by omega)) ONE.out (by unfold maxLen; omega) (by omega) (by first | exact K4.out.size | exact (Gr.step K4.out (boxed _ _)).size) ?_
               intro v8 w8 hown2 hg2 _
               have K5 := zUB (show Below w3.heap.size w3 w8 from Below.grown (w := _) (by first | exact K4.out | exact Gr.step K4.out (boxed _ _)) hg2 (by first | exact K4.out.size | exact (Gr.step K4.out (boxed _ _)).size) (fun k hk => (O4.out.lt k hk).1))
               obtain ⟨a8, c8, rfl⟩ := Rw.zAH hown2
               have O5 := zUB hown2
               have y0 := (B3.out.went K5.out).i0
               have y1 := (B3.out.went K5.out).i1
               dsimp only at y0 y1
               clear hown2 hg2)
            | (refine Rw.zCP _ (by rfl) (.tmp 40) (.tmp 43) 49 (by rfl) w3.heap.size 57 i0 (.agg #[.int .i64 0, .int .i64 0]) 2 16 Tryz.underlying49 hi hz0 hz1 hz2 rfl (by decide) (.slice a8 (j + 1) c8) (j + 1) ((X.take j).flatMap ic ++ ic (xr, xd)) (by rfl) O5.out a2 (X.length - j) c2 ((X.drop j).flatMap ic) (by rfl) l2 (T3.out _ K5.out) t4 (zH7 _) (by unfold maxLen; omega) (by omega) K5.out.size ?_
               intro v9 w9 hown5 hg5 _
               have K6 := zUB (show Below w3.heap.size w3 w9 from K5.out.grown hg5 K5.out.size (fun k hk => (O5.out.lt k hk).1))
               have F9 := zUB (FIN.out v9 w9 hown5 K6.out)
               clear hown5 hg5)
            | fail)
            all_goals
              go_wp2
              go_ret
              exact F9.out
end Im
namespace Lk
open Gr (ivs)
theorem zS1 : Tryz.prog.underlying 37 = some (.slice (Tryz.prog.elem 37)) := by kernel_rfl
theorem zTJ (w : World) : (sizeOf (Tryz.prog.elem 37)).run Tryz.prog w = .ok 1 w := by kernel_rfl
theorem zJX (X : List Int) (k : Nat) : ivs (X.drop k) = (ivs X).drop k := by simp [ivs]
theorem zHn (X Y : List Int) : ivs (X ++ Y) = ivs X ++ ivs Y := by simp [ivs]
theorem zDg (X : List Int) : (ivs X).length = X.length := by simp [ivs]
theorem zQh {a : Option Addr} {X : List Int} {w : World} (h : Sep.Reads a (ivs X) w) {k c : Nat} (hk : k <= X.length) (hc : X.length <= c) :
  ∃ a1 c1, (∀ W, (Instr.slice 37 (.slice a X.length c) (some (.int .i64 (k : Int))) none none).run Tryz.prog W = .ok (.slice a1 (X.length - k) c1) W) /\ Sep.Reads a1 (ivs (X.drop k)) w := by
 refine ⟨if c = k then a else a.map (·.add (k * 1)), c - k, fun W => ?_, fun j hj => ?_⟩
 ·rw [run_slice_l W 37 a X.length c zS1 .i64 (k : Int) (by omega) (by omega), zTJ]
  simp [Result.andThen_ok, sliced]
 ·rw [zDg, List.length_drop] at hj
  have hck : ¬ c = k := by omega
  obtain ⟨b, o, e, hx⟩ := h (k + j) (by rw [zDg]; omega)
  refine ⟨b, o + k, ?_, ?_⟩
  ·rw [if_neg hck, e]
   simp [Addr.add]
  ·rw [show o + k + j = o + (k + j) by omega, hx]
   simp [zJX]
theorem zGM {w : World} {q : Nat} {t : Int} {T : TypeId} (h : w.heap[q]? = some (.cells #[.int .i64 t] T (0, 0))) : Sep.Reads (some ⟨q, 0, none⟩) (ivs [t]) w := Gr.zBH (by simp [World.cell?, h, Gr.iv])
theorem zF6 {S : Nat -> Prop} {a : Option Addr} {X : List Int} {w w' : World} (h : Sep.Reads a (ivs X) w) (f : Sep.Fr S w w') (hn : ∀ b o, a = some ⟨b, o, none⟩ -> ¬ S b) : Sep.Reads a (ivs X) w' := fun j hj => by
 obtain ⟨b, o, e, hx⟩ := h j hj
 exact ⟨b, o, e, f.cell hx (hn b o e)⟩
end Lk
namespace Lk
open Gr (zAU)
open Im
def idxI (L : List Itm) (x : Itm) : Int := if x ∈ L then (L.idxOf x : Int) else -1
def Nx (L : List Itm) (x : Itm) (j : Nat) : Prop := ∀ i (h : i < L.length), i < j -> L[i] ≠ x
theorem zRk (L : List Itm) (x : Itm) : Nx L x 0 := fun i h k => by omega
theorem zRP {L : List Itm} {x : Itm} {j : Nat} (h : Nx L x j) (hj : j < L.length) (k : L[j] ≠ x) : Nx L x (j + 1) := fun i hi hij => by
 by_cases e : i = j
 ·subst e
  exact k
 ·exact h i hi (by omega)
theorem zE9 {L : List Itm} {x : Itm} (h : x ∈ L) : ∃ k : Nat, idxI L x = (k : Int) /\ ∃ hk : k < L.length, L[k] = x := by
 refine ⟨L.idxOf x, if_pos h, List.idxOf_lt_length_iff.2 h, ?_⟩
 exact List.getElem_idxOf _
theorem zIJ {L : List Itm} {x : Itm} (h : x ∉ L) : idxI L x = -1 := if_neg h
theorem zQu {L : List Itm} {x : Itm} {j : Nat} (h : Nx L x j) (hj : j < L.length) (e : L[j] = x) : idxI L x = (j : Int) := by
 obtain ⟨k, h1, hk, h2⟩ := zE9 (show x ∈ L from e ▸ List.getElem_mem hj)
 rw [h1]
 have h3 : ¬ k < j := fun q => h k hk q h2
 have h4 : ¬ j < k := fun q => by
  have hm : x ∈ L := e ▸ List.getElem_mem hj
  unfold idxI at h1
  rw [if_pos hm] at h1
  have h1' : L.idxOf x = k := by omega
  have := List.not_of_lt_findIdx (p := (· == x)) (xs := L) (i := j) (by
   have : L.findIdx (· == x) = k := h1'
   omega)
  simp [e] at this
 omega
theorem zRm {L : List Itm} {x : Itm} (h : Nx L x L.length) : idxI L x = -1 := zIJ fun hm => by
 obtain ⟨i, hi, e⟩ := List.getElem_of_mem hm
 exact h i hi hi e
theorem zGf (L : List Itm) (a : Option Addr) (c : Nat) (x : Itm) (w : World) (kl : ItsA a L w) (hl : L.length <= 100000) :
  Calls Tryz.prog 21 #[.slice a L.length c, iv x] w (Gr.Is (.int .i64 (idxI L x)) w) := by
 have KX := zUB (fun w1 (b : Below w.heap.size w w1) => kl.went b)
 have B0 := zUB (Bp.start x w 57)
 have mixed : Tryz.prog.follows .mixedOrders = true := by kernel_rfl
 have heq := zJD
 have hgd := Tryz.eqGuardType57
 have RH := zUB (fun j h k e => zQu (L := L) (x := x) (j := j) h k e)
 have RE := zUB (zRm (L := L) (x := x))
 have RS := zUB (fun j h k e => zRP (L := L) (x := x) (j := j) h k e)
 have RZ := zUB (zRk L x)
 clear kl
 generalize idxI L x = r at RH RE ⊢
 obtain ⟨xr, xd⟩ := x
 unfold iv at *
 dsimp only at B0 ⊢
 go_enter Tryz.func21, Tryz.ntmps21
 go_wp2
 go_loopw [5] (fun i wr => ∃ j : Nat, i = .int .i64 j /\ j <= L.length /\ Nx L (xr, xd) j /\ Bp w (xr, xd) wr) (fun i _ => L.length - (intOf i).toNat)
 case atStart => exact ⟨0, rfl, Nat.zero_le _, RZ.out, B0.out⟩
 case round =>
  obtain ⟨j, rfl, hj, hS, hB⟩ := hrel
  clear B0
  have HS := zUB hS
  have B := zUB hB
  have q0 := hB.i0
  have q1 := hB.i1
  clear hS hB
  by_cases hlt : j < L.length
  ·obtain ⟨b1, o1, ea, p0, p1⟩ := (KX.out wr B.out.below).at j hlt
   have HN := zUB (fun e => RS.out j HS.out hlt e)
   have HH := zUB (fun e => RH.out j HS.out hlt e)
   subst ea
   generalize L[j] = y at *
   obtain ⟨y0, y1⟩ := y
   dsimp only at p0 p1
   go_wp2
   go_quiet (fail)
   have B2 := zUB (B.out.went (Below.trans (Below.refl _ _) ⟨rfl, rfl, rfl, Nat.le_refl _, fun _ _ => rfl⟩ : Below wr.heap.size wr (wr.drewN nq)))
   generalize wr.drewN nq = wn at B2 ⊢
   clear p0 p1 q0 q1 heq
   generalize hbb : eqB (y0, y1) (xr, xd) = bb
   cases bb with
   | true =>
    have HS2 := zUB (HH.out (zKv.1 hbb))
    clear hbb HN HH HS
    go_wp2
    go_ret
    exact ⟨zAU HS2.out, B2.out.below⟩
   | false =>
    have HS2 := zUB (HN.out (of_decide_eq_false hbb))
    clear hbb HN HH HS
    go_wp2
    go_roundw
    case rel => exact ⟨j + 1, by go_num, by omega, HS2.out, B2.out⟩
    case measure => simp [intOf]; omega
  ·have hE : j = L.length := by omega
   have HE := zUB (RE.out (by rw [← hE]; exact HS.out))
   go_wp2
   go_ret
   exact ⟨zAU HE.out, B.out.below⟩
end Lk
namespace Im
open Gr (Gram Sh gv GAt Bx drawn checkN cell_later)
def Nw (w : World) (a : Option Addr) : Prop := ∀ b o, a = some ⟨b, o, none⟩ -> w.heap.size <= b
theorem Nw.step {w : World} {a a' : Option Addr} {n : Nat} (h : Nw w a) (hn : w.heap.size <= n) (k : ∀ b o, a' = some ⟨b, o, none⟩ -> a' = a \/ n <= b) : Nw w a' := fun b o e => by
 rcases k b o e with q | q
 ·exact h b o (q ▸ e)
 ·omega
def zPs (P : Itm -> Prop) (w : World) (e : Ending) (w' : World) : Prop := ∃ (Y : List Itm) (a : Option Addr) (c : Nat), e = .returned (.slice a Y.length c) /\ Y.length <= c /\ Is Y P /\ ItsA a Y w' /\ Below w.heap.size w w' /\ Nw w a
def zT7 (L : List Itm) (F : Itm -> Itm) (Q : Itm -> Prop) (j : Nat) (x : Itm) : Prop := ∃ q, ∃ h : q < L.length, q < j /\ x = F L[q] /\ Q L[q]
structure Out (W : World) (h : Sh) (G : Gram) (L : List Itm) (F : Itm -> Itm) (Q : Itm -> Prop) (j : Nat) (Y : List Itm) (a : Option Addr) (c : Nat) (w : World) : Prop where
 bx : Bx W h G w
 its : Is Y (zT7 L F Q j)
 at_ : ItsA a Y w
 cap : Y.length <= c
 len : Y.length <= j
theorem Out.went {W : World} {h : Sh} {G : Gram} {L : List Itm} {F : Itm -> Itm} {Q : Itm -> Prop} {j : Nat} {Y : List Itm} {a : Option Addr} {c : Nat} {w w' : World} (k : Out W h G L F Q j Y a c w) (hb : Below w.heap.size w w') : Out W h G L F Q j Y a c w' := ⟨k.bx.went hb, k.its, k.at_.went hb, k.cap, k.len⟩
theorem Out.miss {W : World} {h : Sh} {G : Gram} {L : List Itm} {F : Itm -> Itm} {Q : Itm -> Prop} {j : Nat} {Y : List Itm} {a : Option Addr} {c : Nat} {w : World} (k : Out W h G L F Q j Y a c w) (hj : j < L.length) (hq : ¬ Q L[j]) : Out W h G L F Q (j + 1) Y a c w := ⟨k.bx, zKo k.its hj hq, k.at_, k.cap, Nat.le_succ_of_le k.len⟩
theorem Out.hit {W : World} {h : Sh} {G : Gram} {L : List Itm} {F : Itm -> Itm} {Q : Itm -> Prop} {j : Nat} {Y : List Itm} {a a' : Option Addr} {c c' : Nat} {w w' : World} (k : Out W h G L F Q j Y a c w) (hj : j < L.length) (hq : Q L[j]) {x : Itm} (hx : x = F L[j]) (hb : Below w.heap.size w w') (h1 : (putI Y x).length <= c') (h2 : ItsA a' (putI Y x) w') : Out W h G L F Q (j + 1) (putI Y x) a' c' w' := by
 subst hx
 refine ⟨k.bx.went hb, zNo k.its hj hq, h2, h1, ?_⟩
 rw [zFX k.its.1]
 have := k.len
 split <;> omega
theorem zNL {G : Gram} {L : List Itm} {s : Int} (x : Itm) : (∃ y ∈ L, x = nx y /\ Hs G s y) ↔ zHM G L s x :=
 ⟨fun ⟨y, h1, h2, h3, h4⟩ => ⟨y, h1, h3, h4, h2⟩, fun ⟨y, h1, h3, h4, h2⟩ => ⟨y, h1, h2, h3, h4⟩⟩
theorem zNK (h : Sh) (G : Gram) (hv : checkN G = 0) (L : List Itm) (a : Option Addr) (c : Nat) (s : Int) (w : World) (k : GAt h G w) (kl : ItsA a L w) (hL : L.length <= 10000) :
  Calls Tryz.prog 47 #[gv h G, .slice a L.length c, .int .i64 s] w (zPs (zHM G L s) w) := by
 have X0 := zUB (Bx.start h G w 25)
 have BH := zUB (fun (x : Itm) w1 (b : Below w.heap.size w w1) => zFl h G x w1 (k.went b))
 have KL := zUB (fun w1 (b : Below w.heap.size w w1) => kl.went b)
 have PU := zUB (fun (Y : List Itm) (ay : Option Addr) (cy : Nat) (x : Itm) w1 (hY : ItsA ay Y w1) (hc : Y.length <= cy) (hl : Y.length <= 100000) => zIt Y ay cy x w1 hY hc hl)
 have mixed : Tryz.prog.follows .mixedOrders = true := by kernel_rfl
 clear k kl
 have O0 := zUB (show Out w h G L nx (Hs G s) 0 [] none 0 _ from ⟨X0.out, Is.nil fun x ⟨_, _, q, _⟩ => by omega, .nil _ _, Nat.le_refl _, Nat.le_refl _⟩)
 unfold gv at *
 go_enter Tryz.func47, Tryz.ntmps47
 go_wp2
 go_loopw [7, 8, 9, 10] (fun v i _ _ wr => ∃ (j : Nat) (Y : List Itm) (ao : Option Addr) (co : Nat), i = .int .i64 j /\ j <= L.length /\ v = .slice ao Y.length co /\ Out w h G L nx (Hs G s) j Y ao co wr /\ Nw w ao) (fun _ i _ _ _ => L.length - (intOf i).toNat)
 case atStart => exact ⟨0, [], none, 0, rfl, Nat.zero_le _, rfl, O0.out, fun b o e => by cases e⟩
 case round =>
  obtain ⟨j, Y, ao, co, rfl, hj, rfl, hO, hN⟩ := hrel
  have NN := zUB hN
  clear hN
  have O := zUB hO
  clear hO O0
  by_cases hlt : j < L.length
  ·obtain ⟨b1, o1, ea, p0, p1⟩ := (KL.out wr O.out.bx.below).at j hlt
   have HIT := zUB (fun hq (a' : Option Addr) (c' : Nat) (w' : World) hb h1 h2 => O.out.hit (a' := a') (c' := c') (w' := w') hlt hq rfl hb h1 h2)
   have MISS := zUB (fun hq => O.out.miss hlt hq)
   have e1 : ((L[j].1, L[j].2) : Itm) = L[j] := rfl
   generalize L[j] = x at p0 p1 e1 HIT MISS
   obtain ⟨x0, x1⟩ := x
   dsimp only at p0 p1
   clear e1
   subst ea
   have hGw : ∀ m os, Gw wr (Go.Sort.grow (wr.drewN m) os) := fun m os => ⟨m, os, rfl⟩
   have k0 : ∀ m os, (Go.Sort.grow (wr.drewN m) os).cell? ⟨b1, o1 + j * 2, none⟩ = some (.int .i64 x0) := fun m os => cell_later (hGw m os).below p0
   have k1 : ∀ m os, (Go.Sort.grow (wr.drewN m) os).cell? ⟨b1, o1 + j * 2 + 1, none⟩ = some (.int .i64 x1) := fun m os => cell_later (hGw m os).below p1
   have k2 : ∀ m os, (Go.Sort.grow (wr.drewN m) os).cell? ⟨w.heap.size, 0, none⟩ = some (.slice h.a1 G.terms.length h.c1) := fun m os => cell_later (hGw m os).below O.out.bx.box.x0
   have k3 : ∀ m os, (Go.Sort.grow (wr.drewN m) os).cell? ⟨w.heap.size, 1, none⟩ = some (.slice h.a2 G.nons.length h.c2) := fun m os => cell_later (hGw m os).below O.out.bx.box.x1
   have k4 : ∀ m os, (Go.Sort.grow (wr.drewN m) os).cell? ⟨w.heap.size, 2, none⟩ = some (.slice h.a3 G.rules.length h.c3) := fun m os => cell_later (hGw m os).below O.out.bx.box.x2
   have k5 : ∀ m os, (Go.Sort.grow (wr.drewN m) os).cell? ⟨w.heap.size, 3, none⟩ = some (.int .i64 G.start) := fun m os => cell_later (hGw m os).below O.out.bx.box.x3
   have CB := zUB (fun m os => BH.out (x0, x1) (Go.Sort.grow (wr.drewN m) os) (Gr.step O.out.bx.below (hGw m os).below))
   unfold iv at CB
   dsimp only at CB
   have HS : Hs G s (x0, x1) ↔ behB G (x0, x1) = true /\ behV G (x0, x1) = s := Iff.rfl
   have HR := zUB (fun (q : behB G (x0, x1) = true) => zCE hv (zAa.1 q).1)
   generalize Hs G s (x0, x1) = hs at HS HIT MISS
   generalize behB G (x0, x1) = bb at CB HS HR
   generalize behV G (x0, x1) = bv at CB HS
   go_wp2
   go_quiet_grown (first | (go_at_call 17; refine Calls.grown_of (CB.out _ _)))
   have O2 := zUB (O.out.went (hGw nq osq).below)
   have hb2 := (hGw nq osq).below
   have p0 := k0 nq osq
   have p1 := k1 nq osq
   generalize Go.Sort.grow (wr.drewN nq) osq = w2 at O2 hb2 p0 p1 ⊢
   clear k0 k1 k2 k3 k4 k5 CB hGw
   by_cases hh : bb = true /\ bv = s
   ·obtain ⟨rfl, rfl⟩ := hh
    obtain ⟨_, _, b3, b4⟩ := HR.out rfl
    try dsimp only at b3 b4
    have HI := zUB (HIT.out (HS.2 ⟨rfl, rfl⟩))
    clear HIT MISS HS HR
    go_wp2
    have hl : Y.length <= 100000 := by have := O2.out.len; omega
    have CP := zUB (fun w1 (b : Below w2.heap.size w2 w1) => PU.out Y ao co (x0, x1 + 1) w1 (O2.out.at_.went b) O2.out.cap hl)
    unfold iv at CP
    have HQ := zUB (fun w' (b : Below w2.heap.size w2 w') => (show w'.cell? ⟨b1, o1 + j * 2, none⟩ = some (.int .i64 x0) /\ w'.cell? ⟨b1, o1 + j * 2 + 1, none⟩ = some (.int .i64 x1) from ⟨cell_later b p0, cell_later b p1⟩))
    have kA := drawn w2
    have hwr : IntKind.i64.wrap (x1 + 1) = x1 + 1 := by
     simp [IntKind.wrap, IntKind.bits, IntKind.signed]
     omega
    go_region_held3 (fun w' => w'.cell? ⟨b1, o1 + j * 2, none⟩ = some (.int .i64 x0) /\ w'.cell? ⟨b1, o1 + j * 2 + 1, none⟩ = some (.int .i64 x1))
     (exact HQ.out _ (by assumption))
     (first
      | (go_at_call 44; refine (CP.out _ kA).mono ?_; rintro e w3 ⟨a3, c3, rfl, h1, h2, hb, hnw⟩; have k3 : Below w2.heap.size w2 w3 := Gr.step kA hb; have O3 := zUB (HI.out a3 c3 _ (Gr.step hb2 k3) h1 h2); have N3 := zUB (NN.out.step O2.out.bx.below.size hnw); clear h1 h2 hb hnw)
      | fail)
    go_wp2
    go_roundw
    case rel => exact ⟨j + 1, _, a3, c3, by go_num, by omega, rfl, O3.out, N3.out⟩
    case measure => simp [intOf]; omega
   ·have O3 := zUB (MISS.out fun q => hh (HS.1 q))
    have O4 := zUB (O3.out.went hb2)
    clear HIT MISS HS O2 O3 O HR
    have hh' : bb = false \/ (bb = true /\ (bv == s) = false) := by
     cases bb with
     | false => exact .inl rfl
     | true => exact .inr ⟨rfl, by simpa using fun q => hh ⟨rfl, q⟩⟩
    clear hh
    rcases hh' with rfl | ⟨rfl, hne⟩
    ·go_wp2
     go_roundw
     case rel => exact ⟨j + 1, Y, ao, co, by go_num, by omega, rfl, O4.out, NN.out⟩
     case measure => simp [intOf]; omega
    ·go_wp2
     go_roundw
     case rel => exact ⟨j + 1, Y, ao, co, by go_num, by omega, rfl, O4.out, NN.out⟩
     case measure => simp [intOf]; omega
  ·have hE : j = L.length := by omega
   subst hE
   have F := zUB (show zPs (zHM G L s) w (.returned (.slice ao Y.length co)) wr from ⟨Y, ao, co, rfl, O.out.cap, O.out.its.iff fun x => (zD0 x).trans (zNL x), O.out.at_, O.out.bx.below, NN.out⟩)
   go_wp2
   go_ret
   exact F.out
end Im
namespace Im
open Gr (Gram Sh gv GAt Bx checkN cell_later ofL ofN zDY)
def Rq (G : Gram) (y : Itm) : Prop := zAI G y = true
structure Rc (W : World) (h : Sh) (G : Gram) (L Y : List Itm) (a : Option Addr) (c : Nat) (w : World) : Prop where
 bx : Bx W h G w
 at_ : ItsA a Y w
 cap : Y.length <= c
 mid : Mid G L Y
 nw : Nw W a
theorem Rc.went {W : World} {h : Sh} {G : Gram} {L Y : List Itm} {a : Option Addr} {c : Nat} {w w' : World} (k : Rc W h G L Y a c w) (hb : Below w.heap.size w w') : Rc W h G L Y a c w' := ⟨k.bx.went hb, k.at_.went hb, k.cap, k.mid, k.nw⟩
theorem Out.rc {W : World} {h : Sh} {G : Gram} {L Y : List Itm} {a : Option Addr} {c : Nat} {w : World} (k : Out W h G L id (Rq G) L.length Y a c w) (n : Nw W a) : Rc W h G L Y a c w :=
 ⟨k.bx, k.at_, k.cap, .start (k.its.iff fun x => (zD0 x).trans ⟨fun ⟨y, h1, h2, h3⟩ => by obtain rfl : x = y := h2; exact ⟨h1, h3⟩, fun ⟨h1, h3⟩ => ⟨x, h1, rfl, h3⟩⟩), n⟩
theorem Rc.done {W : World} {h : Sh} {G : Gram} {L Y : List Itm} {a : Option Addr} {c : Nat} {w : World} (k : Rc W h G L Y a c w) (hs : Shut G Y) : zPs (Clo G L) W (.returned (.slice a Y.length c)) w :=
 ⟨Y, a, c, rfl, k.cap, k.mid.done hs, k.at_, k.bx.below, k.nw⟩
theorem Rc.len {W : World} {h : Sh} {G : Gram} {L Y : List Itm} {a : Option Addr} {c : Nat} {w : World} (k : Rc W h G L Y a c w) (hv : checkN G = 0) : Y.length <= 2709 := Nat.le_trans k.mid.len (zAW hv)
def zHF (G : Gram) (Y : List Itm) (j : Nat) : Prop := ∀ q, ∀ h : q < Y.length, q < j -> behB G Y[q] = true -> ∀ r ∈ ofN G (behV G Y[q]), ((r : Int), (0 : Int)) ∈ Y
theorem zM6 (G : Gram) (Y : List Itm) : zHF G Y 0 := fun q _ h => absurd h (Nat.not_lt_zero q)
theorem zLq {G : Gram} {Y : List Itm} {j : Nat} (h : zHF G Y j) (hj : j < Y.length) (k : behB G Y[j] = true -> ∀ r ∈ ofN G (behV G Y[j]), ((r : Int), (0 : Int)) ∈ Y) : zHF G Y (j + 1) := fun q hq hl => by
 by_cases e : q = j
 ·subst e
  exact k
 ·exact h q hq (by omega)
theorem zPl {G : Gram} {Y : List Itm} (h : zHF G Y Y.length) : Shut G Y := fun y hy => by
 obtain ⟨q, hq, rfl⟩ := List.getElem_of_mem hy
 exact h q hq hq
theorem zI3 {G : Gram} {L : List Itm} {y : Itm} (hy : Clo G L y) (hb : behB G y = true) : ∀ (rs : List Nat) (out : List Itm), Mid G L out -> (∀ r ∈ rs, r ∈ ofN G (behV G y)) -> Mid G L (adds out rs)
 | [], out, m, _ => m
 | r :: rs, out, m, h => zI3 hy hb rs (putI out ((r : Int), 0)) (m.put hy hb (h r (List.mem_cons_self ..))) fun q hq => h q (List.mem_cons_of_mem _ hq)
theorem zG4 {Y : List Itm} {rs : List Nat} {k : Nat} (h : k < rs.length) : putI (adds Y (rs.take k)) ((rs[k] : Nat), 0) = adds Y (rs.take (k + 1)) := by
 rw [List.take_succ_eq_append_getElem h, zLy]
theorem Rc.more {W : World} {h : Sh} {G : Gram} {L Y : List Itm} {rs : List Nat} {kk : Nat} {a a' : Option Addr} {c c' : Nat} {w w' : World} {y : Itm} (k : Rc W h G L (adds Y (rs.take kk)) a c w) (hk : kk < rs.length) (hy : Clo G L y) (hb : behB G y = true) (hm : Mid G L Y) (hr : rs = ofN G (behV G y))
  (hbl : Below w.heap.size w w') (h1 : (putI (adds Y (rs.take kk)) ((rs[kk] : Nat), 0)).length <= c') (h2 : ItsA a' (putI (adds Y (rs.take kk)) ((rs[kk] : Nat), 0)) w') (hn : ∀ b o, a' = some ⟨b, o, none⟩ -> a' = a \/ w.heap.size <= b) : Rc W h G L (adds Y (rs.take (kk + 1))) a' c' w' := by
 rw [zG4 hk] at h1 h2
 exact ⟨k.bx.went hbl, h2, h1, zI3 hy hb _ _ hm fun r hr' => by rw [← hr]; exact List.mem_of_mem_take hr', k.nw.step k.bx.below.size hn⟩
theorem zSP {G : Gram} {s : Int} {a : Option Addr} {w : World} {rs : List Nat} (h : Sep.Reads a (Gr.ivs (ofL G s)) w) (hr : rs = ofN G s) {k : Nat} (hk : k < rs.length) : ∃ b o, a = some ⟨b, o, none⟩ /\ w.cell? ⟨b, o + k, none⟩ = some (.int .i64 ((rs[k] : Nat) : Int)) := by
 subst hr
 have hl : k < (Gr.ivs (ofL G s)).length := by simp [Gr.ivs, Gr.zBB, hk]
 obtain ⟨b, o, e, hc⟩ := h k hl
 refine ⟨b, o, e, ?_⟩
 rw [hc]
 simp [Gr.ivs, Gr.iv, ofL, Gr.ofI, ofN]
def zQC (M : Nat) (v n : Value) : Nat := match v, n with
 | .slice _ l _, .int _ i => 2 * (M - l) + if i = (l : Int) then 0 else 1
 | _, _ => 0
theorem zDP (M l c : Nat) (a : Option Addr) (k : IntKind) (i : Int) : zQC M (.slice a l c) (.int k i) = 2 * (M - l) + if i = (l : Int) then 0 else 1 := rfl
theorem zFE (h : Sh) (G : Gram) (hv : checkN G = 0) (L : List Itm) (a : Option Addr) (c : Nat) (w : World) (k : GAt h G w) (kl : ItsA a L w) (hL : L.length <= 10000) (hrl : G.rules.length <= 65536) :
  Calls Tryz.prog 16 #[gv h G, .slice a L.length c] w (zPs (Clo G L) w) := by
 have X0 := zUB (Bx.start h G w 25)
 have BR := zUB (fun (x : Itm) w1 (b : Below w.heap.size w w1) => zHC h G x w1 (k.went b))
 have BH := zUB (fun (x : Itm) w1 (b : Below w.heap.size w w1) => zFl h G x w1 (k.went b))
 have OF := zUB (fun (s : Int) w1 (b : Below w.heap.size w w1) => zDY h G s w1 (k.went b) hrl)
 have KL := zUB (fun w1 (b : Below w.heap.size w w1) => kl.went b)
 have PU := zUB (fun (Y : List Itm) (ay : Option Addr) (cy : Nat) (x : Itm) w1 (hY : ItsA ay Y w1) (hc : Y.length <= cy) (hl : Y.length <= 100000) => zIt Y ay cy x w1 hY hc hl)
 have mixed : Tryz.prog.follows .mixedOrders = true := by kernel_rfl
 clear k kl
 have O0 := zUB (show Out w h G L id (Rq G) 0 [] none 0 _ from ⟨X0.out, Is.nil fun x ⟨_, _, q, _⟩ => by omega, .nil _ _, Nat.le_refl _, Nat.le_refl _⟩)
 unfold gv at *
 go_enter Tryz.func16, Tryz.ntmps16
 go_wp2
 go_loopw [5, 6] (fun v i wr => ∃ (j : Nat) (Y : List Itm) (ao : Option Addr) (co : Nat), i = .int .i64 j /\ j <= L.length /\ v = .slice ao Y.length co /\ Out w h G L id (Rq G) j Y ao co wr /\ Nw w ao) (fun _ i _ => L.length - (intOf i).toNat)
 case atStart => exact ⟨0, [], none, 0, rfl, Nat.zero_le _, rfl, O0.out, fun b o e => by cases e⟩
 case round =>
  obtain ⟨j, Y, ao, co, rfl, hj, rfl, hO, hN⟩ := hrel
  have NN := zUB hN
  clear hN
  have O := zUB hO
  clear hO O0
  by_cases hlt : j < L.length
  ·obtain ⟨b1, o1, ea, p0, p1⟩ := (KL.out wr O.out.bx.below).at j hlt
   have HIT := zUB (fun hq (a' : Option Addr) (c' : Nat) (w' : World) hb h1 h2 => O.out.hit (a' := a') (c' := c') (w' := w') hlt hq rfl hb h1 h2)
   have MISS := zUB (fun hq => O.out.miss hlt hq)
   have e1 : ((L[j].1, L[j].2) : Itm) = L[j] := rfl
   generalize L[j] = x at p0 p1 e1 HIT MISS
   obtain ⟨x0, x1⟩ := x
   dsimp only at p0 p1
   clear e1
   subst ea
   have hGw : ∀ m os, Gw wr (Go.Sort.grow (wr.drewN m) os) := fun m os => ⟨m, os, rfl⟩
   have k0 : ∀ m os, (Go.Sort.grow (wr.drewN m) os).cell? ⟨b1, o1 + j * 2, none⟩ = some (.int .i64 x0) := fun m os => cell_later (hGw m os).below p0
   have k1 : ∀ m os, (Go.Sort.grow (wr.drewN m) os).cell? ⟨b1, o1 + j * 2 + 1, none⟩ = some (.int .i64 x1) := fun m os => cell_later (hGw m os).below p1
   have k2 : ∀ m os, (Go.Sort.grow (wr.drewN m) os).cell? ⟨w.heap.size, 0, none⟩ = some (.slice h.a1 G.terms.length h.c1) := fun m os => cell_later (hGw m os).below O.out.bx.box.x0
   have k3 : ∀ m os, (Go.Sort.grow (wr.drewN m) os).cell? ⟨w.heap.size, 1, none⟩ = some (.slice h.a2 G.nons.length h.c2) := fun m os => cell_later (hGw m os).below O.out.bx.box.x1
   have k4 : ∀ m os, (Go.Sort.grow (wr.drewN m) os).cell? ⟨w.heap.size, 2, none⟩ = some (.slice h.a3 G.rules.length h.c3) := fun m os => cell_later (hGw m os).below O.out.bx.box.x2
   have k5 : ∀ m os, (Go.Sort.grow (wr.drewN m) os).cell? ⟨w.heap.size, 3, none⟩ = some (.int .i64 G.start) := fun m os => cell_later (hGw m os).below O.out.bx.box.x3
   have CB := zUB (fun m os => BR.out (x0, x1) (Go.Sort.grow (wr.drewN m) os) (Gr.step O.out.bx.below (hGw m os).below))
   unfold iv at CB
   dsimp only at CB
   have HS : Rq G (x0, x1) ↔ zAI G (x0, x1) = true := Iff.rfl
   generalize Rq G (x0, x1) = hs at HS HIT MISS
   generalize zAI G (x0, x1) = rr at CB HS
   go_wp2
   refine wp_region_quiet_grown (by assumption) (by kernel_rfl) ?_
   repeat (first | go_big_quiet_skip | (go_big_quiet_want; go_big_quiet_op; first | go_big_quiet_on | go_big_quiet_call (first | (go_at_call 43; refine Calls.grown_of (CB.out _ _)))) | quiet_step (first | (go_at_call 43; refine Calls.grown_of (CB.out _ _))))
   refine wpQuiet_nil ?_
   intro _ hw'
   obtain ⟨⟨nq, osq⟩, hw''⟩ := hw'
   subst hw''
   have O2 := zUB (O.out.went (hGw nq osq).below)
   have hb2 := (hGw nq osq).below
   have p0 := k0 nq osq
   have p1 := k1 nq osq
   generalize Go.Sort.grow (wr.drewN nq) osq = w2 at O2 hb2 p0 p1 ⊢
   clear k0 k1 k2 k3 k4 k5 CB hGw
   cases rr with
   | false =>
    have O3 := zUB (MISS.out fun q => Bool.noConfusion (HS.1 q))
    clear HIT MISS HS
    have O4 := zUB (O3.out.went hb2)
    clear O2 O3 O
    go_wp2
    go_roundw
    case rel => exact ⟨j + 1, Y, ao, co, by go_num, by omega, rfl, O4.out, NN.out⟩
    case measure => simp [intOf]; omega
   | true =>
    have HI := zUB (HIT.out (HS.2 rfl))
    clear HIT MISS HS
    have hl : Y.length <= 100000 := by have := O2.out.len; omega
    have CP := zUB (PU.out Y ao co (x0, x1) w2 O2.out.at_ O2.out.cap hl)
    unfold iv at CP
    go_wp2_with (go_at_call 44; refine CP.out.mono ?_; rintro e w3 ⟨a3, c3, rfl, h1, h2, hb, hnw⟩; have O3 := zUB (HI.out a3 c3 _ (Gr.step hb2 hb) h1 h2); have N3 := zUB (NN.out.step O2.out.bx.below.size hnw); clear h1 h2 hb hnw)
    go_roundw
    case rel => exact ⟨j + 1, _, a3, c3, by go_num, by omega, rfl, O3.out, N3.out⟩
    case measure => simp [intOf]; omega
  ·have hE : j = L.length := by omega
   subst hE
   have R0 := zUB (O.out.rc NN.out)
   clear O KL hL hlt hj
   go_wp2
   go_loopw [5, 7, 8, 9, 10, 11, 12, 13] (fun v n _ _ _ _ _ _ wx => ∃ (nn : Int) (Z : List Itm) (az : Option Addr) (cz : Nat), n = .int .i64 nn /\ v = .slice az Z.length cz /\ Rc w h G L Z az cz wx /\ (nn = (Z.length : Int) -> Shut G Z)) (fun v n _ _ _ _ _ _ _ => zQC 2709 v n)
   case atStart => exact ⟨-1, Y, ao, co, rfl, rfl, R0.out, fun q => by omega⟩
   case round =>
    obtain ⟨nn, Z, az, cz, rfl, rfl, hR, hS⟩ := hrel
    have R := zUB hR
    have S := zUB hS
    clear hR hS R0
    by_cases he : nn = (Z.length : Int)
    ·have F := zUB (R.out.done (S.out he))
     subst he
     go_wp2
     go_ret
     exact F.out
    ·have hz := R.out.len hv
     have hne : (nn != (Z.length : Int)) = true := by simpa using he
     clear S
     go_wp2
     go_loopw [5, 8, 9, 10, 11, 12, 13] (fun v i _ _ _ _ _ wx => ∃ j : Nat, v = .slice az Z.length cz /\ i = .int .i64 j /\ j <= Z.length /\ Rc w h G L Z az cz wx /\ zHF G Z j) (fun _ i _ _ _ _ _ _ => Z.length - (intOf i).toNat)
     case atStart => exact ⟨0, rfl, rfl, Nat.zero_le _, R.out, zM6 G Z⟩
     case round =>
      obtain ⟨j, rfl, rfl, hj, hR, hS⟩ := hrel
      clear R
      have R := zUB hR
      have S := zUB hS
      clear hR hS
      by_cases hlt : j < Z.length
      ·obtain ⟨b1, o1, ea, p0, p1⟩ := R.out.at_.at j hlt
       have NX := zUB (zLq S.out hlt)
       have CY := zUB (R.out.mid.sub _ (List.getElem_mem hlt))
       clear S
       have e1 : ((Z[j].1, Z[j].2) : Itm) = Z[j] := rfl
       generalize Z[j] = x at p0 p1 e1 NX CY
       obtain ⟨x0, x1⟩ := x
       dsimp only at p0 p1
       clear e1
       subst ea
       have hGw : ∀ m os, Gw wr (Go.Sort.grow (wr.drewN m) os) := fun m os => ⟨m, os, rfl⟩
       have k0 : ∀ m os, (Go.Sort.grow (wr.drewN m) os).cell? ⟨b1, o1 + j * 2, none⟩ = some (.int .i64 x0) := fun m os => cell_later (hGw m os).below p0
       have k1 : ∀ m os, (Go.Sort.grow (wr.drewN m) os).cell? ⟨b1, o1 + j * 2 + 1, none⟩ = some (.int .i64 x1) := fun m os => cell_later (hGw m os).below p1
       have k2 : ∀ m os, (Go.Sort.grow (wr.drewN m) os).cell? ⟨w.heap.size, 0, none⟩ = some (.slice h.a1 G.terms.length h.c1) := fun m os => cell_later (hGw m os).below R.out.bx.box.x0
       have k3 : ∀ m os, (Go.Sort.grow (wr.drewN m) os).cell? ⟨w.heap.size, 1, none⟩ = some (.slice h.a2 G.nons.length h.c2) := fun m os => cell_later (hGw m os).below R.out.bx.box.x1
       have k4 : ∀ m os, (Go.Sort.grow (wr.drewN m) os).cell? ⟨w.heap.size, 2, none⟩ = some (.slice h.a3 G.rules.length h.c3) := fun m os => cell_later (hGw m os).below R.out.bx.box.x2
       have k5 : ∀ m os, (Go.Sort.grow (wr.drewN m) os).cell? ⟨w.heap.size, 3, none⟩ = some (.int .i64 G.start) := fun m os => cell_later (hGw m os).below R.out.bx.box.x3
       have CB := zUB (fun m os => BH.out (x0, x1) (Go.Sort.grow (wr.drewN m) os) (Gr.step R.out.bx.below (hGw m os).below))
       unfold iv at CB
       dsimp only at CB
       have hbh := zUB (show behB G (x0, x1) = true -> behB G (x0, x1) = true from id)
       generalize eb : behB G (x0, x1) = bb at CB NX
       generalize ev : behV G (x0, x1) = bv at CB NX
       clear hbh
       go_wp2
       refine wp_region_quiet_grown (by assumption) (by kernel_rfl) ?_
       repeat (first | go_big_quiet_skip | (go_big_quiet_want; go_big_quiet_op; first | go_big_quiet_on | go_big_quiet_call (first | (go_at_call 17; refine Calls.grown_of (CB.out _ _)))) | quiet_step (first | (go_at_call 17; refine Calls.grown_of (CB.out _ _))))
       refine wpQuiet_nil ?_
       intro _ hw'
       obtain ⟨⟨nq, osq⟩, hw''⟩ := hw'
       subst hw''
       have R2 := zUB (R.out.went (hGw nq osq).below)
       generalize Go.Sort.grow (wr.drewN nq) osq = w2 at R2 ⊢
       clear k0 k1 k2 k3 k4 k5 CB hGw p0 p1 R
       cases bb with
       | false =>
        have S2 := zUB (NX.out fun q => Bool.noConfusion q)
        clear NX
        go_wp2
        go_roundw
        case rel => exact ⟨j + 1, rfl, by go_num, by omega, R2.out, S2.out⟩
        case measure => simp [intOf]; omega
       | true =>
        have NX2 := zUB (fun q => NX.out (fun _ => q))
        have CO := zUB (OF.out bv w2 R2.out.bx.below)
        clear NX
        obtain ⟨g0, g1, g2, g3⟩ := R2.out.bx.box
        go_wp2_with (first
         | (go_at_call 45; refine CO.out.mono ?_; rintro e w3 ⟨a3, c3, rfl, h1, h2, hb⟩; have R3 := zUB (R2.out.went hb); have RD := zUB h1; clear h1 h2 hb)
         | fail)
        have hm := R3.out.mid
        obtain ⟨rs, hrs⟩ : ∃ rs, rs = ofN G bv := ⟨_, rfl⟩
        have hln : (ofL G bv).length = rs.length := by rw [Gr.zBB, hrs]
        rw [← hrs] at NX2
        have MO := zUB (fun (kk : Nat) (am a' : Option Addr) (cm c' : Nat) (wm w' : World) (q : Rc w h G L (adds Z (rs.take kk)) am cm wm) (hk : kk < rs.length) hbl h1 h2 hn => q.more (a' := a') (c' := c') (w' := w') hk CY.out eb hm (by rw [ev]; exact hrs) hbl h1 h2 hn)
        have RA := zUB (fun (wm : World) (q : Sep.Reads a3 (Gr.ivs (ofL G bv)) wm) (kk : Nat) (hk : kk < rs.length) => zSP q hrs hk)
        have srt := hm.srt
        have hrn : rs.length <= 65536 := by
         rw [hrs]
         exact Nat.le_trans (Gr.zL2 _ _ _) hrl
        rw [hln]
        clear CO g0 g1 g2 g3 R2 CY hm eb ev hln hrs
        go_loopw [12, 13] (fun m kx wx => ∃ (kk : Nat) (am : Option Addr) (cm : Nat), m = .slice am (adds Z (rs.take kk)).length cm /\ kx = .int .i64 kk /\ kk <= rs.length /\ Rc w h G L (adds Z (rs.take kk)) am cm wx /\ Rc w h G L Z (some ⟨b1, o1, none⟩) cz wx /\ Sep.Reads a3 (Gr.ivs (ofL G bv)) wx) (fun _ kx _ => rs.length - (intOf kx).toNat)
        case atStart => exact ⟨0, _, _, rfl, rfl, Nat.zero_le _, R3.out, R3.out, RD.out⟩
        case round =>
         obtain ⟨kk, am, cm, rfl, rfl, hk, hM, hZ, hD⟩ := hrel
         have M := zUB hM
         have ZZ := zUB hZ
         have D := zUB hD
         clear hM hZ hD R3 RD
         have hml := M.out.len hv
         by_cases hkl : kk < rs.length
         ·obtain ⟨b2, o2, ea, q0⟩ := RA.out wr D.out kk hkl
          have CP := zUB (PU.out (adds Z (rs.take kk)) am cm ((rs[kk] : Nat), 0) wr M.out.at_ M.out.cap (by omega))
          have MM := zUB (fun (a' : Option Addr) (c' : Nat) (w' : World) hbl h1 h2 hn => MO.out kk am a' cm c' wr w' M.out hkl hbl h1 h2 hn)
          have el := congrArg List.length (zG4 (Y := Z) hkl)
          unfold iv at CP
          generalize putI (adds Z (rs.take kk)) ((rs[kk] : Nat), 0) = PP at CP MM el
          have EL := zUB (fun (a' : Option Addr) (c' : Nat) => congrArg (fun n => Value.slice a' n c') el)
          clear el
          generalize ((rs[kk] : Nat) : Int) = rv at CP q0
          subst ea
          go_wp2_with (go_at_call 44; refine CP.out.mono ?_; rintro e w5 ⟨a5, c5, rfl, h1, h2, hb, hnw⟩; have M5 := zUB (MM.out a5 c5 _ hb h1 h2 hnw); clear hnw; have Z5 := zUB (ZZ.out.went hb); have D5 := zUB (D.out.below hb (Nat.le_refl _)); clear h1 h2 hb)
          go_roundw
          case rel => exact ⟨kk + 1, a5, c5, EL.out a5 c5, by go_num, by omega, M5.out, Z5.out, D5.out⟩
          case measure => simp [intOf]; omega
         ·have hE : kk = rs.length := by omega
          subst hE
          have M2 := M.out
          rw [List.take_length] at M2 hml
          rw [List.take_length]
          have M3 := zUB M2
          have AS := zUB (fun hl => zMB (rs := rs) srt hl)
          have ge := zSF (rs := rs) srt
          clear M2 M MO RA PU
          generalize adds Z rs = Z2 at M3 AS ge hml ⊢
          by_cases hl : Z2.length = Z.length
          ·have S2 := zUB (NX2.out (AS.out hl).1)
           have hnl : ((Z2.length : Int) != (Z.length : Int)) = false := by rw [hl]; exact bne_self_eq_false _
           clear NX2 AS hl ge
           go_wp2
           go_roundw
           case rel => exact ⟨j + 1, rfl, by go_num, by omega, ZZ.out, S2.out⟩
           case measure => simp [intOf]; omega
          ·have hnl : ((Z2.length : Int) != (Z.length : Int)) = true := by simp only [bne_iff_ne, ne_eq]; omega
           clear NX2 AS
           go_wp2
           go_roundw
           case rel => exact ⟨Z.length, Z2, am, cm, rfl, rfl, M3.out, fun q => by omega⟩
           case measure => rw [zDP, zDP, if_neg (by omega), if_neg he]; omega
      ·have hE : j = Z.length := by omega
       subst hE
       have S2 := zUB (zPl S.out)
       clear S
       go_wp2
       go_roundw
       case rel => exact ⟨Z.length, Z, az, cz, rfl, rfl, R.out, fun _ => S2.out⟩
       case measure => rw [zDP, zDP, if_pos rfl, if_neg he]; omega
