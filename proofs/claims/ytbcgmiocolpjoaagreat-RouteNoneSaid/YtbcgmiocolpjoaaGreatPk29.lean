/- A part of the proof. -/
import Derived.Test.YtbcgmiocolpjoaaGreatPk24
set_option maxHeartbeats 8000000
set_option maxRecDepth 100000
set_option linter.unusedVariables false
namespace Go.Proofs.YtbcgmiocolpjoaaGreat
namespace Im
open Go.RowKit Go.Maps
open Gr (boxed drawn zAB cell_later)
def GotN (L : List Itm) (a0 : Option Addr) (w : World) (e : Ending) (w' : World) : Prop := ∃ a c, e = .returned (.slice a L.length c) /\ L.length <= c /\ ItsA a L w' /\ Below w.heap.size w w' /\ ∀ b o, a = some ⟨b, o, none⟩ -> a = a0 \/ w.heap.size <= b
theorem zOJ : Tryz.prog.underlying 50 = some (.slice (Tryz.prog.elem 50)) := by kernel_rfl
theorem zOg (w : World) : (sizeOf (Tryz.prog.elem 50)).run Tryz.prog w = .ok 2 w := by kernel_rfl
theorem zNq {a : Option Addr} {X : List Itm} {w : World} (h : ItsA a X w) {k c : Nat} (hk : k <= X.length) (hc : X.length <= c) :
  ∃ a1 c1, (∀ W, (Instr.slice 50 (.slice a X.length c) none (some (.int .i64 (k : Int))) none).run Tryz.prog W = .ok (.slice a1 k c1) W) /\ (∀ p, a1 = some p -> ∀ j u, ((X.take k).flatMap ic)[j]? = some u -> w.cell? (p.add j) = some u) /\ (a1 = none -> k = 0) := by
 have e : (if c = 0 then a else a.map (·.add (0 * 2))) = a := by
  split
  ·rfl
  ·cases a <;> simp [Addr.add]
 refine ⟨a, c, fun W => ?_, (h.take k).lie.1, fun q => ?_⟩
 ·rw [run_slice_h W 50 a X.length c zOJ .i64 (k : Int) (by omega) (by omega), zOg]
  simp only [Result.andThen_ok, sliced]
  rw [e]
  simp
 ·have := (h.take k).lie.2 q
  rw [List.length_take] at this
  omega
theorem zNp {a : Option Addr} {X : List Itm} {w : World} (h : ItsA a X w) {k c : Nat} (hk : k <= X.length) (hc : X.length <= c) :
  ∃ a1 c1, (∀ W, (Instr.slice 50 (.slice a X.length c) (some (.int .i64 (k : Int))) none none).run Tryz.prog W = .ok (.slice a1 (X.length - k) c1) W) /\ (∀ p, a1 = some p -> ∀ j u, ((X.drop k).flatMap ic)[j]? = some u -> w.cell? (p.add j) = some u) /\ (a1 = none -> X.length - k = 0) := by
 refine ⟨if c = k then a else a.map (·.add (k * 2)), c - k, fun W => ?_, fun p hp j u hu => ?_, fun q => ?_⟩
 ·rw [run_slice_l W 50 a X.length c zOJ .i64 (k : Int) (by omega) (by omega), zOg]
  simp [Result.andThen_ok, sliced]
 ·have hl := zAO (X.drop k)
  rw [List.length_drop] at hl
  have hj : j < ((X.drop k).flatMap ic).length := (List.getElem?_eq_some_iff.1 hu).1
  have hck : ¬ c = k := by omega
  rw [if_neg hck] at hp
  cases a with
  | none => cases hp
  | some q =>
   obtain ⟨b, o, eq, _⟩ := h 0 (by rw [zAO]; omega)
   injection eq with eq
   subst eq
   have := (h.drop k).lie.1 _ rfl j u hu
   simp only [Option.map_some, Option.some.injEq] at hp
   subst hp
   rw [WideShapes.add_plain] at *
   rw [WideShapes.add_plain]
   exact this
 ·by_cases hck : c = k
  ·omega
  ·rw [if_neg hck, Option.map_eq_none_iff] at q
   have := h.lie.2 q
   omega
def Sc (X : List Itm) (x : Itm) (j : Nat) : Prop := ∀ i (h : i < X.length), i < j -> ltP X[i] x
theorem zNn {X : List Itm} {x : Itm} {j : Nat} (h : Sc X x j) (hj : j < X.length) (k : zAy X[j] x = true) : Sc X x (j + 1) := fun i hi hij => by
 by_cases e : i = j
 ·subst e
  exact of_decide_eq_true k
 ·exact h i hi (by omega)
structure Bp (W : World) (x : Itm) (w : World) : Prop where
 below : Below W.heap.size W w
 i0 : w.cell? ⟨W.heap.size, 0, none⟩ = some (.int .i64 x.1)
 i1 : w.cell? ⟨W.heap.size, 1, none⟩ = some (.int .i64 x.2)
theorem Bp.went {W : World} {x : Itm} {w w' : World} (k : Bp W x w) (hb : Below w.heap.size w w') : Bp W x w' := ⟨Gr.step k.below hb, cell_later hb k.i0, cell_later hb k.i1⟩
theorem Bp.start (x : Itm) (w : World) (T : TypeId) : Bp w x (w.alloc (.cells #[.int .i64 x.1, .int .i64 x.2] T)) := ⟨boxed _ _, zAB rfl rfl, zAB rfl rfl⟩
def Stop (X : List Itm) (x : Itm) (j : Nat) : Prop := ∀ h : j < X.length, ¬ ltP X[j] x
def hitB (X : List Itm) (x : Itm) (j : Nat) : Bool := decide (X[j]? = some x)
theorem zON {X : List Itm} {x : Itm} {j : Nat} (h : j < X.length) : hitB X x j = eqB X[j] x := by
 unfold hitB eqB
 rw [List.getElem?_eq_getElem h]
 simp
theorem zM8 {X : List Itm} {x : Itm} {j : Nat} (h : ¬ j < X.length) : hitB X x j = false := by
 unfold hitB
 rw [List.getElem?_eq_none (by omega)]
 rfl
theorem zNc {X : List Itm} {x : Itm} {j : Nat} (hj : j <= X.length) (h1 : Sc X x j) (h2 : Stop X x j) (h : hitB X x j = true) : putI X x = X := by
 rw [zJ4 hj (fun i hi hij => h1 i hi hij) h2, if_pos (of_decide_eq_true h)]
theorem zLu {X : List Itm} {x : Itm} {j : Nat} (hj : j <= X.length) (h1 : Sc X x j) (h2 : Stop X x j) (h : hitB X x j = false) : putI X x = (X.take j ++ [x]) ++ X.drop j := by
 rw [zJ4 hj (fun i hi hij => h1 i hi hij) h2, if_neg (of_decide_eq_false h)]
 simp
theorem zHI (X : List Itm) (a : Option Addr) (c : Nat) (x : Itm) (w : World) (hX : ItsA a X w) (hc : X.length <= c) (hl : X.length <= 100000) :
    Calls Tryz.prog 57 #[.slice a X.length c, iv x] w (GotN (putI X x) a w) := by
  have KX := zPB (fun w1 (b : Below w.heap.size w w1) => hX.went b)
  have B0 := zPB (Bp.start x w 108)
  have LS := zPB (fun (y : Itm) (W : World) => zDS y x W)
  have mixed : Tryz.prog.follows .mixedOrders = true := by kernel_rfl
  have HC := zPB hc
  clear hX hc
  obtain ⟨xr, xd⟩ := x
  unfold iv at *
  dsimp only at B0 LS ⊢
  go_enter Tryz.func57, Tryz.ntmps57
  go_wp2
  go_loopw [5] (fun i wr => ∃ j : Nat, i = .int .i64 j /\ j <= X.length /\ Sc X (xr, xd) j /\ Bp w (xr, xd) wr) (fun i _ => X.length - (intOf i).toNat)
  case atStart => exact ⟨0, rfl, Nat.zero_le _, fun i _ h => by omega, B0.out⟩
  case round =>
    obtain ⟨j, rfl, hj, hS, hB⟩ := hrel
    clear B0
    have HS := zPB hS
    have B := zPB hB
    clear hS hB
    have hGw : ∀ m os, Gw wr (Go.Sort.grow (wr.drewN m) os) := fun m os => ⟨m, os, rfl⟩
    have q0 : ∀ m os, (Go.Sort.grow (wr.drewN m) os).cell? ⟨w.heap.size, 0, none⟩ = some (.int .i64 xr) := fun m os => cell_later (hGw m os).below B.out.i0
    have q1 : ∀ m os, (Go.Sort.grow (wr.drewN m) os).cell? ⟨w.heap.size, 1, none⟩ = some (.int .i64 xd) := fun m os => cell_later (hGw m os).below B.out.i1
    by_cases hgo : ∃ h : j < X.length, zAy X[j] (xr, xd) = true
    · obtain ⟨hlt, hls⟩ := hgo
      have HT := zPB (zNn HS.out hlt hls)
      obtain ⟨b1, o1, ea, p0, p1⟩ := (KX.out wr B.out.below).at j hlt
      have e1 : ((X[j].1, X[j].2) : Itm) = X[j] := rfl
      generalize X[j] = y at p0 p1 e1 hls
      obtain ⟨y0, y1⟩ := y
      dsimp only at p0 p1
      clear e1
      subst ea
      have k0 : ∀ m os, (Go.Sort.grow (wr.drewN m) os).cell? ⟨b1, o1 + j * 2, none⟩ = some (.int .i64 y0) := fun m os => cell_later (hGw m os).below p0
      have k1 : ∀ m os, (Go.Sort.grow (wr.drewN m) os).cell? ⟨b1, o1 + j * 2 + 1, none⟩ = some (.int .i64 y1) := fun m os => cell_later (hGw m os).below p1
      have CL := zPB (fun m os => LS.out (y0, y1) (Go.Sort.grow (wr.drewN m) os))
      unfold iv at CL
      dsimp only at CL
      rw [hls] at CL
      clear p0 p1 hls
      go_wp2
      go_quiet_grown (first | (go_at_call 85; refine Calls.grown_of (CL.out _ _)))
      have B2 := zPB (B.out.went (hGw nq osq).below)
      generalize Go.Sort.grow (wr.drewN nq) osq = w2 at B2 ⊢
      clear q0 q1 k0 k1 hGw CL
      go_wp2
      go_roundw
      case rel => exact ⟨j + 1, by go_num, by omega, HT.out, B2.out⟩
      case measure => simp [intOf]; omega
    · have HP := zPB (show Stop X (xr, xd) j from fun h q => hgo ⟨h, decide_eq_true q⟩)
      have HL := zPB (fun (h : j < X.length) => show zAy X[j] (xr, xd) = false from decide_eq_false (HP.out h))
      clear hgo
      go_wp2
      go_cut [17] (fun s wx => s = .bool false /\ Bp w (xr, xd) wx)
      case first =>
        by_cases hlt : j < X.length
        · have hls := HL.out hlt
          obtain ⟨b1, o1, ea, p0, p1⟩ := (KX.out wr B.out.below).at j hlt
          have e1 : ((X[j].1, X[j].2) : Itm) = X[j] := rfl
          generalize X[j] = y at p0 p1 e1 hls
          obtain ⟨y0, y1⟩ := y
          dsimp only at p0 p1
          clear e1
          subst ea
          have k0 : ∀ m os, (Go.Sort.grow (wr.drewN m) os).cell? ⟨b1, o1 + j * 2, none⟩ = some (.int .i64 y0) := fun m os => cell_later (hGw m os).below p0
          have k1 : ∀ m os, (Go.Sort.grow (wr.drewN m) os).cell? ⟨b1, o1 + j * 2 + 1, none⟩ = some (.int .i64 y1) := fun m os => cell_later (hGw m os).below p1
          have CL := zPB (fun m os => LS.out (y0, y1) (Go.Sort.grow (wr.drewN m) os))
          unfold iv at CL
          dsimp only at CL
          rw [hls] at CL
          clear p0 p1 hls HL
          go_quiet_grown (first | (go_at_call 85; refine Calls.grown_of (CL.out _ _)))
          have B2 := zPB (B.out.went (hGw nq osq).below)
          generalize Go.Sort.grow (wr.drewN nq) osq = w2 at B2 ⊢
          clear q0 q1 k0 k1 hGw CL
          go_wp2
          go_meet
          case rel => exact ⟨rfl, B2.out⟩
        · have hnl : (X.length : Int) <= (j : Int) := by omega
          clear HL
          go_quiet_grown (first | (go_at_call 85; fail))
          have B2 := zPB (B.out.went (hGw nq osq).below)
          generalize Go.Sort.grow (wr.drewN nq) osq = w2 at B2 ⊢
          clear q0 q1 hGw
          go_wp2
          go_meet
          case rel => exact ⟨rfl, B2.out⟩
      case rest =>
        obtain ⟨rfl, hB2⟩ := hcut
        have B2 := zPB hB2
        clear hB2 B q0 q1 hGw HL LS
        go_wp2
        go_cut [31] (fun s wx => s = .bool (hitB X (xr, xd) j) /\ Bp w (xr, xd) wx)
        case first =>
          have hd3 : ∀ m, Below wc.heap.size wc (wc.drewN m) := fun m => ⟨rfl, rfl, rfl, Nat.le_refl _, fun _ _ => rfl⟩
          have y0 := B2.out.i0
          have y1 := B2.out.i1
          dsimp only at y0 y1
          have heq := zK8
          have hgd := Tryz.eqGuardType108
          by_cases hlt : j < X.length
          · have hh := zON (x := (xr, xd)) hlt
            obtain ⟨b1, o1, ea, p0, p1⟩ := (KX.out wc B2.out.below).at j hlt
            have e1 : ((X[j].1, X[j].2) : Itm) = X[j] := rfl
            generalize X[j] = y at p0 p1 e1 hh
            obtain ⟨z0, z1⟩ := y
            dsimp only at p0 p1
            clear e1
            subst ea
            have HH := zPB hh
            clear hh
            go_quiet (fail)
            have B3 := zPB (B2.out.went (hd3 nq))
            generalize wc.drewN nq = w2 at B3 ⊢
            clear hd3 y0 y1 p0 p1 heq
            go_wp2
            go_meet
            case rel => exact ⟨by rw [HH.out], B3.out⟩
          · have hnl : (X.length : Int) <= (j : Int) := by omega
            have HH := zPB (zM8 (x := (xr, xd)) hlt)
            go_quiet (fail)
            have B3 := zPB (B2.out.went (hd3 nq))
            generalize wc.drewN nq = w2 at B3 ⊢
            clear hd3 y0 y1 heq
            go_wp2
            go_meet
            case rel => exact ⟨by rw [HH.out], B3.out⟩
        case rest =>
          obtain ⟨rfl, hB3⟩ := hcut
          have B3 := zPB hB3
          clear hB3 B2
          cases hh : hitB X (xr, xd) j with
          | true =>
            have HE := zPB (zNc hj HS.out HP.out hh)
            go_wp2
            go_ret
            exact ⟨a, c, by rw [HE.out]; rfl, by rw [HE.out]; exact HC.out, by rw [HE.out]; exact KX.out _ B3.out.below, B3.out.below, fun _ _ _ => .inl rfl⟩
          | false =>
            have HE := zPB (zLu hj HS.out HP.out hh)
            clear hh HS HP
            go_wp2
            generalize hw3 : wc = w3 at B3 ⊢
            clear hw3
            obtain ⟨i0, hi, hz0, hz1, hz2⟩ := info_parts zDD
            have hbn := zDi
            obtain ⟨a1, c1, e1, t1, t2⟩ := zNq (KX.out w3 B3.out.below) (k := j) hj HC.out
            obtain ⟨a2, c2, e2, t3, t4⟩ := zNp (KX.out w3 B3.out.below) (k := j) hj HC.out
            have T1 := zPB (fun w1 (b : Below w3.heap.size w3 w1) => fun p hp i u hu => cell_later b (t1 p hp i u hu))
            have T3 := zPB (fun w1 (b : Below w3.heap.size w3 w1) => fun p hp i u hu => cell_later b (t3 p hp i u hu))
            have l1 : ((X.take j).flatMap ic).length = j * 2 := by rw [zAO, List.length_take, Nat.min_eq_left hj]
            have l2 : ((X.drop j).flatMap ic).length = (X.length - j) * 2 := by rw [zAO, List.length_drop]
            have hjl : j <= 100000 := by omega
            have hxj : X.length - j <= 100000 := by omega
            have y0 := B3.out.i0
            have y1 := B3.out.i1
            dsimp only at y0 y1
            have hq0 : w.heap.size < w3.heap.size := World.block_lt_of_cell? w3 ⟨w.heap.size, 0, none⟩ y0
            have hsW : w3.drew.heap.size = w3.heap.size := rfl
            have ONE := zPB (show ∀ u ∈ ic (xr, xd), u.oneCell' = true from fun u hu => by simp only [ic, List.mem_cons, List.not_mem_nil, or_false] at hu; rcases hu with rfl | rfl <;> rfl)
            have FIN := zPB (fun v w9 (q : w9.ownsRow w3.heap.size 108 2 v (j + 1 + (X.length - j)) (((X.take j).flatMap ic ++ ic (xr, xd)) ++ (X.drop j).flatMap ic)) (b : Below w3.heap.size w3 w9) => show GotN (putI X (xr, xd)) a w (.returned v) w9 from by
              have h1 : ItsV 108 w3.heap.size (X.take j ++ [(xr, xd)]) v w9 \/ True := .inr trivial
              have h2 : ItsV 108 w3.heap.size ((X.take j ++ [(xr, xd)]) ++ X.drop j) v w9 := ItsV.of_append (n := j + 1) (m := X.length - j) (by simpa [zD7, List.flatMap_cons] using q) (by rw [List.length_append, List.length_take, List.length_singleton, Nat.min_eq_left hj]) (by rw [List.length_drop])
              rw [← HE.out] at h2
              obtain ⟨a9, c9, rfl, hc9⟩ := h2.shape
              exact ⟨a9, c9, rfl, hc9, h2.reads, Gr.step B3.out.below b, fun b9 o9 e9 => .inr (Nat.le_trans B3.out.below.size (World.ownsRow.lt h2 b9 (by rw [e9]; rfl)).1)⟩)
            clear t1 t3 hj HC
            go_region_law (first
            | (refine Rw.zBu _ (by rfl) (.tmp 33) (.tmp 36) 50 (by rfl) w3.heap.size 108 i0 (.agg #[.int .i64 0, .int .i64 0]) 2 16 Tryz.underlying50 hi hz0 hz1 hz2 rfl (by decide) _ 0 [] (by rfl) (Rw.zE1 (by first | exact zCJ _ _ | exact zEk (by simp) | exact zEl (zCJ _ _)) (by first | exact Nat.le_refl _ | (simp; done) | (simp; omega))) a1 j c1 ((X.take j).flatMap ic) (by rfl) l1 (T1.out _ (by first | exact Gr.step (boxed _ _) (drawn _) | exact Gr.step (drawn _) (boxed _ _) | exact Gr.step (Gr.step (boxed _ _) (drawn _)) (boxed _ _) | exact Gr.step (Gr.step (boxed _ _) (boxed _ _)) (drawn _) | exact Gr.step (Gr.step (drawn _) (boxed _ _)) (boxed _ _))) t2 (zJL _) (by unfold maxLen; omega) (by omega) (by first | (simp; done) | (simp; omega)) ?_
               intro v7 w7 hown4 hg4 _
               obtain ⟨a7, c7, rfl⟩ := Rw.zAK hown4
               rw [Nat.zero_add] at hown4 ⊢
               have K4 := zPB (show Below w3.heap.size w3 w7 from Below.grown (by first | exact Gr.step (boxed _ _) (drawn _) | exact Gr.step (drawn _) (boxed _ _) | exact Gr.step (Gr.step (boxed _ _) (drawn _)) (boxed _ _) | exact Gr.step (Gr.step (boxed _ _) (boxed _ _)) (drawn _) | exact Gr.step (Gr.step (drawn _) (boxed _ _)) (boxed _ _)) hg4 (Below.size (by first | exact Gr.step (boxed _ _) (drawn _) | exact Gr.step (drawn _) (boxed _ _) | exact Gr.step (Gr.step (boxed _ _) (drawn _)) (boxed _ _) | exact Gr.step (Gr.step (boxed _ _) (boxed _ _)) (drawn _) | exact Gr.step (Gr.step (drawn _) (boxed _ _)) (boxed _ _))) (fun k hk => by simp [Value.ownBlock] at hk; omega))
               have O4 := zPB (show w7.ownsRow w3.heap.size 108 2 (.slice a7 j c7) j ((X.take j).flatMap ic) from hown4)
               (first
                 | (have RB4 := zPB (show w7.heap[w3.heap.size + 1]? = some (.cells #[.int .i64 xr, .int .i64 xd] 108 (0, 0)) from (hg4.block _ (by simp) (by simp [Value.ownBlock])).trans (by first | exact zEk (by simp) | exact zEk rfl)))
                 | (have RB4 := zPB (show w7.heap[w3.heap.size]? = some (.cells #[.int .i64 xr, .int .i64 xd] 108 (0, 0)) from (hg4.block _ (by simp; try omega) (by simp [Value.ownBlock])).trans (by first | exact zEl (zEk rfl) | exact zEl (zCJ _ _))))
                 | skip)
               have hs4 := K4.out.size
               have y0 := (B3.out.went K4.out).i0
               have y1 := (B3.out.went K4.out).i1
               dsimp only at y0 y1
               have hq04 : w.heap.size < w7.heap.size := World.block_lt_of_cell? w7 ⟨w.heap.size, 0, none⟩ y0
               clear hown4 hg4)
            | (refine Rw.zAX _ (by rfl) (.tmp 37) (.tmp 39) 50 (by rfl) w3.heap.size 108 i0 (.agg #[.int .i64 0, .int .i64 0]) 2 16 Tryz.underlying50 hi hz0 hz1 hz2 rfl (by decide) (.slice a7 j c7) j ((X.take j).flatMap ic) (by rfl) (by first | exact O4.out | exact Sep.zAH O4.out fun g hg => Below.heap_alloc _ _ _ (O4.out.lt g hg).2) w3.heap.size (.slice (some ⟨w3.heap.size + 1, 0, none⟩) 1 1) 1 (ic (xr, xd)) (by rfl) (zJd (x := (xr, xd)) RB4.out (by omega)) ONE.out (by unfold maxLen; omega) (by omega) (by first | exact K4.out.size | exact (Gr.step K4.out (boxed _ _)).size) ?_
               intro v8 w8 hown2 hg2 _
               have K5 := zPB (show Below w3.heap.size w3 w8 from Below.grown (w := _) (by first | exact K4.out | exact Gr.step K4.out (boxed _ _)) hg2 (by first | exact K4.out.size | exact (Gr.step K4.out (boxed _ _)).size) (fun k hk => (O4.out.lt k hk).1))
               obtain ⟨a8, c8, rfl⟩ := Rw.zAK hown2
               have O5 := zPB hown2
               have y0 := (B3.out.went K5.out).i0
               have y1 := (B3.out.went K5.out).i1
               dsimp only at y0 y1
               clear hown2 hg2)
            | (refine Rw.zAX _ (by rfl) (.tmp 37) (.tmp 39) 50 (by rfl) w3.heap.size 108 i0 (.agg #[.int .i64 0, .int .i64 0]) 2 16 Tryz.underlying50 hi hz0 hz1 hz2 rfl (by decide) (.slice a7 j c7) j ((X.take j).flatMap ic) (by rfl) (by first | exact O4.out | exact Sep.zAH O4.out fun g hg => Below.heap_alloc _ _ _ (O4.out.lt g hg).2) w3.heap.size (.slice (some ⟨w3.heap.size, 0, none⟩) 1 1) 1 (ic (xr, xd)) (by rfl) (zJd (x := (xr, xd)) RB4.out (by omega)) ONE.out (by unfold maxLen; omega) (by omega) (by first | exact K4.out.size | exact (Gr.step K4.out (boxed _ _)).size) ?_
               intro v8 w8 hown2 hg2 _
               have K5 := zPB (show Below w3.heap.size w3 w8 from Below.grown (w := _) (by first | exact K4.out | exact Gr.step K4.out (boxed _ _)) hg2 (by first | exact K4.out.size | exact (Gr.step K4.out (boxed _ _)).size) (fun k hk => (O4.out.lt k hk).1))
               obtain ⟨a8, c8, rfl⟩ := Rw.zAK hown2
               have O5 := zPB hown2
               have y0 := (B3.out.went K5.out).i0
               have y1 := (B3.out.went K5.out).i1
               dsimp only at y0 y1
               clear hown2 hg2)
            | (refine Rw.zAX _ (by rfl) (.tmp 37) (.tmp 39) 50 (by rfl) w3.heap.size 108 i0 (.agg #[.int .i64 0, .int .i64 0]) 2 16 Tryz.underlying50 hi hz0 hz1 hz2 rfl (by decide) (.slice a7 j c7) j ((X.take j).flatMap ic) (by rfl) (by first | exact O4.out | exact Sep.zAH O4.out fun g hg => Below.heap_alloc _ _ _ (O4.out.lt g hg).2) w3.heap.size (.slice (some ⟨w7.heap.size, 0, none⟩) 1 1) 1 (ic (xr, xd)) (by rfl) (zJd (x := (xr, xd)) (zCJ _ _) (by omega)) ONE.out (by unfold maxLen; omega) (by omega) (by first | exact K4.out.size | exact (Gr.step K4.out (boxed _ _)).size) ?_
               intro v8 w8 hown2 hg2 _
               have K5 := zPB (show Below w3.heap.size w3 w8 from Below.grown (w := _) (by first | exact K4.out | exact Gr.step K4.out (boxed _ _)) hg2 (by first | exact K4.out.size | exact (Gr.step K4.out (boxed _ _)).size) (fun k hk => (O4.out.lt k hk).1))
               obtain ⟨a8, c8, rfl⟩ := Rw.zAK hown2
               have O5 := zPB hown2
               have y0 := (B3.out.went K5.out).i0
               have y1 := (B3.out.went K5.out).i1
               dsimp only at y0 y1
               clear hown2 hg2)
            | (refine Rw.zBu _ (by rfl) (.tmp 40) (.tmp 43) 50 (by rfl) w3.heap.size 108 i0 (.agg #[.int .i64 0, .int .i64 0]) 2 16 Tryz.underlying50 hi hz0 hz1 hz2 rfl (by decide) (.slice a8 (j + 1) c8) (j + 1) ((X.take j).flatMap ic ++ ic (xr, xd)) (by rfl) O5.out a2 (X.length - j) c2 ((X.drop j).flatMap ic) (by rfl) l2 (T3.out _ K5.out) t4 (zJL _) (by unfold maxLen; omega) (by omega) K5.out.size ?_
               intro v9 w9 hown5 hg5 _
               have K6 := zPB (show Below w3.heap.size w3 w9 from K5.out.grown hg5 K5.out.size (fun k hk => (O5.out.lt k hk).1))
               have F9 := zPB (FIN.out v9 w9 hown5 K6.out)
               clear hown5 hg5)
            | fail)
            all_goals
              go_wp2
              go_ret
              exact F9.out
