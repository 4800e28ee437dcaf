/- A part of the proof. -/
import Derived.Test.YtnfbjlainpenaaaGreatDoorPk28
import Derived.Test.YtnfbjlainpenaaaGreatDoorPk30
import Derived.ScopeJumps
import Derived.WalkMore
set_option maxHeartbeats 8000000
set_option maxRecDepth 100000
set_option linter.unusedVariables false
namespace Go.Proofs.YtnfbjlainpenaaaGreatDoor
open Go.RowKit Go.Maps
namespace Lk
open Gr (Gram cell_later zAB boxed drawn step top)
open Im
open Au
open Rw (zAL)
def zJZ (L : List Itm) (w : World) (e : Ending) (w' : World) : Prop := ∃ a c, e = .returned (.slice a L.length c) /\ ItsV 112 w.heap.size L (.slice a L.length c) w' /\ Below w.heap.size w w'
theorem zES (w : World) : (Instr.buildSlice 90 0 #[]).run Tryz.prog w = .ok (.slice (some ⟨w.heap.size, 0, none⟩) 0 0) (w.alloc (.cells #[] 112)) := by kernel_rfl
theorem zJ7 (a : Option Addr) (l : List Itm) (c : Nat) (w : World) (h : ItsA a l w) (hl : l.length <= 1000000) :
  Calls Tryz.prog 121 #[.slice a l.length c] w (zJZ l w) := by
 obtain ⟨i0, hi, hz0, hz1, hz2⟩ := info_parts zCr
 cases a with
 | none =>
  have h0 : l = [] := by
   rcases l with _ | ⟨x, l⟩
   ·rfl
   ·obtain ⟨_, _, e, _⟩ := h 0 (by rw [zAk]; simp)
    cases e
  subst h0
  have hn := Lib.run_eql_slice_nil (P := Tryz.prog)
  go_enter Tryz.func121, Tryz.ntmps121
  go_wp2
  go_ret
  exact ⟨Option.none, _, rfl, ItsV.nil _ _ _, .refl _ _⟩
 | some x =>
  have HB := zSg (fun v (w1 w2 : World) (h1 : w2.ownsRow w.heap.size 112 2 v (0 + l.length) ([] ++ l.flatMap ic)) (h2 : (w.alloc (.cells #[] 112)).grownBy w2 (some w.heap.size)) => show zJZ l w (.returned v) w2 from by
   rw [Nat.zero_add, List.nil_append] at h1
   obtain ⟨a', c', rfl⟩ := Rw.zAG h1
   exact ⟨a', c', rfl, h1, ((Below.refl _ _).alloc (Nat.le_refl _) _).grown h2 (by simp) fun k hk => by injection hk with hk; omega⟩)
  have HO := zSg (World.ownsRow_made (base := w.heap.size) (e := 112) (size := 2) w #[] 0 (Nat.le_refl _) (by simp) (by simp))
  have hll := zAk l
  have HN := zSg (show ∀ (j : Nat) (u : Value), (l.flatMap ic)[j]? = some u -> (w.alloc (.cells #[] 112)).cell? (x.add j) = some u from fun j u hj => by
   obtain ⟨hj1, rfl⟩ := List.getElem?_eq_some_iff.1 hj
   obtain ⟨b, o, e, hc⟩ := h j hj1
   injection e with e
   subst e
   rw [WideShapes.add_plain]
   exact cell_later (boxed _ _) hc)
  have HL := zSg (zP8 l)
  clear h
  have hn := Lib.run_eql_slice_nil (P := Tryz.prog)
  have hb := zES
  go_enter Tryz.func121, Tryz.ntmps121
  go_wp2_with (at_builtin; refine wpList_append_own_at _ rfl _ _ 90 rfl w.heap.size 112 i0 (.agg #[.int .i64 0, .int .i64 0]) 2 16 Tryz.underlying90 hi hz0 hz1 hz2 rfl (by decide) _ _ _ rfl HO.out x l.length c (l.flatMap ic) rfl (by omega) HN.out HL.out (by unfold maxLen; omega) (by omega) (by simp) ?_; intro v' w2 hown2 hg2 _ _; have HE := zSg (HB.out v' w w2 hown2 hg2); clear hown2 hg2)
  go_ret
  exact HE.out
def opn (B : List Nat) (m : Nat) : List Itm := (B.take m).map fun k : Nat => ((k : Int), 0)
theorem zH5 (B : List Nat) : opn B 0 = [] := by simp [opn]
theorem zN1 {B : List Nat} {m : Nat} (h : m < B.length) : opn B (m + 1) = opn B m ++ [((B[m] : Int), 0)] := by
 unfold opn
 rw [List.take_succ_eq_append_getElem h, List.map_append]
 rfl
def cloJ (G : Gram) (Ki : List Itm) (Ti : List (Int × Int)) (j : Nat) : List Itm := cloL G Ki ((Ti.take j).map Prod.fst)
theorem zDv (G : Gram) (Ki : List Itm) (Ti : List (Int × Int)) : cloJ G Ki Ti 0 = Ki := by simp [cloJ, cloL]
theorem zJ3 {G : Gram} {Ki : List Itm} {Ti : List (Int × Int)} {j : Nat} (h : j < Ti.length) : cloJ G Ki Ti j ++ opn (byL G Ti[j].1) (byL G Ti[j].1).length = cloJ G Ki Ti (j + 1) := by
 unfold cloJ cloL opn
 rw [List.take_succ_eq_append_getElem h, List.map_append, List.flatMap_append, List.take_length, List.append_assoc]
 simp
theorem zLV (B : List Nat) (m : Nat) : (opn B m).length <= m := by
 unfold opn
 rw [List.length_map, List.length_take]
 omega
theorem zDx {W : World} {K : Fk} {G : Gram} {q : Whole} {N : Nt} {S : Nat -> Prop} (FX : Fix W K G q) (w : World) (h : NAt W K G q N S w) (i : Nat) (hi : i < q.1.length) :
  Calls Tryz.prog 86 #[.pointer (some ⟨K.p, 0, none⟩), .int .i64 (i : Int)] w (zJZ (cloL G (zAH q.1 i) (zBa q i)) w) := by
 obtain ⟨lab, cv, qv, h, _⟩ := h
 have hsi := zBm FX.done.all hi
 have hil : i < (states q).length := by rw [zAc FX.done.all]; exact hi
 have F := zSg (fun w1 (b : Below w.heap.size w w1) => FX.at_ w1 (h.went b).fr)
 have P := zSg (fun w1 (b : Below w.heap.size w w1) => (h.went b).eight)
 obtain ⟨b, o, a1, c1, a2, c2, e, d0, d1, d2, d3, _, _⟩ := (F.out w (.refl _ _)).sts i hil
 have es : (states q)[i] = (zAH q.1 i, q.2.getD i []) := by
  rw [List.getElem?_eq_getElem hil] at hsi
  injection hsi
 have hm := List.getElem_mem hil
 have sK := FX.small.items _ hm
 have sT := FX.small.trans _ hm
 rw [es] at d0 d1 d2 d3 sK sT
 dsimp only at d0 d1 d2 d3 sK sT
 have hR := (Fi.zAo FX.ok).r
 have hsym : ∀ s ∈ zBa q i, ∃ m : Nat, m <= top G /\ s = (m : Int) := fun s hs => by
  obtain ⟨m, h1, h2, _⟩ := (zDh FX.done hi).1 hs
  exact ⟨m + 1, h1, h2⟩
 have SY := zSg hsym
 obtain ⟨p0, _, _, p3, _, _, _, _⟩ := P.out w (.refl _ _)
 have eL : cloL G (zAH q.1 i) (zBa q i) = cloJ G (zAH q.1 i) (q.2.getD i []) (q.2.getD i []).length := by
  unfold cloJ zBa
  rw [List.take_length]
 rw [eL]
 unfold zBa at SY
 generalize zAH q.1 i = Ki at *
 generalize q.2.getD i [] = Ti at *
 have D2 := zSg d2
 have D3 := zSg d3
 clear d2 d3 hsi es hm hsym eL h hi
 obtain ⟨i0, hj, hz0, hz1, hz2⟩ := info_parts zCr
 have CL := zSg (zJ7 a1 Ki c1 w D2.out sK)
 rw [e] at p0
 have hil2 : (i : Int) < ((states q).length : Int) := by omega
 go_enter Tryz.func86, Tryz.ntmps86
 go_wp2_with (go_at_call 121; refine CL.out.mono ?_; rintro e w1 ⟨a3, c3, rfl, h1, h2⟩; have V1 := zSg h1; have B1 := zSg h2; have p01 := cell_later h2 p0; have d11 := cell_later h2 d1; clear h1 h2)
 go_loopw [5, 28] (fun v t wr => ∃ (j : Nat) (a : Option Addr) (c : Nat), t = .int .i64 j /\ j <= Ti.length /\ v = .slice a (cloJ G Ki Ti j).length c /\ (cloJ G Ki Ti j).length <= 1000000 + j * 1000 /\ ItsV 112 w.heap.size (cloJ G Ki Ti j) v wr /\ Below w.heap.size w wr) (fun _ t _ => Ti.length - (intOf t).toNat)
 case atStart => exact ⟨0, a3, c3, rfl, Nat.zero_le _, by rw [zDv], by rw [zDv]; omega, by rw [zDv]; exact V1.out, B1.out⟩
 case round =>
  obtain ⟨j, a, c, rfl, hj1, rfl, hlen, hV, hB⟩ := hrel
  have V := zSg hV
  have B := zSg hB
  clear hV hB V1 B1 p01 d11
  by_cases hlt : j < Ti.length
  ·obtain ⟨b2, o2, e2, t0, t1⟩ := (D3.out.went B.out).at j hlt
   obtain ⟨s, hs1, hs2⟩ := SY.out _ (List.mem_map.2 ⟨_, List.getElem_mem hlt, rfl⟩)
   have SU := zSg (zJ3 (G := G) (Ki := Ki) hlt)
   subst e2
   obtain ⟨aB, cB, f20, f3⟩ := (F.out w (.refl _ _)).lefts s (by omega)
   have f2 := cell_later B.out f20
   obtain ⟨_, _, _, p3r, _, _, _, _⟩ := P.out wr B.out
   have hBl := zHe G (Ti[j].1) (G.rules.length + 1)
   have RB := zSg f3
   rw [← hs2] at f2 RB
   rw [hs2] at t0
   rw [show byTo G (Ti[j].1) (G.rules.length + 1) = byL G Ti[j].1 from rfl] at hBl
   generalize Ti[j].1 = sy at *
   generalize Ti[j].2 = ty at *
   generalize hBB : byL G sy = BB at *
   generalize hCj : cloJ G Ki Ti j = Cj at *
   have bx : Below wr.heap.size wr (wr.alloc (.cells #[.int .i64 (s : Int), .int .i64 ty] 98)) := boxed _ _
   have x0 : (wr.alloc (.cells #[.int .i64 (s : Int), .int .i64 ty] 98)).cell? ⟨wr.heap.size, 0, none⟩ = some (.int .i64 (s : Int)) := zAB rfl rfl
   have y3 := cell_later bx p3r
   have y2 := cell_later bx f2
   have V2 := zSg ((V.out.went bx).went (drawn _))
   have B2 := zSg (Gr.step (Gr.step B.out bx) (drawn _))
   have hsx : (s : Int) < ((top G + 1 : Nat) : Int) := by omega
   have hsx0 : (0 : Int) <= (s : Int) := by omega
   clear f3 f20 hBB
   go_wp2_with fail
   generalize wr.alloc (.cells #[.int .i64 (s : Int), .int .i64 ty] 98) = wx at *
   go_region
   generalize wx.drew = wy at *
   go_wp2_with fail
   go_loopw [5, 41] (fun v t wz => ∃ (m : Nat) (a : Option Addr) (c : Nat), t = .int .i64 m /\ m <= BB.length /\ v = .slice a (Cj ++ opn BB m).length c /\ ItsV 112 w.heap.size (Cj ++ opn BB m) v wz /\ Below w.heap.size w wz) (fun _ t _ => BB.length - (intOf t).toNat)
   case atStart => exact ⟨0, a, c, rfl, Nat.zero_le _, by rw [zH5, List.append_nil], by rw [zH5, List.append_nil]; exact V2.out, B2.out⟩
   case round =>
    obtain ⟨m, a9, c9, rfl, hm1, rfl, hV9, hB9⟩ := hrel
    have V9 := zSg hV9
    have B9 := zSg hB9
    clear hV9 hB9 V2 B2 V B
    by_cases hmt : m < BB.length
    ·obtain ⟨b4, o4, rfl, hc4⟩ := (RB.out.below B9.out (Nat.le_refl _)) m (by rw [zDi]; exact hmt)
     have hc5 : wr.cell? ⟨b4, o4 + m, none⟩ = some (.int .i64 (BB[m] : Int)) := by simpa [nivs] using hc4
     have OE := zSg (zN1 hmt)
     have hol := zLV BB m
     have hlm : (Cj ++ opn BB m).length <= 1000000 + j * 1000 + m := by rw [List.length_append]; omega
     generalize BB[m] = kk at *
     have hsz : w.heap.size <= wr.heap.size := B9.out.size
     have bl := boxed wr (.cells #[.int .i64 (kk : Int), .int .i64 0] 112)
     have VX := zSg (V9.out.went bl)
     have BX := zSg (Gr.step B9.out bl)
     have hszx := BX.out.size
     have ON := zSg (zDe 112 w.heap.size wr.heap.size ((kk : Int), 0) wr rfl hsz)
     have hrl := zSg (fun g hg => (World.ownsRow.lt V9.out g hg).1)
     have EE := zSg (show (Cj ++ opn BB m) ++ [((kk : Int), 0)] = Cj ++ opn BB (m + 1) from by rw [OE.out, List.append_assoc])
     generalize hCC : Cj ++ opn BB m = CC at *
     have KR := zSg (fun (w2 : World) (hg : (wr.alloc (.cells #[.int .i64 (kk : Int), .int .i64 0] 112)).grownBy w2 (Value.slice a9 CC.length c9).ownBlock) => (show Below w.heap.size w w2 from BX.out.trans (zBG hg hszx hrl.out)))
     clear V9 B9 hc4 bl hrl hCC OE
     go_wp2_with (at_builtin; refine zAL _ rfl _ _ 90 rfl w.heap.size 112 i0 (.agg #[.int .i64 0, .int .i64 0]) 2 16 Tryz.underlying90 hj hz0 hz1 hz2 rfl (by decide) (.slice a9 CC.length c9) CC.length (CC.flatMap ic) rfl VX.out w.heap.size _ 1 (ic ((kk : Int), 0)) rfl ON.out (zKc _) (by unfold maxLen; omega) (by omega) hszx ?_; intro v' w' hown hg _; have V2 := zSg (ItsV.of_append (Y := [((kk : Int), 0)]) (by simpa using hown) rfl rfl); have W2 := zSg (KR.out w' hg); obtain ⟨a7, c7, rfl⟩ := Rw.zAG hown; clear hown hg)
     go_roundw
     case rel => exact ⟨m + 1, a7, c7, by go_num, by omega, by rw [← EE.out]; simp, by rw [← EE.out]; simpa using V2.out, W2.out⟩
     case measure => simp [intOf]; omega
    ·have hE : m = BB.length := by omega
     subst hE
     rw [SU.out] at V9
     have hol := zLV BB BB.length
     have hlm : (cloJ G Ki Ti (j + 1)).length <= 1000000 + (j + 1) * 1000 := by rw [← SU.out, List.length_append]; omega
     rw [SU.out]
     go_wp2
     go_roundw
     case rel => exact ⟨j + 1, a9, c9, by go_num, by omega, rfl, hlm, V9.out, B9.out⟩
     case measure => simp [intOf]; omega
  ·have hE : j = Ti.length := by omega
   subst hE
   go_wp2
   go_ret
   exact ⟨a, c, rfl, V.out, B.out⟩
end Lk
namespace Lk
open Gr (Gram cell_later zAB boxed zAE top checkN)
open Im
open Au
open Fi (zAW allC canB fstB zBg zA7 zCp zBn zCS)
theorem zNa {G : Gram} {l : List Int} {t : Int} : zAW (canB G) (fstB G) l t = true ↔ zCS G l t := by
 rw [zBg]
 constructor
 ·rintro ⟨pre, y, post, h1, h2, h3⟩
  exact ⟨pre, y, post, h1, fun z hz => zA7.1 (h2 z hz), zCp.1 h3⟩
 ·rintro ⟨pre, y, post, h1, h2, h3⟩
  exact ⟨pre, y, post, h1, fun z hz => zA7.2 (h2 z hz), zCp.2 h3⟩
structure LkI (G : Gram) (q : Whole) (N : Nt) (cnt : Nat) : Prop where
 lk : Lk1 G q N
 frs : ∀ k, k < N.pls.length -> (∀ t, N.S k t = false) /\ N.Wt k = false
 qs : N.qs = []
 ys : ∀ k, k < N.pls.length -> (N.Ys k).length <= cnt
theorem LkI.mono {G : Gram} {q : Whole} {N : Nt} {c c' : Nat} (h : LkI G q N c) (hc : c <= c') : LkI G q N c' := ⟨h.lk, h.frs, h.qs, fun k hk => Nat.le_trans (h.ys k hk) hc⟩
theorem LkI.cell {G : Gram} {q : Whole} {N : Nt} {cnt : Nat} (h : LkI G q N cnt) {i : Nat} {c : Itm} (hn : (i, c) ∉ N.pls) (hi : i < q.1.length) (hc : rep G c = c) (hr : zAJ G c = true) (d e : Nat) : LkI G q (N.cell (i, c) d e) cnt := by
 have hl : (N.cell (i, c) d e).pls.length = N.pls.length + 1 := by
  show (N.pls ++ [(i, c)]).length = _
  simp
 refine ⟨h.lk.cell hn hi hc hr d e, fun k hk => ?_, h.qs, fun k hk => ?_⟩
 ·rw [hl] at hk
  show (∀ t, upd N.S N.pls.length (fun _ => false) k t = false) /\ upd N.Wt N.pls.length false k = false
  by_cases e : k = N.pls.length
  ·subst e
   rw [upd_same, upd_same]
   exact ⟨fun _ => rfl, rfl⟩
  ·rw [zAC e, zAC e]
   exact h.frs k (by omega)
 ·rw [hl] at hk
  show (upd N.Ys N.pls.length [] k).length <= cnt
  by_cases e : k = N.pls.length
  ·subst e
   rw [upd_same]
   exact Nat.zero_le _
  ·rw [zAC e]
   exact h.ys k (by omega)
theorem LkI.lead {G : Gram} {q : Whole} {N : Nt} {cnt : Nat} (h : LkI G q N cnt) {k i : Nat} {x : Itm} (hk : N.pls[k]? = some (i, rep G x)) (hx : Clo G (zAH q.1 i) x) (hb : behB G x = true) {y : Way} (hy : zFf G q N.pls i x y) (v : Value) : LkI G q (N.lead k y v) (cnt + 1) := by
 refine ⟨h.lk.lead hk hx hb hy v, h.frs, h.qs, fun a ha => ?_⟩
 show (upd N.Ys k (N.Ys k ++ [y]) a).length <= cnt + 1
 by_cases e : a = k
 ·subst e
  rw [upd_same, List.length_append]
  have := h.ys a ha
  simp
  omega
 ·rw [zAC e]
  exact Nat.le_succ_of_le (h.ys a ha)
theorem LkI.of_cell {G : Gram} {q : Whole} {N M : Nt} {cnt : Nat} (h : LkI G q N cnt) {i : Nat} {X : Itm} (hi : i < q.1.length) (hc : rep G X = X) (hr : zAJ G X = true) {P : Prop} (hM : ((i, X) ∈ N.pls /\ M = N /\ P) \/ ((i, X) ∉ N.pls /\ ∃ d e, M = N.cell (i, X) d e)) : LkI G q M cnt /\ Gro N M := by
 rcases hM with ⟨_, rfl, _⟩ | ⟨hn, d, e, rfl⟩
 ·exact ⟨h, .refl _⟩
 ·exact ⟨h.cell hn hi hc hr d e, N.cell_gro _ d e⟩
theorem zBM {G : Gram} (hv : checkN G = 0) {q : Whole} {N : Nt} (h : Lk1 G q N) (hq : q.1.length <= 2000) : N.pls.length <= 6000000 := by
 have h1 := h.len (A := allI G) (fun x hx => zBt hx)
 have h2 := zAu hv
 have : q.1.length * (allI G).length <= 2000 * 2709 := Nat.mul_le_mul hq h2
 omega
def ovW (k : Nat) : Way := ⟨.pointer none, fun _ => false, true, k⟩
noncomputable def inW (K : Fk) (G : Gram) (r d k : Nat) : Way := ⟨.pointer (some ⟨K.tP r d, 0, none⟩), zL9 G r d, zQr G r d, k⟩
theorem zSW (K : Fk) (G : Gram) (k : Nat) : YOk K G (ovW k) := .inl ⟨rfl, rfl⟩
theorem zSO (K : Fk) (G : Gram) {r d : Nat} (hr : r <= G.rules.length) (hd : d < (zAE G (r : Int)).2.length) (k : Nat) : YOk K G (inW K G r d k) := .inr ⟨r, d, hr, hd, rfl, rfl⟩
theorem zQV (k : Nat) : (ovW k).Ov := ⟨rfl, fun _ => rfl⟩
theorem zRW (K : Fk) (G : Gram) (r d k : Nat) : (inW K G r d k).In G ((r : Int), (d : Int)) := by
 have e : zFU G ((r : Int), (d : Int)) = (zAE G (r : Int)).2.drop (d + 1) := by
  unfold zFU
  dsimp only
  congr 1
 refine ⟨?_, fun u => ?_⟩
 ·rw [e]
  show allC (canB G) ((zAE G (r : Int)).2.drop (d + 1)) = true ↔ _
  rw [zBn]
  exact ⟨fun h z hz => zA7.1 (h z hz), fun h z hz => zA7.2 (h z hz)⟩
 ·rw [e]
  show (decide (u < G.terms.length + 1) && zAW (canB G) (fstB G) ((zAE G (r : Int)).2.drop (d + 1)) (u : Int)) = true ↔ _
  rw [Bool.and_eq_true, decide_eq_true_iff, zNa]
  refine ⟨fun h => h.2, fun h => ⟨?_, h⟩⟩
  have := Fi.zBi h
  omega
structure LS (W : World) (K : Fk) (G : Gram) (q : Whole) (S : Nat -> Prop) (w0 : World) (r d : Int) (N : Nt) (T : Nat -> Prop) (w : World) : Prop where
 at_ : NAt W K G q N T w
 x0 : w.cell? ⟨w0.heap.size, 0, none⟩ = some (.int .i64 r)
 x1 : w.cell? ⟨w0.heap.size, 1, none⟩ = some (.int .i64 d)
 off : ¬ T w0.heap.size
 lt : w0.heap.size < w.heap.size
 fr : Sep.Fr S w0 w
 ext : Sep.Ext T S w0
section
variable {W : World} {K : Fk} {G : Gram} {q : Whole} {S : Nat -> Prop} {w0 : World} {r d : Int} {N M : Nt} {T U : Nat -> Prop} {w w' : World}
theorem LS.start (h : NAt W K G q N S w0) (r d : Int) (Ty : TypeId) : LS W K G q S w0 r d N S (w0.alloc (.cells #[.int .i64 r, .int .i64 d] Ty)) :=
 ⟨h.went (boxed _ _), zAB rfl rfl, zAB rfl rfl, fun e => Nat.lt_irrefl _ (h.inn _ e), by simp, .of_below (boxed _ _), .refl _ _⟩
theorem LS.went (h : LS W K G q S w0 r d N T w) (hb : Below w.heap.size w w') : LS W K G q S w0 r d N T w' :=
 ⟨h.at_.went hb, cell_later hb h.x0, cell_later hb h.x1, h.off, Nat.lt_of_lt_of_le h.lt hb.size, h.fr.trans (.of_below hb) h.ext, h.ext⟩
theorem LS.turn (h : LS W K G q S w0 r d N T w) (hM : NAt W K G q M U w') (f : Sep.Fr T w w') (x : Sep.Ext U T w) : LS W K G q S w0 r d M U w' :=
 ⟨hM, f.cell h.x0 h.off, f.cell h.x1 h.off, fun e => by
  rcases x _ e with e | e
  ·exact h.off e
  ·have := h.lt
   omega, Nat.lt_of_lt_of_le h.lt f.size, h.fr.trans f h.ext, h.ext.trans x h.fr.size⟩
theorem LS.fix (h : LS W K G q S w0 r d N T w) (FX : Fix W K G q) : FixAt K G q w := FX.at_ w h.at_.fr
theorem LS.eight (h : LS W K G q S w0 r d N T w) : w.cell? ⟨K.p, 0, none⟩ = some (.slice K.aS (states q).length K.cS) /\ w.cell? ⟨K.p, 2, none⟩ = some (.slice (some ⟨K.bR, 0, none⟩) (G.rules.length + 1) K.cR) /\ w.cell? ⟨K.p, 3, none⟩ = some (.slice (some ⟨K.bB, 0, none⟩) (top G + 1) K.cB) /\ w.cell? ⟨K.p, 4, none⟩ = some (.slice (some ⟨K.bT, 0, none⟩) (G.rules.length + 1) K.cT) := by
 obtain ⟨lab, cv, qv, k, _⟩ := h.at_
 obtain ⟨h0, _, h2, h3, h4, _⟩ := k.eight
 exact ⟨h0, h2, h3, h4⟩
end
def Linked (W : World) (K : Fk) (G : Gram) (q : Whole) (N : Nt) (cnt : Nat) (i : Nat) (x : Itm) (S : Nat -> Prop) (w : World) (e : Ending) (w' : World) : Prop :=
 e = .returned (.tuple #[]) /\ ∃ M T, NAt W K G q M T w' /\ Sep.Fr S w w' /\ Sep.Ext T S w /\ LkI G q M (cnt + 2) /\ Gro N M /\ Lkd G q M i x
end Lk
namespace Lk
open Gr (Gram ivs drawn zAE zAU top)
open Im
open Au
theorem zNb {W : World} {K : Fk} {G : Gram} {q : Whole} {N : Nt} {S : Nat -> Prop} (FX : Fix W K G q) (w : World) (h : NAt W K G q N S w) {cnt : Nat} (hL : LkI G q N cnt) (hcnt : cnt <= 100000000) (i : Nat) (hi : i < q.1.length) (x : Itm) (hx : Clo G (zAH q.1 i) x) :
  Calls Tryz.prog 87 #[.pointer (some ⟨K.p, 0, none⟩), .int .i64 (i : Int), iv x] w (Linked W K G q N cnt i x S w) := by
 have hxr := zAd hx
 obtain ⟨r, d⟩ := x
 obtain ⟨⟨r0, r1⟩, d0, d1⟩ := zAN.1 hxr
 dsimp only at r0 r1 d0 d1
 obtain ⟨r, rfl⟩ := Int.eq_ofNat_of_zero_le r0
 obtain ⟨d, rfl⟩ := Int.eq_ofNat_of_zero_le d0
 have hrl : rlen G (r : Int) = (zAE G (r : Int)).2.length := rfl
 rw [hrl] at d1
 have L0 := zSg (LS.start h (r : Int) (d : Int) 112)
 have SM := Fi.zAo FX.ok
 have hT : G.terms.length <= 1000 := by have := SM.t; omega
 have hR := SM.r
 have hr : r <= G.rules.length := by omega
 have hrb : zAU G (r : Int) = true := by unfold zAU; exact decide_eq_true ⟨r0, r1⟩
 have hri : (r : Int) < ((G.rules.length + 1 : Nat) : Int) := by omega
 have hq := FX.len
 have RL := zSg (fun w1 (F : FixAt K G q w1) => F.rules r hr)
 have hrs := zBl FX.ok (r := r) hr
 rw [hrl] at hrs
 have hi2 : i <= 1000000 := by omega
 by_cases hdd : d < (zAE G (r : Int)).2.length
 ·obtain ⟨hb, hbv⟩ := zBN hrb hdd
  obtain ⟨s1, s2⟩ := zBB FX.ok hrb hdd
  obtain ⟨j, hj, hgo, hst⟩ := zKD FX.done FX.ok hi hx hb
  rw [hbv] at hgo
  obtain ⟨s, hs⟩ := Int.eq_ofNat_of_zero_le (show 0 <= (zAE G (r : Int)).2[d] by omega)
  have hst' : s <= top G := by omega
  have hil : i < (states q).length := by rw [zAc FX.done.all]; exact hi
  have hgs : zDG (states q) (i : Int) (s : Int) = (j : Int) := by
   rw [zCq hil, ← hgo, ← hs]
   have := zBm FX.done.all hi
   rw [List.getElem?_eq_getElem hil] at this
   injection this with this
   rw [this]
  have RS := zSg (show ∀ w1, FixAt K G q w1 -> ∃ a c b o, w1.cell? ⟨K.bR, r * 2 + 1, none⟩ = some (.slice a (zAE G (r : Int)).2.length c) /\ a = some ⟨b, o, none⟩ /\ w1.cell? ⟨b, o + d, none⟩ = some (.int .i64 (s : Int)) from fun w1 F => by
   obtain ⟨a, c, _, f2, f3⟩ := F.rules r hr
   obtain ⟨b, o, e, f4⟩ := f3 d (by simpa [ivs] using hdd)
   refine ⟨a, c, b, o, f2, e, ?_⟩
   rw [f4]
   simp [ivs, Gr.iv, hs])
  have hX1 := zQg (G := G) (x := ((r : Int), (d : Int))) hrb
  have hX1r := zLi hxr
  have C1 := zSg (fun w1 (l : LS W K G q S w (r : Int) (d : Int) N S w1) => zCn FX w1 l.at_ (Nat.le_trans (zBM FX.ok hL.lk hq) (by omega)) hT i r (d : Int) hi2 hr (by omega) (by omega) (by omega))
  have C2 := zSg (fun N1 T1 w1 (l : LS W K G q S w (r : Int) (d : Int) N1 T1 w1) (k : LkI G q N1 cnt) => zCn FX w1 l.at_ (Nat.le_trans (zBM FX.ok k.lk hq) (by omega)) hT j r ((d : Int) + 1) (by omega) hr (by omega) (by omega) (by omega))
  rw [zBx (show ((r : Int), ((d : Int) + 1)).2 ≠ 0 from by dsimp only; omega)] at C2
  have GO := zSg (fun w1 (F : FixAt K G q w1) => (show Calls Tryz.prog 59 #[.slice K.aS (states q).length K.cS, .int .i64 (i : Int), .int .i64 (s : Int)] w1 (Gr.Is (.int .i64 (j : Int)) w1) from by
   have := zFE (states q) K.aS K.cS (i : Int) (s : Int) w1 F.sts FX.small
   rw [hgs] at this
   exact this))
  have I1 := zSg (fun N1 {P : Prop} hM => hL.of_cell (M := N1) (P := P) hi hX1 hX1r hM)
  have hwrap : IntKind.i64.wrap ((d : Int) + 1) = (d : Int) + 1 := IntWalk.i64_in _ (by omega)
  have hdl : (d : Int) < ((zAE G (r : Int)).2.length : Int) := by omega
  have hdne : ¬ d = (zAE G (r : Int)).2.length := by omega
  generalize hX1e : rep G ((r : Int), (d : Int)) = X1 at *
  unfold iv
  dsimp only
  go_enter Tryz.func87, Tryz.ntmps87
  go_wp2_with fail
  generalize w.alloc (.cells #[.int .i64 (r : Int), .int .i64 (d : Int)] 112) = w1 at *
  obtain ⟨p0, p2, p3, p4⟩ := L0.out.eight
  have x0 := L0.out.x0
  have x1 := L0.out.x1
  obtain ⟨aR, cR, bR, oR, f1, rfl, f2⟩ := RS.out w1 (L0.out.fix FX)
  go_region
  have LD := zSg (L0.out.went (drawn w1))
  go_wp2_with (go_at_call 89; (with_reducible refine (C1.out _ LD.out).mono ?_); rintro e w2 ⟨k1, N1, rfl, hk1, hM1, T1, hn1, hf1, he1⟩; obtain ⟨hI1, hG1⟩ := I1.out N1 hM1; have L1 := zSg (LD.out.turn hn1 hf1 he1); have KI1 := zSg hI1; have KG1 := zSg hG1; have K1 := zSg hk1; obtain ⟨q0, q2, q3, q4⟩ := L1.out.eight; have y0 := L1.out.x0; have y1 := L1.out.x1; clear hn1 hf1 he1 hI1 hG1 hM1 hk1)
  have LE1 := zSg (L1.out.went (drawn w2))
  have IN2 := zSg (fun N2 {P : Prop} hM => KI1.out.of_cell (M := N2) (i := j) (X := ((r : Int), (d : Int) + 1)) (P := P) hj (zBx (by dsimp only; omega)) ((FX.done.ok.good _ (zAs hj)).2.2 _ hst) hM)
  have kc1 : w2.drew.cell? ⟨K.p, 0, none⟩ = some (.slice K.aS (states q).length K.cS) /\ w2.drew.cell? ⟨w.heap.size, 0, none⟩ = some (.int .i64 (r : Int)) /\ w2.drew.cell? ⟨w.heap.size, 1, none⟩ = some (.int .i64 (d : Int)) := ⟨q0, y0, y1⟩
  have hbs : behV G ((r : Int), (d : Int)) = (s : Int) := hbv.trans hs
  rw [hs] at hgo
  have LB := zSg (fun w1 (F : FixAt K G q w1) => F.lefts s hst')
  have TL := zSg (fun w1 (F : FixAt K G q w1) => (show ∃ a c b, w1.cell? ⟨K.bT, r, none⟩ = some (.slice a (zAE G (r : Int)).2.length c) /\ a = some ⟨b, 0, none⟩ /\ w1.cell? ⟨b, d * 2, none⟩ = some (.pointer (some ⟨K.tP r d, 0, none⟩)) /\ w1.cell? ⟨b, d * 2 + 1, none⟩ = some (.bool (zQr G r d)) from by
   obtain ⟨a, c, f1, f2⟩ := F.tails r hr
   obtain ⟨b, e, g1, g2, _⟩ := f2 d hdd
   exact ⟨a, c, b, f1, e, g1, g2⟩))
  have C3 := zSg (fun (M : Nt) U w1 (l : LS W K G q S w (r : Int) (d : Int) M U w1) (c2 : Nat) (k : LkI G q M c2) (hc2 : c2 <= 100000002) (kk : Nat) (hkk : kk < M.pls.length) (y : Way) (hy : YOk K G y) => zNX w1 l.at_ (k := kk) hkk (Nat.le_trans (zBM FX.ok k.lk hq) (by omega)) hy (Nat.le_trans (k.ys kk hkk) (by omega)))
  have C4 := zSg (fun (M : Nt) U w1 (l : LS W K G q S w (r : Int) (d : Int) M U w1) (c2 : Nat) (k : LkI G q M c2) (k0 : Nat) (h0 : k0 <= G.rules.length) => zCn FX w1 l.at_ (Nat.le_trans (zBM FX.ok k.lk hq) (by omega)) hT i k0 (0 : Int) hi2 h0 (by omega) (by omega) (by omega))
  have OK := zSg (zSW K G)
  have IK := zSg (zSO K G hr hdd)
  have HX := zSg (show ∀ M y, LkI G q M cnt -> (∃ k2, M.pls[k2]? = some (j, ((r : Int), (d : Int) + 1)) /\ y = ovW k2) -> zFf G q M.pls i ((r : Int), (d : Int)) y from fun M y _ ⟨k2, h1, h2⟩ => by
   subst h2
   exact .inl ⟨j, by rw [hbs]; exact hgo, h1, zQV k2⟩)
  have HY := zSg (show ∀ (M : Nt) k4, M.pls[k4]? = some (i, hd G (s : Int)) -> byL G (s : Int) ≠ [] -> zFf G q M.pls i ((r : Int), (d : Int)) (inW K G r d k4) from fun M k4 h1 h2 => .inr ⟨by rw [hbs]; exact h2, by rw [hbs]; exact h1, zRW K G r d k4⟩)
  go_region_held3 (fun w' => w'.cell? ⟨K.p, 0, none⟩ = some (.slice K.aS (states q).length K.cS) /\ w'.cell? ⟨w.heap.size, 0, none⟩ = some (.int .i64 (r : Int)) /\ w'.cell? ⟨w.heap.size, 1, none⟩ = some (.int .i64 (d : Int)))
   (assumption)
   (first
    | (go_at_call 59; (with_reducible refine (GO.out _ (LE1.out.fix FX)).mono ?_); rintro e w3 ⟨rfl, hb3⟩; have L2 := zSg (LE1.out.went hb3); have kc2 : w3.cell? ⟨K.p, 0, none⟩ = some (.slice K.aS (states q).length K.cS) /\ w3.cell? ⟨w.heap.size, 0, none⟩ = some (.int .i64 (r : Int)) /\ w3.cell? ⟨w.heap.size, 1, none⟩ = some (.int .i64 (d : Int)) := ⟨L2.out.eight.1, L2.out.x0, L2.out.x1⟩; clear hb3)
    | (go_at_call 89; (with_reducible refine (C2.out N1 T1 _ L2.out KI1.out).mono ?_); rintro e w4 ⟨k2, N2, rfl, hk2, hM2, T2, hn2, hf2, he2⟩; obtain ⟨hI2, hG2⟩ := IN2.out N2 hM2; have L3 := zSg (L2.out.turn hn2 hf2 he2); have kc3 : w4.cell? ⟨K.p, 0, none⟩ = some (.slice K.aS (states q).length K.cS) /\ w4.cell? ⟨w.heap.size, 0, none⟩ = some (.int .i64 (r : Int)) /\ w4.cell? ⟨w.heap.size, 1, none⟩ = some (.int .i64 (d : Int)) := ⟨L3.out.eight.1, L3.out.x0, L3.out.x1⟩; have KI2 := zSg hI2; have KG2 := zSg hG2; have K2 := zSg hk2; clear hn2 hf2 he2 hI2 hG2 hM2 hk2)
    | fail)
  have K12 := zSg (KG2.out.pls _ _ K1.out)
  have hk12 := zAa K12.out
  have LE := zSg (C3.out N2 T2 w4 L3.out cnt KI2.out (by omega) k1 hk12 (ovW k2) (OK.out k2))
  have I3 := zSg (fun v => KI2.out.lead (y := ovW k2) (by rw [K12.out, hX1e]) hx hb (HX.out N2 _ KI2.out ⟨k2, K2.out, rfl⟩) v)
  clear kc1 kc2 kc3 LE1 LD L0 C1 C2 I1 IN2 GO RS f1 f2 x0 x1 y0 y1 p0 p2 p3 p4 q0 q2 q3 q4
  unfold ovW at LE
  dsimp only at LE
  by_cases hB : byL G (s : Int) = []
  ·rw [hB] at LB
   go_wp2_with (go_at_call 122; (with_reducible refine (LE.out).mono ?_); rintro e w5 ⟨rfl, v, T3, hn3, hf3, he3⟩; have L4 : Hid (LS W K G q S w (r : Int) (d : Int) (N2.lead k1 (ovW k2) v) T3 w5) := zSg (L3.out.turn hn3 hf3 he3); obtain ⟨_, _, q3, _⟩ := L4.out.eight; obtain ⟨aB, cB, g1, _⟩ := LB.out w5 (L4.out.fix FX); clear hn3 hf3 he3)
   refine bodyPost_ret (v := .tuple #[]) (by simp [results, Tryz.results87, go_sem]) rfl ?_
   refine ⟨rfl, _, T3, L4.out.at_, L4.out.fr, L4.out.ext, (I3.out v).mono (by omega), (KG1.out.trans KG2.out).trans (N2.lead_gro k1 _ v), fun _ => ⟨k1, by rw [hX1e]; exact K12.out, ⟨j, by rw [hbs]; exact hgo, ovW k2, N2.lead_mem k1 (ovW k2) v, K2.out, zQV k2⟩, fun e => absurd (by rw [hbs]; exact hB) e⟩⟩
  ·have hpos : 0 < (byL G (s : Int)).length := List.length_pos_iff.2 hB
   have hk0 := zBU.1 (head_ne hB)
   have hrep := zDk (head_ne hB)
   have C5 := zSg (fun (M : Nt) U w1 (l : LS W K G q S w (r : Int) (d : Int) M U w1) (c2 : Nat) (k : LkI G q M c2) => C4.out M U w1 l c2 k _ hk0.1)
   rw [hrep] at C5
   have LB2 := zSg (show ∀ w1, FixAt K G q w1 -> ∃ b o c, w1.cell? ⟨K.bB, s, none⟩ = some (.slice (some ⟨b, o, none⟩) (byL G (s : Int)).length c) /\ w1.cell? ⟨b, o, none⟩ = some (.int .i64 (((byL G (s : Int)).headD 0 : Nat) : Int)) from fun w1 F => by
    obtain ⟨aB, cB, g1, g2⟩ := LB.out w1 F
    obtain ⟨b, o, rfl, g3⟩ := g2 0 (by rw [zDi]; exact hpos)
    rw [zGJ] at g3
    exact ⟨b, o, cB, g1, g3⟩)
   have hdr := zHp hB
   have hdp := zOv hB
   have IN4 := zSg (fun (N3 M : Nt) (c2 : Nat) (k : LkI G q N3 c2) {P : Prop} hM => k.of_cell (M := M) (i := i) (X := hd G (s : Int)) (P := P) hi hdp hdr hM)
   generalize (byL G (s : Int)).headD 0 = k0 at *
   generalize hLL : (byL G (s : Int)).length = LL at *
   clear LB C4 hk0 hrep
   go_wp2_with (first
    | (go_at_call 122; (with_reducible refine (LE.out).mono ?_); rintro e w5 ⟨rfl, v, T3, hn3, hf3, he3⟩; have L4 : Hid (LS W K G q S w (r : Int) (d : Int) (N2.lead k1 (ovW k2) v) T3 w5) := zSg (L3.out.turn hn3 hf3 he3); obtain ⟨_, _, q3, _⟩ := L4.out.eight; obtain ⟨b5, o5, c5, g1, g2⟩ := LB2.out w5 (L4.out.fix FX); have I3v := zSg (I3.out v); clear hn3 hf3 he3)
    | (go_at_call 89; (with_reducible refine (C5.out (N2.lead k1 (ovW k2) v) T3 w5 L4.out (cnt + 1) I3v.out).mono ?_); rintro e w6 ⟨k4, N4, rfl, hk4, hM4, T4, hn4, hf4, he4⟩; obtain ⟨hI4, hG4⟩ := IN4.out _ N4 (cnt + 1) I3v.out hM4; have L5 := zSg (L4.out.turn hn4 hf4 he4); have KI4 := zSg hI4; have KG4 := zSg hG4; have K4 := zSg hk4; obtain ⟨_, _, _, r4⟩ := L5.out.eight; have z0 := L5.out.x0; have z1 := L5.out.x1; obtain ⟨a6, c6, b6, t1, rfl, t2, t3⟩ := TL.out w6 (L5.out.fix FX); clear hn4 hf4 he4 hI4 hG4 hM4 hk4))
   have K14 := zSg (KG4.out.pls _ _ ((N2.lead_gro k1 (ovW k2) v).pls _ _ K12.out))
   have hk14 := zAa K14.out
   have L6 := zSg (L5.out.went (drawn w6))
   have LF := zSg (C3.out N4 T4 w6.drew L6.out (cnt + 1) KI4.out (by omega) k1 hk14 (inW K G r d k4) (IK.out k4))
   unfold inW at LF
   dsimp only at LF
   have hrn : (r : Int) < (G.rules.length : Int) + 1 := by omega
   go_region_law (first
    | (go_simp; go_at_call 122; (with_reducible refine (LF.out).mono ?_); rintro e w7 ⟨rfl, v2, T5, hn5, hf5, he5⟩; have L7 : Hid (LS W K G q S w (r : Int) (d : Int) (N4.lead k1 (inW K G r d k4) v2) T5 w7) := zSg (L6.out.turn hn5 hf5 he5); clear hn5 hf5 he5)
    | fail)
   all_goals
    go_wp2_with fail
    refine bodyPost_ret (v := .tuple #[]) (by simp [results, Tryz.results87, go_sem]) rfl ?_
    have g5 := N4.lead_gro k1 (inW K G r d k4) v2
    refine ⟨rfl, _, T5, L7.out.at_, L7.out.fr, L7.out.ext, KI4.out.lead (y := inW K G r d k4) (by rw [K14.out, hX1e]) hx hb (HY.out N4 k4 K4.out hB) v2, ((KG1.out.trans KG2.out).trans (N2.lead_gro k1 _ v)).trans (KG4.out.trans g5), fun _ => ⟨k1, by rw [hX1e]; exact K14.out, ⟨j, by rw [hbs]; exact hgo, ovW k2, g5.ys k1 hk14 _ (KG4.out.ys k1 hk12 _ (N2.lead_mem k1 (ovW k2) v)), KG4.out.pls _ _ K2.out, zQV k2⟩, fun _ => ⟨inW K G r d k4, N4.lead_mem k1 _ v2, by rw [hbs]; exact K4.out, zRW K G r d k4⟩⟩⟩
 ·have hE : d = (zAE G (r : Int)).2.length := by omega
  have hb : behB G ((r : Int), (d : Int)) = false := by
   cases e : behB G ((r : Int), (d : Int)) with
   | false => rfl
   | true =>
    have := (zAf.1 e).2
    dsimp only at this
    omega
  generalize (zAE G (r : Int)).2.length = n at *
  subst hE
  unfold iv
  dsimp only
  go_enter Tryz.func87, Tryz.ntmps87
  go_wp2_with fail
  generalize w.alloc (.cells #[.int .i64 (r : Int), .int .i64 (d : Int)] 112) = w1 at *
  obtain ⟨p0, p2, p3, p4⟩ := L0.out.eight
  have x0 := L0.out.x0
  have x1 := L0.out.x1
  obtain ⟨aR, cR, _, f1, _⟩ := RL.out w1 (L0.out.fix FX)
  go_region
  go_wp2_with fail
  refine bodyPost_ret (v := .tuple #[]) (by simp [results, Tryz.results87, go_sem]) rfl ?_
  have LD := L0.out.went (drawn w1)
  exact ⟨rfl, N, S, LD.at_, LD.fr, LD.ext, hL.mono (by omega), .refl _, fun e => by rw [hb] at e; cases e⟩
end Lk
namespace Lk
open Gr (Gram checkN)
open Im
open Au
open Bt (Upto)
theorem zNY {p : Nat -> Prop} (h : ∃ n, p n) : ∃ n, p n /\ ∀ k, k < n -> ¬ p k := by
 obtain ⟨n, hn⟩ := h
 induction n using Nat.strongRecOn with
 | _ n ih =>
  by_cases hk : ∃ k, k < n /\ p k
  ·obtain ⟨k, h1, h2⟩ := hk
   exact ih k h1 h2
  ·exact ⟨n, hn, fun k h1 h2 => hk ⟨k, h1, h2⟩⟩
open Classical in
theorem zHM {P : Program} {a : Act} {w : World} {Q : Exit -> Act -> World -> Prop} {c body : Code} {γ : Type} (l : Nat) (J : γ -> Act -> World -> Prop) (μ : γ -> Nat) (hf : findLabel c l = some (Code.skip.seq body))
  (pass : ∀ g a w, J g a w -> body.wp P (Exit.jump l (fun a' w' => ∃ g', J g' a' w' /\ μ g' < μ g) Q) a w)
  (first : (∀ g a w, J g a w -> body.wp P (Exit.jump l (fun a' w' => ∃ g', J g' a' w') Q) a w) -> c.wp P (Exit.jump l (fun a' w' => ∃ g', J g' a' w') Q) a w) : (Code.scope c).wp P Q a w := by
 have hex : ∀ a w, (∃ g, J g a w) -> ∃ n, (∃ g, J g a w /\ μ g = n) /\ ∀ k, k < n -> ¬ ∃ g, J g a w /\ μ g = k := fun a w ⟨g, hg⟩ => zNY ⟨μ g, g, hg, rfl⟩
 let m : Act -> World -> Nat := fun a w => if h : ∃ g, J g a w then (hex a w h).choose else 0
 have hm : ∀ a w (h : ∃ g, J g a w), (∃ g, J g a w /\ μ g = m a w) /\ ∀ k, k < m a w -> ¬ ∃ g, J g a w /\ μ g = k := fun a w h => by
  have := (hex a w h).choose_spec
  show (∃ g, J g a w /\ μ g = (if h : ∃ g, J g a w then (hex a w h).choose else 0)) /\ ∀ k, k < (if h : ∃ g, J g a w then (hex a w h).choose else 0) -> _
  rw [dif_pos h]
  exact this
 refine wp_scope_jumps l (fun a w => ∃ g, J g a w) m hf (first fun g a w h => ?_) fun a w h => ?_
 ·refine wp_mono (pass g a w h) fun e a' w' hq => ?_
  cases e with
  | goto l' => exact ⟨hq.1, hq.2.imp fun _ k => k.1⟩
  | _ => exact hq
 ·obtain ⟨g, hg, hn⟩ := (hm a w h).1
  refine wp_seq (wp_skip ?_)
  refine wp_mono (pass g a w hg) fun e a' w' hq => ?_
  cases e with
  | goto l' =>
   obtain ⟨h1, g', h2, h3⟩ := hq
   refine ⟨h1, ⟨g', h2⟩, ?_⟩
   have := hm a' w' ⟨g', h2⟩
   rcases Nat.lt_or_ge (m a' w') (m a w) with r | r
   ·exact r
   ·exact absurd ⟨g', h2, rfl⟩ (this.2 (μ g') (by omega))
  | _ => exact hq
def Kps (N M : Nt) : Prop := M.pls = N.pls /\ M.Ys = N.Ys /\ M.wv = N.wv /\ M.D = N.D /\ M.E = N.E
theorem Kps.trans {N M L : Nt} (h : Kps N M) (k : Kps M L) : Kps N L := ⟨k.1.trans h.1, k.2.1.trans h.2.1, k.2.2.1.trans h.2.2.1, k.2.2.2.1.trans h.2.2.2.1, k.2.2.2.2.trans h.2.2.2.2⟩
theorem Kps.give (m : Nat) (N : Nt) (k : Nat) (F : Nat -> Bool) : Kps N (N.give m k F) := ⟨rfl, rfl, rfl, rfl, rfl⟩
theorem Kps.pop (N : Nt) (k : Nat) : Kps N (N.pop k) := ⟨rfl, rfl, rfl, rfl, rfl⟩
theorem Kps.go (m : Nat) (N : Nt) (k : Nat) (y : Way) : Kps N (N.go m k y) := by
 obtain ⟨h1, h2, h3, h4, h5⟩ := zRT m N k y
 exact ⟨h1, h2, h5, h3, h4⟩
theorem Kps.lk {G : Gram} {q : Whole} {N M : Nt} (h : Kps N M) (k : Lk1 G q N) : Lk1 G q M := by
 obtain ⟨h1, h2, _⟩ := h
 refine ⟨by rw [h1]; exact k.nd, by rw [h1]; exact k.can, ?_⟩
 rw [h1, h2]
 exact k.sound
theorem Kps.lkd {G : Gram} {q : Whole} {N M : Nt} (h : Kps N M) {i : Nat} {x : Itm} (k : Lkd G q N i x) : Lkd G q M i x := by
 obtain ⟨h1, h2, _⟩ := h
 unfold Lkd
 rw [h1, h2]
 exact k
theorem LkI.sp3 {G : Gram} {q : Whole} {N : Nt} {cnt m : Nat} (h : LkI G q N cnt) (hm : m <= 4096) : Sp3 G q m N N.Ys := by
 refine ⟨fun k hk => ⟨hm, fun t _ => (h.frs k hk).1 t⟩, fun k i c hk t ht => ?_, by rw [h.qs]; exact List.nodup_nil, fun k => ?_, fun k hk hw => ?_, fun k hk => .inr (.inl (h.frs k hk).1)⟩
 ·rw [(h.frs k (zAa hk)).1 t] at ht
  cases ht
 ·rw [h.qs]
  constructor
  ·intro e; cases e
  ·rintro ⟨hk, hw⟩
   rw [(h.frs k hk).2] at hw
   cases hw
 ·rw [(h.frs k hk).2] at hw
  cases hw
theorem zMA {G : Gram} (hT : G.terms.length <= 1000) (k d : Nat) : Upto (zL9 G k d) (G.terms.length + 1) := ⟨by omega, fun u hu => by
 unfold zL9
 have : decide (u < G.terms.length + 1) = false := decide_eq_false (by omega)
 rw [this, Bool.false_and]⟩
theorem YOk.upto {K : Fk} {G : Gram} {y : Way} (h : YOk K G y) (hT : G.terms.length <= 1000) : Upto y.f (G.terms.length + 1) := by
 rcases h with ⟨_, e⟩ | ⟨k, d, _, _, _, e⟩
 ·rw [e]
  exact ⟨by omega, fun _ _ => rfl⟩
 ·rw [e]
  exact zMA hT k d
theorem YOk.ptr {K : Fk} {G : Gram} {y : Way} (h : YOk K G y) : ∃ pa, y.v = .pointer pa := by
 rcases h with ⟨e, _⟩ | ⟨k, d, _, _, e, _⟩ <;> exact ⟨_, e⟩
section
variable {W : World} {K : Fk} {G : Gram} {q : Whole} {N : Nt} {lab : Nat -> Lb} {cv qv : Value} {w : World}
theorem NP.E_ge (h : NP W K G q N lab cv qv w) {k : Nat} (hk : k < N.pls.length) : W.heap.size <= N.E k := by
 have e := h.lE k hk
 rcases h.low (N.E k) (by rw [e]; intro e; cases e) with r | r | r
 ·rw [r, h.lp] at e; cases e
 ·rw [r, h.lm] at e; cases e
 ·exact r
theorem NP.given (h : NP W K G q N lab cv qv w) (FX : Fix W K G q) {y : Way} (hy : YOk K G y) (hto : y.to < N.pls.length) : Gvn N y.to y.v y.f w := by
 rcases hy with ⟨e1, e2⟩ | ⟨k, d, hk, hd, e1, e2⟩
 ·rw [e1, e2]
  exact .inl ⟨0, .nil _⟩
 ·rw [e1, e2]
  obtain ⟨a, c, _, f⟩ := (FX.at_ w h.fr).tails k hk
  obtain ⟨_, _, _, _, hs⟩ := f d hd
  obtain ⟨a', c', _, f'⟩ := (FX.at_ W (.refl _ _)).tails k hk
  obtain ⟨_, _, _, _, hs'⟩ := f' d hd
  have h1 := hs'.inp
  have h2 := hs'.ind
  have h3 := h.E_ge hto
  exact .inl ⟨_, .at_ hs (by omega) (by omega)⟩
theorem NP.given2 (h : NP W K G q N lab cv qv w) {k tt : Nat} (hk : k < N.pls.length) (hto : tt < N.pls.length) : Gvn N tt (.pointer (some ⟨N.D k, 0, none⟩)) (N.S k) w := by
 by_cases e : k = tt
 ·subst e
  exact .inr ⟨rfl, rfl⟩
 ·refine .inl ⟨_, .at_ (h.sets k hk) (fun e2 => ?_) (fun e2 => ?_)⟩
  ·have := h.lP k hk
   rw [e2, h.lE tt hto] at this
   cases this
  ·have := h.lE k hk
   rw [e2, h.lE tt hto] at this
   injection this with this
   exact e this.symm
end
theorem zOj {α : Type} (f : Nat -> α) (s : Nat) (x y : α) : upd (upd f s x) s y = upd f s y := by
 funext r
 by_cases e : r = s
 ·subst e
  rw [upd_same, upd_same]
 ·rw [zAC e, zAC e, zAC e]
theorem zOi {α : Type} (f : Nat -> α) (s : Nat) : upd f s (f s) = f := by
 funext r
 by_cases e : r = s
 ·subst e
  rw [upd_same]
 ·rw [zAC e]
theorem zFf.lt {G : Gram} {q : Whole} {a : List Pl} {i : Nat} {x : Itm} {y : Way} (h : zFf G q a i x y) : y.to < a.length := by
 rcases h with ⟨_, _, h, _⟩ | ⟨_, h, _⟩ <;> exact zAa h
theorem zOp {G : Gram} {q : Whole} (hv : checkN G = 0) {M L : Nt} {m k : Nat} (lk : Lk1 G q M) (hK : Kps M L) (hk : k < M.pls.length) {j : Nat} (hj : j < (M.Ys k).length) (sp : Sp3 G q m L (upd M.Ys k ((M.Ys k).take j))) (hne : ∃ t, L.S k t = true) (hf : Upto ((M.Ys k)[j]).f m) :
  (M.Ys k)[j].to < L.pls.length /\ Sp3 G q m (L.give m (M.Ys k)[j].to (M.Ys k)[j].f) (upd M.Ys k ((M.Ys k).take j)) /\ Sp3 G q m (L.go m k (M.Ys k)[j]) (upd M.Ys k ((M.Ys k).take (j + 1))) /\ (∃ t, (L.go m k (M.Ys k)[j]).S k t = true) /\ (L.go m k (M.Ys k)[j]).num m <= L.num m := by
 have lkL := hK.lk lk
 have hkL : k < L.pls.length := by rw [hK.1]; exact hk
 have hmem : (M.Ys k)[j] ∈ L.Ys k := by rw [hK.2.1]; exact List.getElem_mem hj
 obtain ⟨⟨jj, d⟩, hp⟩ : ∃ p, L.pls[k]? = some p := ⟨_, List.getElem?_eq_getElem hkL⟩
 obtain ⟨x, _, _, _, hw⟩ := lkL.sound k jj d hp _ hmem
 have hto := hw.lt
 obtain ⟨t0, ht0⟩ := hne
 have hla := sp.snd k jj d hp t0 ht0
 have key : ∀ i c, L.pls[(M.Ys k)[j].to]? = some (i, c) -> _ := fun i c hc => zRu hv lkL hp hmem hla hc
 obtain ⟨⟨i, c⟩, hq⟩ : ∃ p, L.pls[(M.Ys k)[j].to]? = some p := ⟨_, List.getElem?_eq_getElem hto⟩
 have s1 := sp.give hq (key i c hq).1
 have s2 := sp.go hkL ⟨t0, ht0⟩ hto hf (fun i c hc => (key i c hc).1) (fun he i c j' d' hc hd => by
  rw [hp] at hd
  injection hd with hd
  injection hd with e1 e2
  subst e1 e2
  exact (key i c hc).2 he)
 refine ⟨hto, s1, ?_, ⟨t0, zSL _ _ _ _ ht0⟩, zRg sp hto s1.qlen⟩
 rw [upd_same, zOj] at s2
 rw [List.take_succ_eq_append_getElem hj]
 exact s2
structure Ps (W : World) (K : Fk) (G : Gram) (q : Whole) (S : Nat -> Prop) (w0 : World) (N : Nt) (k0 : Nat) (M : Nt) (X : Nat -> List Way) (T : Nat -> Prop) (w : World) : Prop where
 at_ : NAt W K G q M T w
 fr : Sep.Fr S w0 w
 ext : Sep.Ext T S w0
 kp : Kps N M
 sp : Sp3 G q (G.terms.length + 1) M X
 zero : M.S k0 0 = true
section
variable {W : World} {K : Fk} {G : Gram} {q : Whole} {S : Nat -> Prop} {w0 : World} {N : Nt} {k0 : Nat} {M L : Nt} {X Y : Nat -> List Way} {T U : Nat -> Prop} {w w' : World}
theorem Ps.went (h : Ps W K G q S w0 N k0 M X T w) (hb : Below w.heap.size w w') : Ps W K G q S w0 N k0 M X T w' :=
 ⟨h.at_.went hb, h.fr.trans (.of_below hb) h.ext, h.ext, h.kp, h.sp, h.zero⟩
theorem Ps.turn (h : Ps W K G q S w0 N k0 M X T w) (hL : NAt W K G q L U w') (f : Sep.Fr T w w') (x : Sep.Ext U T w) (kp : Kps M L) (sp : Sp3 G q (G.terms.length + 1) L Y) (z : L.S k0 0 = true) : Ps W K G q S w0 N k0 L Y U w' :=
 ⟨hL, h.fr.trans f h.ext, h.ext.trans x h.fr.size, h.kp.trans kp, sp, z⟩
end
