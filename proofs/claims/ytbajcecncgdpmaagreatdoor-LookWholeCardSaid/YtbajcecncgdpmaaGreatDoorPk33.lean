/- A part of the proof. -/
import Derived.Test.YtbajcecncgdpmaaGreatDoorPk32
import Derived.Test.YtbajcecncgdpmaaGreatDoorPk25
import Derived.Test.YtbajcecncgdpmaaGreatDoorPk29
set_option maxHeartbeats 8000000
set_option maxRecDepth 100000
set_option linter.unusedVariables false
namespace Go.Proofs.YtbajcecncgdpmaaGreatDoor
open Go.RowKit Go.Maps
namespace Lk
open Gr (Gram cell_later zAA boxed drawn step top)
open Im
open Au
open Rw (zAL)
def zJw (L : List Itm) (w : World) (e : Ending) (w' : World) : Prop := ∃ a c, e = .returned (.slice a L.length c) /\ ItsV 57 w.heap.size L (.slice a L.length c) w' /\ Below w.heap.size w w'
theorem zEV (w : World) : (Instr.buildSlice 49 0 #[]).run Tryz.prog w = .ok (.slice (some ⟨w.heap.size, 0, none⟩) 0 0) (w.alloc (.cells #[] 57)) := by kernel_rfl
theorem zKR (a : Option Addr) (l : List Itm) (c : Nat) (w : World) (h : ItsA a l w) (hl : l.length <= 1000000) :
  Calls Tryz.prog 55 #[.slice a l.length c] w (zJw l w) := by
 obtain ⟨i0, hi, hz0, hz1, hz2⟩ := info_parts zB9
 cases a with
 | none =>
  have h0 : l = [] := by
   rcases l with _ | ⟨x, l⟩
   ·rfl
   ·obtain ⟨_, _, e, _⟩ := h 0 (by rw [zAQ]; simp)
    cases e
  subst h0
  have hn := Lib.run_eql_slice_nil (P := Tryz.prog)
  go_enter Tryz.func55, Tryz.ntmps55
  go_wp2
  go_ret
  exact ⟨Option.none, _, rfl, ItsV.nil _ _ _, .refl _ _⟩
 | some x =>
  have HB := zSt (fun v (w1 w2 : World) (h1 : w2.ownsRow w.heap.size 57 2 v (0 + l.length) ([] ++ l.flatMap ic)) (h2 : (w.alloc (.cells #[] 57)).grownBy w2 (some w.heap.size)) => show zJw l w (.returned v) w2 from by
   rw [Nat.zero_add, List.nil_append] at h1
   obtain ⟨a', c', rfl⟩ := Rw.zAH h1
   exact ⟨a', c', rfl, h1, ((Below.refl _ _).alloc (Nat.le_refl _) _).grown h2 (by simp) fun k hk => by injection hk with hk; omega⟩)
  have HO := zSt (World.ownsRow_made (base := w.heap.size) (e := 57) (size := 2) w #[] 0 (Nat.le_refl _) (by simp) (by simp))
  have hll := zAQ l
  have HN := zSt (show ∀ (j : Nat) (u : Value), (l.flatMap ic)[j]? = some u -> (w.alloc (.cells #[] 57)).cell? (x.add j) = some u from fun j u hj => by
   obtain ⟨hj1, rfl⟩ := List.getElem?_eq_some_iff.1 hj
   obtain ⟨b, o, e, hc⟩ := h j hj1
   injection e with e
   subst e
   rw [WideShapes.add_plain]
   exact cell_later (boxed _ _) hc)
  have HL := zSt (zHM l)
  clear h
  have hn := Lib.run_eql_slice_nil (P := Tryz.prog)
  have hb := zEV
  go_enter Tryz.func55, Tryz.ntmps55
  go_wp2_with (at_builtin; refine wpList_append_own_at _ rfl _ _ 49 rfl w.heap.size 57 i0 (.agg #[.int .i64 0, .int .i64 0]) 2 16 Tryz.underlying49 hi hz0 hz1 hz2 rfl (by decide) _ _ _ rfl HO.out x l.length c (l.flatMap ic) rfl (by omega) HN.out HL.out (by unfold maxLen; omega) (by omega) (by simp) ?_; intro v' w2 hown2 hg2 _ _; have HE := zSt (HB.out v' w w2 hown2 hg2); clear hown2 hg2)
  go_ret
  exact HE.out
def opn (B : List Nat) (m : Nat) : List Itm := (B.take m).map fun k : Nat => ((k : Int), 0)
theorem zIT (B : List Nat) : opn B 0 = [] := by simp [opn]
theorem zN7 {B : List Nat} {m : Nat} (h : m < B.length) : opn B (m + 1) = opn B m ++ [((B[m] : Int), 0)] := by
 unfold opn
 rw [List.take_succ_eq_append_getElem h, List.map_append]
 rfl
def cloJ (G : Gram) (Ki : List Itm) (Ti : List (Int × Int)) (j : Nat) : List Itm := cloL G Ki ((Ti.take j).map Prod.fst)
theorem zDr (G : Gram) (Ki : List Itm) (Ti : List (Int × Int)) : cloJ G Ki Ti 0 = Ki := by simp [cloJ, cloL]
theorem zKN {G : Gram} {Ki : List Itm} {Ti : List (Int × Int)} {j : Nat} (h : j < Ti.length) : cloJ G Ki Ti j ++ opn (byL G Ti[j].1) (byL G Ti[j].1).length = cloJ G Ki Ti (j + 1) := by
 unfold cloJ cloL opn
 rw [List.take_succ_eq_append_getElem h, List.map_append, List.flatMap_append, List.take_length, List.append_assoc]
 simp
theorem zLp (B : List Nat) (m : Nat) : (opn B m).length <= m := by
 unfold opn
 rw [List.length_map, List.length_take]
 omega
theorem zDu {W : World} {K : Fk} {G : Gram} {q : Whole} {N : Nt} {S : Nat -> Prop} (FX : Fix W K G q) (w : World) (h : NAt W K G q N S w) (i : Nat) (hi : i < q.1.length) :
  Calls Tryz.prog 23 #[.pointer (some ⟨K.p, 0, none⟩), .int .i64 (i : Int)] w (zJw (cloL G (zAF q.1 i) (zBd q i)) w) := by
 obtain ⟨lab, cv, qv, h, _⟩ := h
 have hsi := zCF FX.done.all hi
 have hil : i < (states q).length := by rw [zBJ FX.done.all]; exact hi
 have F := zSt (fun w1 (b : Below w.heap.size w w1) => FX.at_ w1 (h.went b).fr)
 have P := zSt (fun w1 (b : Below w.heap.size w w1) => (h.went b).eight)
 obtain ⟨b, o, a1, c1, a2, c2, e, d0, d1, d2, d3, _, _⟩ := (F.out w (.refl _ _)).sts i hil
 have es : (states q)[i] = (zAF q.1 i, q.2.getD i []) := by
  rw [List.getElem?_eq_getElem hil] at hsi
  injection hsi
 have hm := List.getElem_mem hil
 have sK := FX.small.items _ hm
 have sT := FX.small.trans _ hm
 rw [es] at d0 d1 d2 d3 sK sT
 dsimp only at d0 d1 d2 d3 sK sT
 have hR := (Fi.zBm FX.ok).r
 have hsym : ∀ s ∈ zBd q i, ∃ m : Nat, m <= top G /\ s = (m : Int) := fun s hs => by
  obtain ⟨m, h1, h2, _⟩ := (zDe FX.done hi).1 hs
  exact ⟨m + 1, h1, h2⟩
 have SY := zSt hsym
 obtain ⟨p0, _, _, p3, _, _, _, _⟩ := P.out w (.refl _ _)
 have eL : cloL G (zAF q.1 i) (zBd q i) = cloJ G (zAF q.1 i) (q.2.getD i []) (q.2.getD i []).length := by
  unfold cloJ zBd
  rw [List.take_length]
 rw [eL]
 unfold zBd at SY
 generalize zAF q.1 i = Ki at *
 generalize q.2.getD i [] = Ti at *
 have D2 := zSt d2
 have D3 := zSt d3
 clear d2 d3 hsi es hm hsym eL h hi
 obtain ⟨i0, hj, hz0, hz1, hz2⟩ := info_parts zB9
 have CL := zSt (zKR a1 Ki c1 w D2.out sK)
 rw [e] at p0
 have hil2 : (i : Int) < ((states q).length : Int) := by omega
 go_enter Tryz.func23, Tryz.ntmps23
 go_wp2_with (go_at_call 55; refine CL.out.mono ?_; rintro e w1 ⟨a3, c3, rfl, h1, h2⟩; have V1 := zSt h1; have B1 := zSt h2; have p01 := cell_later h2 p0; have d11 := cell_later h2 d1; clear h1 h2)
 go_loopw [5, 28] (fun v t wr => ∃ (j : Nat) (a : Option Addr) (c : Nat), t = .int .i64 j /\ j <= Ti.length /\ v = .slice a (cloJ G Ki Ti j).length c /\ (cloJ G Ki Ti j).length <= 1000000 + j * 1000 /\ ItsV 57 w.heap.size (cloJ G Ki Ti j) v wr /\ Below w.heap.size w wr) (fun _ t _ => Ti.length - (intOf t).toNat)
 case atStart => exact ⟨0, a3, c3, rfl, Nat.zero_le _, by rw [zDr], by rw [zDr]; omega, by rw [zDr]; exact V1.out, B1.out⟩
 case round =>
  obtain ⟨j, a, c, rfl, hj1, rfl, hlen, hV, hB⟩ := hrel
  have V := zSt hV
  have B := zSt hB
  clear hV hB V1 B1 p01 d11
  by_cases hlt : j < Ti.length
  ·obtain ⟨b2, o2, e2, t0, t1⟩ := (D3.out.went B.out).at j hlt
   obtain ⟨s, hs1, hs2⟩ := SY.out _ (List.mem_map.2 ⟨_, List.getElem_mem hlt, rfl⟩)
   have SU := zSt (zKN (G := G) (Ki := Ki) hlt)
   subst e2
   obtain ⟨aB, cB, f20, f3⟩ := (F.out w (.refl _ _)).lefts s (by omega)
   have f2 := cell_later B.out f20
   obtain ⟨_, _, _, p3r, _, _, _, _⟩ := P.out wr B.out
   have hBl := zH4 G (Ti[j].1) (G.rules.length + 1)
   have RB := zSt f3
   rw [← hs2] at f2 RB
   rw [hs2] at t0
   rw [show byTo G (Ti[j].1) (G.rules.length + 1) = byL G Ti[j].1 from rfl] at hBl
   generalize Ti[j].1 = sy at *
   generalize Ti[j].2 = ty at *
   generalize hBB : byL G sy = BB at *
   generalize hCj : cloJ G Ki Ti j = Cj at *
   have bx : Below wr.heap.size wr (wr.alloc (.cells #[.int .i64 (s : Int), .int .i64 ty] 104)) := boxed _ _
   have x0 : (wr.alloc (.cells #[.int .i64 (s : Int), .int .i64 ty] 104)).cell? ⟨wr.heap.size, 0, none⟩ = some (.int .i64 (s : Int)) := zAA rfl rfl
   have y3 := cell_later bx p3r
   have y2 := cell_later bx f2
   have V2 := zSt ((V.out.went bx).went (drawn _))
   have B2 := zSt (Gr.step (Gr.step B.out bx) (drawn _))
   have hsx : (s : Int) < ((top G + 1 : Nat) : Int) := by omega
   have hsx0 : (0 : Int) <= (s : Int) := by omega
   clear f3 f20 hBB
   go_wp2_with fail
   generalize wr.alloc (.cells #[.int .i64 (s : Int), .int .i64 ty] 104) = wx at *
   go_region
   generalize wx.drew = wy at *
   go_wp2_with fail
   go_loopw [5, 41] (fun v t wz => ∃ (m : Nat) (a : Option Addr) (c : Nat), t = .int .i64 m /\ m <= BB.length /\ v = .slice a (Cj ++ opn BB m).length c /\ ItsV 57 w.heap.size (Cj ++ opn BB m) v wz /\ Below w.heap.size w wz) (fun _ t _ => BB.length - (intOf t).toNat)
   case atStart => exact ⟨0, a, c, rfl, Nat.zero_le _, by rw [zIT, List.append_nil], by rw [zIT, List.append_nil]; exact V2.out, B2.out⟩
   case round =>
    obtain ⟨m, a9, c9, rfl, hm1, rfl, hV9, hB9⟩ := hrel
    have V9 := zSt hV9
    have B9 := zSt hB9
    clear hV9 hB9 V2 B2 V B
    by_cases hmt : m < BB.length
    ·obtain ⟨b4, o4, rfl, hc4⟩ := (RB.out.below B9.out (Nat.le_refl _)) m (by rw [zDh]; exact hmt)
     have hc5 : wr.cell? ⟨b4, o4 + m, none⟩ = some (.int .i64 (BB[m] : Int)) := by simpa [nivs] using hc4
     have OE := zSt (zN7 hmt)
     have hol := zLp BB m
     have hlm : (Cj ++ opn BB m).length <= 1000000 + j * 1000 + m := by rw [List.length_append]; omega
     generalize BB[m] = kk at *
     have hsz : w.heap.size <= wr.heap.size := B9.out.size
     have bl := boxed wr (.cells #[.int .i64 (kk : Int), .int .i64 0] 57)
     have VX := zSt (V9.out.went bl)
     have BX := zSt (Gr.step B9.out bl)
     have hszx := BX.out.size
     have ON := zSt (zDb 57 w.heap.size wr.heap.size ((kk : Int), 0) wr rfl hsz)
     have hrl := zSt (fun g hg => (World.ownsRow.lt V9.out g hg).1)
     have EE := zSt (show (Cj ++ opn BB m) ++ [((kk : Int), 0)] = Cj ++ opn BB (m + 1) from by rw [OE.out, List.append_assoc])
     generalize hCC : Cj ++ opn BB m = CC at *
     have KR := zSt (fun (w2 : World) (hg : (wr.alloc (.cells #[.int .i64 (kk : Int), .int .i64 0] 57)).grownBy w2 (Value.slice a9 CC.length c9).ownBlock) => (show Below w.heap.size w w2 from BX.out.trans (zA6 hg hszx hrl.out)))
     clear V9 B9 hc4 bl hrl hCC OE
     go_wp2_with (at_builtin; refine zAL _ rfl _ _ 49 rfl w.heap.size 57 i0 (.agg #[.int .i64 0, .int .i64 0]) 2 16 Tryz.underlying49 hj hz0 hz1 hz2 rfl (by decide) (.slice a9 CC.length c9) CC.length (CC.flatMap ic) rfl VX.out w.heap.size _ 1 (ic ((kk : Int), 0)) rfl ON.out (zKu _) (by unfold maxLen; omega) (by omega) hszx ?_; intro v' w' hown hg _; have V2 := zSt (ItsV.of_append (Y := [((kk : Int), 0)]) (by simpa using hown) rfl rfl); have W2 := zSt (KR.out w' hg); obtain ⟨a7, c7, rfl⟩ := Rw.zAH hown; clear hown hg)
     go_roundw
     case rel => exact ⟨m + 1, a7, c7, by go_num, by omega, by rw [← EE.out]; simp, by rw [← EE.out]; simpa using V2.out, W2.out⟩
     case measure => simp [intOf]; omega
    ·have hE : m = BB.length := by omega
     subst hE
     rw [SU.out] at V9
     have hol := zLp BB BB.length
     have hlm : (cloJ G Ki Ti (j + 1)).length <= 1000000 + (j + 1) * 1000 := by rw [← SU.out, List.length_append]; omega
     rw [SU.out]
     go_wp2
     go_roundw
     case rel => exact ⟨j + 1, a9, c9, by go_num, by omega, rfl, hlm, V9.out, B9.out⟩
     case measure => simp [intOf]; omega
  ·have hE : j = Ti.length := by omega
   subst hE
   go_wp2
   go_ret
   exact ⟨a, c, rfl, V.out, B.out⟩
end Lk
namespace Lk
open Gr (Gram cell_later zAA boxed zAB top checkN)
open Im
open Au
open Fi (zAP allC canB fstB zBg zAn zBp zBX zCS)
theorem zNh {G : Gram} {l : List Int} {t : Int} : zAP (canB G) (fstB G) l t = true ↔ zCS G l t := by
 rw [zBg]
 constructor
 ·rintro ⟨pre, y, post, h1, h2, h3⟩
  exact ⟨pre, y, post, h1, fun z hz => zAn.1 (h2 z hz), zBp.1 h3⟩
 ·rintro ⟨pre, y, post, h1, h2, h3⟩
  exact ⟨pre, y, post, h1, fun z hz => zAn.2 (h2 z hz), zBp.2 h3⟩
structure LkI (G : Gram) (q : Whole) (N : Nt) (cnt : Nat) : Prop where
 lk : Lk1 G q N
 frs : ∀ k, k < N.pls.length -> (∀ t, N.S k t = false) /\ N.Wt k = false
 qs : N.qs = []
 ys : ∀ k, k < N.pls.length -> (N.Ys k).length <= cnt
theorem LkI.mono {G : Gram} {q : Whole} {N : Nt} {c c' : Nat} (h : LkI G q N c) (hc : c <= c') : LkI G q N c' := ⟨h.lk, h.frs, h.qs, fun k hk => Nat.le_trans (h.ys k hk) hc⟩
theorem LkI.cell {G : Gram} {q : Whole} {N : Nt} {cnt : Nat} (h : LkI G q N cnt) {i : Nat} {c : Itm} (hn : (i, c) ∉ N.pls) (hi : i < q.1.length) (hc : rep G c = c) (hr : zAG G c = true) (d e : Nat) : LkI G q (N.cell (i, c) d e) cnt := by
 have hl : (N.cell (i, c) d e).pls.length = N.pls.length + 1 := by
  show (N.pls ++ [(i, c)]).length = _
  simp
 refine ⟨h.lk.cell hn hi hc hr d e, fun k hk => ?_, h.qs, fun k hk => ?_⟩
 ·rw [hl] at hk
  show (∀ t, upd N.S N.pls.length (fun _ => false) k t = false) /\ upd N.Wt N.pls.length false k = false
  by_cases e : k = N.pls.length
  ·subst e
   rw [upd_same, upd_same]
   exact ⟨fun _ => rfl, rfl⟩
  ·rw [zAC e, zAC e]
   exact h.frs k (by omega)
 ·rw [hl] at hk
  show (upd N.Ys N.pls.length [] k).length <= cnt
  by_cases e : k = N.pls.length
  ·subst e
   rw [upd_same]
   exact Nat.zero_le _
  ·rw [zAC e]
   exact h.ys k (by omega)
theorem LkI.lead {G : Gram} {q : Whole} {N : Nt} {cnt : Nat} (h : LkI G q N cnt) {k i : Nat} {x : Itm} (hk : N.pls[k]? = some (i, rep G x)) (hx : Clo G (zAF q.1 i) x) (hb : behB G x = true) {y : Way} (hy : zFy G q N.pls i x y) (v : Value) : LkI G q (N.lead k y v) (cnt + 1) := by
 refine ⟨h.lk.lead hk hx hb hy v, h.frs, h.qs, fun a ha => ?_⟩
 show (upd N.Ys k (N.Ys k ++ [y]) a).length <= cnt + 1
 by_cases e : a = k
 ·subst e
  rw [upd_same, List.length_append]
  have := h.ys a ha
  simp
  omega
 ·rw [zAC e]
  exact Nat.le_succ_of_le (h.ys a ha)
theorem LkI.of_cell {G : Gram} {q : Whole} {N M : Nt} {cnt : Nat} (h : LkI G q N cnt) {i : Nat} {X : Itm} (hi : i < q.1.length) (hc : rep G X = X) (hr : zAG G X = true) {P : Prop} (hM : ((i, X) ∈ N.pls /\ M = N /\ P) \/ ((i, X) ∉ N.pls /\ ∃ d e, M = N.cell (i, X) d e)) : LkI G q M cnt /\ Gro N M := by
 rcases hM with ⟨_, rfl, _⟩ | ⟨hn, d, e, rfl⟩
 ·exact ⟨h, .refl _⟩
 ·exact ⟨h.cell hn hi hc hr d e, N.cell_gro _ d e⟩
theorem zBK {G : Gram} (hv : checkN G = 0) {q : Whole} {N : Nt} (h : Lk1 G q N) (hq : q.1.length <= 2000) : N.pls.length <= 6000000 := by
 have h1 := h.len (A := allI G) (fun x hx => zBu hx)
 have h2 := zAe hv
 have : q.1.length * (allI G).length <= 2000 * 2709 := Nat.mul_le_mul hq h2
 omega
def ovW (k : Nat) : Way := ⟨.pointer none, fun _ => false, true, k⟩
noncomputable def inW (K : Fk) (G : Gram) (r d k : Nat) : Way := ⟨.pointer (some ⟨K.tP r d, 0, none⟩), zMU G r d, zQl G r d, k⟩
theorem zSh (K : Fk) (G : Gram) (k : Nat) : YOk K G (ovW k) := .inl ⟨rfl, rfl⟩
theorem zSa (K : Fk) (G : Gram) {r d : Nat} (hr : r <= G.rules.length) (hd : d < (zAB G (r : Int)).2.length) (k : Nat) : YOk K G (inW K G r d k) := .inr ⟨r, d, hr, hd, rfl, rfl⟩
theorem zQQ (k : Nat) : (ovW k).Ov := ⟨rfl, fun _ => rfl⟩
theorem zRX (K : Fk) (G : Gram) (r d k : Nat) : (inW K G r d k).In G ((r : Int), (d : Int)) := by
 have e : zFn G ((r : Int), (d : Int)) = (zAB G (r : Int)).2.drop (d + 1) := by
  unfold zFn
  dsimp only
  congr 1
 refine ⟨?_, fun u => ?_⟩
 ·rw [e]
  show allC (canB G) ((zAB G (r : Int)).2.drop (d + 1)) = true ↔ _
  rw [zBX]
  exact ⟨fun h z hz => zAn.1 (h z hz), fun h z hz => zAn.2 (h z hz)⟩
 ·rw [e]
  show (decide (u < G.terms.length + 1) && zAP (canB G) (fstB G) ((zAB G (r : Int)).2.drop (d + 1)) (u : Int)) = true ↔ _
  rw [Bool.and_eq_true, decide_eq_true_iff, zNh]
  refine ⟨fun h => h.2, fun h => ⟨?_, h⟩⟩
  have := Fi.zBH h
  omega
structure LS (W : World) (K : Fk) (G : Gram) (q : Whole) (S : Nat -> Prop) (w0 : World) (r d : Int) (N : Nt) (T : Nat -> Prop) (w : World) : Prop where
 at_ : NAt W K G q N T w
 x0 : w.cell? ⟨w0.heap.size, 0, none⟩ = some (.int .i64 r)
 x1 : w.cell? ⟨w0.heap.size, 1, none⟩ = some (.int .i64 d)
 off : ¬ T w0.heap.size
 lt : w0.heap.size < w.heap.size
 fr : Sep.Fr S w0 w
 ext : Sep.Ext T S w0
section
variable {W : World} {K : Fk} {G : Gram} {q : Whole} {S : Nat -> Prop} {w0 : World} {r d : Int} {N M : Nt} {T U : Nat -> Prop} {w w' : World}
theorem LS.start (h : NAt W K G q N S w0) (r d : Int) (Ty : TypeId) : LS W K G q S w0 r d N S (w0.alloc (.cells #[.int .i64 r, .int .i64 d] Ty)) :=
 ⟨h.went (boxed _ _), zAA rfl rfl, zAA rfl rfl, fun e => Nat.lt_irrefl _ (h.inn _ e), by simp, .of_below (boxed _ _), .refl _ _⟩
theorem LS.went (h : LS W K G q S w0 r d N T w) (hb : Below w.heap.size w w') : LS W K G q S w0 r d N T w' :=
 ⟨h.at_.went hb, cell_later hb h.x0, cell_later hb h.x1, h.off, Nat.lt_of_lt_of_le h.lt hb.size, h.fr.trans (.of_below hb) h.ext, h.ext⟩
theorem LS.turn (h : LS W K G q S w0 r d N T w) (hM : NAt W K G q M U w') (f : Sep.Fr T w w') (x : Sep.Ext U T w) : LS W K G q S w0 r d M U w' :=
 ⟨hM, f.cell h.x0 h.off, f.cell h.x1 h.off, fun e => by
  rcases x _ e with e | e
  ·exact h.off e
  ·have := h.lt
   omega, Nat.lt_of_lt_of_le h.lt f.size, h.fr.trans f h.ext, h.ext.trans x h.fr.size⟩
theorem LS.fix (h : LS W K G q S w0 r d N T w) (FX : Fix W K G q) : FixAt K G q w := FX.at_ w h.at_.fr
theorem LS.eight (h : LS W K G q S w0 r d N T w) : w.cell? ⟨K.p, 0, none⟩ = some (.slice K.aS (states q).length K.cS) /\ w.cell? ⟨K.p, 2, none⟩ = some (.slice (some ⟨K.bR, 0, none⟩) (G.rules.length + 1) K.cR) /\ w.cell? ⟨K.p, 3, none⟩ = some (.slice (some ⟨K.bB, 0, none⟩) (top G + 1) K.cB) /\ w.cell? ⟨K.p, 4, none⟩ = some (.slice (some ⟨K.bT, 0, none⟩) (G.rules.length + 1) K.cT) := by
 obtain ⟨lab, cv, qv, k, _⟩ := h.at_
 obtain ⟨h0, _, h2, h3, h4, _⟩ := k.eight
 exact ⟨h0, h2, h3, h4⟩
end
def Linked (W : World) (K : Fk) (G : Gram) (q : Whole) (N : Nt) (cnt : Nat) (i : Nat) (x : Itm) (S : Nat -> Prop) (w : World) (e : Ending) (w' : World) : Prop :=
 e = .returned (.tuple #[]) /\ ∃ M T, NAt W K G q M T w' /\ Sep.Fr S w w' /\ Sep.Ext T S w /\ LkI G q M (cnt + 2) /\ Gro N M /\ Lkd G q M i x
end Lk
namespace Lk
open Gr (Gram zAB zAN checkN)
open Im
open Au
theorem zKX {G : Gram} {q : Whole} (D : Done G q) (hv : checkN G = 0) {N : Nt} (hL : ∀ j, j < q.1.length -> ∀ y, Clo G (zAF q.1 j) y -> Lkd G q N j y) {i : Nat} (hi : i < q.1.length) {x : Itm} (hx : Clo G (zAF q.1 i) x) (hb : behB G x = false) : (i, rep G x) ∈ N.pls := by
 cases hx with
 | of h _ =>
  by_cases h0 : i = 0
  ·subst h0
   rw [D.ok.zero, List.mem_singleton] at h
   subst h
   exfalso
   have hr : behB G ((G.rules.length : Int), 0) = true := by
    refine zAa.2 ⟨zAv (Nat.le_refl _), ?_⟩
    show (0 : Int) < (rlen G (G.rules.length : Int) : Int)
    unfold rlen
    rw [(Gr.zAU G).2]
    simp
   rw [hr] at hb
   cases hb
  ·obtain ⟨i', y, hi', hc, hb', hg, rfl⟩ := zCs D (by omega) hi h
   obtain ⟨k, _, ⟨j, hj, z, _, hz, _⟩, _⟩ := hL i' hi' y hc hb'
   rw [hg] at hj
   obtain rfl : i = j := by omega
   have h2 := (zAK.1 (zAS hc)).2.1
   rw [zBw (show ((y.1, y.2 + 1) : Itm).2 ≠ 0 from by dsimp only; omega)]
   exact List.mem_of_getElem? hz
 | next hc hb' hr =>
  rename_i y r
  obtain ⟨yr, yd⟩ := y
  obtain ⟨b1, b2⟩ := zAa.1 hb'
  obtain ⟨c1, c2⟩ := zAK.1 b1
  dsimp only at c1 c2 b2
  obtain ⟨n, rfl⟩ := Int.eq_ofNat_of_zero_le c1.1
  obtain ⟨d, rfl⟩ := Int.eq_ofNat_of_zero_le c2.1
  have hrb : zAN G (n : Int) = true := by
   unfold zAN
   exact decide_eq_true c1
  have hd : d < (zAB G (n : Int)).2.length := by
   unfold rlen at b2
   omega
  obtain ⟨s1, s2⟩ := zBL hrb hd
  obtain ⟨k1, k2⟩ := zAy hv hrb hd
  rw [← s2] at k1
  have hm := (zGD (by omega)).2 hr
  obtain ⟨k, _, _, h3⟩ := hL i hi _ hc hb'
  obtain ⟨z, _, hz, _⟩ := h3 (fun e => by rw [e] at hm; cases hm)
  rw [zDi hm]
  exact List.mem_of_getElem? hz
theorem zNk (T : TypeId) (base q : Nat) (y : Lkx) (w : World) (hq : q = w.heap.size) (hb : base <= q) : (w.alloc (.cells #[.int .i64 y.1, lks y] T)).ownsRow base T 2 (.slice (some ⟨q, 0, none⟩) 1 1) 1 (lc y) := by
 subst hq
 exact World.ownsRow_lit w #[.int .i64 y.1, lks y] 1 hb (by decide) (by simp)
theorem zK3 : (Tryz.prog.info? 39).map (fun i => (i.zero, i.size, i.bytes)) = some (some (.agg #[.int .i64 0, .slice none 0 0]), 2, 32) := by kernel_rfl
theorem zRc (y : Lkx) : ∀ u ∈ lc y, u.oneCell' = true := fun u hu => by
 simp [lc, lks] at hu
 rcases hu with rfl | rfl <;> rfl
theorem EndV.mono {b b' : Nat} {Y : List (Nat × List Nat)} {v : Value} {w : World} (h : EndV b Y v w) (hb : b' <= b) : EndV b' Y v w := by
 obtain ⟨X, h1, h2, h3⟩ := h
 exact ⟨X, Rw.zBG h1 hb, h2, fun k p1 p2 => Rw.zBG (h3 k p1 p2) hb⟩
def zJv (G : Gram) (q : Whole) (i : Nat) (w : World) (e : Ending) (w' : World) : Prop :=
 ∃ a c, e = .returned (.slice a (zAY G q i).length c) /\ EndV w.heap.size (zAY G q i) (.slice a (zAY G q i).length c) w' /\ Below w.heap.size w w'
end Lk
namespace Lk
open Gr (Gram cell_later zAA boxed drawn step zAB zAN)
open Im
open Au
open Bt (els zGP)
open Rw (zAI)
theorem zKh {X : List Lkx} {Y : List (Nat × List Nat)} (h : X.map (·.1) = Y.map fun y => (y.1 : Int)) : X.length = Y.length := by
 have := congrArg List.length h
 simpa using this
theorem zGF {W : World} {K : Fk} {G : Gram} {q : Whole} {N : Nt} {S : Nat -> Prop} (FX : Fix W K G q) (w : World) (h : NAt W K G q N S w) (L1 : Lk1 G q N) (i r : Nat) (d : Int) (hi : i < q.1.length) (hr : r <= G.rules.length) (hd0 : 0 <= d) (hd1 : d <= 1000000) {kk : Nat} (hk : N.pls[kk]? = some (i, rep G ((r : Int), d))) :
  Calls Tryz.prog 26 #[.pointer (some ⟨K.p, 0, none⟩), .int .i64 (i : Int), .agg #[.int .i64 (r : Int), .int .i64 d]] w (fun e w' => e = .returned (.int .i64 (kk : Int)) /\ Below w.heap.size w w') := by
 have SM := Fi.zBm FX.ok
 have hT := SM.t
 have hR := SM.r
 have hq := FX.len
 refine (zCq FX w h (Nat.le_trans (zBK FX.ok L1 hq) (by omega)) (by omega) i r d (by omega) hr (by omega) hd0 hd1).mono ?_
 rintro e w' ⟨k, M, rfl, hM, hc, _⟩
 have hin := List.mem_of_getElem? hk
 rcases hc with ⟨_, rfl, hb⟩ | ⟨h1, _⟩
 ·refine ⟨?_, hb⟩
  have hl := zAX hk
  have hl2 := zAX hM
  rw [List.getElem?_eq_getElem hl] at hk
  rw [List.getElem?_eq_getElem hl2] at hM
  injection hk with hk
  injection hM with hM
  have h1 := L1.nd.idxOf_getElem k hl2
  have h2 := L1.nd.idxOf_getElem kk hl
  rw [hM] at h1
  rw [hk] at h2
  rw [← h1, ← h2]
 ·exact absurd hin h1
open Classical in
theorem zNB {W : World} {K : Fk} {G : Gram} {q : Whole} {N : Nt} {S : Nat -> Prop} (FX : Fix W K G q) (w : World) (h : NAt W K G q N S w) (L1 : Lk1 G q N) (hF : ∀ (k i : Nat) (c : Itm) (t : Nat), N.pls[k]? = some (i, c) -> (N.S k t = true ↔ La G q i c (t : Int)))
  (hL : ∀ j, j < q.1.length -> ∀ y, Clo G (zAF q.1 j) y -> Lkd G q N j y) (htab : Bt.Tab w) (i : Nat) (hi : i < q.1.length) :
  Calls Tryz.prog 28 #[.pointer (some ⟨K.p, 0, none⟩), .int .i64 (i : Int)] w (zJv G q i w) := by
 have CLO := zSt (zDu FX w h i hi)
 have CE := zSt (fun w1 (b : Below w.heap.size w w1) (r : Nat) (d : Int) (hr : r <= G.rules.length) (hd0 : 0 <= d) (hd1 : d <= 1000000) (kk : Nat) (hk : N.pls[kk]? = some (i, rep G ((r : Int), d))) => zGF FX w1 (h.went b) L1 i r d hi hr hd0 hd1 hk)
 obtain ⟨lab, cv, qv, h, _⟩ := h
 obtain ⟨aC, cC, rfl⟩ := Rw.zAH h.row
 have F := zSt (fun w1 (b : Below w.heap.size w w1) => FX.at_ w1 (h.went b).fr)
 have P := zSt (fun w1 (b : Below w.heap.size w w1) => (h.went b).eight)
 have CC := zSt (fun w1 (b : Below w.heap.size w w1) (k : Nat) (hk : k < N.pls.length) => (h.went b).cell hk)
 have LI := zSt (fun w1 (b : Below w.heap.size w w1) (k : Nat) (hk : k < N.pls.length) (x : Itm) (hx : N.pls[k]? = some (i, rep G x)) (hr : zAN G x.1 = true) => (show Calls Tryz.prog 61 #[.pointer (some ⟨N.D k, 0, none⟩)] w1 (fun e w' => ∃ a c, e = .returned (.slice a (laL G q i x).length c) /\ w'.ownsRow w1.heap.size 3 1 (.slice a (laL G q i x).length c) (laL G q i x).length (nivs (laL G q i x)) /\ Below w1.heap.size w1 w') from by
  have hs := (h.went b).sets k hk
  refine (Bt.zCN w1 (.at_ hs) (htab.below b htab.pos)).mono ?_
  rintro e w' ⟨v, rfl, h1, h2⟩
  have he : els (N.S k) = laL G q i x := by
   rw [zGP (Bt.SetV.upto (.at_ hs))]
   unfold laL
   refine List.filter_congr fun t _ => ?_
   rw [Bool.eq_iff_iff, hF k i _ t hx, zIG FX.ok hr, decide_eq_true_iff]
  rw [he] at h1
  obtain ⟨a, c, rfl⟩ := Rw.zAH h1
  exact ⟨a, c, rfl, h1, h2⟩))
 have SM := Fi.zBm FX.ok
 have hR := SM.r
 have hq := FX.len
 have hWs : W.heap.size <= w.heap.size := h.fr.size
 have CLm := zSt (fun x => zDs FX.done FX.ok hi x)
 have EP := zSt (fun x hx hb => zKX FX.done FX.ok hL hi (x := x) hx hb)
 have hcl : (cloL G (zAF q.1 i) (zBd q i)).length <= 2709 := Nat.le_trans (zBi (zDE FX.done FX.ok hi) (M := allI G) fun x hx => zBu (zAS ((CLm.out x).1 hx))) (zAe FX.ok)
 have SO := zSt (fun (base : Nat) (X Y : List Lkx) (v : Value) (w1 w2 : World) (e : EndI G q i base (cloL G (zAF q.1 i) (zBd q i)) X v w1) => e.sorted FX.done FX.ok hi (Y := Y) (w2 := w2))
 have RS := zSt (fun w1 (F : FixAt K G q w1) (r : Nat) (hr : r <= G.rules.length) => F.rules r hr)
 have CLr := zSt (fun x hx => (zCe ((zDs FX.done FX.ok hi x).1 hx)))
 have hrs := fun (r : Nat) (hr : r <= G.rules.length) => zBl FX.ok (r := r) hr
 have hKp : K.p < w.heap.size := h.lab_lt h.lp (by intro e; cases e)
 have hgC : ∀ g, aC = some ⟨g, 0, none⟩ -> g < w.heap.size := fun g e => h.lab_lt (h.lr g (by rw [e]; rfl)) (by intro e; cases e)
 obtain ⟨i0, hj, hz0, hz1, hz2⟩ := info_parts zK3
 unfold zJv
 clear h htab L1 hF hL
 generalize cloL G (zAF q.1 i) (zBd q i) = L at *
 go_enter Tryz.func28, Tryz.ntmps28
 go_wp2_with (go_at_call 23; refine CLO.out.mono ?_; rintro e w1 ⟨aL, cL, rfl, h1, h2⟩; have V1 := zSt h1; have B1 := zSt h2; clear h1 h2)
 go_loopw [5, 12] (fun v t wr => ∃ (j : Nat) (X : List Lkx) (a : Option Addr) (c : Nat), t = .int .i64 j /\ j <= L.length /\ v = .slice a X.length c /\ EndI G q i w1.heap.size (L.take j) X v wr /\ Below w1.heap.size w1 wr) (fun _ t _ => L.length - (intOf t).toNat)
 case atStart => exact ⟨0, [], none, 0, rfl, Nat.zero_le _, rfl, EndI.nil G q i _ _, .refl _ _⟩
 case round =>
  obtain ⟨j, X, a, c, rfl, hj1, rfl, hE, hB⟩ := hrel
  have E := zSt hE
  have B := zSt (B1.out.trans (hB.mono B1.out.size))
  have BL := zSt hB
  clear hE hB
  have hXl : X.length <= 2709 := Nat.le_trans E.out.len (by rw [List.length_take]; omega)
  by_cases hlt : j < L.length
  ·have hxm := List.getElem_mem hlt
   have hxc := (CLm.out _).1 hxm
   have EPx := zSt (EP.out _ hxc)
   obtain ⟨⟨r0, r1⟩, d0, d1⟩ := zAK.1 (zAS hxc)
   have hxs : L.take (j + 1) = L.take j ++ [L[j]] := by rw [List.take_succ_eq_append_getElem hlt]
   have hxe := CLr.out _ hxm
   obtain ⟨b2, o2, rfl, t0, t1⟩ := (V1.out.went BL.out).reads.at j hlt
   generalize L[j] = x at *
   obtain ⟨xr, xd⟩ := x
   dsimp only at r0 r1 d0 d1 t0 t1
   obtain ⟨r, rfl⟩ := Int.eq_ofNat_of_zero_le r0
   obtain ⟨d, rfl⟩ := Int.eq_ofNat_of_zero_le d0
   have hrr : r <= G.rules.length := by omega
   have hrb : zAN G (r : Int) = true := by unfold zAN; exact decide_eq_true ⟨r0, r1⟩
   have hrl : rlen G (r : Int) = (zAB G (r : Int)).2.length := rfl
   have hrs1 := hrs r hrr
   rw [hrl] at d1 hrs1
   have bx : Below wr.heap.size wr (wr.alloc (.cells #[.int .i64 (r : Int), .int .i64 (d : Int)] 57)) := boxed _ _
   have x0 : (wr.alloc (.cells #[.int .i64 (r : Int), .int .i64 (d : Int)] 57)).cell? ⟨wr.heap.size, 0, none⟩ = some (.int .i64 (r : Int)) := zAA rfl rfl
   have x1 : (wr.alloc (.cells #[.int .i64 (r : Int), .int .i64 (d : Int)] 57)).cell? ⟨wr.heap.size, 1, none⟩ = some (.int .i64 (d : Int)) := zAA rfl rfl
   have BX := zSt bx
   have Bx := zSt (Gr.step B.out bx)
   obtain ⟨_, _, p2, _, _, p5, _, _⟩ := P.out _ Bx.out
   obtain ⟨aR, cR, _, f1, _⟩ := RS.out _ (F.out _ Bx.out) r hrr
   have hri : (r : Int) < ((G.rules.length + 1 : Nat) : Int) := by omega
   have hri2 : (r : Int) < (G.rules.length : Int) + 1 := by omega
   have hsz := B.out.size
   clear bx
   go_wp2_with fail
   generalize wr.alloc (.cells #[.int .i64 (r : Int), .int .i64 (d : Int)] 57) = wx at *
   go_region
   have kA0 := drawn wx
   have BX1 := zSt (BX.out.drew)
   have Bx1 := zSt (Bx.out.drew)
   by_cases hde : d = (zAB G (r : Int)).2.length
   ·have hb : behB G ((r : Int), (d : Int)) = false := by
     cases e : behB G ((r : Int), (d : Int)) with
     | false => rfl
     | true =>
      have := (zAa.1 e).2
      dsimp only at this
      omega
    have hex : ((r : Int), (d : Int)) = endI G r := by unfold endI; rw [hde]
    have hin := EPx.out hb
    obtain ⟨kk, hkl, hkk⟩ := List.getElem_of_mem hin
    have hkk : N.pls[kk]? = some (i, rep G ((r : Int), (d : Int))) := by rw [List.getElem?_eq_getElem hkl, hkk]
    obtain ⟨g, cg, eg, _, _, g0, _, _, _⟩ := CC.out _ Bx1.out kk hkl
    injection eg with eg _ ecg
    subst eg
    subst ecg
    have hgl := hgC g rfl
    have CEx := zSt (fun w1 (b : Below w.heap.size w w1) => CE.out w1 b r (d : Int) hrr (by omega) (by omega) kk hkk)
    have LIx := zSt (fun w1 (b : Below w.heap.size w w1) => LI.out w1 b kk hkl _ hkk hrb)
    have hkki : (kk : Int) < (N.pls.length : Int) := by omega
    have hkk0 : (0 : Int) <= (kk : Int) := by omega
    have gx : wx.cell? ⟨g, kk * 3, none⟩ = some (.pointer (some ⟨N.D kk, 0, none⟩)) := by simpa using g0
    have hw1r := BL.out.size
    have kA : Below wx.heap.size wx wx.drew.drew := Gr.step (drawn wx) (drawn _)
    rw [hex] at LIx
    have hla : (laL G q i (endI G r)).length <= 1000000 := by
     unfold laL
     refine Nat.le_trans (List.length_filter_le _ _) ?_
     rw [List.length_range]
     have := SM.t
     omega
    generalize hLL : laL G q i (endI G r) = T at *
    have hgX : ∀ g2, a = some ⟨g2, 0, none⟩ -> w1.heap.size <= g2 /\ g2 < wr.heap.size := fun g2 e => World.ownsRow.lt E.out.row g2 (by rw [e]; rfl)
    have hw1 := B1.out.size
    have hvb : ∀ g2, (Value.slice a X.length c).ownBlock = some g2 -> w1.heap.size <= g2 /\ g2 < wr.heap.size := fun g2 e => World.ownsRow.lt E.out.row g2 e
    have KD := zSt (fun (w8 w9 : World) (b8 : Below wx.heap.size wx w8) (hg : w8.grownBy w9 (Value.slice a X.length c).ownBlock) => (show w9.cell? ⟨K.p, 5, none⟩ = some (.slice (some ⟨g, 0, none⟩) N.pls.length cC) /\ w9.cell? ⟨wr.heap.size, 0, none⟩ = some (.int .i64 (r : Int)) /\ w9.cell? ⟨wr.heap.size, 1, none⟩ = some (.int .i64 (d : Int)) /\ w9.cell? ⟨g, kk * 3, none⟩ = some (.pointer (some ⟨N.D kk, 0, none⟩)) from by
     have k : ∀ (p : Addr) u, wx.cell? p = some u -> (∀ g2, (Value.slice a X.length c).ownBlock = some g2 -> g2 ≠ p.block) -> w9.cell? p = some u := fun p u hu hne => by
      have hlt := World.block_lt_of_cell? wx p hu
      exact (World.cell?_of_block (hg.block p.block (Nat.lt_of_lt_of_le hlt b8.size) fun e => hne _ e.symm rfl)).trans (cell_later b8 hu)
     refine ⟨k _ _ p5 fun g2 e e2 => ?_, k _ _ x0 fun g2 e e2 => ?_, k _ _ x1 fun g2 e e2 => ?_, k _ _ gx fun g2 e e2 => ?_⟩ <;> (have := hvb g2 e; dsimp only at e2; omega)))
    have HQ := zSt (fun w' (b : Below wx.heap.size wx w') => (show w'.cell? ⟨K.p, 5, none⟩ = some (.slice (some ⟨g, 0, none⟩) N.pls.length cC) /\ w'.cell? ⟨wr.heap.size, 0, none⟩ = some (.int .i64 (r : Int)) /\ w'.cell? ⟨wr.heap.size, 1, none⟩ = some (.int .i64 (d : Int)) /\ w'.cell? ⟨g, kk * 3, none⟩ = some (.pointer (some ⟨N.D kk, 0, none⟩)) from ⟨cell_later b p5, cell_later b x0, cell_later b x1, cell_later b gx⟩))
    have FN := zSt (fun (w8 : World) (a8 : Option Addr) (c8 : Nat) (w7 : World) (b7 : Below wx.heap.size wx w7) (h8 : w8.ownsRow w7.heap.size 3 1 (.slice a8 T.length c8) T.length (nivs T)) (b8 : Below wx.heap.size wx w8) => (show
      (w8.alloc (.cells #[.int .i64 (r : Int), .slice a8 T.length c8] 39)).ownsRow w1.heap.size 39 2 (.slice a X.length c) X.length (X.flatMap lc) /\
      (w8.alloc (.cells #[.int .i64 (r : Int), .slice a8 T.length c8] 39)).ownsRow w1.heap.size 39 2 (.slice (some ⟨w8.heap.size, 0, none⟩) 1 1) 1 [.int .i64 (r : Int), .slice a8 T.length c8] /\
      ∀ w9 v', w9.ownsRow w1.heap.size 39 2 v' (X.length + 1) (X.flatMap lc ++ [.int .i64 (r : Int), .slice a8 T.length c8]) -> (w8.alloc (.cells #[.int .i64 (r : Int), .slice a8 T.length c8] 39)).grownBy w9 (Value.slice a X.length c).ownBlock -> (v'.ownBlock = (Value.slice a X.length c).ownBlock \/ v'.ownBlock = some (w8.alloc (.cells #[.int .i64 (r : Int), .slice a8 T.length c8] 39)).heap.size) ->
       EndI G q i w1.heap.size (L.take (j + 1)) (X ++ [((r : Int), a8, T.length, c8)]) v' w9 /\ Below w1.heap.size w1 w9 from by
     have ba := boxed w8 (.cells #[.int .i64 (r : Int), .slice a8 T.length c8] 39)
     have bwa : Below wr.heap.size wr (w8.alloc (.cells #[.int .i64 (r : Int), .slice a8 T.length c8] 39)) := Gr.step (Gr.step BX.out b8) ba
     refine ⟨((E.out.went bwa).row), zNk 39 w1.heap.size w8.heap.size ((r : Int), a8, T.length, c8) w8 rfl (Nat.le_trans hw1r (Nat.le_trans BX.out.size b8.size)), fun w9 v' hown hg hv => ⟨?_, ?_⟩⟩
     ·rw [hxs, hex]
      rw [hex] at hb
      refine E.out.snoc hb (y := ((r : Int), a8, T.length, c8)) rfl bwa hw1r ?_ hown hg (hv.imp id fun e g2 e2 => ?_)
      ·rw [hLL]
       exact Sep.zAE (Rw.zBG h8 (Nat.le_trans BX.out.size b7.size)) fun g2 e => ba.block g2 (World.ownsRow.lt h8 g2 e).2
      ·rw [e] at e2
       injection e2 with e2
       omega
     ·have b9 : Below w1.heap.size w1 (w8.alloc (.cells #[.int .i64 (r : Int), .slice a8 T.length c8] 39)) := BL.out.trans (bwa.mono hw1r)
      exact b9.trans ⟨hg.os, hg.tape, hg.output, hg.size, fun k hk => hg.block k (Nat.lt_of_lt_of_le hk b9.size) fun e => by
       have := (hvb k e.symm).1
       omega⟩))
    clear CE LI E B V1 P F RS CLm CLr hex hb hLL hxs hxe
    generalize (zAB G (r : Int)).2.length = ln at *
    subst hde
    go_wp2_with fail
    go_region_held3 (fun w' => w'.cell? ⟨K.p, 5, none⟩ = some (.slice (some ⟨g, 0, none⟩) N.pls.length cC) /\ w'.cell? ⟨wr.heap.size, 0, none⟩ = some (.int .i64 (r : Int)) /\ w'.cell? ⟨wr.heap.size, 1, none⟩ = some (.int .i64 (d : Int)) /\ w'.cell? ⟨g, kk * 3, none⟩ = some (.pointer (some ⟨N.D kk, 0, none⟩)))
     (first | assumption | exact HQ.out _ (by assumption) | exact HQ.out _ (Below.alloc (by assumption) (Below.size (by assumption)) _))
     (first
      | (go_at_call 26; (with_reducible refine (CEx.out _ (Bx.out.trans (kA.mono Bx.out.size))).mono ?_); rintro e w7 ⟨rfl, hb7⟩; have k7 : Below wx.heap.size wx w7 := Gr.step kA hb7; clear hb7)
      | (go_at_call 61; ((with_reducible refine (LIx.out _ (Bx.out.trans (k7.mono Bx.out.size))).mono ?_); rintro e w8 ⟨a8, c8, rfl, h8, hb8⟩; have k8 : Below wx.heap.size wx w8 := Gr.step k7 hb8; obtain ⟨hr1, hr2, hr3⟩ := FN.out w8 a8 c8 w7 k7 h8 k8; have R1 := zSt hr1; have R2 := zSt hr2; have R3 := zSt hr3; have hs8 : w1.heap.size <= (w8.alloc (.cells #[.int .i64 (r : Int), .slice a8 T.length c8] 39)).heap.size := Nat.le_trans hw1r (Nat.le_trans BX.out.size (Nat.le_trans k8.size (by simp))); clear hr1 hr2 hr3 h8 hb8))
      | (refine zAI _ (by rfl) _ _ 36 (by rfl) w1.heap.size 39 i0 (.agg #[.int .i64 0, .slice none 0 0]) 2 32 Tryz.underlying36 hj hz0 hz1 hz2 rfl (by decide) (.slice a X.length c) X.length (X.flatMap lc) (by rfl) R1.out w1.heap.size (.slice (some ⟨w8.heap.size, 0, none⟩) 1 1) 1 [.int .i64 (r : Int), .slice a8 T.length c8] (by rfl) R2.out (zRc ((r : Int), a8, T.length, c8)) (by unfold maxLen; omega) (by omega) hs8 ?_; intro v9 w9 hown9 hg9 hloc9; have kd := KD.out _ w9 (Gr.step k8 (boxed _ _)) hg9; have R9 := zSt (R3.out w9 v9 hown9 hg9 hloc9); obtain ⟨a9, c9, rfl⟩ := Rw.zAH hown9; clear hown9 hg9 hloc9)
      | fail)
    go_wp2_with fail
    go_roundw
    case rel => exact ⟨j + 1, X ++ [((r : Int), a8, T.length, c8)], a9, c9, by go_num, by omega, by rw [List.length_append]; rfl, R9.out.1, R9.out.2⟩
    case measure => simp [intOf]; omega
   ·have hb : behB G ((r : Int), (d : Int)) = true := zAa.2 ⟨zAK.2 ⟨⟨r0, r1⟩, d0, by dsimp only; omega⟩, by dsimp only; omega⟩
    go_wp2_with fail
    go_roundw
    case rel => exact ⟨j + 1, X, a, c, by go_num, by omega, rfl, by rw [hxs]; exact (E.out.went BX1.out).skip hb, BL.out.trans (BX1.out.mono BL.out.size)⟩
    case measure => simp [intOf]; omega
  ·have hjl : j = L.length := by omega
   subst hjl
   have E2 := zSt (show EndI G q i w1.heap.size L X (.slice a X.length c) wr from by have := E.out; rwa [List.take_length] at this)
   go_wp2_with (go_at_call 62; (refine (zOg w1.heap.size X a c wr E2.out.row (by omega)).mono ?_; rintro e w9 ⟨rfl, Y, hp, hs, hr, hg⟩; have V9 := zSt (SO.out _ _ _ _ _ _ E2.out hp (hs.imp fun h => Int.not_lt.1 h) hr hg); have G9 := zSt hg; clear hp hs hr hg))
   go_ret
   have hl : X.length = (zAY G q i).length := by
    obtain ⟨Z, z1, z2, z3⟩ := V9.out
    have := Rw.zAH z1
    obtain ⟨a', c', e⟩ := this
    injection e with _ e
    rw [e]
    exact zKh z2
   have hb9 : Below w.heap.size w w9 := B.out.trans ⟨G9.out.os, G9.out.tape, G9.out.output, G9.out.size, fun k hk => G9.out.block k (Nat.lt_of_lt_of_le hk B.out.size) fun e => by
    have := (World.ownsRow.lt E2.out.row k e.symm).1
    have := B1.out.size
    omega⟩
   rw [hl] at V9
   exact ⟨a, c, (by show Ending.returned (Value.slice a X.length c) = _; rw [hl]), V9.out.mono B1.out.size, hb9⟩
end Lk
namespace Lk
open Gr (Gram ivs drawn zAB zAN top)
open Im
open Au
theorem zNi {W : World} {K : Fk} {G : Gram} {q : Whole} {N : Nt} {S : Nat -> Prop} (FX : Fix W K G q) (w : World) (h : NAt W K G q N S w) {cnt : Nat} (hL : LkI G q N cnt) (hcnt : cnt <= 100000000) (i : Nat) (hi : i < q.1.length) (x : Itm) (hx : Clo G (zAF q.1 i) x) :
  Calls Tryz.prog 24 #[.pointer (some ⟨K.p, 0, none⟩), .int .i64 (i : Int), iv x] w (Linked W K G q N cnt i x S w) := by
 have hxr := zAS hx
 obtain ⟨r, d⟩ := x
 obtain ⟨⟨r0, r1⟩, d0, d1⟩ := zAK.1 hxr
 dsimp only at r0 r1 d0 d1
 obtain ⟨r, rfl⟩ := Int.eq_ofNat_of_zero_le r0
 obtain ⟨d, rfl⟩ := Int.eq_ofNat_of_zero_le d0
 have hrl : rlen G (r : Int) = (zAB G (r : Int)).2.length := rfl
 rw [hrl] at d1
 have L0 := zSt (LS.start h (r : Int) (d : Int) 57)
 have SM := Fi.zBm FX.ok
 have hT : G.terms.length <= 1000 := by have := SM.t; omega
 have hR := SM.r
 have hr : r <= G.rules.length := by omega
 have hrb : zAN G (r : Int) = true := by unfold zAN; exact decide_eq_true ⟨r0, r1⟩
 have hri : (r : Int) < ((G.rules.length + 1 : Nat) : Int) := by omega
 have hq := FX.len
 have RL := zSt (fun w1 (F : FixAt K G q w1) => F.rules r hr)
 have hrs := zBl FX.ok (r := r) hr
 rw [hrl] at hrs
 have hi2 : i <= 1000000 := by omega
 by_cases hdd : d < (zAB G (r : Int)).2.length
 ·obtain ⟨hb, hbv⟩ := zBL hrb hdd
  obtain ⟨s1, s2⟩ := zAy FX.ok hrb hdd
  obtain ⟨j, hj, hgo, hst⟩ := zKW FX.done FX.ok hi hx hb
  rw [hbv] at hgo
  obtain ⟨s, hs⟩ := Int.eq_ofNat_of_zero_le (show 0 <= (zAB G (r : Int)).2[d] by omega)
  have hst' : s <= top G := by omega
  have hil : i < (states q).length := by rw [zBJ FX.done.all]; exact hi
  have hgs : zGW (states q) (i : Int) (s : Int) = (j : Int) := by
   rw [zFU hil, ← hgo, ← hs]
   have := zCF FX.done.all hi
   rw [List.getElem?_eq_getElem hil] at this
   injection this with this
   rw [this]
  have RS := zSt (show ∀ w1, FixAt K G q w1 -> ∃ a c b o, w1.cell? ⟨K.bR, r * 2 + 1, none⟩ = some (.slice a (zAB G (r : Int)).2.length c) /\ a = some ⟨b, o, none⟩ /\ w1.cell? ⟨b, o + d, none⟩ = some (.int .i64 (s : Int)) from fun w1 F => by
   obtain ⟨a, c, _, f2, f3⟩ := F.rules r hr
   obtain ⟨b, o, e, f4⟩ := f3 d (by simpa [ivs] using hdd)
   refine ⟨a, c, b, o, f2, e, ?_⟩
   rw [f4]
   simp [ivs, Gr.iv, hs])
  have hX1 := zQa (G := G) (x := ((r : Int), (d : Int))) hrb
  have hX1r := zL4 hxr
  have C1 := zSt (fun w1 (l : LS W K G q S w (r : Int) (d : Int) N S w1) => zCq FX w1 l.at_ (Nat.le_trans (zBK FX.ok hL.lk hq) (by omega)) hT i r (d : Int) hi2 hr (by omega) (by omega) (by omega))
  have C2 := zSt (fun N1 T1 w1 (l : LS W K G q S w (r : Int) (d : Int) N1 T1 w1) (k : LkI G q N1 cnt) => zCq FX w1 l.at_ (Nat.le_trans (zBK FX.ok k.lk hq) (by omega)) hT j r ((d : Int) + 1) (by omega) hr (by omega) (by omega) (by omega))
  rw [zBw (show ((r : Int), ((d : Int) + 1)).2 ≠ 0 from by dsimp only; omega)] at C2
  have GO := zSt (fun w1 (F : FixAt K G q w1) => (show Calls Tryz.prog 56 #[.slice K.aS (states q).length K.cS, .int .i64 (i : Int), .int .i64 (s : Int)] w1 (Gr.Is (.int .i64 (j : Int)) w1) from by
   have := zNK (states q) K.aS K.cS (i : Int) (s : Int) w1 F.sts FX.small
   rw [hgs] at this
   exact this))
  have I1 := zSt (fun N1 {P : Prop} hM => hL.of_cell (M := N1) (P := P) hi hX1 hX1r hM)
  have hwrap : IntKind.i64.wrap ((d : Int) + 1) = (d : Int) + 1 := IntWalk.i64_in _ (by omega)
  have hdl : (d : Int) < ((zAB G (r : Int)).2.length : Int) := by omega
  have hdne : ¬ d = (zAB G (r : Int)).2.length := by omega
  generalize hX1e : rep G ((r : Int), (d : Int)) = X1 at *
  unfold iv
  dsimp only
  go_enter Tryz.func24, Tryz.ntmps24
  go_wp2_with fail
  generalize w.alloc (.cells #[.int .i64 (r : Int), .int .i64 (d : Int)] 57) = w1 at *
  obtain ⟨p0, p2, p3, p4⟩ := L0.out.eight
  have x0 := L0.out.x0
  have x1 := L0.out.x1
  obtain ⟨aR, cR, bR, oR, f1, rfl, f2⟩ := RS.out w1 (L0.out.fix FX)
  go_region
  have LD := zSt (L0.out.went (drawn w1))
  go_wp2_with (go_at_call 26; (with_reducible refine (C1.out _ LD.out).mono ?_); rintro e w2 ⟨k1, N1, rfl, hk1, hM1, T1, hn1, hf1, he1⟩; obtain ⟨hI1, hG1⟩ := I1.out N1 hM1; have L1 := zSt (LD.out.turn hn1 hf1 he1); have KI1 := zSt hI1; have KG1 := zSt hG1; have K1 := zSt hk1; obtain ⟨q0, q2, q3, q4⟩ := L1.out.eight; have y0 := L1.out.x0; have y1 := L1.out.x1; clear hn1 hf1 he1 hI1 hG1 hM1 hk1)
  have LE1 := zSt (L1.out.went (drawn w2))
  have IN2 := zSt (fun N2 {P : Prop} hM => KI1.out.of_cell (M := N2) (i := j) (X := ((r : Int), (d : Int) + 1)) (P := P) hj (zBw (by dsimp only; omega)) ((FX.done.ok.good _ (zAf hj)).2.2 _ hst) hM)
  have kc1 : w2.drew.cell? ⟨K.p, 0, none⟩ = some (.slice K.aS (states q).length K.cS) /\ w2.drew.cell? ⟨w.heap.size, 0, none⟩ = some (.int .i64 (r : Int)) /\ w2.drew.cell? ⟨w.heap.size, 1, none⟩ = some (.int .i64 (d : Int)) := ⟨q0, y0, y1⟩
  have hbs : behV G ((r : Int), (d : Int)) = (s : Int) := hbv.trans hs
  rw [hs] at hgo
  have LB := zSt (fun w1 (F : FixAt K G q w1) => F.lefts s hst')
  have TL := zSt (fun w1 (F : FixAt K G q w1) => (show ∃ a c b, w1.cell? ⟨K.bT, r, none⟩ = some (.slice a (zAB G (r : Int)).2.length c) /\ a = some ⟨b, 0, none⟩ /\ w1.cell? ⟨b, d * 2, none⟩ = some (.pointer (some ⟨K.tP r d, 0, none⟩)) /\ w1.cell? ⟨b, d * 2 + 1, none⟩ = some (.bool (zQl G r d)) from by
   obtain ⟨a, c, f1, f2⟩ := F.tails r hr
   obtain ⟨b, e, g1, g2, _⟩ := f2 d hdd
   exact ⟨a, c, b, f1, e, g1, g2⟩))
  have C3 := zSt (fun (M : Nt) U w1 (l : LS W K G q S w (r : Int) (d : Int) M U w1) (c2 : Nat) (k : LkI G q M c2) (hc2 : c2 <= 100000002) (kk : Nat) (hkk : kk < M.pls.length) (y : Way) (hy : YOk K G y) => zNe w1 l.at_ (k := kk) hkk (Nat.le_trans (zBK FX.ok k.lk hq) (by omega)) hy (Nat.le_trans (k.ys kk hkk) (by omega)))
  have C4 := zSt (fun (M : Nt) U w1 (l : LS W K G q S w (r : Int) (d : Int) M U w1) (c2 : Nat) (k : LkI G q M c2) (k0 : Nat) (h0 : k0 <= G.rules.length) => zCq FX w1 l.at_ (Nat.le_trans (zBK FX.ok k.lk hq) (by omega)) hT i k0 (0 : Int) hi2 h0 (by omega) (by omega) (by omega))
  have OK := zSt (zSh K G)
  have IK := zSt (zSa K G hr hdd)
  have HX := zSt (show ∀ M y, LkI G q M cnt -> (∃ k2, M.pls[k2]? = some (j, ((r : Int), (d : Int) + 1)) /\ y = ovW k2) -> zFy G q M.pls i ((r : Int), (d : Int)) y from fun M y _ ⟨k2, h1, h2⟩ => by
   subst h2
   exact .inl ⟨j, by rw [hbs]; exact hgo, h1, zQQ k2⟩)
  have HY := zSt (show ∀ (M : Nt) k4, M.pls[k4]? = some (i, hd G (s : Int)) -> byL G (s : Int) ≠ [] -> zFy G q M.pls i ((r : Int), (d : Int)) (inW K G r d k4) from fun M k4 h1 h2 => .inr ⟨by rw [hbs]; exact h2, by rw [hbs]; exact h1, zRX K G r d k4⟩)
  go_region_held3 (fun w' => w'.cell? ⟨K.p, 0, none⟩ = some (.slice K.aS (states q).length K.cS) /\ w'.cell? ⟨w.heap.size, 0, none⟩ = some (.int .i64 (r : Int)) /\ w'.cell? ⟨w.heap.size, 1, none⟩ = some (.int .i64 (d : Int)))
   (assumption)
   (first
    | (go_at_call 56; (with_reducible refine (GO.out _ (LE1.out.fix FX)).mono ?_); rintro e w3 ⟨rfl, hb3⟩; have L2 := zSt (LE1.out.went hb3); have kc2 : w3.cell? ⟨K.p, 0, none⟩ = some (.slice K.aS (states q).length K.cS) /\ w3.cell? ⟨w.heap.size, 0, none⟩ = some (.int .i64 (r : Int)) /\ w3.cell? ⟨w.heap.size, 1, none⟩ = some (.int .i64 (d : Int)) := ⟨L2.out.eight.1, L2.out.x0, L2.out.x1⟩; clear hb3)
    | (go_at_call 26; (with_reducible refine (C2.out N1 T1 _ L2.out KI1.out).mono ?_); rintro e w4 ⟨k2, N2, rfl, hk2, hM2, T2, hn2, hf2, he2⟩; obtain ⟨hI2, hG2⟩ := IN2.out N2 hM2; have L3 := zSt (L2.out.turn hn2 hf2 he2); have kc3 : w4.cell? ⟨K.p, 0, none⟩ = some (.slice K.aS (states q).length K.cS) /\ w4.cell? ⟨w.heap.size, 0, none⟩ = some (.int .i64 (r : Int)) /\ w4.cell? ⟨w.heap.size, 1, none⟩ = some (.int .i64 (d : Int)) := ⟨L3.out.eight.1, L3.out.x0, L3.out.x1⟩; have KI2 := zSt hI2; have KG2 := zSt hG2; have K2 := zSt hk2; clear hn2 hf2 he2 hI2 hG2 hM2 hk2)
    | fail)
  have K12 := zSt (KG2.out.pls _ _ K1.out)
  have hk12 := zAX K12.out
  have LE := zSt (C3.out N2 T2 w4 L3.out cnt KI2.out (by omega) k1 hk12 (ovW k2) (OK.out k2))
  have I3 := zSt (fun v => KI2.out.lead (y := ovW k2) (by rw [K12.out, hX1e]) hx hb (HX.out N2 _ KI2.out ⟨k2, K2.out, rfl⟩) v)
  clear kc1 kc2 kc3 LE1 LD L0 C1 C2 I1 IN2 GO RS f1 f2 x0 x1 y0 y1 p0 p2 p3 p4 q0 q2 q3 q4
  unfold ovW at LE
  dsimp only at LE
  by_cases hB : byL G (s : Int) = []
  ·rw [hB] at LB
   go_wp2_with (go_at_call 57; (with_reducible refine (LE.out).mono ?_); rintro e w5 ⟨rfl, v, T3, hn3, hf3, he3⟩; have L4 : Hid (LS W K G q S w (r : Int) (d : Int) (N2.lead k1 (ovW k2) v) T3 w5) := zSt (L3.out.turn hn3 hf3 he3); obtain ⟨_, _, q3, _⟩ := L4.out.eight; obtain ⟨aB, cB, g1, _⟩ := LB.out w5 (L4.out.fix FX); clear hn3 hf3 he3)
   refine bodyPost_ret (v := .tuple #[]) (by simp [results, Tryz.results24, go_sem]) rfl ?_
   refine ⟨rfl, _, T3, L4.out.at_, L4.out.fr, L4.out.ext, (I3.out v).mono (by omega), (KG1.out.trans KG2.out).trans (N2.lead_gro k1 _ v), fun _ => ⟨k1, by rw [hX1e]; exact K12.out, ⟨j, by rw [hbs]; exact hgo, ovW k2, N2.lead_mem k1 (ovW k2) v, K2.out, zQQ k2⟩, fun e => absurd (by rw [hbs]; exact hB) e⟩⟩
  ·have hpos : 0 < (byL G (s : Int)).length := List.length_pos_iff.2 hB
   have hk0 := zBS.1 (head_ne hB)
   have hrep := zDi (head_ne hB)
   have C5 := zSt (fun (M : Nt) U w1 (l : LS W K G q S w (r : Int) (d : Int) M U w1) (c2 : Nat) (k : LkI G q M c2) => C4.out M U w1 l c2 k _ hk0.1)
   rw [hrep] at C5
   have LB2 := zSt (show ∀ w1, FixAt K G q w1 -> ∃ b o c, w1.cell? ⟨K.bB, s, none⟩ = some (.slice (some ⟨b, o, none⟩) (byL G (s : Int)).length c) /\ w1.cell? ⟨b, o, none⟩ = some (.int .i64 (((byL G (s : Int)).headD 0 : Nat) : Int)) from fun w1 F => by
    obtain ⟨aB, cB, g1, g2⟩ := LB.out w1 F
    obtain ⟨b, o, rfl, g3⟩ := g2 0 (by rw [zDh]; exact hpos)
    rw [zGi] at g3
    exact ⟨b, o, cB, g1, g3⟩)
   have hdr := zIB hB
   have hdp := zO5 hB
   have IN4 := zSt (fun (N3 M : Nt) (c2 : Nat) (k : LkI G q N3 c2) {P : Prop} hM => k.of_cell (M := M) (i := i) (X := hd G (s : Int)) (P := P) hi hdp hdr hM)
   generalize (byL G (s : Int)).headD 0 = k0 at *
   generalize hLL : (byL G (s : Int)).length = LL at *
   clear LB C4 hk0 hrep
   go_wp2_with (first
    | (go_at_call 57; (with_reducible refine (LE.out).mono ?_); rintro e w5 ⟨rfl, v, T3, hn3, hf3, he3⟩; have L4 : Hid (LS W K G q S w (r : Int) (d : Int) (N2.lead k1 (ovW k2) v) T3 w5) := zSt (L3.out.turn hn3 hf3 he3); obtain ⟨_, _, q3, _⟩ := L4.out.eight; obtain ⟨b5, o5, c5, g1, g2⟩ := LB2.out w5 (L4.out.fix FX); have I3v := zSt (I3.out v); clear hn3 hf3 he3)
    | (go_at_call 26; (with_reducible refine (C5.out (N2.lead k1 (ovW k2) v) T3 w5 L4.out (cnt + 1) I3v.out).mono ?_); rintro e w6 ⟨k4, N4, rfl, hk4, hM4, T4, hn4, hf4, he4⟩; obtain ⟨hI4, hG4⟩ := IN4.out _ N4 (cnt + 1) I3v.out hM4; have L5 := zSt (L4.out.turn hn4 hf4 he4); have KI4 := zSt hI4; have KG4 := zSt hG4; have K4 := zSt hk4; obtain ⟨_, _, _, r4⟩ := L5.out.eight; have z0 := L5.out.x0; have z1 := L5.out.x1; obtain ⟨a6, c6, b6, t1, rfl, t2, t3⟩ := TL.out w6 (L5.out.fix FX); clear hn4 hf4 he4 hI4 hG4 hM4 hk4))
   have K14 := zSt (KG4.out.pls _ _ ((N2.lead_gro k1 (ovW k2) v).pls _ _ K12.out))
   have hk14 := zAX K14.out
   have L6 := zSt (L5.out.went (drawn w6))
   have LF := zSt (C3.out N4 T4 w6.drew L6.out (cnt + 1) KI4.out (by omega) k1 hk14 (inW K G r d k4) (IK.out k4))
   unfold inW at LF
   dsimp only at LF
   have hrn : (r : Int) < (G.rules.length : Int) + 1 := by omega
   go_region_law (first
    | (go_simp; go_at_call 57; (with_reducible refine (LF.out).mono ?_); rintro e w7 ⟨rfl, v2, T5, hn5, hf5, he5⟩; have L7 : Hid (LS W K G q S w (r : Int) (d : Int) (N4.lead k1 (inW K G r d k4) v2) T5 w7) := zSt (L6.out.turn hn5 hf5 he5); clear hn5 hf5 he5)
    | fail)
   all_goals
    go_wp2_with fail
    refine bodyPost_ret (v := .tuple #[]) (by simp [results, Tryz.results24, go_sem]) rfl ?_
    have g5 := N4.lead_gro k1 (inW K G r d k4) v2
    refine ⟨rfl, _, T5, L7.out.at_, L7.out.fr, L7.out.ext, KI4.out.lead (y := inW K G r d k4) (by rw [K14.out, hX1e]) hx hb (HY.out N4 k4 K4.out hB) v2, ((KG1.out.trans KG2.out).trans (N2.lead_gro k1 _ v)).trans (KG4.out.trans g5), fun _ => ⟨k1, by rw [hX1e]; exact K14.out, ⟨j, by rw [hbs]; exact hgo, ovW k2, g5.ys k1 hk14 _ (KG4.out.ys k1 hk12 _ (N2.lead_mem k1 (ovW k2) v)), KG4.out.pls _ _ K2.out, zQQ k2⟩, fun _ => ⟨inW K G r d k4, N4.lead_mem k1 _ v2, by rw [hbs]; exact K4.out, zRX K G r d k4⟩⟩⟩
 ·have hE : d = (zAB G (r : Int)).2.length := by omega
  have hb : behB G ((r : Int), (d : Int)) = false := by
   cases e : behB G ((r : Int), (d : Int)) with
   | false => rfl
   | true =>
    have := (zAa.1 e).2
    dsimp only at this
    omega
  generalize (zAB G (r : Int)).2.length = n at *
  subst hE
  unfold iv
  dsimp only
  go_enter Tryz.func24, Tryz.ntmps24
  go_wp2_with fail
  generalize w.alloc (.cells #[.int .i64 (r : Int), .int .i64 (d : Int)] 57) = w1 at *
  obtain ⟨p0, p2, p3, p4⟩ := L0.out.eight
  have x0 := L0.out.x0
  have x1 := L0.out.x1
  obtain ⟨aR, cR, _, f1, _⟩ := RL.out w1 (L0.out.fix FX)
  go_region
  go_wp2_with fail
  refine bodyPost_ret (v := .tuple #[]) (by simp [results, Tryz.results24, go_sem]) rfl ?_
  have LD := L0.out.went (drawn w1)
  exact ⟨rfl, N, S, LD.at_, LD.fr, LD.ext, hL.mono (by omega), .refl _, fun e => by rw [hb] at e; cases e⟩
