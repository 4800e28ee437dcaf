/- A part of the proof. -/
import Derived.Test.YtbajcecncgdpmaaGreatDoorPk36
import Derived.Test.YtbajcecncgdpmaaGreatDoorPk26
import Derived.Shelf.SlSortCmp.QuietGrown
import Derived.Test.YtbajcecncgdpmaaGreatDoorPk34
set_option maxHeartbeats 4000000
set_option maxRecDepth 100000
set_option linter.unusedVariables false
namespace Go.Proofs.YtbajcecncgdpmaaGreatDoor
open Go.RowKit Go.Maps
namespace Lk
open Gr (Gram cell_later zAA boxed drawn step top)
open Im
open Au
open Rw (zAF)
def zNO (L : List Itm) (w : World) (e : Ending) (w' : World) : Prop := ∃ a c, e = .returned (.slice a L.length c) /\ ItsV 57 w.heap.size L (.slice a L.length c) w' /\ Below w.heap.size w w'
theorem zEt (w : World) : (Instr.buildSlice 49 0 #[]).run Tryz.prog w = .ok (.slice (some ⟨w.heap.size, 0, none⟩) 0 0) (w.alloc (.cells #[] 57)) := by kernel_rfl
theorem zLj (a : Option Addr) (l : List Itm) (c : Nat) (w : World) (h : ItsA a l w) (hl : l.length <= 1000000) :
  Calls Tryz.prog 55 #[.slice a l.length c] w (zNO l w) := by
 obtain ⟨i0, hi, hz0, hz1, hz2⟩ := info_parts zCG
 cases a with
 | none =>
  have h0 : l = [] := by
   rcases l with _ | ⟨x, l⟩
   ·rfl
   ·obtain ⟨_, _, e, _⟩ := h 0 (by rw [zAS]; simp)
    cases e
  subst h0
  have hn := Lib.run_eql_slice_nil (P := Tryz.prog)
  go_enter Tryz.func55, Tryz.ntmps55
  go_wp2
  go_ret
  exact ⟨Option.none, _, rfl, ItsV.nil _ _ _, .refl _ _⟩
 | some x =>
  have HB := zUB (fun v (w1 w2 : World) (h1 : w2.ownsRow w.heap.size 57 2 v (0 + l.length) ([] ++ l.flatMap ic)) (h2 : (w.alloc (.cells #[] 57)).grownBy w2 (some w.heap.size)) => show zNO l w (.returned v) w2 from by
   rw [Nat.zero_add, List.nil_append] at h1
   obtain ⟨a', c', rfl⟩ := Rw.zAH h1
   exact ⟨a', c', rfl, h1, ((Below.refl _ _).alloc (Nat.le_refl _) _).grown h2 (by simp) fun k hk => by injection hk with hk; omega⟩)
  have HO := zUB (World.ownsRow_made (base := w.heap.size) (e := 57) (size := 2) w #[] 0 (Nat.le_refl _) (by simp) (by simp))
  have hll := zAS l
  have HN := zUB (show ∀ (j : Nat) (u : Value), (l.flatMap ic)[j]? = some u -> (w.alloc (.cells #[] 57)).cell? (x.add j) = some u from fun j u hj => by
   obtain ⟨hj1, rfl⟩ := List.getElem?_eq_some_iff.1 hj
   obtain ⟨b, o, e, hc⟩ := h j hj1
   injection e with e
   subst e
   rw [WideShapes.add_plain]
   exact cell_later (boxed _ _) hc)
  have HL := zUB (zH7 l)
  clear h
  have hn := Lib.run_eql_slice_nil (P := Tryz.prog)
  have hb := zEt
  go_enter Tryz.func55, Tryz.ntmps55
  go_wp2_with (at_builtin; refine wpList_append_own_at _ rfl _ _ 49 rfl w.heap.size 57 i0 (.agg #[.int .i64 0, .int .i64 0]) 2 16 Tryz.underlying49 hi hz0 hz1 hz2 rfl (by decide) _ _ _ rfl HO.out x l.length c (l.flatMap ic) rfl (by omega) HN.out HL.out (by unfold maxLen; omega) (by omega) (by simp) ?_; intro v' w2 hown2 hg2 _ _; have HE := zUB (HB.out v' w w2 hown2 hg2); clear hown2 hg2)
  go_ret
  exact HE.out
def opn (B : List Nat) (m : Nat) : List Itm := (B.take m).map fun k : Nat => ((k : Int), 0)
theorem zJG (B : List Nat) : opn B 0 = [] := by simp [opn]
theorem zPP {B : List Nat} {m : Nat} (h : m < B.length) : opn B (m + 1) = opn B m ++ [((B[m] : Int), 0)] := by
 unfold opn
 rw [List.take_succ_eq_append_getElem h, List.map_append]
 rfl
def cloJ (G : Gram) (Ki : List Itm) (Ti : List (Int × Int)) (j : Nat) : List Itm := cloL G Ki ((Ti.take j).map Prod.fst)
theorem zEL (G : Gram) (Ki : List Itm) (Ti : List (Int × Int)) : cloJ G Ki Ti 0 = Ki := by simp [cloJ, cloL]
theorem zLH {G : Gram} {Ki : List Itm} {Ti : List (Int × Int)} {j : Nat} (h : j < Ti.length) : cloJ G Ki Ti j ++ opn (byL G Ti[j].1) (byL G Ti[j].1).length = cloJ G Ki Ti (j + 1) := by
 unfold cloJ cloL opn
 rw [List.take_succ_eq_append_getElem h, List.map_append, List.flatMap_append, List.take_length, List.append_assoc]
 simp
theorem zK0 (B : List Nat) (m : Nat) : (opn B m).length <= m := by
 unfold opn
 rw [List.length_map, List.length_take]
 omega
theorem zEl {W : World} {K : Fk} {G : Gram} {q : Whole} {N : Nt} {S : Nat -> Prop} (FX : Fix W K G q) (w : World) (h : NAt W K G q N S w) (i : Nat) (hi : i < q.1.length) :
  Calls Tryz.prog 23 #[.pointer (some ⟨K.p, 0, none⟩), .int .i64 (i : Int)] w (zNO (cloL G (zAG q.1 i) (zBt q i)) w) := by
 obtain ⟨lab, cv, qv, h, _⟩ := h
 have hsi := zBk FX.done.all hi
 have hil : i < (states q).length := by rw [zAo FX.done.all]; exact hi
 have F := zUB (fun w1 (b : Below w.heap.size w w1) => FX.at_ w1 (h.went b).fr)
 have P := zUB (fun w1 (b : Below w.heap.size w w1) => (h.went b).eight)
 obtain ⟨b, o, a1, c1, a2, c2, e, d0, d1, d2, d3, _, _⟩ := (F.out w (.refl _ _)).sts i hil
 have es : (states q)[i] = (zAG q.1 i, q.2.getD i []) := by
  rw [List.getElem?_eq_getElem hil] at hsi
  injection hsi
 have hm := List.getElem_mem hil
 have sK := FX.small.items _ hm
 have sT := FX.small.trans _ hm
 rw [es] at d0 d1 d2 d3 sK sT
 dsimp only at d0 d1 d2 d3 sK sT
 have hR := (Fi.zAs FX.ok).r
 have hsym : ∀ s ∈ zBt q i, ∃ m : Nat, m <= top G /\ s = (m : Int) := fun s hs => by
  obtain ⟨m, h1, h2, _⟩ := (zDy FX.done hi).1 hs
  exact ⟨m + 1, h1, h2⟩
 have SY := zUB hsym
 obtain ⟨p0, _, _, p3, _, _, _, _⟩ := P.out w (.refl _ _)
 have eL : cloL G (zAG q.1 i) (zBt q i) = cloJ G (zAG q.1 i) (q.2.getD i []) (q.2.getD i []).length := by
  unfold cloJ zBt
  rw [List.take_length]
 rw [eL]
 unfold zBt at SY
 generalize zAG q.1 i = Ki at *
 generalize q.2.getD i [] = Ti at *
 have D2 := zUB d2
 have D3 := zUB d3
 clear d2 d3 hsi es hm hsym eL h hi
 obtain ⟨i0, hj, hz0, hz1, hz2⟩ := info_parts zCG
 have CL := zUB (zLj a1 Ki c1 w D2.out sK)
 rw [e] at p0
 have hil2 : (i : Int) < ((states q).length : Int) := by omega
 go_enter Tryz.func23, Tryz.ntmps23
 go_wp2_with (go_at_call 55; refine CL.out.mono ?_; rintro e w1 ⟨a3, c3, rfl, h1, h2⟩; have V1 := zUB h1; have B1 := zUB h2; have p01 := cell_later h2 p0; have d11 := cell_later h2 d1; clear h1 h2)
 go_loopw [5, 28] (fun v t wr => ∃ (j : Nat) (a : Option Addr) (c : Nat), t = .int .i64 j /\ j <= Ti.length /\ v = .slice a (cloJ G Ki Ti j).length c /\ (cloJ G Ki Ti j).length <= 1000000 + j * 1000 /\ ItsV 57 w.heap.size (cloJ G Ki Ti j) v wr /\ Below w.heap.size w wr) (fun _ t _ => Ti.length - (intOf t).toNat)
 case atStart => exact ⟨0, a3, c3, rfl, Nat.zero_le _, by rw [zEL], by rw [zEL]; omega, by rw [zEL]; exact V1.out, B1.out⟩
 case round =>
  obtain ⟨j, a, c, rfl, hj1, rfl, hlen, hV, hB⟩ := hrel
  have V := zUB hV
  have B := zUB hB
  clear hV hB V1 B1 p01 d11
  by_cases hlt : j < Ti.length
  ·obtain ⟨b2, o2, e2, t0, t1⟩ := (D3.out.went B.out).at j hlt
   obtain ⟨s, hs1, hs2⟩ := SY.out _ (List.mem_map.2 ⟨_, List.getElem_mem hlt, rfl⟩)
   have SU := zUB (zLH (G := G) (Ki := Ki) hlt)
   subst e2
   obtain ⟨aB, cB, f20, f3⟩ := (F.out w (.refl _ _)).lefts s (by omega)
   have f2 := cell_later B.out f20
   obtain ⟨_, _, _, p3r, _, _, _, _⟩ := P.out wr B.out
   have hBl := zIm G (Ti[j].1) (G.rules.length + 1)
   have RB := zUB f3
   rw [← hs2] at f2 RB
   rw [hs2] at t0
   rw [show byTo G (Ti[j].1) (G.rules.length + 1) = byL G Ti[j].1 from rfl] at hBl
   generalize Ti[j].1 = sy at *
   generalize Ti[j].2 = ty at *
   generalize hBB : byL G sy = BB at *
   generalize hCj : cloJ G Ki Ti j = Cj at *
   have bx : Below wr.heap.size wr (wr.alloc (.cells #[.int .i64 (s : Int), .int .i64 ty] 104)) := boxed _ _
   have x0 : (wr.alloc (.cells #[.int .i64 (s : Int), .int .i64 ty] 104)).cell? ⟨wr.heap.size, 0, none⟩ = some (.int .i64 (s : Int)) := zAA rfl rfl
   have y3 := cell_later bx p3r
   have y2 := cell_later bx f2
   have V2 := zUB ((V.out.went bx).went (drawn _))
   have B2 := zUB (Gr.step (Gr.step B.out bx) (drawn _))
   have hsx : (s : Int) < ((top G + 1 : Nat) : Int) := by omega
   have hsx0 : (0 : Int) <= (s : Int) := by omega
   clear f3 f20 hBB
   go_wp2_with fail
   generalize wr.alloc (.cells #[.int .i64 (s : Int), .int .i64 ty] 104) = wx at *
   go_region
   generalize wx.drew = wy at *
   go_wp2_with fail
   go_loopw [5, 41] (fun v t wz => ∃ (m : Nat) (a : Option Addr) (c : Nat), t = .int .i64 m /\ m <= BB.length /\ v = .slice a (Cj ++ opn BB m).length c /\ ItsV 57 w.heap.size (Cj ++ opn BB m) v wz /\ Below w.heap.size w wz) (fun _ t _ => BB.length - (intOf t).toNat)
   case atStart => exact ⟨0, a, c, rfl, Nat.zero_le _, by rw [zJG, List.append_nil], by rw [zJG, List.append_nil]; exact V2.out, B2.out⟩
   case round =>
    obtain ⟨m, a9, c9, rfl, hm1, rfl, hV9, hB9⟩ := hrel
    have V9 := zUB hV9
    have B9 := zUB hB9
    clear hV9 hB9 V2 B2 V B
    by_cases hmt : m < BB.length
    ·obtain ⟨b4, o4, rfl, hc4⟩ := (RB.out.below B9.out (Nat.le_refl _)) m (by rw [zD1]; exact hmt)
     have hc5 : wr.cell? ⟨b4, o4 + m, none⟩ = some (.int .i64 (BB[m] : Int)) := by simpa [nivs] using hc4
     have OE := zUB (zPP hmt)
     have hol := zK0 BB m
     have hlm : (Cj ++ opn BB m).length <= 1000000 + j * 1000 + m := by rw [List.length_append]; omega
     generalize BB[m] = kk at *
     have hsz : w.heap.size <= wr.heap.size := B9.out.size
     have bl := boxed wr (.cells #[.int .i64 (kk : Int), .int .i64 0] 57)
     have VX := zUB (V9.out.went bl)
     have BX := zUB (Gr.step B9.out bl)
     have hszx := BX.out.size
     have ON := zUB (zCA 57 w.heap.size wr.heap.size ((kk : Int), 0) wr rfl hsz)
     have hrl := zUB (fun g hg => (World.ownsRow.lt V9.out g hg).1)
     have EE := zUB (show (Cj ++ opn BB m) ++ [((kk : Int), 0)] = Cj ++ opn BB (m + 1) from by rw [OE.out, List.append_assoc])
     generalize hCC : Cj ++ opn BB m = CC at *
     have KR := zUB (fun (w2 : World) (hg : (wr.alloc (.cells #[.int .i64 (kk : Int), .int .i64 0] 57)).grownBy w2 (Value.slice a9 CC.length c9).ownBlock) => (show Below w.heap.size w w2 from BX.out.trans (zBJ hg hszx hrl.out)))
     clear V9 B9 hc4 bl hrl hCC OE
     go_wp2_with (at_builtin; refine zAF _ rfl _ _ 49 rfl w.heap.size 57 i0 (.agg #[.int .i64 0, .int .i64 0]) 2 16 Tryz.underlying49 hj hz0 hz1 hz2 rfl (by decide) (.slice a9 CC.length c9) CC.length (CC.flatMap ic) rfl VX.out w.heap.size _ 1 (ic ((kk : Int), 0)) rfl ON.out (zGl _) (by unfold maxLen; omega) (by omega) hszx ?_; intro v' w' hown hg _; have V2 := zUB (ItsV.of_append (Y := [((kk : Int), 0)]) (by simpa using hown) rfl rfl); have W2 := zUB (KR.out w' hg); obtain ⟨a7, c7, rfl⟩ := Rw.zAH hown; clear hown hg)
     go_roundw
     case rel => exact ⟨m + 1, a7, c7, by go_num, by omega, by rw [← EE.out]; simp, by rw [← EE.out]; simpa using V2.out, W2.out⟩
     case measure => simp [intOf]; omega
    ·have hE : m = BB.length := by omega
     subst hE
     rw [SU.out] at V9
     have hol := zK0 BB BB.length
     have hlm : (cloJ G Ki Ti (j + 1)).length <= 1000000 + (j + 1) * 1000 := by rw [← SU.out, List.length_append]; omega
     rw [SU.out]
     go_wp2
     go_roundw
     case rel => exact ⟨j + 1, a9, c9, by go_num, by omega, rfl, hlm, V9.out, B9.out⟩
     case measure => simp [intOf]; omega
  ·have hE : j = Ti.length := by omega
   subst hE
   go_wp2
   go_ret
   exact ⟨a, c, rfl, V.out, B.out⟩
end Lk
namespace Im
open Gr (Gram Sh GAt Bx boxed Fits zAA zAK)
def GA : Gram := { terms := [⟨#[65]⟩, ⟨#[66]⟩], nons := [⟨#[115]⟩, ⟨#[116]⟩], rules := [(3, [4, 1]), (4, [2])], start := 3 }
def lw (W : World) : World :=
 ((((W.alloc (.cells #[.string ⟨#[65]⟩, .string ⟨#[66]⟩] 9)).alloc (.cells #[.string ⟨#[115]⟩, .string ⟨#[116]⟩] 9)).alloc (.cells #[.int .i64 4, .int .i64 1] 3)).alloc (.cells #[.int .i64 2] 3)).alloc
  (.cells #[.int .i64 3, .slice (some ⟨W.heap.size + 1 + 1, 0, none⟩) 2 2, .int .i64 4, .slice (some ⟨W.heap.size + 1 + 1 + 1, 0, none⟩) 1 1] 41)
def ah (W : World) : Sh := ⟨some ⟨W.heap.size, 0, none⟩, 2, some ⟨W.heap.size + 1, 0, none⟩, 2, some ⟨W.heap.size + 1 + 1 + 1 + 1, 0, none⟩, 2⟩
theorem zIj (W : World) : Below W.heap.size W (lw W) := Gr.step (Gr.step (Gr.step (Gr.step (boxed _ _) (boxed _ _)) (boxed _ _)) (boxed _ _)) (boxed _ _)
theorem zHf (W : World) : (lw W).heap.size = W.heap.size + 5 := by simp [lw]
theorem fitz (x : Int) (h : -1000 <= x) (k : x <= 1000) : Fits x := ⟨by omega, by omega⟩
theorem zSf (W : World) : GAt (ah W) GA (lw W) := by
 refine ⟨fun i hi => ?_, fun i hi => ?_, fun i hi => ?_, by simp [ah, GA], by simp [GA], by simp [GA], by simp [ah, GA], by simp [GA], ⟨?_, ?_, fitz _ (by decide) (by decide), ?_, ?_⟩⟩
 ·have h2 : i < 2 := hi
  refine ⟨W.heap.size, 0, rfl, ?_⟩
  have : i = 0 \/ i = 1 := by omega
  rcases this with rfl | rfl <;> exact zAK (zAK (zAK (zAK (zAA rfl rfl))))
 ·have h2 : i < 2 := hi
  refine ⟨W.heap.size + 1, 0, rfl, ?_⟩
  have : i = 0 \/ i = 1 := by omega
  rcases this with rfl | rfl <;> exact zAK (zAK (zAK (zAA (by simp) rfl)))
 ·have h2 : i < 2 := hi
  have : i = 0 \/ i = 1 := by omega
  rcases this with rfl | rfl
  ·refine ⟨W.heap.size + 1 + 1 + 1 + 1, 0, some ⟨W.heap.size + 1 + 1, 0, none⟩, 2, rfl, zAA (by simp) rfl, zAA (by simp) rfl, fun j hj => ?_, by simp [GA], by simp [GA]⟩
   have h3 : j < 2 := hj
   refine ⟨W.heap.size + 1 + 1, 0, rfl, ?_⟩
   have : j = 0 \/ j = 1 := by omega
   rcases this with rfl | rfl <;> exact zAK (zAK (zAA (by simp) rfl))
  ·refine ⟨W.heap.size + 1 + 1 + 1 + 1, 0, some ⟨W.heap.size + 1 + 1 + 1, 0, none⟩, 1, rfl, zAA (by simp) rfl, zAA (by simp) rfl, fun j hj => ?_, by simp [GA], by simp [GA]⟩
   have h3 : j < 1 := hj
   obtain rfl : j = 0 := by omega
   exact ⟨W.heap.size + 1 + 1 + 1, 0, rfl, zAK (zAA (by simp) rfl)⟩
 ·intro s hs
  simp only [GA, List.mem_cons, List.not_mem_nil, or_false] at hs
  rcases hs with rfl | rfl <;> simp [ByteArray.size]
 ·intro s hs
  simp only [GA, List.mem_cons, List.not_mem_nil, or_false] at hs
  rcases hs with rfl | rfl <;> simp [ByteArray.size]
 ·intro r hr
  simp only [GA, List.mem_cons, List.not_mem_nil, or_false] at hr
  rcases hr with rfl | rfl <;> exact fitz _ (by decide) (by decide)
 ·intro r hr x hx
  simp only [GA, List.mem_cons, List.not_mem_nil, or_false] at hr
  rcases hr with rfl | rfl
  ·simp only [List.mem_cons, List.not_mem_nil, or_false] at hx
   rcases hx with rfl | rfl <;> exact fitz _ (by decide) (by decide)
  ·simp only [List.mem_cons, List.not_mem_nil, or_false] at hx
   subst hx
   exact fitz _ (by decide) (by decide)
abbrev gl (W : World) : Value := .agg #[.slice (some ⟨W.heap.size, 0, none⟩) 2 2, .slice (some ⟨W.heap.size + 1, 0, none⟩) 2 2, .slice (some ⟨W.heap.size + 1 + 1 + 1 + 1, 0, none⟩) 2 2, .int .i64 3]
theorem zQB {W w : World} (X : Bx (lw W) (ah W) GA w) : w.cell? ⟨W.heap.size + 1 + 1 + 1 + 1 + 1, 0, none⟩ = some (.slice (some ⟨W.heap.size, 0, none⟩) 2 2) /\ w.cell? ⟨W.heap.size + 1 + 1 + 1 + 1 + 1, 1, none⟩ = some (.slice (some ⟨W.heap.size + 1, 0, none⟩) 2 2) /\
  w.cell? ⟨W.heap.size + 1 + 1 + 1 + 1 + 1, 2, none⟩ = some (.slice (some ⟨W.heap.size + 1 + 1 + 1 + 1, 0, none⟩) 2 2) /\ w.cell? ⟨W.heap.size + 1 + 1 + 1 + 1 + 1, 3, none⟩ = some (.int .i64 3) := by
 have h := X.box
 rw [zHf] at h
 exact ⟨h.x0, h.x1, h.x2, h.x3⟩
theorem zEz (w : World) : (Instr.buildSlice 49 0 #[]).run Tryz.prog w = .ok (.slice (some ⟨w.heap.size, 0, none⟩) 0 0) (w.alloc (.cells #[] 57)) := by kernel_rfl
theorem zBS (w : World) (o : Obj) : (w.alloc o).heap[w.heap.size]? = some o := World.alloc_heap_new _ _
theorem zCQ {w : World} {o : Obj} {q : Nat} (h : q = w.heap.size) : (w.alloc o).heap[q]? = some o := by
 subst h
 exact zBS _ _
theorem zCd {w : World} {o o' : Obj} {q : Nat} (h : w.heap[q]? = some o') : (w.alloc o).heap[q]? = some o' := by
 rw [Below.heap_alloc _ _ _ (Array.getElem?_eq_some_iff.1 h).1]
 exact h
theorem zLv {w : World} {base q : Nat} {x : Itm} (hq : w.heap[q]? = some (.cells #[.int .i64 x.1, .int .i64 x.2] 57 (0, 0))) (hb : base <= q) : w.ownsRow base 57 2 (.slice (some ⟨q, 0, none⟩) 1 1) 1 (ic x) :=
 ⟨by simp [ic], .inr ⟨q, 1, _, rfl, hb, hq, Nat.le_refl _, by unfold maxLen; omega, by simp, by simp [ic]⟩⟩
def inB (x : Itm) (E : List Itm) (k : Nat) : Bool := decide (x ∈ E.take k)
end Im
namespace Au
open Im
def zIB (X : List Sta) (K : List Itm) : Int := match X.findIdx? fun s => decide (s.1 = K) with | some i => (i : Int) | none => -1
def zKT (X : List Sta) (K : List Itm) (k : Nat) : Prop := ∀ j (h : j < X.length), j < k -> X[j].1 ≠ K
theorem zJ1 (X : List Sta) (K : List Itm) : zKT X K 0 := fun _ _ h => absurd h (by omega)
theorem zJd {X : List Sta} {K : List Itm} {k : Nat} (h : zKT X K k) (hk : k < X.length) (e : X[k].1 ≠ K) : zKT X K (k + 1) := fun j hj hl => by
 by_cases he : j = k
 ·subst he
  exact e
 ·exact h j hj (by omega)
theorem zGa {X : List Sta} {K : List Itm} {k : Nat} (h : zKT X K k) (hk : k < X.length) (e : X[k].1 = K) : zIB X K = (k : Int) := by
 have : X.findIdx? (fun s => decide (s.1 = K)) = some k := by
  rw [List.findIdx?_eq_some_iff_getElem]
  exact ⟨hk, decide_eq_true e, fun j hj => by simpa using h j (by omega) hj⟩
 unfold zIB
 rw [this]
theorem zGb {X : List Sta} {K : List Itm} {k : Nat} (h : zKT X K k) (hk : ¬ k < X.length) : zIB X K = -1 := by
 have : X.findIdx? (fun s => decide (s.1 = K)) = none := by
  rw [List.findIdx?_eq_none_iff]
  intro x hx
  obtain ⟨j, hj, rfl⟩ := List.mem_iff_getElem.1 hx
  simpa using h j hj (by omega)
 unfold zIB
 rw [this]
end Au
namespace Au
open Gr (zAU)
open Im
theorem zEB (X : List Sta) (K : List Itm) (a b : Option Addr) (c d : Nat) (w : World) (hX : StaA a X w) (sm : Small X) (hK : ItsA b K w) :
  Calls Tryz.prog 48 #[.slice a X.length c, .slice b K.length d] w (Gr.Is (.int .i64 (zIB X K)) w) := by
 have HX := zUB (fun w1 (b : Below w.heap.size w w1) => hX.went b)
 have HK := zUB (fun w1 (b : Below w.heap.size w w1) => hK.went b)
 have SM := zUB sm
 have hl := sm.len
 clear hX hK sm
 go_enter Tryz.func48, Tryz.ntmps48
 go_wp2
 go_loopw [5] (fun i wr => ∃ j : Nat, j <= X.length /\ i = .int .i64 j /\ zKT X K j /\ Below w.heap.size w wr) (fun i _ => X.length - (intOf i).toNat)
 case atStart => exact ⟨0, Nat.zero_le _, rfl, zJ1 _ _, .refl _ _⟩
 case round =>
  obtain ⟨j, hj, rfl, hN, hW⟩ := hrel
  have N := zUB hN
  have HW := zUB hW
  clear hN
  by_cases hlt : j < X.length
  ·obtain ⟨b0, o0, a1, c1, a2, c2, rfl, z1, z2, i1, i2, l1, l2⟩ := HX.out wr hW j hlt
   have hs := SM.out.items _ (List.getElem_mem hlt)
   have NS := zUB (fun e => zJd N.out hlt e)
   have NH := zUB (fun e => zGa N.out hlt e)
   have CL := zUB (zLd X[j].1 K a1 b c1 d wr i1 (HK.out wr hW) hs)
   generalize X[j] = s at *
   clear hW i1 i2 l1 l2 hs
   by_cases he : s.1 = K
   ·have E := zUB (NH.out he)
    rw [decide_eq_true he] at CL
    clear NS NH he
    go_wp2_with (go_at_call 81; refine CL.out.mono ?_; rintro e w1 ⟨rfl, hb⟩; have HB := zUB (Gr.step HW.out hb); clear hb)
    go_ret
    exact ⟨zAU E.out, HB.out⟩
   ·have E := zUB (NS.out he)
    rw [decide_eq_false he] at CL
    clear NS NH he
    go_wp2_with (go_at_call 81; refine CL.out.mono ?_; rintro e w1 ⟨rfl, hb⟩; have HB := zUB (Gr.step HW.out hb); clear hb)
    go_roundw
    case rel => exact ⟨j + 1, by omega, by go_num, E.out, HB.out⟩
    case measure => simp [intOf]; omega
  ·have E := zUB (zGb N.out hlt)
   clear hW
   go_wp2
   go_ret
   exact ⟨zAU E.out, HW.out⟩
