/- A part of the proof. -/
import Derived.Test.YtbajcecncgdpmaaGreatDoorPk47
set_option maxHeartbeats 8000000
set_option maxRecDepth 100000
set_option linter.unusedVariables false
set_option linter.unusedSimpArgs false
namespace Go.Proofs.YtbajcecncgdpmaaGreatDoor
open Go.RowKit Go.Maps
namespace Lk
open Gr (Gram Sh boxed)
open Im
open Au (upd upd_same zAB)
open Rw (Bk)
inductive Lq : Type
 | no : Lq
 | box : Lq
 | r6 : Lq
 | r7 : Lq
 | it : Lq
 | hv : Lq
 | bl : Nat -> Nat -> Lq
structure Bg where
 v6 : Value
 v7 : Value
 ai : Nat -> Option Addr
 ci : Nat -> Nat
 Y : Nat -> List Itm
 HV : Nat -> Value
 E : Nat -> Nat -> Nat
def bgb (h : Sh) (G : Gram) (aL : Option Addr) (n cL : Nat) (vF v6 v7 : Value) : Array Value := #[.slice h.a1 G.terms.length h.c1, .slice h.a2 G.nons.length h.c2, .slice h.a3 G.rules.length h.c3, .int .i64 G.start, .slice aL n cL, vF, v6, v7]
def itv (D : Bg) (i : Nat) : Value := .slice (D.ai i) (D.Y i).length (D.ci i)
structure BgP (W : World) (h : Sh) (G : Gram) (aL : Option Addr) (n cL : Nat) (vF : Value) (p j6 j7 : Nat) (D : Bg) (lab : Nat -> Lq) (w : World) : Prop where
 below : Below W.heap.size W w
 box : Bk p (bgb h G aL n cL vF D.v6 D.v7) 64 w
 row6 : w.ownsRow W.heap.size 49 1 D.v6 j6 ((List.range j6).map (itv D))
 row7 : w.ownsRow W.heap.size 66 1 D.v7 j7 ((List.range j7).map D.HV)
 its : ∀ i, i < j6 -> ItsA (D.ai i) (D.Y i) w
 ilab : ∀ i, i < j6 -> ∀ b o, D.ai i = some ⟨b, o, none⟩ -> lab b = .it
 has : ∀ i, i < j7 -> Fr.Rows W.heap.size (G.terms.length + 1) (D.Y i).length (D.E i) (D.HV i) w
 hlab : ∀ i, i < j7 -> (∀ g, (D.HV i).ownBlock = some g -> lab g = .hv) /\ ∀ k, k < (D.Y i).length -> lab (D.E i k) = .bl i k
 lp : lab p = .box
 l6 : ∀ g, D.v6.ownBlock = some g -> lab g = .r6
 l7 : ∀ g, D.v7.ownBlock = some g -> lab g = .r7
 low : ∀ b, lab b ≠ .no -> W.heap.size <= b
 inn : ∀ b, lab b ≠ .no -> b < w.heap.size
theorem zEP {base m k : Nat} {ds : Nat -> Nat} {v : Value} {w w' : World} (h : Fr.Rows base m k ds v w) (h1 : ∀ g, v.ownBlock = some g -> w'.heap[g]? = w.heap[g]?) (h2 : ∀ i, i < k -> w'.heap[ds i]? = w.heap[ds i]?) (hs : w.heap.size <= w'.heap.size) : Fr.Rows base m k ds v w' :=
 ⟨Sep.zAC h.row h1, fun i hi => (h.each i hi).block (h2 i hi) hs, h.inj, h.lo, h.off⟩
theorem zLf {base b' m k : Nat} {ds : Nat -> Nat} {v : Value} {w : World} (h : Fr.Rows base m k ds v w) (hb : b' <= base) : Fr.Rows b' m k ds v w :=
 ⟨Rw.zA7 h.row hb, h.each, h.inj, fun i hi => Nat.le_trans hb (h.lo i hi), h.off⟩
section
variable {W : World} {h : Sh} {G : Gram} {aL : Option Addr} {n cL : Nat} {vF : Value} {p j6 j7 : Nat} {D : Bg} {lab lab' : Nat -> Lq} {w w' : World} {ch : Lq -> Prop}
abbrev Cq (ch : Lq -> Prop) (lab : Nat -> Lq) (w w' : World) : Prop := Sep.Fr (fun b => ch (lab b)) w w'
theorem BgP.lab_lt (k : BgP W h G aL n cL vF p j6 j7 D lab w) {b : Nat} {L : Lq} (e : lab b = L) (hn : L ≠ .no) : b < w.heap.size := k.inn b (e ▸ hn)
theorem BgP.keep (k : BgP W h G aL n cL vF p j6 j7 D lab w) (f : Cq ch lab w w') {b : Nat} {L : Lq} (e : lab b = L) (hn : L ≠ .no) (hc : ¬ ch L) : w'.heap[b]? = w.heap[b]? := f.block b (k.lab_lt e hn) (by rw [e]; exact hc)
theorem BgP.box' (k : BgP W h G aL n cL vF p j6 j7 D lab w) (f : Cq ch lab w w') (hc : ¬ ch .box) : Bk p (bgb h G aL n cL vF D.v6 D.v7) 64 w' := (k.keep f k.lp (by intro h; cases h) hc).trans k.box
theorem BgP.row6' (k : BgP W h G aL n cL vF p j6 j7 D lab w) (f : Cq ch lab w w') (hc : ¬ ch .r6) : w'.ownsRow W.heap.size 49 1 D.v6 j6 ((List.range j6).map (itv D)) := Sep.zAC k.row6 fun g hg => k.keep f (k.l6 g hg) (by intro h; cases h) hc
theorem BgP.row7' (k : BgP W h G aL n cL vF p j6 j7 D lab w) (f : Cq ch lab w w') (hc : ¬ ch .r7) : w'.ownsRow W.heap.size 66 1 D.v7 j7 ((List.range j7).map D.HV) := Sep.zAC k.row7 fun g hg => k.keep f (k.l7 g hg) (by intro h; cases h) hc
theorem BgP.its' (k : BgP W h G aL n cL vF p j6 j7 D lab w) (f : Cq ch lab w w') (hc : ¬ ch .it) {i : Nat} (hi : i < j6) : ItsA (D.ai i) (D.Y i) w' := (k.its i hi).keep fun b o e => k.keep f (k.ilab i hi b o e) (by intro h; cases h) hc
theorem BgP.has' (k : BgP W h G aL n cL vF p j6 j7 D lab w) (f : Cq ch lab w w') (hc : ¬ ch .hv) (hb : ∀ i l, ¬ ch (.bl i l)) {i : Nat} (hi : i < j7) : Fr.Rows W.heap.size (G.terms.length + 1) (D.Y i).length (D.E i) (D.HV i) w' :=
 zEP (k.has i hi) (fun g hg => k.keep f ((k.hlab i hi).1 g hg) (by intro h; cases h) hc) (fun l hl => k.keep f ((k.hlab i hi).2 l hl) (by intro h; cases h) (hb i l)) f.size
theorem BgP.went (k : BgP W h G aL n cL vF p j6 j7 D lab w) (hb : Below w.heap.size w w') : BgP W h G aL n cL vF p j6 j7 D lab w' := by
 have f : Cq (fun _ => False) lab w w' := .of_below hb
 exact ⟨Gr.step k.below hb, k.box' f id, k.row6' f id, k.row7' f id, fun i hi => k.its' f id hi, k.ilab, fun i hi => k.has' f id (fun _ _ => id) hi, k.hlab, k.lp, k.l6, k.l7, k.low, fun b hn => Nat.lt_of_lt_of_le (k.inn b hn) hb.size⟩
theorem BgP.old (k : BgP W h G aL n cL vF p j6 j7 D lab w) (ag : ∀ b, b < w.heap.size -> lab' b = lab b) {b : Nat} {L : Lq} (e : lab b = L) (hn : L ≠ .no) : lab' b = L := (ag b (k.lab_lt e hn)).trans e
theorem BgP.new_no (k : BgP W h G aL n cL vF p j6 j7 D lab w) {b : Nat} (hb : w.heap.size <= b) : lab b = .no := by
 cases e : lab b with
 | no => rfl
 | _ =>
  have := k.inn b (by rw [e]; intro e; cases e)
  omega
theorem BgP.relab (k : BgP W h G aL n cL vF p j6 j7 D lab w) (B : Nat -> Lq) (hB : ∀ b, B b ≠ .no -> lab b = .no /\ b < w.heap.size /\ W.heap.size <= b) :
  ∃ lab', BgP W h G aL n cL vF p j6 j7 D lab' w /\ (∀ b, B b ≠ .no -> lab' b = B b) /\ ∀ b, B b = .no -> lab' b = lab b := by
 classical
 have old : ∀ b L, lab b = L -> L ≠ .no -> (if B b ≠ .no then B b else lab b) = L := fun b L e hn => by
  by_cases hb : B b ≠ .no
  ·exact absurd (e.symm.trans (hB b hb).1) hn
  ·rw [if_neg hb]
   exact e
 refine ⟨fun b => if B b ≠ .no then B b else lab b, ⟨k.below, k.box, k.row6, k.row7, k.its, fun i hi b o e => old _ _ (k.ilab i hi b o e) (by intro e; cases e), k.has, fun i hi => ⟨fun g e => old _ _ ((k.hlab i hi).1 g e) (by intro e; cases e), fun l hl => old _ _ ((k.hlab i hi).2 l hl) (by intro e; cases e)⟩, old _ _ k.lp (by intro e; cases e), fun g e => old _ _ (k.l6 g e) (by intro e; cases e), fun g e => old _ _ (k.l7 g e) (by intro e; cases e), fun b hb => ?_, fun b hb => ?_⟩, fun b hb => if_pos hb, fun b hb => if_neg (fun q => q hb)⟩
 ·by_cases e : B b ≠ .no
  ·exact (hB b e).2.2
  ·rw [if_neg e] at hb
   exact k.low b hb
 ·by_cases e : B b ≠ .no
  ·exact (hB b e).2.1
  ·rw [if_neg e] at hb
   exact k.inn b hb
def lq1 (lab : Nat -> Lq) (g : Nat) (L : Lq) : Nat -> Lq := fun b => if b = g then L else lab b
theorem zRV (lab : Nat -> Lq) (g : Nat) (L : Lq) : lq1 lab g L g = L := if_pos rfl
theorem zHl {lab : Nat -> Lq} {g b : Nat} {L : Lq} (h : b ≠ g) : lq1 lab g L b = lab b := if_neg h
theorem BgP.row_lab (k : BgP W h G aL n cL vF p j6 j7 D lab w) {L : Lq} {v v' : Value} (hL : ∀ g, v.ownBlock = some g -> lab g = L) {w1 w2 : World} (hb : w.heap.size <= w1.heap.size) (hg : w1.heap.size <= w2.heap.size) (hv' : ∀ g, v'.ownBlock = some g -> g < w2.heap.size) (hv : v'.ownBlock = v.ownBlock \/ v'.ownBlock = some w1.heap.size) :
  ∃ lab' : Nat -> Lq, (∀ b, v'.ownBlock = some b -> lab' b = L) /\ (∀ b, b < w.heap.size -> lab' b = lab b) /\ (∀ b, lab' b ≠ .no -> b < w2.heap.size) /\ ∀ b, lab' b ≠ .no -> W.heap.size <= b := by
 rcases hv with r | r
 ·exact ⟨lab, fun b e => hL b (r.symm.trans e), fun _ _ => rfl, fun b hb3 => Nat.lt_of_lt_of_le (k.inn b hb3) (Nat.le_trans hb hg), k.low⟩
 ·refine ⟨lq1 lab w1.heap.size L, fun b e => ?_, fun b hb3 => zHl (by omega), fun b hb3 => ?_, fun b hb3 => ?_⟩
  ·have e2 := r.symm.trans e
   injection e2 with e2
   rw [← e2]
   exact zRV _ _ _
  ·by_cases e : b = w1.heap.size
   ·exact e ▸ hv' _ r
   ·rw [zHl e] at hb3
    exact Nat.lt_of_lt_of_le (k.inn b hb3) (Nat.le_trans hb hg)
  ·by_cases e : b = w1.heap.size
   ·have := k.below.size
    omega
   ·rw [zHl e] at hb3
    exact k.low b hb3
theorem zQX (v u6 u7 : Value) : (bgb h G aL n cL vF u6 u7).setIfInBounds 6 v = bgb h G aL n cL vF v u7 := by simp [bgb]
theorem zNT (v u6 u7 : Value) : (bgb h G aL n cL vF u6 u7).setIfInBounds 7 v = bgb h G aL n cL vF u6 v := by simp [bgb]
theorem zI7 (u6 u7 : Value) : (bgb h G aL n cL vF u6 u7).size = 8 := rfl
theorem BgP.six_box (k : BgP W h G aL n cL vF p j6 j7 D lab w) {w1 w2 : World} (hb : Below w.heap.size w w1) (hg : w1.grownBy w2 D.v6.ownBlock) : w2.cell? ⟨p, 6, none⟩ = some D.v6 /\ w2.frozen? ⟨p, 6, none⟩ = false := by
 have f2 : Cq (fun L => L = .r6) lab w w2 := Sep.Fr.grown (Sep.Fr.of_below hb) hg fun b e => .inl (k.l6 b e)
 have hx := k.box' f2 (by intro e; cases e)
 exact ⟨hx.cell rfl, hx.free 6⟩
theorem BgP.seven_box (k : BgP W h G aL n cL vF p j6 j7 D lab w) {w1 w2 : World} (hb : Below w.heap.size w w1) (hg : w1.grownBy w2 D.v7.ownBlock) : w2.cell? ⟨p, 7, none⟩ = some D.v7 /\ w2.frozen? ⟨p, 7, none⟩ = false := by
 have f2 : Cq (fun L => L = .r7) lab w w2 := Sep.Fr.grown (Sep.Fr.of_below hb) hg fun b e => .inl (k.l7 b e)
 have hx := k.box' f2 (by intro e; cases e)
 exact ⟨hx.cell rfl, hx.free 7⟩
theorem BgP.six (k : BgP W h G aL n cL vF p j6 j7 D lab w) (h67 : j7 <= j6) {X : List Itm} {a : Option Addr} {c : Nat} (hI : ItsA a X w) (ha : ∀ b o, a = some ⟨b, o, none⟩ -> lab b = .it) {w1 w2 : World} (hb : Below w.heap.size w w1) {v' : Value}
  (hown : w2.ownsRow W.heap.size 49 1 v' (j6 + 1) ((List.range j6).map (itv D) ++ [.slice a X.length c])) (hg : w1.grownBy w2 D.v6.ownBlock) (hv : v'.ownBlock = D.v6.ownBlock \/ v'.ownBlock = some w1.heap.size) :
  ∃ lab', BgP W h G aL n cL vF p (j6 + 1) j7 { D with v6 := v', ai := upd D.ai j6 a, ci := upd D.ci j6 c, Y := upd D.Y j6 X } lab' (w2.setCell ⟨p, 6, none⟩ v') /\ (∀ b, b < w.heap.size -> lab' b = lab b) /\ Cq (fun L => L = .r6 \/ L = .box) lab w (w2.setCell ⟨p, 6, none⟩ v') := by
 have f2 : Cq (fun L => L = Lq.r6) lab w w2 := Sep.Fr.grown (Sep.Fr.of_below hb) hg fun b e => .inl (k.l6 b e)
 have f : Cq (fun L => L = Lq.r6 \/ L = Lq.box) lab w (w2.setCell ⟨p, 6, none⟩ v') := Sep.Fr.setCell (S := fun b => lab b = .r6 \/ lab b = .box) (f2.mono fun b e => .inl e) _ (.inr k.lp) _
 have hs : (w2.setCell ⟨p, 6, none⟩ v').heap.size = w2.heap.size := by simp [World.setCell]
 obtain ⟨lab', hl', ag, hin, hlo⟩ := k.row_lab k.l6 hb.size hg.size (fun g e => (hown.lt g e).2) hv
 have t2 : lab' p = .box := k.old ag k.lp (by intro e; cases e)
 have hgn : v'.ownBlock ≠ some p := fun e => by
  have := hl' p e
  rw [t2] at this
  cases this
 have hbl : Below W.heap.size W (w2.setCell ⟨p, 6, none⟩ v') := k.below.trans (f.below (fun b hb3 => k.low b (by rcases hb3 with e | e <;> rw [e] <;> intro e <;> cases e)) k.below.size)
 refine ⟨lab', ⟨hbl, ?_, ?_, k.row7' f (by rintro (e | e) <;> cases e), fun i hi => ?_, fun i hi b o e => ?_, fun i hi => ?_, fun i hi => ?_, t2, hl', fun g e => k.old ag (k.l7 g e) (by intro e; cases e), hlo, fun b hb3 => by rw [hs]; exact hin b hb3⟩, ag, f⟩
 ·have hx := (k.box' f2 (by intro e; cases e)).set (j := 6) (by rw [zI7]; omega) v'
  rw [zQX] at hx
  exact hx
 ·have e : (List.range (j6 + 1)).map (itv { D with v6 := v', ai := upd D.ai j6 a, ci := upd D.ci j6 c, Y := upd D.Y j6 X }) = (List.range j6).map (itv D) ++ [.slice a X.length c] := by
   rw [List.range_succ, List.map_append]
   congr 1
   ·refine List.map_congr_left fun i hi => ?_
    have := List.mem_range.1 hi
    show Value.slice (upd D.ai j6 a i) (upd D.Y j6 X i).length (upd D.ci j6 c i) = _
    rw [zAB (by omega), zAB (by omega), zAB (by omega)]
    rfl
   ·show [Value.slice (upd D.ai j6 a j6) (upd D.Y j6 X j6).length (upd D.ci j6 c j6)] = _
    rw [upd_same, upd_same, upd_same]
  rw [e]
  exact Sep.zAC hown fun b hb3 => Below.heap_setCell _ _ _ _ fun e2 => hgn (hb3.trans (congrArg some e2))
 ·show ItsA (upd D.ai j6 a i) (upd D.Y j6 X i) _
  by_cases e : i = j6
  ·subst e
   rw [upd_same, upd_same]
   exact hI.keep fun b o e2 => k.keep f (ha b o e2) (by intro e; cases e) (by rintro (e | e) <;> cases e)
  ·rw [zAB e, zAB e]
   exact k.its' f (by rintro (e | e) <;> cases e) (by omega)
 ·have e' : upd D.ai j6 a i = some ⟨b, o, none⟩ := e
  by_cases ek : i = j6
  ·subst ek
   rw [upd_same] at e'
   exact k.old ag (ha b o e') (by intro e; cases e)
  ·rw [zAB ek] at e'
   exact k.old ag (k.ilab i (by omega) b o e') (by intro e; cases e)
 ·show Fr.Rows _ _ (upd D.Y j6 X i).length _ _ _
  rw [zAB (by omega)]
  exact k.has' f (by rintro (e | e) <;> cases e) (fun _ _ => by rintro (e | e) <;> cases e) hi
 ·show (∀ g, (D.HV i).ownBlock = some g -> lab' g = .hv) /\ ∀ l, l < (upd D.Y j6 X i).length -> lab' (D.E i l) = .bl i l
  rw [zAB (by omega)]
  exact ⟨fun g e => k.old ag ((k.hlab i hi).1 g e) (by intro e; cases e), fun l hl => k.old ag ((k.hlab i hi).2 l hl) (by intro e; cases e)⟩
theorem BgP.seven (k : BgP W h G aL n cL vF p j6 j7 D lab w) {ds : Nat -> Nat} {hv : Value} (hR : Fr.Rows W.heap.size (G.terms.length + 1) (D.Y j7).length ds hv w) (ha : (∀ g, hv.ownBlock = some g -> lab g = .hv) /\ ∀ l, l < (D.Y j7).length -> lab (ds l) = .bl j7 l) {w1 w2 : World} (hb : Below w.heap.size w w1) {v' : Value}
  (hown : w2.ownsRow W.heap.size 66 1 v' (j7 + 1) ((List.range j7).map D.HV ++ [hv])) (hg : w1.grownBy w2 D.v7.ownBlock) (hvv : v'.ownBlock = D.v7.ownBlock \/ v'.ownBlock = some w1.heap.size) :
  ∃ lab', BgP W h G aL n cL vF p j6 (j7 + 1) { D with v7 := v', HV := upd D.HV j7 hv, E := upd D.E j7 ds } lab' (w2.setCell ⟨p, 7, none⟩ v') := by
 have f2 : Cq (fun L => L = Lq.r7) lab w w2 := Sep.Fr.grown (Sep.Fr.of_below hb) hg fun b e => .inl (k.l7 b e)
 have f : Cq (fun L => L = Lq.r7 \/ L = Lq.box) lab w (w2.setCell ⟨p, 7, none⟩ v') := Sep.Fr.setCell (S := fun b => lab b = .r7 \/ lab b = .box) (f2.mono fun b e => .inl e) _ (.inr k.lp) _
 have hs : (w2.setCell ⟨p, 7, none⟩ v').heap.size = w2.heap.size := by simp [World.setCell]
 obtain ⟨lab', hl', ag, hin, hlo⟩ := k.row_lab k.l7 hb.size hg.size (fun g e => (hown.lt g e).2) hvv
 have t2 : lab' p = .box := k.old ag k.lp (by intro e; cases e)
 have hgn : v'.ownBlock ≠ some p := fun e => by
  have := hl' p e
  rw [t2] at this
  cases this
 have hbl : Below W.heap.size W (w2.setCell ⟨p, 7, none⟩ v') := k.below.trans (f.below (fun b hb3 => k.low b (by rcases hb3 with e | e <;> rw [e] <;> intro e <;> cases e)) k.below.size)
 refine ⟨lab', hbl, ?_, k.row6' f (by rintro (e | e) <;> cases e), ?_, fun i hi => k.its' f (by rintro (e | e) <;> cases e) hi, fun i hi b o e => k.old ag (k.ilab i hi b o e) (by intro e; cases e), fun i hi => ?_, fun i hi => ?_, t2, fun g e => k.old ag (k.l6 g e) (by intro e; cases e), hl', hlo, fun b hb3 => by rw [hs]; exact hin b hb3⟩
 ·have hx := (k.box' f2 (by intro e; cases e)).set (j := 7) (by rw [zI7]; omega) v'
  rw [zNT] at hx
  exact hx
 ·have e : (List.range (j7 + 1)).map (upd D.HV j7 hv) = (List.range j7).map D.HV ++ [hv] := by
   rw [List.range_succ, List.map_append]
   congr 1
   ·refine List.map_congr_left fun i hi => ?_
    have := List.mem_range.1 hi
    rw [zAB (by omega)]
   ·rw [List.map_singleton, upd_same]
  show World.ownsRow _ _ _ _ _ _ ((List.range (j7 + 1)).map (upd D.HV j7 hv))
  rw [e]
  exact Sep.zAC hown fun b hb3 => Below.heap_setCell _ _ _ _ fun e2 => hgn (hb3.trans (congrArg some e2))
 ·show Fr.Rows _ _ (D.Y i).length (upd D.E j7 ds i) (upd D.HV j7 hv i) _
  by_cases e : i = j7
  ·subst e
   rw [upd_same, upd_same]
   exact zEP hR (fun g hg => k.keep f (ha.1 g hg) (by intro h; cases h) (by rintro (e | e) <;> cases e)) (fun l hl => k.keep f (ha.2 l hl) (by intro h; cases h) (by rintro (e | e) <;> cases e)) f.size
  ·rw [zAB e, zAB e]
   exact k.has' f (by rintro (e | e) <;> cases e) (fun _ _ => by rintro (e | e) <;> cases e) (by omega)
 ·show (∀ g, (upd D.HV j7 hv i).ownBlock = some g -> lab' g = .hv) /\ ∀ l, l < (D.Y i).length -> lab' (upd D.E j7 ds i l) = .bl i l
  by_cases e : i = j7
  ·subst e
   rw [upd_same, upd_same]
   exact ⟨fun g e => k.old ag (ha.1 g e) (by intro e; cases e), fun l hl => k.old ag (ha.2 l hl) (by intro e; cases e)⟩
  ·rw [zAB e, zAB e]
   exact ⟨fun g e2 => k.old ag ((k.hlab i (by omega)).1 g e2) (by intro e; cases e), fun l hl => k.old ag ((k.hlab i (by omega)).2 l hl) (by intro e; cases e)⟩
theorem BgP.rows_fr (k : BgP W h G aL n cL vF p j6 j7 D lab w) (f : Cq (fun L => L = .r6 \/ L = .box) lab w w') (ag : ∀ b, b < w.heap.size -> lab' b = lab b) {m i : Nat} {ds : Nat -> Nat} {hv : Value} (hR : Fr.Rows W.heap.size (G.terms.length + 1) m ds hv w) (ha : (∀ g, hv.ownBlock = some g -> lab g = .hv) /\ ∀ l, l < m -> lab (ds l) = .bl i l) :
  Fr.Rows W.heap.size (G.terms.length + 1) m ds hv w' /\ (∀ g, hv.ownBlock = some g -> lab' g = .hv) /\ ∀ l, l < m -> lab' (ds l) = .bl i l :=
 ⟨zEP hR (fun g hg => k.keep f (ha.1 g hg) (by intro h; cases h) (by rintro (e | e) <;> cases e)) (fun l hl => k.keep f (ha.2 l hl) (by intro h; cases h) (by rintro (e | e) <;> cases e)) f.size, fun g e => k.old ag (ha.1 g e) (by intro e; cases e), fun l hl => k.old ag (ha.2 l hl) (by intro e; cases e)⟩
theorem BgP.fresh {w0 : World} (k : BgP W h G aL n cL vF p j6 j7 D lab w0) (hb : Below w0.heap.size w0 w) {X : List Itm} {a : Option Addr} (hX : X ≠ []) (hI : ItsA a X w) (hn : Nw w0 a) {w1 : World} (hb1 : w0.heap.size <= w1.heap.size) (hI1 : ItsA a X w1) {ds : Nat -> Nat} {hv : Value} (hR : Fr.Rows w1.heap.size (G.terms.length + 1) X.length ds hv w) (i : Nat) :
  ∃ lab', BgP W h G aL n cL vF p j6 j7 D lab' w /\ (∀ b o, a = some ⟨b, o, none⟩ -> lab' b = .it) /\ (∀ g, hv.ownBlock = some g -> lab' g = .hv) /\ ∀ l, l < X.length -> lab' (ds l) = .bl i l := by
 classical
 have hk := k.went hb
 have hlt : ∀ {w : World}, ItsA a X w -> ∀ b o, a = some ⟨b, o, none⟩ -> b < w.heap.size := fun {w} hI b o e => by
  obtain ⟨b1, o1, e1, h1, _⟩ := hI.at 0 (List.length_pos_iff.2 hX)
  rw [e] at e1
  simp only [Option.some.injEq, Addr.mk.injEq, and_true] at e1
  obtain ⟨rfl, rfl⟩ := e1
  exact World.block_lt_of_cell? _ _ h1
 have hW : W.heap.size <= w0.heap.size := k.below.size
 have bI : ∀ b o, a = some ⟨b, o, none⟩ -> b < w1.heap.size := hlt hI1
 have bH : ∀ g, hv.ownBlock = some g -> w1.heap.size <= g /\ g < w.heap.size := fun g e => hR.row.lt g e
 have bE : ∀ l, l < X.length -> w1.heap.size <= ds l /\ ds l < w.heap.size := fun l hl => ⟨hR.lo l hl, (hR.each l hl).lt⟩
 let B : Nat -> Lq := fun b => if (∃ o, a = some ⟨b, o, none⟩) then .it else if hv.ownBlock = some b then .hv else if hl : ∃ l, l < X.length /\ ds l = b then .bl i (Classical.choose hl) else .no
 have hB : ∀ b, B b ≠ .no -> w0.heap.size <= b /\ b < w.heap.size := fun b hb2 => by
  by_cases c1 : ∃ o, a = some ⟨b, o, none⟩
  ·obtain ⟨o, e⟩ := c1
   exact ⟨hn b o e, hlt hI b o e⟩
  ·by_cases c2 : hv.ownBlock = some b
   ·have := bH b c2
    exact ⟨by omega, this.2⟩
   ·by_cases c3 : ∃ l, l < X.length /\ ds l = b
    ·obtain ⟨l, hl, rfl⟩ := c3
     have := bE l hl
     exact ⟨by omega, this.2⟩
    ·exfalso
     apply hb2
     show (if (∃ o, a = some ⟨b, o, none⟩) then Lq.it else if hv.ownBlock = some b then .hv else if hl : ∃ l, l < X.length /\ ds l = b then .bl i (Classical.choose hl) else .no) = .no
     rw [if_neg c1, if_neg c2, dif_neg c3]
 obtain ⟨lab', h1, h2, h3⟩ := hk.relab B fun b hb2 => ⟨k.new_no (hB b hb2).1, (hB b hb2).2, Nat.le_trans hW (hB b hb2).1⟩
 have use : ∀ b L, B b = L -> L ≠ .no -> lab' b = L := fun b L e hn => (h2 b (e ▸ hn)).trans e
 refine ⟨lab', h1, fun b o e => use b _ ?_ (by intro e; cases e), fun g e => use g _ ?_ (by intro e; cases e), fun l hl => use _ _ ?_ (by intro e; cases e)⟩
 ·show (if (∃ o, a = some ⟨b, o, none⟩) then Lq.it else _) = _
  rw [if_pos ⟨o, e⟩]
 ·show (if (∃ o, a = some ⟨g, o, none⟩) then Lq.it else if hv.ownBlock = some g then .hv else _) = _
  have c1 : ¬ ∃ o, a = some ⟨g, o, none⟩ := fun ⟨o, e2⟩ => by
   have := bI g o e2
   have := bH g e
   omega
  rw [if_neg c1, if_pos e]
 ·show (if (∃ o, a = some ⟨ds l, o, none⟩) then Lq.it else if hv.ownBlock = some (ds l) then .hv else if hl : ∃ m, m < X.length /\ ds m = ds l then .bl i (Classical.choose hl) else .no) = _
  have c1 : ¬ ∃ o, a = some ⟨ds l, o, none⟩ := fun ⟨o, e2⟩ => by
   have := bI _ o e2
   have := bE l hl
   omega
  have c2 : ¬ hv.ownBlock = some (ds l) := hR.off l hl
  have c3 : ∃ m, m < X.length /\ ds m = ds l := ⟨l, hl, rfl⟩
  rw [if_neg c1, if_neg c2, dif_pos c3]
  have hc := Classical.choose_spec c3
  rw [hR.inj _ _ hc.1 hl hc.2]
theorem BgP.lk (k : BgP W h G aL n cL vF p n n D lab w) (hn : 0 < n) (hY : ∀ i, i < n -> D.Y i ≠ []) : ∃ M q1 q2 k1 k2, LkAt W h G aL cL n vF D.Y M D.E p q1 q2 k1 k2 (fun _ _ _ => false) w := by
 have lie : ∀ {T : TypeId} {v : Value} {m : Nat} {xs : List Value}, w.ownsRow W.heap.size T 1 v m xs -> 0 < m -> ∃ g c, v = .slice (some ⟨g, 0, none⟩) m c /\ v.ownBlock = some g /\ ∀ i u, xs[i]? = some u -> w.cell? ⟨g, i, none⟩ = some u := fun {T v m xs} ho hm => by
  rcases ho.2 with ⟨_, h0⟩ | ⟨g, cap, cur, e1, _⟩
  ·omega
  ·subst e1
   refine ⟨g, cap, rfl, rfl, fun i u hu => ?_⟩
   have := World.ownsRow.cells ho (g := g) rfl i u hu
   rw [WideShapes.add_plain] at this
   simpa using this
 obtain ⟨q1, k1, e6, o6, c6⟩ := lie k.row6 hn
 obtain ⟨q2, k2, e7, o7, c7⟩ := lie k.row7 hn
 have rs : ∀ b, Rs n D.Y D.E b -> ∃ i l, lab b = .bl i l := fun b ⟨i, l, ⟨h1, h2⟩, e⟩ => ⟨i, l, by rw [e]; exact (k.hlab i h1).2 l h2⟩
 have off : ∀ b L, lab b = L -> (∀ i l, L ≠ .bl i l) -> ¬ Rs n D.Y D.E b := fun b L e hL hb => by
  obtain ⟨i, l, e2⟩ := rs b hb
  exact hL i l (e.symm.trans e2)
 refine ⟨fun i => ((D.HV i).ownBlock).getD 0, q1, q2, k1, k2, k.below, ?_, fun i hi => ?_, fun i hi => ?_, fun i l hi hl => ?_, fun i l j m ⟨h1, h2⟩ ⟨h3, h4⟩ e => ?_, fun i l ⟨h1, h2⟩ => (k.has i h1).lo l h2, off p _ k.lp (by intro _ _ e; cases e), off q1 _ (k.l6 _ o6) (by intro _ _ e; cases e), off q2 _ (k.l7 _ o7) (by intro _ _ e; cases e), fun i hi => ?_⟩
 ·have := k.box
  unfold bgb at this
  rw [e6, e7] at this
  exact this
 ·exact ⟨D.ai i, D.ci i, c6 i _ (by rw [List.getElem?_map, List.getElem?_range hi]; rfl), k.its i hi, fun b o e => off b _ (k.ilab i hi b o e) (by intro _ _ e; cases e)⟩
 ·have hR := k.has i hi
  obtain ⟨g, c, e, o, cs⟩ := lie hR.row (List.length_pos_iff.2 (hY i hi))
  refine ⟨some ⟨g, 0, none⟩, c, ?_, fun l hl => ⟨?_, ?_⟩⟩
  ·rw [← e]
   exact c7 i _ (by rw [List.getElem?_map, List.getElem?_range hi]; rfl)
  ·rw [o]
   rfl
  ·rw [o]
   exact cs l _ (by rw [List.getElem?_map, List.getElem?_range hl]; rfl)
 ·exact (k.has i hi).each l hl
 ·have e1 := (k.hlab i h1).2 l h2
  have e2 := (k.hlab j h3).2 m h4
  rw [e, e2] at e1
  injection e1 with e1 e3
  exact ⟨e1.symm, e3.symm⟩
 ·have hR := k.has i hi
  obtain ⟨g, c, e, o, _⟩ := lie hR.row (List.length_pos_iff.2 (hY i hi))
  rw [o]
  exact off g _ ((k.hlab i hi).1 g o) (by intro _ _ e; cases e)
theorem BgP.start (W : World) (h : Sh) (G : Gram) (aL : Option Addr) (n cL : Nat) (vF : Value) (Y : Nat -> List Itm) (p : Nat) (hp : p = W.heap.size) :
  ∃ lab, BgP W h G aL n cL vF p 0 0 ⟨.slice none 0 0, .slice none 0 0, fun _ => none, fun _ => 0, Y, fun _ => .slice none 0 0, fun _ _ => 0⟩ lab (W.alloc (.cells (bgb h G aL n cL vF (.slice none 0 0) (.slice none 0 0)) 64)) := by
 subst hp
 have nl : ∀ g, (Value.slice none 0 0).ownBlock = some g -> False := fun g e => by simp [Value.ownBlock] at e
 refine ⟨fun b => if b = W.heap.size then .box else .no, boxed _ _, Bk.new W _ _ _ rfl, World.ownsRow_nil _ _ _ _, World.ownsRow_nil _ _ _ _, fun i hi => absurd hi (Nat.not_lt_zero i), fun i hi => absurd hi (Nat.not_lt_zero i), fun i hi => absurd hi (Nat.not_lt_zero i), fun i hi => absurd hi (Nat.not_lt_zero i), if_pos rfl, fun g e => (nl g e).elim, fun g e => (nl g e).elim, fun b e => ?_, fun b e => ?_⟩
 ·by_cases c : b = W.heap.size
  ·omega
  ·rw [if_neg c] at e
   exact absurd rfl e
 ·by_cases c : b = W.heap.size
  ·rw [c]
   simp
  ·rw [if_neg c] at e
   exact absurd rfl e
theorem zGS (T : TypeId) (base q : Nat) (v : Value) (w : World) (hq : q = w.heap.size) (hb : base <= q) : (w.alloc (.cells #[v] T)).ownsRow base T 1 (.slice (some ⟨q, 0, none⟩) 1 1) 1 [v] := by
 subst hq
 exact World.ownsRow_lit w #[v] 1 hb (by decide) (by simp)
def Half (W : World) (h : Sh) (G : Gram) (aL : Option Addr) (n cL : Nat) (vF : Value) (p j : Nat) (D : Bg) (X : List Itm) (ds : Nat -> Nat) (hv : Value) (w : World) : Prop :=
 ∃ lab, BgP W h G aL n cL vF p (j + 1) j D lab w /\ D.Y j = X /\ Fr.Rows W.heap.size (G.terms.length + 1) X.length ds hv w /\ (∀ g, hv.ownBlock = some g -> lab g = .hv) /\ ∀ l, l < X.length -> lab (ds l) = .bl j l
theorem BgP.first {w0 : World} (k : BgP W h G aL n cL vF p j6 j6 D lab w0) (hb : Below w0.heap.size w0 w) {X : List Itm} {a : Option Addr} {c : Nat} (hX : X ≠ []) (hI : ItsA a X w) (hn : Nw w0 a) {w1 : World} (hb1 : w0.heap.size <= w1.heap.size) (hI1 : ItsA a X w1) {ds : Nat -> Nat} {hv : Value} (hR : Fr.Rows w1.heap.size (G.terms.length + 1) X.length ds hv w) :
  (w.alloc (.cells #[.slice a X.length c] 49)).ownsRow W.heap.size 49 1 D.v6 j6 ((List.range j6).map (itv D)) /\ (w.alloc (.cells #[.slice a X.length c] 49)).ownsRow W.heap.size 49 1 (.slice (some ⟨w.heap.size, 0, none⟩) 1 1) 1 [.slice a X.length c] /\ W.heap.size <= (w.alloc (.cells #[.slice a X.length c] 49)).heap.size /\
  ∀ v' w2, w2.ownsRow W.heap.size 49 1 v' (j6 + 1) ((List.range j6).map (itv D) ++ [.slice a X.length c]) -> (w.alloc (.cells #[.slice a X.length c] 49)).grownBy w2 D.v6.ownBlock -> (v'.ownBlock = D.v6.ownBlock \/ v'.ownBlock = some (w.alloc (.cells #[.slice a X.length c] 49)).heap.size) ->
   (w2.cell? ⟨p, 6, none⟩ = some D.v6 /\ w2.frozen? ⟨p, 6, none⟩ = false) /\ Half W h G aL n cL vF p j6 { D with v6 := v', ai := upd D.ai j6 a, ci := upd D.ci j6 c, Y := upd D.Y j6 X } X ds hv (w2.setCell ⟨p, 6, none⟩ v') := by
 obtain ⟨lab1, k1, l1, l2, l3⟩ := k.fresh hb hX hI hn hb1 hI1 hR j6
 have bl := boxed w (.cells #[.slice a X.length c] 49)
 have hW : W.heap.size <= w.heap.size := k1.below.size
 refine ⟨(k1.went bl).row6, zGS _ _ _ _ _ rfl hW, Nat.le_trans hW bl.size, fun v' w2 hown hg hv' => ⟨k1.six_box bl hg, ?_⟩⟩
 obtain ⟨lab2, k2, ag, f⟩ := k1.six (Nat.le_refl _) hI l1 bl hown hg hv'
 have hW1 : W.heap.size <= w1.heap.size := Nat.le_trans k.below.size hb1
 obtain ⟨r1, r2, r3⟩ := k1.rows_fr f ag (zLf hR hW1) ⟨l2, l3⟩
 exact ⟨lab2, k2, upd_same _ _ _, r1, r2, r3⟩
theorem Half.cell {j : Nat} {X : List Itm} {ds : Nat -> Nat} {hv : Value} (k : Half W h G aL n cL vF p j D X ds hv w) : w.cell? ⟨p, 7, none⟩ = some D.v7 := by
 obtain ⟨_, k1, _⟩ := k
 exact k1.box.cell (j := 7) rfl
theorem Half.second {j : Nat} {X : List Itm} {ds : Nat -> Nat} {hv : Value} (k : Half W h G aL n cL vF p j D X ds hv w) :
  (w.alloc (.cells #[hv] 66)).ownsRow W.heap.size 66 1 D.v7 j ((List.range j).map D.HV) /\ (w.alloc (.cells #[hv] 66)).ownsRow W.heap.size 66 1 (.slice (some ⟨w.heap.size, 0, none⟩) 1 1) 1 [hv] /\ W.heap.size <= (w.alloc (.cells #[hv] 66)).heap.size /\
  ∀ v' w2, w2.ownsRow W.heap.size 66 1 v' (j + 1) ((List.range j).map D.HV ++ [hv]) -> (w.alloc (.cells #[hv] 66)).grownBy w2 D.v7.ownBlock -> (v'.ownBlock = D.v7.ownBlock \/ v'.ownBlock = some (w.alloc (.cells #[hv] 66)).heap.size) ->
   (w2.cell? ⟨p, 7, none⟩ = some D.v7 /\ w2.frozen? ⟨p, 7, none⟩ = false) /\ ∃ lab', BgP W h G aL n cL vF p (j + 1) (j + 1) { D with v7 := v', HV := upd D.HV j hv, E := upd D.E j ds } lab' (w2.setCell ⟨p, 7, none⟩ v') := by
 obtain ⟨lab1, k1, e, r1, l2, l3⟩ := k
 subst e
 have bl := boxed w (.cells #[hv] 66)
 have hW : W.heap.size <= w.heap.size := k1.below.size
 exact ⟨(k1.went bl).row7, zGS _ _ _ _ _ rfl hW, Nat.le_trans hW bl.size, fun v' w2 hown hg hv' => ⟨k1.seven_box bl hg, k1.seven r1 ⟨l2, l3⟩ bl hown hg hv'⟩⟩
end
end Lk
namespace Lk
open Gr (Gram Sh gv GAt Bx drawn cell_later checkN)
open Im
open Au
theorem zOe : (Tryz.prog.info? 49).map (fun i => (i.zero, i.size, i.bytes)) = some (some (.slice none 0 0), 1, 24) := by kernel_rfl
theorem zPC : (Tryz.prog.info? 66).map (fun i => (i.zero, i.size, i.bytes)) = some (some (.slice none 0 0), 1, 24) := by kernel_rfl
def BegR (h : Sh) (G : Gram) (q : Whole) (aL : Option Addr) (cL : Nat) (w : World) (e : Ending) (w' : World) : Prop :=
 ∃ (W : World) (vF : Value) (Y : Nat -> List Itm) (M : Nat -> Nat) (D : Nat -> Nat -> Nat) (p q1 q2 k1 k2 : Nat) (H : Tb), e = .returned (.pointer (some ⟨p, 0, none⟩)) /\ Below w.heap.size w W /\ Base W h G q aL vF q.1.length Y /\ LkAt W h G aL cL q.1.length vF Y M D p q1 q2 k1 k2 H w' /\ SoT G q H /\ ∀ i, i < q.1.length -> ∀ x, x ∈ Y i ↔ Clo G (zAG q.1 i) x
theorem zC2 (h : Sh) (G : Gram) {q : Whole} (hv : checkN G = 0) (D : Done G q) (hlen : q.1.length <= 2000) (w : World) (k : GAt h G w) (aL : Option Addr) (cL : Nat) (hS : StaA aL (states q) w) (hsm : Small (states q)) :
  Calls Tryz.prog 19 #[gv h G, .slice aL q.1.length cL] w (BegR h G q aL cL w) := by
 have hsl : (states q).length = q.1.length := zAo D.all
 have X := zUB (Bx.start h G w 25)
 have hrl : G.rules.length <= 65536 := by
  have := (zCj (Gr.zAR hv).1).1
  omega
 have hT : G.terms.length <= 1000 := by have := (Fi.zAs hv).t; omega
 have RO := zUB (fun w1 (b : Below w.heap.size w w1) => (show Calls Tryz.prog 11 #[gv h G] w1 (fun e w' => ∃ pF, e = .returned (.pointer (some ⟨pF, 0, none⟩)) /\ Fr.WS false (.pointer (some ⟨pF, 0, none⟩)) h G (Fi.canB G) (Fi.fstB G) (Fi.folB G) w' /\ Below w1.heap.size w1 w') from (Fr.zDY h G w1 (k.went b)).mono fun e w' ⟨v, e1, h1, h2⟩ => by
  have hnl : Fi.nlB G = false := by unfold Fi.nlB; simp [hv]
  rw [hnl, show Fi.ansC G = Fi.canB G from if_pos hv, show Fi.ansF G = Fi.fstB G from if_pos hv, show Fi.ansB G = Fi.folB G from if_pos hv] at h1
  have hvp : ∃ p, v = .pointer (some ⟨p, 0, none⟩) := by
   rcases h1 with ⟨q, _⟩ | ⟨_, _, p, _, _, _, _, e, _⟩
   ·cases q
   ·exact ⟨p, e⟩
  obtain ⟨pF, rfl⟩ := hvp
  exact ⟨pF, e1, h1, h2⟩))
 have CL := zUB (fun w1 (b : Below w.heap.size w w1) (L : List Itm) (a : Option Addr) (c : Nat) (kl : ItsA a L w1) (hL : L.length <= 10000) => zFE h G hv L a c w1 (k.went b) kl hL hrl)
 have KG := zUB (fun w1 (b : Below w.heap.size w w1) => k.went b)
 have KS := zUB (fun w1 (b : Below w.heap.size w w1) => hS.went b)
 obtain ⟨i6, hj6, hx0, hx1, hx2⟩ := info_parts zOe
 obtain ⟨i7, hj7, hy0, hy1, hy2⟩ := info_parts zPC
 obtain ⟨i8, hj8, hz0, hz1, hz2⟩ := info_parts Fr.zC7
 obtain ⟨x0, x1, x2, x3⟩ := X.out.box
 unfold gv at *
 clear k hS
 go_enter Tryz.func19, Tryz.ntmps19
 go_wp2_with fail
 generalize hwA : w.alloc (.cells #[.slice h.a1 G.terms.length h.c1, .slice h.a2 G.nons.length h.c2, .slice h.a3 G.rules.length h.c3, .int .i64 G.start] 25) = wA at *
 have HQ := zUB (fun w' (b : Below wA.heap.size wA w') => (show w'.cell? ⟨w.heap.size, 0, none⟩ = some (.slice h.a1 G.terms.length h.c1) /\ w'.cell? ⟨w.heap.size, 1, none⟩ = some (.slice h.a2 G.nons.length h.c2) /\ w'.cell? ⟨w.heap.size, 2, none⟩ = some (.slice h.a3 G.rules.length h.c3) /\ w'.cell? ⟨w.heap.size, 3, none⟩ = some (.int .i64 G.start) from ⟨cell_later b x0, cell_later b x1, cell_later b x2, cell_later b x3⟩))
 have kA := drawn wA
 go_region_held3 (fun w' => w'.cell? ⟨w.heap.size, 0, none⟩ = some (.slice h.a1 G.terms.length h.c1) /\ w'.cell? ⟨w.heap.size, 1, none⟩ = some (.slice h.a2 G.nons.length h.c2) /\ w'.cell? ⟨w.heap.size, 2, none⟩ = some (.slice h.a3 G.rules.length h.c3) /\ w'.cell? ⟨w.heap.size, 3, none⟩ = some (.int .i64 G.start))
  (first | exact HQ.out _ (by assumption) | exact HQ.out _ (Below.alloc (by assumption) (Below.size (by assumption)) _))
  (first
   | (go_at_call 11; (with_reducible refine (RO.out _ (X.out.below.trans (kA.mono X.out.below.size))).mono ?_); rintro e w3 ⟨pF, rfl, hws, hb⟩; have WS3 := zUB hws; have k3 : Below wA.heap.size wA w3 := Gr.step kA hb; clear hws hb)
   | fail)
 obtain ⟨Ya, hYa⟩ : ∃ Ya : Nat -> List Itm, Ya = fun _ => [] := ⟨_, rfl⟩
 obtain ⟨lab0, hB0⟩ := BgP.start w3 h G aL q.1.length cL (.pointer (some ⟨pF, 0, none⟩)) Ya w3.heap.size rfl
 have k03 : Below w.heap.size w w3 := X.out.below.trans (k3.mono X.out.below.size)
 have K03 := zUB k03
 have B0 := zUB hB0
 have X3 := zUB (X.out.went k3)
 unfold bgb at B0
 generalize hwB : w3.alloc (.cells #[.slice h.a1 G.terms.length h.c1, .slice h.a2 G.nons.length h.c2, .slice h.a3 G.rules.length h.c3, .int .i64 G.start, .slice aL q.1.length cL, .pointer (some ⟨pF, 0, none⟩), .slice none 0 0, .slice none 0 0] 64) = wB at *
 have hmk := fun w1 => Fr.zCc (G.terms.length + 1) (by omega) w1
 rw [show ((G.terms.length + 1 : Nat) : Int) = (G.terms.length : Int) + 1 by omega] at hmk
 have hwn : IntKind.i64.wrap ((G.terms.length : Int) + 1) = (G.terms.length : Int) + 1 := IntWalk.i64_in _ (by omega)
 clear hB0 HQ kA x0 x1 x2 x3 k3 RO X k03 hwA hwB hYa
 go_wp2_with fail
 go_loopw [6] (fun t wr => ∃ (j : Nat) (B : Bg) (lab : Nat -> Lq), t = .int .i64 j /\ j <= q.1.length /\ BgP w3 h G aL q.1.length cL (.pointer (some ⟨pF, 0, none⟩)) w3.heap.size j j B lab wr /\ ∀ i, i < j -> Is (B.Y i) (Clo G (zAG q.1 i))) (fun t _ => q.1.length - (intOf t).toNat)
 case atStart => exact ⟨0, _, lab0, rfl, Nat.zero_le _, B0.out, fun i hi => absurd hi (Nat.not_lt_zero i)⟩
 case round =>
  obtain ⟨j, B, lab, rfl, hjl, hP, hC⟩ := hrel
  have P := zUB hP
  have C := zUB hC
  have XP := zUB (X3.out.went hP.below)
  clear hP hC B0
  by_cases hj : j < q.1.length
  ·have hj3 : (j : Int) < (q.1.length : Int) := by omega
   have hj0 : (0 : Int) <= (j : Int) := by omega
   have hat := zBk D.all hj
   obtain ⟨b0, o0, a1, c1, a2, c2, ea, z1, z2, i1, i2, l1, l2⟩ := (KS.out wr XP.out.below) j (by rw [hsl]; exact hj)
   have hgood := D.ok.good _ (zAb hj)
   have e1 : (states q)[j]'(by rw [hsl]; exact hj) = (zAG q.1 j, q.2.getD j []) := by
    rw [List.getElem?_eq_getElem (by rw [hsl]; exact hj)] at hat
    injection hat
   rw [e1] at z1 i1 l1
   dsimp only at z1 i1 l1
   subst ea
   have hKl : (zAG q.1 j).length <= 10000 := Nat.le_trans (zBe hgood.2.1 hgood.2.2) (Nat.le_trans (zAW hv) (by omega))
   have CI := zUB (fun w1 (b : Below wr.heap.size wr w1) => CL.out w1 (XP.out.went b).below _ a1 c1 (i1.went b) hKl)
   have HQ := zUB (fun w' (b : Below wr.heap.size wr w') => (show w'.cell? ⟨w.heap.size, 0, none⟩ = some (.slice h.a1 G.terms.length h.c1) /\ w'.cell? ⟨w.heap.size, 1, none⟩ = some (.slice h.a2 G.nons.length h.c2) /\ w'.cell? ⟨w.heap.size, 2, none⟩ = some (.slice h.a3 G.rules.length h.c3) /\ w'.cell? ⟨w.heap.size, 3, none⟩ = some (.int .i64 G.start) /\ w'.cell? ⟨b0, o0 + j * 2, none⟩ = some (.slice a1 (zAG q.1 j).length c1) from ⟨(XP.out.went b).box.x0, (XP.out.went b).box.x1, (XP.out.went b).box.x2, (XP.out.went b).box.x3, cell_later b z1⟩))
   have kA := drawn wr
   have hKn := hgood.1
   have hcl : ∀ x ∈ zAG q.1 j, Clo G (zAG q.1 j) x := fun x hx => .of hx (hgood.2.2 x hx)
   clear z1 z2 i1 i2 l1 l2 hat e1 hgood
   generalize hKm : zAG q.1 j = Km at *
   go_wp2_with fail
   go_region_held3 (fun w' => w'.cell? ⟨w.heap.size, 0, none⟩ = some (.slice h.a1 G.terms.length h.c1) /\ w'.cell? ⟨w.heap.size, 1, none⟩ = some (.slice h.a2 G.nons.length h.c2) /\ w'.cell? ⟨w.heap.size, 2, none⟩ = some (.slice h.a3 G.rules.length h.c3) /\ w'.cell? ⟨w.heap.size, 3, none⟩ = some (.int .i64 G.start) /\ w'.cell? ⟨b0, o0 + j * 2, none⟩ = some (.slice a1 Km.length c1))
    (exact HQ.out _ (by assumption))
    (first
     | (go_at_call 16; refine (CI.out _ kA).mono ?_; rintro e w4 ⟨L, a6, c6, rfl, hcc, hC, hCA, hb, hnw⟩; have HC := zUB hC; have k4 : Below wr.heap.size wr w4 := Gr.step kA hb; have IA := zUB hCA; have NW : Hid (Nw wr a6) := fun b o e2 => Nat.le_trans kA.size (hnw b o e2); clear hb hC hCA hnw)
     | fail)
   have hLn : L ≠ [] := fun e => by
    obtain ⟨x, hx⟩ := List.exists_mem_of_ne_nil _ hKn
    have := (HC.out.2 x).2 (hcl x hx)
    rw [e] at this
    cases this
   have hLl : L.length <= 2709 := Nat.le_trans (zBe HC.out.1 fun x hx => zAT ((HC.out.2 x).1 hx)) (zAW hv)
   have K4 := zUB k4
   have X4 := zUB (XP.out.went k4)
   clear HQ CI kA k4 hcl hKn hKl XP
   go_wp2_with fail
   go_loopw [8, 9] (fun v t wz => ∃ (k : Nat) (ds : Nat -> Nat), k <= L.length /\ t = .int .i64 k /\ Fr.Rows w4.heap.size (G.terms.length + 1) k ds v wz /\ Below w4.heap.size w4 wz) (fun _ t _ => L.length - (intOf t).toNat)
   case atStart => exact ⟨0, fun _ => 0, Nat.zero_le _, rfl, ⟨World.ownsRow_nil _ _ _ _, (fun i hi => absurd hi (by omega)), (fun i j hi => absurd hi (by omega)), (fun i hi => absurd hi (by omega)), (fun i hi => absurd hi (by omega))⟩, .refl _ _⟩
   case round =>
    obtain ⟨k, ds, hkl, rfl, hR, hb⟩ := hrel
    have R := zUB hR
    have B4 := zUB hb
    have hs4 := hb.size
    obtain ⟨va, vc, rfl⟩ := Rw.zAH hR.row
    have X5 := zUB (X4.out.went hb)
    obtain ⟨x0, x1, x2, x3⟩ := X5.out.box
    clear hR hb
    by_cases hlt : k < L.length
    ·have hk3 : (k : Int) < (L.length : Int) := by omega
     go_wp2_with (at_builtin; refine Rw.zAF _ rfl _ _ 66 rfl w4.heap.size 65 i8 (.slice none 0 0) 1 24 Tryz.underlying66 hj8 hz0 hz1 hz2 rfl (by decide) _ k _ rfl ((R.out.row.alloc _).alloc _) 0 (.slice (some ⟨wr.heap.size + 1, 0, none⟩) 1 1) 1 [.slice (some ⟨wr.heap.size, 0, none⟩) (G.terms.length + 1) (G.terms.length + 1)] rfl ?c0 ?c2 ?c3 ?c4 ?c5 ?_)
     case c0 =>
      have := World.ownsRow_lit (base := 0) (e := 65) (size := 1) (wr.alloc (.cells (madeCells #[.bool false] (G.terms.length + 1)) 4)) #[.slice (some ⟨wr.heap.size, 0, none⟩) (G.terms.length + 1) (G.terms.length + 1)] 1 (by omega) (by decide) rfl
      simpa using this
     case c2 => intro u hu; simp at hu; subst hu; rfl
     case c3 => unfold maxLen; omega
     case c4 => omega
     case c5 => simp; omega
     intro v' w2 hown' hgrow hl'
     have R2 := zUB (R.out.snoc rfl hs4 hown' hgrow hl')
     have B2 : Hid (Below w4.heap.size w4 w2) := ((B4.out.alloc hs4 _).alloc (by simp; omega) _).grown hgrow (by simp; omega) (fun q hq => (R.out.row.lt q hq).1)
     clear hown' hgrow hl'
     go_wp2_with fail
     go_roundw
     case rel => exact ⟨k + 1, _, by omega, by go_num, R2.out, B2.out⟩
     case measure => simp [intOf]; omega
    ·have hkk : k = L.length := by omega
     subst hkk
     obtain ⟨f1, f2, f3, f4⟩ := P.out.first (K4.out.trans (B4.out.mono K4.out.size)) hLn (IA.out.went B4.out) NW.out K4.out.size (c := c6) IA.out R.out
     have F1 := zUB f1
     have F2 := zUB f2
     have F4 := zUB f4
     obtain ⟨v6, c6', e6⟩ := Rw.zAH P.out.row6
     obtain ⟨v7, c7', e7⟩ := Rw.zAH P.out.row7
     have PW := zUB ((P.out.went (K4.out.trans (B4.out.mono K4.out.size))))
     have q6 := PW.out.box.cell (j := 6) (v := B.v6) rfl
     rw [e6] at q6 F1 F4
     clear f1 f2 f4 x0 x1 x2 x3
     go_wp2_with (first
      | (at_builtin; refine Rw.zAF _ rfl _ _ 61 rfl w3.heap.size 49 i6 (.slice none 0 0) 1 24 Tryz.underlying61 hj6 hx0 hx1 hx2 rfl (by decide) (.slice v6 j c6') j ((List.range j).map (itv B)) rfl F1.out w3.heap.size _ 1 [.slice a6 L.length c6] rfl F2.out (by simp [Value.oneCell']) (by unfold maxLen; omega) (by omega) f3 ?_; intro v8 w8 hown hg hloc; obtain ⟨⟨g6, fz6⟩, hH⟩ := F4.out v8 w8 hown hg hloc; obtain ⟨a8, c8, rfl⟩ := Rw.zAH hown; have q7 := hH.cell; obtain ⟨s1, s2, s3, s4⟩ := hH.second; dsimp only at q7 s1 s4; rw [e7] at q7 s1 s4; rw [Rw.zBo] at s2; have S1 := zUB s1; have S2 := zUB s2; have S4 := zUB s4; clear hown hg hloc hH s1 s2 s4)
      | (at_builtin; refine Rw.zAF _ rfl _ _ 62 rfl w3.heap.size 66 i7 (.slice none 0 0) 1 24 Tryz.underlying62 hj7 hy0 hy1 hy2 rfl (by decide) (.slice v7 j c7') j ((List.range j).map B.HV) rfl S1.out w3.heap.size _ 1 [.slice va L.length vc] rfl S2.out (by simp [Value.oneCell']) (by unfold maxLen; omega) (by omega) s3 ?_; intro v9 w9 hown hg hloc; obtain ⟨⟨g7, fz7⟩, hP⟩ := S4.out v9 w9 hown hg hloc; obtain ⟨a9, c9, rfl⟩ := Rw.zAH hown; have HP := zUB hP; clear hown hg hloc hP))
     obtain ⟨lab9, hP9⟩ := HP.out
     go_roundw
     case rel =>
      refine ⟨j + 1, _, lab9, by go_num, by omega, hP9, fun i hi => ?_⟩
      show Is (upd B.Y j L i) _
      by_cases e : i = j
      ·subst e
       rw [upd_same, hKm]
       exact HC.out
      ·rw [zAB e]
       exact C.out i (by omega)
     case measure => simp [intOf]; omega
  ·have hjj : j = q.1.length := by omega
   subst hjj
   have hne : ∀ i, i < q.1.length -> B.Y i ≠ [] := fun i hi e => by
    have hg := D.ok.good _ (zAb hi)
    obtain ⟨x, hx⟩ := List.exists_mem_of_ne_nil _ hg.1
    have := ((C.out i hi).2 x).2 (.of hx (hg.2.2 x hx))
    rw [e] at this
    cases this
   obtain ⟨M, q1, q2, k1, k2, hL⟩ := P.out.lk D.ok.pos hne
   have hnd : ∀ i, i < q.1.length -> (B.Y i).Nodup /\ (B.Y i).length <= 100000 := fun i hi => ⟨zCW (C.out i hi).1, Nat.le_trans (zBe (C.out i hi).1 fun x hx => zAT (((C.out i hi).2 x).1 hx)) (Nat.le_trans (zAW hv) (by omega))⟩
   have PU := zUB (zBd wr hL hnd (by omega) hT 0 ((G.rules.length : Int), 0) 0 ⟨Int.le_refl _, by omega⟩)
   have BS := zUB (show Base w3 h G q aL (.pointer (some ⟨pF, 0, none⟩)) q.1.length B.Y from ⟨hv, KG.out _ K03.out, D, KS.out _ K03.out, hsm, hsl.symm, WS3.out, zRt hv, hnd, by omega⟩)
   have SO := zUB (show SoT G q (addT q.1.length B.Y (fun _ _ _ => false) [(((0 : Nat) : Int), ((G.rules.length : Int), 0), 0)]) from by
    have hs := zG0 D hv (.start : La G q 0 ((G.rules.length : Int), 0) 0)
    refine ⟨fun i x t e => ?_, zAq.2 (.inr ⟨zB9.2 ⟨hs.1, ((C.out 0 hs.1).2 _).2 hs.2⟩, List.mem_singleton.2 rfl⟩)⟩
    rcases zAq.1 e with e | ⟨_, e⟩
    ·cases e
    ·rw [List.mem_singleton] at e
     injection e with e1 e2
     injection e2 with e2 e3
     obtain rfl : i = 0 := by omega
     rw [e2, e3]
     exact .start)
   have CM := zUB (fun i hi x => (C.out i hi).2 x)
   obtain ⟨x0, x1, x2, x3⟩ := XP.out.box
   unfold iv at PU
   dsimp only at PU
   clear hL hnd hne P C XP
   go_wp2_with (go_at_call 49; refine PU.out.mono ?_; rintro e w5 ⟨rfl, hL5, _⟩; have L5 := zUB hL5; clear hL5)
   go_ret
   exact ⟨w3, _, B.Y, M, B.E, _, q1, q2, k1, k2, _, rfl, K03.out, BS.out, L5.out, SO.out, CM.out⟩
