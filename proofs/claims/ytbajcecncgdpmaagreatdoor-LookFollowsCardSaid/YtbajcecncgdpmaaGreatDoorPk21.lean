/- A part of the proof. -/
import Derived.Test.YtbajcecncgdpmaaGreatDoorPk16
import Derived.Test.YtbajcecncgdpmaaGreatDoorPk20
set_option linter.unusedVariables false
namespace Go.Proofs.YtbajcecncgdpmaaGreatDoor
namespace Lk
open Go.RowKit Go.Maps
open Gr (Gram)
open Im
open Au
open Bt (SetAt Keeps)
open Rw (Bk)
structure Stp (lab lab' : Nat -> Lb) (w w' : World) : Prop where
 fr : Sep.Fr (fun b => lab b ≠ .no) w w'
 ext : ∀ b, lab' b ≠ .no -> lab b ≠ .no \/ w.heap.size <= b
theorem Stp.trans {l m n : Nat -> Lb} {a b c : World} (h : Stp l m a b) (k : Stp m n b c) : Stp l n a c :=
 ⟨h.fr.trans k.fr h.ext, fun x hx => by
  rcases k.ext x hx with r | r
  ·exact h.ext x r
  ·exact .inr (Nat.le_trans h.fr.size r)⟩
theorem Stp.of_below (lab : Nat -> Lb) {w w' : World} (hb : Below w.heap.size w w') : Stp lab lab w w' := ⟨.of_below hb, fun _ h => .inl h⟩
section
variable {W : World} {K : Fk} {G : Gram} {q : Whole} {N M : Nt} {lab lab' : Nat -> Lb} {cv qv cv' qv' : Value} {w w' : World} {ch : Lb -> Prop}
theorem NP.step (h : NP W K G q N lab cv qv w) (f : Ch ch lab w w') (hno : ¬ ch .no) (ag : ∀ b, b < w.heap.size -> lab' b = lab b) (hin : ∀ b, lab' b ≠ .no -> b < w'.heap.size)
  (box : Bk K.p (nb K G (states q).length cv' qv') 73 w') (row : w'.ownsRow W.heap.size 122 3 cv' M.pls.length (cells M)) (ways : ∀ k, k < M.pls.length -> w'.ownsRow W.heap.size 117 3 (M.wv k) (M.Ys k).length ((M.Ys k).flatMap yc)) (yok : ∀ k, k < M.pls.length -> ∀ y ∈ M.Ys k, YOk K G y)
  (sets : ∀ k, k < M.pls.length -> SetAt (M.D k) (M.E k) (G.terms.length + 1) (M.S k) w') (map : NMap K.mb M.pls.length (numX M.pls) w') (queue : w'.ownsRow W.heap.size 3 1 qv' M.qs.length (nivs M.qs))
  (lr : ∀ g, cv'.ownBlock = some g -> lab' g = .row) (lw : ∀ k, k < M.pls.length -> ∀ g, (M.wv k).ownBlock = some g -> lab' g = .way k) (lP : ∀ k, k < M.pls.length -> lab' (M.D k) = .sP k) (lE : ∀ k, k < M.pls.length -> lab' (M.E k) = .sE k) (lq : ∀ g, qv'.ownBlock = some g -> lab' g = .que) :
  NP W K G q M lab' cv' qv' w' /\ Stp lab lab' w w' := by
 have hp := h.lab_lt h.lp (by intro e; cases e)
 have hm := h.lab_lt h.lm (by intro e; cases e)
 refine ⟨⟨h.fr' f hno, box, row, ways, yok, sets, map, queue, (ag _ hp).trans h.lp, (ag _ hm).trans h.lm, lr, lw, lP, lE, lq, fun b hb => ?_, hin⟩, ?_, fun b hb => ?_⟩
 ·by_cases hl : b < w.heap.size
  ·rw [ag b hl] at hb
   exact h.low b hb
  ·have := h.fr.size
   exact .inr (.inr (by omega))
 ·exact f.mono fun b hb => fun e => hno (e ▸ hb)
 ·by_cases hl : b < w.heap.size
  ·rw [ag b hl] at hb
   exact .inl hb
  ·exact .inr (by omega)
theorem zA2 (h : NP W K G q N lab cv qv w) (ag : ∀ b, b < w.heap.size -> lab' b = lab b) {b : Nat} {L : Lb} (e : lab b = L) (hn : L ≠ .no) : lab' b = L := (ag b (h.lab_lt e hn)).trans e
theorem NP.lead (h : NP W K G q N lab cv qv w) {k : Nat} (hk : k < N.pls.length) {y : Way} (hy : YOk K G y) {w1 w2 : World} (hb : Below w.heap.size w w1) {v' : Value}
  (hown : w2.ownsRow W.heap.size 117 3 v' ((N.Ys k).length + 1) ((N.Ys k).flatMap yc ++ yc y)) (hg : w1.grownBy w2 (N.wv k).ownBlock) (hv : v'.ownBlock = (N.wv k).ownBlock \/ v'.ownBlock = some w1.heap.size) {g c : Nat} (hcv : cv = .slice (some ⟨g, 0, none⟩) N.pls.length c) :
  ∃ lab', NP W K G q (N.lead k y v') lab' cv qv (w2.setCell ⟨g, k * 3 + 1, none⟩ v') /\ Stp lab lab' w (w2.setCell ⟨g, k * 3 + 1, none⟩ v') := by
 subst hcv
 have hgr := h.lr g rfl
 have f : Ch (fun L => L = .way k \/ L = .row) lab w (w2.setCell ⟨g, k * 3 + 1, none⟩ v') := by
  refine Sep.Fr.setCell (S := fun b => lab b = .way k \/ lab b = .row) ?_ _ (.inr hgr) _
  exact Sep.Fr.grown (Sep.Fr.of_below hb) hg fun b hb2 => .inl (.inl (h.lw k hk b hb2))
 have no : ¬ ((fun L => L = Lb.way k \/ L = Lb.row) Lb.no) := by rintro (e | e) <;> cases e
 have hgv : ∀ b, v'.ownBlock = some b -> b < w2.heap.size /\ W.heap.size <= b := fun b e => ⟨(hown.lt b e).2, (hown.lt b e).1⟩
 have hs : (w2.setCell ⟨g, k * 3 + 1, none⟩ v').heap.size = w2.heap.size := by simp [World.setCell]
 have hgn : v'.ownBlock ≠ some g := fun e => by
  rcases hv with r | r
  ·have := h.lw k hk g (r.symm.trans e)
   rw [hgr] at this
   cases this
  ·have e2 := r.symm.trans e
   injection e2 with e2
   have := h.lab_lt hgr (by intro e; cases e)
   have := hb.size
   omega
 have f2 : Ch (fun L => L = .way k) lab w w2 := Sep.Fr.grown (Sep.Fr.of_below hb) hg fun b hb2 => .inl (h.lw k hk b hb2)
 have hrow2 : w2.ownsRow W.heap.size 122 3 (.slice (some ⟨g, 0, none⟩) N.pls.length c) N.pls.length (cells N) := h.row' f2 (by intro e; cases e)
 obtain ⟨lab', hl', ag, hin⟩ : ∃ lab' : Nat -> Lb, (∀ b, v'.ownBlock = some b -> lab' b = .way k) /\ (∀ b, b < w.heap.size -> lab' b = lab b) /\ ∀ b, lab' b ≠ .no -> b < w2.heap.size := by
  rcases hv with r | r
  ·exact ⟨lab, fun b e => h.lw k hk b (r.symm.trans e), fun _ _ => rfl, fun b hb3 => Nat.lt_of_lt_of_le (h.inn b hb3) (Nat.le_trans hb.size hg.size)⟩
  ·refine ⟨lab1 lab w1.heap.size (.way k), fun b e => ?_, fun b hb3 => zAi (by have := hb.size; omega), fun b hb3 => ?_⟩
   ·have e2 := r.symm.trans e
    injection e2 with e2
    rw [← e2]
    exact zCL _ _ _
   ·by_cases e : b = w1.heap.size
    ·exact e ▸ (hgv _ r).1
    ·rw [zAi e] at hb3
     exact Nat.lt_of_lt_of_le (h.inn b hb3) (Nat.le_trans hb.size hg.size)
 refine ⟨lab', h.step f no ag (fun b hb3 => by rw [hs]; exact hin b hb3) (h.box' f (by rintro (e | e) <;> cases e)) ?_ (fun a ha => ?_) (fun a ha z hz => ?_) (fun a ha => h.sets' f ha (by rintro (e | e) <;> cases e) (by rintro (e | e) <;> cases e)) (h.map' f (by rintro (e | e) <;> cases e)) (h.queue' f (by rintro (e | e) <;> cases e)) (fun b e => zA2 h ag (h.lr b e) (by intro e; cases e)) (fun a ha b e => ?_) (fun a ha => zA2 h ag (h.lP a ha) (by intro e; cases e)) (fun a ha => zA2 h ag (h.lE a ha) (by intro e; cases e)) (fun b e => zA2 h ag (h.lq b e) (by intro e; cases e))⟩
 ·have := (World.ownsRow.stored hrow2 (k * 3 + 1) v').1
  have e := zGH (N := N) (M := N.lead k y v') rfl hk (i := 1) (u := v') (by omega) (fun a ha => by
   show [_, upd N.wv k v' a, _] = _
   rw [zAC ha]
   rfl) (by
   show [_, upd N.wv k v' k, _] = _
   rw [upd_same]
   rfl)
  rw [e] at this
  exact this
 ·show (w2.setCell ⟨g, k * 3 + 1, none⟩ v').ownsRow _ _ 3 (upd N.wv k v' a) (upd N.Ys k (N.Ys k ++ [y]) a).length ((upd N.Ys k (N.Ys k ++ [y]) a).flatMap yc)
  by_cases e : a = k
  ·subst e
   rw [upd_same, upd_same, List.length_append, List.flatMap_append]
   refine Sep.zAE (w := w2) (by simpa using hown) fun b hb3 => Below.heap_setCell _ _ _ _ fun e2 => ?_
   exact hgn (hb3.trans (congrArg some e2))
  ·rw [zAC e, zAC e]
   refine h.ways' f ha ?_
   rintro (e2 | e2)
   ·injection e2 with e2
    exact e e2
   ·cases e2
 ·have hz' : z ∈ upd N.Ys k (N.Ys k ++ [y]) a := hz
  by_cases e : a = k
  ·subst e
   rw [upd_same] at hz'
   rcases List.mem_append.1 hz' with r | r
   ·exact h.yok a ha z r
   ·rw [List.mem_singleton] at r
    exact r ▸ hy
  ·rw [zAC e] at hz'
   exact h.yok a ha z hz'
 ·have e' : (upd N.wv k v' a).ownBlock = some b := e
  by_cases ea : a = k
  ·subst ea
   rw [upd_same] at e'
   exact hl' b e'
  ·rw [zAC ea] at e'
   exact zA2 h ag (h.lw a ha b e') (by intro e; cases e)
theorem NP.wrote (h : NP W K G q N lab cv qv w) {k : Nat} (hk : k < N.pls.length) {B : Nat -> Bool} (hs : SetAt (N.D k) (N.E k) (G.terms.length + 1) B w') (hK : Keeps (N.E k) w w') :
  NP W K G q { N with S := upd N.S k B } lab cv qv w' /\ Stp lab lab w w' := by
 have f : Ch (fun L => L = .sE k) lab w w' := ⟨hK.os, hK.tape, hK.output, hK.size, fun b hb hc => hK.block b hb fun e => hc (e ▸ h.lE k hk)⟩
 refine h.step f (by intro e; cases e) (fun _ _ => rfl) (fun b hb => Nat.lt_of_lt_of_le (h.inn b hb) hK.size) (h.box' f (by intro e; cases e)) (h.row' f (by intro e; cases e)) (fun a ha => h.ways' f ha (by intro e; cases e)) h.yok (fun a ha => ?_) (h.map' f (by intro e; cases e)) (h.queue' f (by intro e; cases e)) h.lr h.lw h.lP h.lE h.lq
 show SetAt (N.D a) (N.E a) _ (upd N.S k B a) w'
 by_cases e : a = k
 ·subst e
  rw [upd_same]
  exact hs
 ·rw [zAC e]
  exact h.sets' f ha (by intro e; cases e) (by intro e2; injection e2 with e2; exact e e2)
theorem NP.wait (h : NP W K G q N lab cv qv w) {k : Nat} (hk : k < N.pls.length) {g c : Nat} (hcv : cv = .slice (some ⟨g, 0, none⟩) N.pls.length c) (b : Bool) :
  NP W K G q { N with Wt := upd N.Wt k b } lab cv qv (w.setCell ⟨g, k * 3 + 2, none⟩ (.bool b)) /\ Stp lab lab w (w.setCell ⟨g, k * 3 + 2, none⟩ (.bool b)) := by
 subst hcv
 have hgr := h.lr g rfl
 have f : Ch (fun L => L = .row) lab w (w.setCell ⟨g, k * 3 + 2, none⟩ (.bool b)) := Sep.Fr.setCell (S := fun b => lab b = .row) (.refl _ _) _ hgr _
 have hs : (w.setCell ⟨g, k * 3 + 2, none⟩ (.bool b)).heap.size = w.heap.size := by simp [World.setCell]
 refine h.step f (by intro e; cases e) (fun _ _ => rfl) (fun b hb => by rw [hs]; exact h.inn b hb) (h.box' f (by intro e; cases e)) ?_ (fun a ha => h.ways' f ha (by intro e; cases e)) h.yok (fun a ha => h.sets' f ha (by intro e; cases e) (by intro e; cases e)) (h.map' f (by intro e; cases e)) (h.queue' f (by intro e; cases e)) h.lr h.lw h.lP h.lE h.lq
 have := (World.ownsRow.stored h.row (k * 3 + 2) (.bool b)).1
 have e := zGH (N := N) (M := { N with Wt := upd N.Wt k b }) rfl hk (i := 2) (u := .bool b) (by omega) (fun a ha => by
  show [_, _, Value.bool (upd N.Wt k b a)] = _
  rw [zAC ha]
  rfl) (by
  show [_, _, Value.bool (upd N.Wt k b k)] = _
  rw [upd_same]
  rfl)
 rw [e] at this
 exact this
theorem zPB (K : Fk) (G : Gram) (n : Nat) (cv qv u : Value) : (nb K G n cv qv).setIfInBounds 7 u = nb K G n cv u := by simp [nb]
theorem zRj (K : Fk) (G : Gram) (n : Nat) (cv qv u : Value) : (nb K G n cv qv).setIfInBounds 5 u = nb K G n u qv := by simp [nb]
theorem zHX (K : Fk) (G : Gram) (n : Nat) (cv qv : Value) : (nb K G n cv qv).size = 8 := rfl
theorem NP.push (h : NP W K G q N lab cv qv w) {w1 w2 : World} (hb : Below w.heap.size w w1) {k : Nat} (hown : w2.ownsRow W.heap.size 3 1 qv' (N.qs.length + 1) (nivs N.qs ++ [.int .i64 (k : Int)])) (hg : w1.grownBy w2 qv.ownBlock) (hv : qv'.ownBlock = qv.ownBlock \/ qv'.ownBlock = some w1.heap.size) :
  ∃ lab', NP W K G q { N with qs := N.qs ++ [k] } lab' cv qv' (w2.setCell ⟨K.p, 7, none⟩ qv') /\ Stp lab lab' w (w2.setCell ⟨K.p, 7, none⟩ qv') := by
 have f2 : Ch (fun L => L = .que) lab w w2 := Sep.Fr.grown (Sep.Fr.of_below hb) hg fun b hb2 => .inl (h.lq b hb2)
 have f : Ch (fun L => L = .que \/ L = .box) lab w (w2.setCell ⟨K.p, 7, none⟩ qv') := Sep.Fr.setCell (S := fun b => lab b = .que \/ lab b = .box) (f2.mono fun b e => .inl e) _ (.inr h.lp) _
 have no : ¬ ((fun L => L = Lb.que \/ L = Lb.box) Lb.no) := by rintro (e | e) <;> cases e
 have hs : (w2.setCell ⟨K.p, 7, none⟩ qv').heap.size = w2.heap.size := by simp [World.setCell]
 have hgn : qv'.ownBlock ≠ some K.p := fun e => by
  rcases hv with r | r
  ·have := h.lq K.p (r.symm.trans e)
   rw [h.lp] at this
   cases this
  ·have e2 := r.symm.trans e
   injection e2 with e2
   have := h.lab_lt h.lp (by intro e; cases e)
   have := hb.size
   omega
 obtain ⟨lab', hl', ag, hin⟩ : ∃ lab' : Nat -> Lb, (∀ b, qv'.ownBlock = some b -> lab' b = .que) /\ (∀ b, b < w.heap.size -> lab' b = lab b) /\ ∀ b, lab' b ≠ .no -> b < w2.heap.size := by
  rcases hv with r | r
  ·exact ⟨lab, fun b e => h.lq b (r.symm.trans e), fun _ _ => rfl, fun b hb3 => Nat.lt_of_lt_of_le (h.inn b hb3) (Nat.le_trans hb.size hg.size)⟩
  ·refine ⟨lab1 lab w1.heap.size .que, fun b e => ?_, fun b hb3 => zAi (by have := hb.size; omega), fun b hb3 => ?_⟩
   ·have e2 := r.symm.trans e
    injection e2 with e2
    rw [← e2]
    exact zCL _ _ _
   ·by_cases e : b = w1.heap.size
    ·exact e ▸ (hown.lt _ r).2
    ·rw [zAi e] at hb3
     exact Nat.lt_of_lt_of_le (h.inn b hb3) (Nat.le_trans hb.size hg.size)
 refine ⟨lab', h.step f no ag (fun b hb3 => by rw [hs]; exact hin b hb3) ?_ (h.row' f (by rintro (e | e) <;> cases e)) (fun a ha => h.ways' f ha (by rintro (e | e) <;> cases e)) h.yok (fun a ha => h.sets' f ha (by rintro (e | e) <;> cases e) (by rintro (e | e) <;> cases e)) (h.map' f (by rintro (e | e) <;> cases e)) ?_ (fun b e => zA2 h ag (h.lr b e) (by intro e; cases e)) (fun a ha b e => zA2 h ag (h.lw a ha b e) (by intro e; cases e)) (fun a ha => zA2 h ag (h.lP a ha) (by intro e; cases e)) (fun a ha => zA2 h ag (h.lE a ha) (by intro e; cases e)) hl'⟩
 ·have hx : Bk K.p (nb K G (states q).length cv qv) 73 w2 := h.box' f2 (by intro e; cases e)
  have := hx.set (j := 7) (by rw [zHX]; omega) qv'
  rw [zPB] at this
  exact this
 ·show (w2.setCell ⟨K.p, 7, none⟩ qv').ownsRow _ _ 1 qv' (N.qs ++ [k]).length (nivs (N.qs ++ [k]))
  rw [List.length_append, show nivs (N.qs ++ [k]) = nivs N.qs ++ [.int .i64 (k : Int)] by simp [nivs]]
  exact Sep.zAE hown fun b hb3 => Below.heap_setCell _ _ _ _ fun e2 => hgn (hb3.trans (congrArg some e2))
theorem NP.shift (h : NP W K G q N lab cv qv w) {a : Option Addr} {c : Nat} (hq : qv = .slice a N.qs.length c) (h0 : 0 < N.qs.length) :
  NP W K G q { N with qs := N.qs.dropLast } lab cv (.slice a (N.qs.length - 1) c) (w.setCell ⟨K.p, 7, none⟩ (.slice a (N.qs.length - 1) c)) /\ Stp lab lab w (w.setCell ⟨K.p, 7, none⟩ (.slice a (N.qs.length - 1) c)) := by
 have f : Ch (fun L => L = .box) lab w (w.setCell ⟨K.p, 7, none⟩ (.slice a (N.qs.length - 1) c)) := Sep.Fr.setCell (S := fun b => lab b = .box) (.refl _ _) _ h.lp _
 have hs : (w.setCell ⟨K.p, 7, none⟩ (.slice a (N.qs.length - 1) c)).heap.size = w.heap.size := by simp [World.setCell]
 have hqr := h.queue
 have hlq := h.lq
 rw [hq] at hqr hlq
 rcases hqr.2 with ⟨_, h1⟩ | ⟨g, cap, cur, e, hbs, hg, hnc, hcm, hcs, htake⟩
 ·omega
 ·simp only [Value.slice.injEq, true_and] at e
  obtain ⟨rfl, rfl⟩ := e
  have hgb : lab g = .que := hlq g rfl
  refine h.step f (by intro e; cases e) (fun _ _ => rfl) (fun b hb => by rw [hs]; exact h.inn b hb) ?_ (h.row' f (by intro e; cases e)) (fun a ha => h.ways' f ha (by intro e; cases e)) h.yok (fun a ha => h.sets' f ha (by intro e; cases e) (by intro e; cases e)) (h.map' f (by intro e; cases e)) ?_ h.lr h.lw h.lP h.lE (fun b e => ?_)
  ·have := h.box.set (j := 7) (by rw [zHX]; omega) (.slice (some ⟨g, 0, none⟩) (N.qs.length - 1) c)
   rw [zPB] at this
   exact this
  ·show (w.setCell ⟨K.p, 7, none⟩ (.slice (some ⟨g, 0, none⟩) (N.qs.length - 1) c)).ownsRow _ _ 1 (.slice (some ⟨g, 0, none⟩) (N.qs.length - 1) c) N.qs.dropLast.length (nivs N.qs.dropLast)
   have hgp : g ≠ K.p := fun e => by rw [e, h.lp] at hgb; cases hgb
   refine Sep.zAE (w := w) ?_ fun b hb3 => Below.heap_setCell _ _ _ _ fun e2 => ?_
   ·rw [List.length_dropLast]
    refine ⟨by rw [zDh, List.length_dropLast]; omega, .inr ⟨g, c, cur, rfl, hbs, hg, by omega, hcm, hcs, ?_⟩⟩
    have e1 : nivs N.qs.dropLast = (nivs N.qs).take (N.qs.length - 1) := by
     unfold nivs
     rw [List.dropLast_eq_take, List.map_take]
    rw [e1, ← htake, List.take_take]
    congr 1
    omega
   ·simp only [Value.ownBlock, Option.some.injEq] at hb3
    exact hgp (hb3.trans e2)
  ·exact hlq b (by simpa [Value.ownBlock] using e)
theorem NP.more (h : NP W K G q N lab cv qv w) {x : Pl} (hx : x ∉ N.pls) {w1 w2 w3 : World} (hm : NMap K.mb (N.pls.length + 1) (fun y => if y = x then some (N.pls.length : Int) else numX N.pls y) w1) (ht : w.mapTurned w1 K.mb)
  {P D : Nat} (hs : SetAt P D (G.terms.length + 1) (fun _ => false) w2) (hP : w1.heap.size <= P) (hD : w1.heap.size <= D) (hb : Below w1.heap.size w1 w2) {w2' : World} (hb2 : Below w2.heap.size w2 w2') {cv' : Value}
  (hown : w3.ownsRow W.heap.size 122 3 cv' (N.pls.length + 1) (cells N ++ [.pointer (some ⟨P, 0, none⟩), .slice none 0 0, .bool false])) (hg : w2'.grownBy w3 cv.ownBlock) (hv : cv'.ownBlock = cv.ownBlock \/ cv'.ownBlock = some w2'.heap.size) :
  ∃ lab', NP W K G q (N.cell x P D) lab' cv' qv (w3.setCell ⟨K.p, 5, none⟩ cv') /\ Stp lab lab' w (w3.setCell ⟨K.p, 5, none⟩ cv') := by
 have hsz := (zBV ht).size
 have hsz2 := hb.size
 have hsz3 := hb2.size
 have hsz4 := hg.size
 have fm : Ch (fun L => L = .map) lab w w1 := (zBV ht).mono fun b e => by rw [e]; exact h.lm
 have f1 : Ch (fun L => L = .map) lab w w2' := (fm.trans (T := fun _ => False) (Sep.Fr.of_below hb) (fun b e => e.elim)).trans (T := fun _ => False) (Sep.Fr.of_below hb2) (fun b e => e.elim)
 have f2 : Ch (fun L => L = .map \/ L = .row) lab w w3 := Sep.Fr.grown (f1.mono fun b e => .inl e) hg fun b e => .inl (.inr (h.lr b e))
 have f : Ch (fun L => L = .map \/ L = .row \/ L = .box) lab w (w3.setCell ⟨K.p, 5, none⟩ cv') := Sep.Fr.setCell (S := fun b => lab b = .map \/ lab b = .row \/ lab b = .box) (f2.mono fun b e => e.imp id .inl) _ (.inr (.inr h.lp)) _
 have no : ¬ ((fun L => L = Lb.map \/ L = Lb.row \/ L = Lb.box) Lb.no) := by rintro (e | e | e) <;> cases e
 have hsc : (w3.setCell ⟨K.p, 5, none⟩ cv').heap.size = w3.heap.size := by simp [World.setCell]
 have hpl := h.lab_lt h.lp (by intro e; cases e)
 have hml := h.lab_lt h.lm (by intro e; cases e)
 have hgn : cv'.ownBlock ≠ some K.p := fun e => by
  rcases hv with r | r
  ·have := h.lr K.p (r.symm.trans e)
   rw [h.lp] at this
   cases this
  ·have e2 := r.symm.trans e
   injection e2 with e2
   omega
 have st : ∀ b, b < w2'.heap.size -> cv.ownBlock ≠ some b -> b ≠ K.p -> (w3.setCell ⟨K.p, 5, none⟩ cv').heap[b]? = w2'.heap[b]? := fun b hb3 e e2 => (Below.heap_setCell _ _ _ _ e2).trans (hg.block b hb3 fun e3 => e e3.symm)
 have nrow : ∀ b, w.heap.size <= b -> cv.ownBlock ≠ some b := fun b hb3 e => by
  have := h.lab_lt (h.lr b e) (by intro e; cases e)
  omega
 have hPD := hs.apart
 obtain ⟨lab', hl', hlP, hlD, ag, hin⟩ : ∃ lab' : Nat -> Lb, (∀ b, cv'.ownBlock = some b -> lab' b = .row) /\ lab' P = .sP N.pls.length /\ lab' D = .sE N.pls.length /\ (∀ b, b < w.heap.size -> lab' b = lab b) /\ ∀ b, lab' b ≠ .no -> b < w3.heap.size := by
  have hPl := hs.inp
  have hDl := hs.ind
  have base : ∀ b, b < w.heap.size -> lab1 (lab1 lab P (.sP N.pls.length)) D (.sE N.pls.length) b = lab b := fun b hb3 => by
   rw [zAi (by omega), zAi (by omega)]
  have bin : ∀ b, lab1 (lab1 lab P (.sP N.pls.length)) D (.sE N.pls.length) b ≠ .no -> b < w3.heap.size := fun b hb3 => by
   by_cases e : b = D
   ·omega
   ·rw [zAi e] at hb3
    by_cases e2 : b = P
    ·omega
    ·rw [zAi e2] at hb3
     have := h.inn b hb3
     omega
  have bP : lab1 (lab1 lab P (.sP N.pls.length)) D (.sE N.pls.length) P = .sP N.pls.length := by rw [zAi hPD, zCL]
  rcases hv with r | r
  ·exact ⟨_, fun b e => (base b (h.lab_lt (h.lr b (r.symm.trans e)) (by intro e; cases e))).trans (h.lr b (r.symm.trans e)), bP, zCL _ _ _, base, bin⟩
  ·have hr := (hown.lt _ r).2
   refine ⟨lab1 (lab1 (lab1 lab P (.sP N.pls.length)) D (.sE N.pls.length)) w2'.heap.size .row, fun b e => ?_, ?_, ?_, fun b hb3 => ?_, fun b hb3 => ?_⟩
   ·have e2 := r.symm.trans e
    injection e2 with e2
    rw [← e2]
    exact zCL _ _ _
   ·rw [zAi (by omega)]
    exact bP
   ·rw [zAi (by omega)]
    exact zCL _ _ _
   ·rw [zAi (by omega)]
    exact base b hb3
   ·by_cases e : b = w2'.heap.size
    ·exact e ▸ hr
    ·rw [zAi e] at hb3
     exact bin b hb3
 have hlen : (N.cell x P D).pls.length = N.pls.length + 1 := by
  show (N.pls ++ [x]).length = _
  simp
 refine ⟨lab', h.step f no ag (fun b hb3 => by rw [hsc]; exact hin b hb3) ?_ ?_ (fun a ha => ?_) (fun a ha z hz => ?_) (fun a ha => ?_) ?_ (h.queue' f (by rintro (e | e | e) <;> cases e)) hl' (fun a ha b e => ?_) (fun a ha => ?_) (fun a ha => ?_) (fun b e => zA2 h ag (h.lq b e) (by intro e; cases e))⟩
 ·have hx : Bk K.p (nb K G (states q).length cv qv) 73 w3 := h.box' f2 (by rintro (e | e) <;> cases e)
  have := hx.set (j := 5) (by rw [zHX]; omega) cv'
  rw [zRj] at this
  exact this
 ·rw [hlen]
  have e1 : cells (N.cell x P D) = cells N ++ [.pointer (some ⟨P, 0, none⟩), .slice none 0 0, .bool false] := by
   unfold cells
   rw [hlen, List.range_succ, List.flatMap_append]
   congr 1
   ·have : ∀ l : List Nat, (∀ k ∈ l, k < N.pls.length) -> l.flatMap (cc (N.cell x P D)) = l.flatMap (cc N) := fun l hl => by
     induction l with
     | nil => rfl
     | cons a l ih =>
      have ha := hl a (List.mem_cons_self ..)
      rw [List.flatMap_cons, List.flatMap_cons, ih fun k hk => hl k (List.mem_cons_of_mem _ hk)]
      congr 1
      show [Value.pointer (some ⟨upd N.D N.pls.length P a, 0, none⟩), upd N.wv N.pls.length (.slice none 0 0) a, Value.bool (upd N.Wt N.pls.length false a)] = cc N a
      rw [zAC (by omega), zAC (by omega), zAC (by omega)]
      rfl
    exact this _ fun k hk => List.mem_range.1 hk
   ·show [Value.pointer (some ⟨upd N.D N.pls.length P N.pls.length, 0, none⟩), upd N.wv N.pls.length (.slice none 0 0) N.pls.length, Value.bool (upd N.Wt N.pls.length false N.pls.length)] ++ [] = _
    rw [upd_same, upd_same, upd_same]
    rfl
  rw [e1]
  exact Sep.zAE hown fun b hb3 => Below.heap_setCell _ _ _ _ fun e2 => hgn (hb3.trans (congrArg some e2))
 ·rw [hlen] at ha
  show (w3.setCell ⟨K.p, 5, none⟩ cv').ownsRow _ _ 3 (upd N.wv N.pls.length (.slice none 0 0) a) (upd N.Ys N.pls.length [] a).length ((upd N.Ys N.pls.length [] a).flatMap yc)
  by_cases e : a = N.pls.length
  ·subst e
   rw [upd_same, upd_same]
   exact World.ownsRow_nil _ _ _ _
  ·rw [zAC e, zAC e]
   exact h.ways' f (by omega) (by rintro (e | e | e) <;> cases e)
 ·rw [hlen] at ha
  have hz' : z ∈ upd N.Ys N.pls.length [] a := hz
  by_cases e : a = N.pls.length
  ·subst e
   rw [upd_same] at hz'
   cases hz'
  ·rw [zAC e] at hz'
   exact h.yok a (by omega) z hz'
 ·rw [hlen] at ha
  show SetAt (upd N.D N.pls.length P a) (upd N.E N.pls.length D a) _ (upd N.S N.pls.length (fun _ => false) a) _
  by_cases e : a = N.pls.length
  ·subst e
   rw [upd_same, upd_same, upd_same]
   have h1 := hs.inp
   have h2 := hs.ind
   refine hs.keep (by rw [hsc]; omega) ?_ ?_
   ·exact (st P (by omega) (nrow P (by omega)) (by omega)).trans (hb2.block P h1)
   ·exact (st D (by omega) (nrow D (by omega)) (by omega)).trans (hb2.block D h2)
  ·rw [zAC e, zAC e, zAC e]
   exact h.sets' f (by omega) (by rintro (e | e | e) <;> cases e) (by rintro (e | e | e) <;> cases e)
 ·have e1 : NMap K.mb (N.pls.length + 1) (numX (N.pls ++ [x])) w1 := hm.eq fun y => (zLi hx y).symm
  rw [hlen]
  refine e1.keep ?_
  have hne : cv.ownBlock ≠ some K.mb := fun e => by
   have := h.lr K.mb e
   rw [h.lm] at this
   cases this
  have hpm : K.mb ≠ K.p := fun e => by
   have := h.lm
   rw [e, h.lp] at this
   cases this
  exact (st K.mb (by omega) hne hpm).trans ((hb2.block K.mb (by omega)).trans (hb.block K.mb (by omega)))
 ·rw [hlen] at ha
  have e' : (upd N.wv N.pls.length (.slice none 0 0) a).ownBlock = some b := e
  by_cases ea : a = N.pls.length
  ·subst ea
   rw [upd_same] at e'
   cases e'
  ·rw [zAC ea] at e'
   exact zA2 h ag (h.lw a (by omega) b e') (by intro e; cases e)
 ·rw [hlen] at ha
  show lab' (upd N.D N.pls.length P a) = _
  by_cases e : a = N.pls.length
  ·subst e
   rw [upd_same]
   exact hlP
  ·rw [zAC e]
   exact zA2 h ag (h.lP a (by omega)) (by intro e; cases e)
 ·rw [hlen] at ha
  show lab' (upd N.E N.pls.length D a) = _
  by_cases e : a = N.pls.length
  ·subst e
   rw [upd_same]
   exact hlD
  ·rw [zAC e]
   exact zA2 h ag (h.lE a (by omega)) (by intro e; cases e)
end
def NAt (W : World) (K : Fk) (G : Gram) (q : Whole) (N : Nt) (S : Nat -> Prop) (w : World) : Prop := ∃ lab cv qv, NP W K G q N lab cv qv w /\ S = fun b => lab b ≠ .no
def NWr (W : World) (K : Fk) (G : Gram) (q : Whole) (M : Nt) (r : Value) (S : Nat -> Prop) (w : World) (e : Ending) (w' : World) : Prop := e = .returned r /\ ∃ T, NAt W K G q M T w' /\ Sep.Fr S w w' /\ Sep.Ext T S w
theorem NAt.went {W : World} {K : Fk} {G : Gram} {q : Whole} {N : Nt} {S : Nat -> Prop} {w w' : World} (h : NAt W K G q N S w) (hb : Below w.heap.size w w') : NAt W K G q N S w' := by
 obtain ⟨lab, cv, qv, h, e⟩ := h
 exact ⟨lab, cv, qv, h.went hb, e⟩
theorem NAt.inn {W : World} {K : Fk} {G : Gram} {q : Whole} {N : Nt} {S : Nat -> Prop} {w : World} (h : NAt W K G q N S w) : Sep.Inn S w := by
 obtain ⟨lab, cv, qv, h, rfl⟩ := h
 exact h.inn
theorem NAt.fr {W : World} {K : Fk} {G : Gram} {q : Whole} {N : Nt} {S : Nat -> Prop} {w : World} (h : NAt W K G q N S w) : Sep.Fr (PM K) W w := by
 obtain ⟨lab, cv, qv, h, e⟩ := h
 exact h.fr
