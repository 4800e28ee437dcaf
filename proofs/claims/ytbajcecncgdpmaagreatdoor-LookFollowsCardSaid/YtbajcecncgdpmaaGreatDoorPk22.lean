/- A part of the proof. -/
import Derived.Test.YtbajcecncgdpmaaGreatDoorPk21
import Derived.Deep.LoopGhost
set_option maxHeartbeats 4000000
set_option maxRecDepth 100000
set_option linter.unusedVariables false
namespace Go.Proofs.YtbajcecncgdpmaaGreatDoor
namespace Lk
open Go.RowKit Go.Maps
open Gr (Gram)
open Im
open Au
open Bt (orr gains)
open Rw (Bk)
section
variable {W : World} {K : Fk} {G : Gram} {q : Whole} {N M : Nt} {lab lab' : Nat -> Lb} {cv qv cv' qv' : Value} {w w' : World} {ch : Lb -> Prop}
theorem NP.cellg {g c n : Nat} (h : NP W K G q N lab (.slice (some ⟨g, 0, none⟩) n c) qv w) {k : Nat} (hk : k < N.pls.length) : w.cell? ⟨g, k * 3, none⟩ = some (.pointer (some ⟨N.D k, 0, none⟩)) /\ w.cell? ⟨g, k * 3 + 1, none⟩ = some (N.wv k) /\ w.cell? ⟨g, k * 3 + 2, none⟩ = some (.bool (N.Wt k)) /\ ∀ j, w.frozen? ⟨g, j, none⟩ = false := by
 obtain ⟨g', c', e, _, _, h1, h2, h3, h4⟩ := h.cell hk
 simp only [Value.slice.injEq, Option.some.injEq, Addr.mk.injEq, and_true] at e
 obtain ⟨rfl, _, _⟩ := e
 exact ⟨h1, h2, h3, h4⟩
theorem NP.push_box (h : NP W K G q N lab cv qv w) {w1 w2 : World} (hb : Below w.heap.size w w1) (hg : w1.grownBy w2 qv.ownBlock) : Bk K.p (nb K G (states q).length cv qv) 73 w2 :=
 h.box' (ch := fun L => L = .que) (Sep.Fr.grown (Sep.Fr.of_below hb) hg fun b hb2 => .inl (h.lq b hb2)) (by intro e; cases e)
theorem NP.push_seven (h : NP W K G q N lab cv qv w) {w1 w2 : World} (hb : Below w.heap.size w w1) (hg : w1.grownBy w2 qv.ownBlock) : w2.cell? ⟨K.p, 7, none⟩ = some qv /\ w2.frozen? ⟨K.p, 7, none⟩ = false :=
 ⟨(h.push_box hb hg).cell rfl, (h.push_box hb hg).free 7⟩
theorem NP.lead_cell {g c n : Nat} (h : NP W K G q N lab (.slice (some ⟨g, 0, none⟩) n c) qv w) {k : Nat} (hk : k < N.pls.length) {w1 w2 : World} (hb : Below w.heap.size w w1) (hg : w1.grownBy w2 (N.wv k).ownBlock) : w2.cell? ⟨g, k * 3 + 1, none⟩ = some (N.wv k) /\ w2.frozen? ⟨g, k * 3 + 1, none⟩ = false := by
 have hc := h.cellg hk
 have hgr := h.lr g rfl
 have f : Ch (fun L => L = .way k) lab w w2 := Sep.Fr.grown (Sep.Fr.of_below hb) hg fun b hb2 => .inl (h.lw k hk b hb2)
 have e := h.keep f hgr (by intro e; cases e) (by intro e; cases e)
 exact ⟨(World.cell?_of_block (a := ⟨g, k * 3 + 1, none⟩) e).trans hc.2.1, (World.frozen?_of_block (a := ⟨g, k * 3 + 1, none⟩) e).trans (hc.2.2.2 _)⟩
theorem NP.more_five (h : NP W K G q N lab cv qv w) {w1 w2 w2' w3 : World} (ht : w.mapTurned w1 K.mb) (hb : Below w1.heap.size w1 w2) (hb2 : Below w2.heap.size w2 w2') (hg : w2'.grownBy w3 cv.ownBlock) : w3.cell? ⟨K.p, 5, none⟩ = some cv /\ w3.frozen? ⟨K.p, 5, none⟩ = false := by
 have fm : Ch (fun L => L = .map) lab w w1 := (zBV ht).mono fun b e => by rw [e]; exact h.lm
 have f1 : Ch (fun L => L = .map) lab w w2' := (fm.trans (T := fun _ => False) (Sep.Fr.of_below hb) (fun b e => e.elim)).trans (T := fun _ => False) (Sep.Fr.of_below hb2) (fun b e => e.elim)
 have f2 : Ch (fun L => L = .map \/ L = .row) lab w w3 := Sep.Fr.grown (f1.mono fun b e => .inl e) hg fun b e => .inl (.inr (h.lr b e))
 have hx : Bk K.p (nb K G (states q).length cv qv) 73 w3 := h.box' f2 (by rintro (e | e) <;> cases e)
 exact ⟨hx.cell rfl, hx.free 5⟩
theorem NP.map_turned (h : NP W K G q N lab cv qv w) {w1 : World} (ht : w.mapTurned w1 K.mb) : Bk K.p (nb K G (states q).length cv qv) 73 w1 /\ w1.ownsRow W.heap.size 122 3 cv N.pls.length (cells N) /\ w.heap.size <= w1.heap.size := by
 have fm : Ch (fun L => L = .map) lab w w1 := (zBV ht).mono fun b e => by rw [e]; exact h.lm
 exact ⟨h.box' fm (by intro e; cases e), h.row' fm (by intro e; cases e), (zBV ht).size⟩
end
theorem zRO {m : Nat} {N : Nt} {k : Nat} {F : Nat -> Bool} (h : gains (N.S k) m F = false) : N.give m k F = { N with S := upd N.S k (orr (N.S k) m F) } := by
 unfold Nt.give
 rw [h]
 rfl
theorem zPr {m : Nat} {N : Nt} {k : Nat} {F : Nat -> Bool} (h : N.Wt k = true) : N.give m k F = { N with S := upd N.S k (orr (N.S k) m F) } := by
 unfold Nt.give
 rw [h]
 simp
theorem zPq {m : Nat} {N : Nt} {k : Nat} {F : Nat -> Bool} (h : gains (N.S k) m F = true) (hw : N.Wt k = false) : N.give m k F = { N with S := upd N.S k (orr (N.S k) m F), Wt := upd N.Wt k true, qs := N.qs ++ [k] } := by
 unfold Nt.give
 rw [h, hw]
 rfl
end Lk
namespace Bt
open Go.RowKit
theorem zLX (B : Nat -> Bool) (n k : Nat) : wd (more B n B) k = 0 := zCK.2 fun j _ => by
 unfold more
 cases B (64 * k + j) <;> simp
theorem zKH (B : Nat -> Bool) (n k : Nat) : bits BinOp.andNot IntKind.u64 (bits BinOp.and IntKind.u64 (wd B k : Int) (wd (under n) k : Int)) (wd B k : Int) = 0 := by
 rw [zGA B B n k, zLX]
 rfl
def zJ2 (p d n : Nat) (B : Nat -> Bool) (w wr : World) : Prop := SetAt p d n B wr /\ Keeps d w wr
theorem zHa {p d n : Nat} {B : Nat -> Bool} (w : World) (h : SetAt p d n B w) :
  Calls Tryz.prog 92 #[.pointer (some ⟨p, 0, none⟩), .pointer (some ⟨p, 0, none⟩)] w (Wrote false p d n B w) := by
 have HS := zSt (zCQ w (.at_ h))
 have hs : sz n <= 64 := zFt h.upto.1
 have H0 : Hid (zJ2 p d n B w w) := ⟨h, .refl _ _⟩
 clear h
 go_enter Tryz.func92, Tryz.ntmps92
 go_wp2_with (go_at_call 121; refine HS.out.mono ?_; rintro e w' ⟨rfl, rfl⟩)
 go_loopw [5, 10] (fun c i wr => ∃ k : Nat, k <= sz n /\ i = .int .i64 k /\ c = .bool false /\ zJ2 p d n B w wr) (fun _ i _ => sz n - (intOf i).toNat)
 case atStart => exact ⟨0, Nat.zero_le _, rfl, rfl, H0.out⟩
 case round =>
  obtain ⟨k, hk, rfl, rfl, hi⟩ := hrel
  have HI := zSt hi
  clear hi
  by_cases hlt : k < sz n
  ·have HW := zSt (fun q => flip (zDj (wr.drewN q) (.at_ (HI.out.1.drewN q)) k))
   have HA := zSt (fun q => flip (zDm (wr.drewN q) (HI.out.1.drewN q) k hlt))
   have c0 := HI.out.1.words
   have c1 := HI.out.1.holds k hlt
   have c2 := HI.out.1.free k hlt
   have hE := zKH B n k
   go_wp2_with fail
   go_quiet (first | (go_at_call 122; exact Calls.quiet_of_same (HW.out _)) | (go_at_call 123; exact Calls.quiet_of_same (HA.out _)))
   go_wp2
   go_roundw
   case rel => exact ⟨k + 1, by omega, by go_num, rfl, ⟨HI.out.1.drewN _, HI.out.2.drewN _⟩⟩
   case measure => simp [intOf]; omega
  ·go_wp2
   go_ret
   exact ⟨rfl, HI.out.1, HI.out.2⟩
end Bt
namespace Bt
open Go.RowKit
def pre (B : Nat -> Bool) (k : Nat) : List Nat := (List.range k).filter B
theorem zQY (B : Nat -> Bool) (k : Nat) : (pre B k).length <= k := zGN B k
theorem zQV (B : Nat -> Bool) : pre B 4096 = els B := rfl
theorem zHc {B : Nat -> Bool} {k : Nat} : ∀ d, (∀ j, k <= j -> j < k + d -> B j = false) -> pre B (k + d) = pre B k
 | 0, _ => rfl
 | d + 1, h => by
  have ih := zHc d fun j h1 h2 => h j h1 (by omega)
  have hb := h (k + d) (by omega) (by omega)
  unfold pre at *
  rw [← Nat.add_assoc, List.range_succ, List.filter_append, ih]
  simp [hb]
theorem zQX {B : Nat -> Bool} {k m : Nat} (hk : k <= m) (hb : B m = true) (h : ∀ j, k <= j -> j < m -> B j = false) : pre B (m + 1) = pre B k ++ [m] := by
 obtain ⟨d, rfl⟩ : ∃ d, m = k + d := ⟨m - k, by omega⟩
 have e := zHc d h
 unfold pre at *
 rw [List.range_succ, List.filter_append, e]
 simp [hb]
theorem zQW {B : Nat -> Bool} {k : Nat} (hk : k <= 4096) (h : ∀ j, j < 4096 -> k <= j -> B j = false) : pre B k = els B := by
 obtain ⟨d, hd⟩ : ∃ d, 4096 = k + d := ⟨4096 - k, by omega⟩
 rw [← zQV, hd]
 exact (zHc d fun j h1 h2 => h j (by omega) h1).symm
def iv (i : Nat) : Value := .int .i64 i
theorem zHT {w : World} {b o : Nat} {v : Value} (h : w.cell? ⟨b, o, none⟩ = some v) : b < w.heap.size := by
 refine Classical.byContradiction fun hn => ?_
 have : w.heap[b]? = none := Array.getElem?_eq_none (by omega)
 simp [World.cell?, this] at h
theorem SetV.below {v : Value} {n : Nat} {B : Nat -> Bool} {w w' : World} (h : SetV v n B w) (hb : Below w.heap.size w w') : SetV v n B w' := by
 cases h with
 | nil => exact .nil _
 | at_ h => exact .at_ (h.below hb h.inp h.ind)
theorem Tab.below {w w' : World} {m : Nat} (h : Tab w) (hb : Below m w w') (hm : 0 < m) : Tab w' := fun j hj => by
 rw [hb.cell (p := ⟨0, j, none⟩) hm]; exact h j hj
theorem Tab.pos {w : World} (h : Tab w) : 0 < w.heap.size := zHT (h 0 (by decide))
def Listed (B : Nat -> Bool) (w : World) (e : Ending) (w' : World) : Prop :=
 ∃ v, e = .returned v /\ w'.ownsRow w.heap.size 3 1 v (els B).length ((els B).map iv) /\ Below w.heap.size w w'
theorem zA5 : (Tryz.prog.info? 3).map (fun i => (i.zero, i.size, i.bytes)) = some (some (.int .i64 0), 1, 8) := by kernel_rfl
def zPH (B : Nat -> Bool) (w : World) (g : Nat) (v i : Value) (wr : World) : Prop :=
 ∃ k, k <= 4096 /\ g = 4096 - k /\ i = .int .i64 (next B (k : Int)) /\ wr.ownsRow w.heap.size 3 1 v (pre B k).length ((pre B k).map iv) /\ Below w.heap.size w wr
theorem zCN {v : Value} {n : Nat} {B : Nat -> Bool} (w : World) (h : SetV v n B w) (hT : Tab w) :
  Calls Tryz.prog 61 #[v] w (Listed B w) := by
 obtain ⟨i0, hi, hz0, hz1, hz2⟩ := info_parts zA5
 have HC := zSt (zKT w h)
 have HV := zSt h
 have HT := zSt hT
 have hl := zPg B
 clear h hT
 go_enter Tryz.func61, Tryz.ntmps61
 go_wp2_with (first | (go_at_call 95; refine HC.out.mono ?_; rintro e w' ⟨rfl, rfl⟩) | (refine wpList_make_own _ rfl _ _ 37 rfl w.heap.size 3 i0 (.int .i64 0) 1 Tryz.underlying37 hi hz0 hz1 .i64 .i64 _ (els B).length rfl rfl rfl (by rw [hz2]; omega) (by unfold maxLen; omega) (Nat.le_refl _) ?_))
 intro w1 hown hg
 have HO := zSt hown
 have HB1 := zSt ((Below.refl w.heap.size w).grown hg (Nat.le_refl _) (by simp))
 have HN := zSt (zIP w1 (HV.out.below HB1.out) (HT.out.below HB1.out HT.out.pos) 0 (by omega))
 clear hown hg
 go_wp2_with (go_at_call 96; refine HN.out.mono ?_; rintro e w' ⟨rfl, rfl⟩)
 go_loopg [3, 4] 4096 (fun g s i wr => zPH B w g s i wr)
 case atStart => exact ⟨0, by omega, by omega, rfl, HO.out, HB1.out⟩
 case round =>
  obtain ⟨k, hk, hg, hi4, hown, hb⟩ := hrel
  have HG := zSt hg
  have HO2 := zSt hown
  have HB := zSt hb
  clear hg hown hb
  rcases zQI (B := B) (k : Int) with ⟨hn, hno⟩ | ⟨m, hn, hm, hkm, hbm, hno⟩
  ·rw [hn] at hi4
   subst hi4
   have HE := zSt (zQW hk fun j h1 h2 => hno j h1 (by omega))
   clear hn hno
   go_wp2
   go_ret
   exact ⟨_, rfl, by rw [← HE.out]; exact HO2.out, HB.out⟩
  ·rw [hn] at hi4
   subst hi4
   have HE := zSt (zQX (k := k) (by omega) hbm fun j h1 h2 => hno j (by omega) h2)
   have hp := zQY B k
   clear hn hno hbm
   go_wp2_with (at_builtin; refine wpList_append_own _ rfl _ _ 37 rfl w.heap.size 3 i0 (.int .i64 0) 1 8 Tryz.underlying37 hi hz0 hz1 hz2 rfl (by decide) _ _ _ rfl (HO2.out.alloc _) ⟨wr.heap.size, 0, none⟩ 1 1 [iv m] rfl rfl ?c1 ?c2 ?c3 ?c4 ?c5 ?_)
   case c1 =>
    intro j u hj
    match j, hj with
    | 0, hj => simp at hj; subst hj; simp [Addr.add, iv]
   case c2 => intro u hu; simp at hu; subst hu; rfl
   case c3 => unfold maxLen; omega
   case c4 => omega
   case c5 => have := HB.out.size; simp; omega
   intro v' w2 hown' hgrow _
   have HO3 := zSt (show w2.ownsRow w.heap.size 3 1 v' (pre B (m + 1)).length ((pre B (m + 1)).map iv) by rw [HE.out]; simpa using hown')
   have HB2 : Hid (Below w.heap.size w w2) := (HB.out.alloc HB.out.size _).grown hgrow (by have := HB.out.size; simp; omega) (fun q hq => (HO2.out.lt q hq).1)
   have HN2 := zSt (zIP w2 (HV.out.below HB2.out) (HT.out.below HB2.out HT.out.pos) ((m : Int) + 1) (by omega))
   clear hown' hgrow
   go_wp2_with (go_at_call 96; refine HN2.out.mono ?_; rintro e w' ⟨rfl, rfl⟩)
   go_roundg (4096 - (m + 1))
   case measure => rw [HG.out]; omega
   case rel => exact ⟨m + 1, by omega, rfl, by rw [show ((m + 1 : Nat) : Int) = (m : Int) + 1 from by omega], HO3.out, HB2.out⟩
end Bt
namespace Lk
open Go.RowKit Go.Maps
open Gr (Gram boxed)
open Au
open Bt (orr gains)
def Gvn (N : Nt) (k : Nat) (u : Value) (F : Nat -> Bool) (w : World) : Prop := (∃ m, Bt.OtherV (N.E k) u m F w) \/ (u = .pointer (some ⟨N.D k, 0, none⟩) /\ F = N.S k)
theorem zEu (B : Nat -> Bool) (n : Nat) : gains B n B = false := by
 cases h : gains B n B with
 | false => rfl
 | true =>
  obtain ⟨i, _, h1, h2⟩ := zB8.1 h
  rw [h1] at h2
  cases h2
theorem zNJ {W : World} {K : Fk} {G : Gram} {q : Whole} {N : Nt} {lab : Nat -> Lb} {cv qv : Value} {w : World} (h : NP W K G q N lab cv qv w) {k : Nat} (hk : k < N.pls.length) {u : Value} {F : Nat -> Bool} (hu : Gvn N k u F w) :
  Calls Tryz.prog 92 #[.pointer (some ⟨N.D k, 0, none⟩), u] w (Bt.Wrote (gains (N.S k) (G.terms.length + 1) F) (N.D k) (N.E k) (G.terms.length + 1) (orr (N.S k) (G.terms.length + 1) F) w) := by
 rcases hu with ⟨m, hu⟩ | ⟨rfl, rfl⟩
 ·exact Bt.zGn w (h.sets k hk) hu
 ·rw [zEu, zIU (zEu _ _)]
  exact Bt.zHa w (h.sets k hk)
theorem zGG (w : World) (p : Addr) (v x : Value) (T : TypeId) : ∀ j u, [x][j]? = some u -> ((w.setCell p v).alloc (.cells #[x] T)).cell? ((⟨w.heap.size, 0, none⟩ : Addr).add j) = some u := by
 have h := cell_one_new (w.setCell p v) x T
 have e : (w.setCell p v).heap.size = w.heap.size := by simp [World.setCell]
 rw [e] at h
 exact h
theorem zEe (w : World) (p : Addr) (v : Value) (o : Obj) : ((w.setCell p v).alloc o).heap.size = w.heap.size + 1 := by simp [World.setCell]
theorem zFS {W : World} {K : Fk} {G : Gram} {q : Whole} {N : Nt} {S : Nat -> Prop} (w : World) (h : NAt W K G q N S w) {k : Nat} (hk : k < N.pls.length) (hC : N.pls.length <= 100000000) (hq : N.qs.length <= N.pls.length) {u : Value} {F : Nat -> Bool} (hu : Gvn N k u F w) :
  Calls Tryz.prog 58 #[.pointer (some ⟨K.p, 0, none⟩), .int .i64 (k : Int), u] w (NWr W K G q (N.give (G.terms.length + 1) k F) (.tuple #[]) S w) := by
 obtain ⟨lab, cv, qv, h, rfl⟩ := h
 have OR := zSt (zNJ h hk hu)
 obtain ⟨g, c, rfl, hg, hgW, c0, c1, c2, c3⟩ := h.cell hk
 obtain ⟨aq, cq, rfl⟩ := Rw.zAH h.queue
 have H := zSt h
 have p5 := h.eight.2.2.2.2.2.1
 have WR := zSt (fun w1 hs hK => h.wrote (w' := w1) (B := orr (N.S k) (G.terms.length + 1) F) hk hs hK)
 have hWs : W.heap.size <= w.heap.size := h.fr.size
 clear h hu hg hgW c1 c2
 cases hgn : gains (N.S k) (G.terms.length + 1) F with
 | false =>
  have E := zSt (zRO hgn)
  rw [hgn] at OR
  generalize N.give (G.terms.length + 1) k F = N' at *
  clear hgn
  go_enter Tryz.func58, Tryz.ntmps58
  go_wp2_with (go_at_call 92; refine OR.out.mono ?_; rintro e w1 ⟨rfl, hs, hK⟩; have N1 := zSt (WR.out w1 hs hK); clear hs hK)
  refine bodyPost_ret (v := .tuple #[]) (by simp [results, Tryz.results58, go_sem]) rfl ?_
  exact ⟨rfl, _, ⟨lab, _, _, by rw [E.out]; exact N1.out.1, rfl⟩, N1.out.2.fr, N1.out.2.ext⟩
 | true =>
  cases hw : N.Wt k with
  | true =>
   have E := zSt (zPr (m := G.terms.length + 1) (F := F) hw)
   rw [hgn] at OR
   have CG := zSt (fun w1 (n1 : NP W K G q { N with S := upd N.S k (orr (N.S k) (G.terms.length + 1) F) } lab (.slice (some ⟨g, 0, none⟩) N.pls.length c) (.slice aq N.qs.length cq) w1) => (show w1.cell? ⟨g, k * 3 + 2, none⟩ = some (.bool true) from by rw [← hw]; exact (n1.cellg hk).2.2.1))
   generalize N.give (G.terms.length + 1) k F = N' at *
   clear hgn hw
   go_enter Tryz.func58, Tryz.ntmps58
   go_wp2_with (go_at_call 92; refine OR.out.mono ?_; rintro e w1 ⟨rfl, hs, hK⟩; have N1 := zSt (WR.out w1 hs hK); have d2 := CG.out w1 N1.out.1; clear hs hK)
   refine bodyPost_ret (v := .tuple #[]) (by simp [results, Tryz.results58, go_sem]) rfl ?_
   exact ⟨rfl, _, ⟨lab, _, _, by rw [E.out]; exact N1.out.1, rfl⟩, N1.out.2.fr, N1.out.2.ext⟩
  | false =>
   have E := zSt (zPq hgn hw)
   rw [hgn] at OR
   have CG := zSt (fun w1 (n1 : NP W K G q { N with S := upd N.S k (orr (N.S k) (G.terms.length + 1) F) } lab (.slice (some ⟨g, 0, none⟩) N.pls.length c) (.slice aq N.qs.length cq) w1) => (show w1.cell? ⟨g, k * 3 + 2, none⟩ = some (.bool false) /\ w1.frozen? ⟨g, k * 3 + 2, none⟩ = false from ⟨by rw [← hw]; exact (n1.cellg hk).2.2.1, (n1.cellg hk).2.2.2 _⟩))
   have WT := zSt (fun w1 (n1 : NP W K G q { N with S := upd N.S k (orr (N.S k) (G.terms.length + 1) F) } lab (.slice (some ⟨g, 0, none⟩) N.pls.length c) (.slice aq N.qs.length cq) w1) => n1.wait hk rfl true)
   obtain ⟨i0, hj, hz0, hz1, hz2⟩ := info_parts Bt.zA5
   generalize N.give (G.terms.length + 1) k F = N' at *
   clear hgn hw
   go_enter Tryz.func58, Tryz.ntmps58
   go_wp2_with (first
    | (go_at_call 92; refine OR.out.mono ?_; rintro e w1 ⟨rfl, hs, hK⟩; have N1 := zSt (WR.out w1 hs hK); have d2 := (CG.out w1 N1.out.1).1; have d3 := (CG.out w1 N1.out.1).2; have N2 := zSt (WT.out w1 N1.out.1); have e7 := N2.out.1.eight.2.2.2.2.2.2.2; have s2 : W.heap.size <= w1.heap.size := N1.out.1.fr.size; clear hs hK)
    | (at_builtin; refine wpList_append_own_at _ rfl _ _ 37 rfl W.heap.size 3 i0 (.int .i64 0) 1 8 Tryz.underlying37 hj hz0 hz1 hz2 rfl (by decide) (.slice aq N.qs.length cq) N.qs.length (nivs N.qs) rfl (N2.out.1.queue.alloc _) ⟨w1.heap.size, 0, none⟩ 1 1 [.int .i64 (k : Int)] rfl rfl (zGG _ _ _ _ _) (by simp [Value.oneCell']) (by unfold maxLen; omega) (by omega) (by rw [zEe]; omega) ?_; intro v' w3 hown3 hg3 _ hloc; obtain ⟨q5, f5⟩ := N2.out.1.push_seven (boxed _ _) hg3; obtain ⟨a', c', rfl⟩ := Rw.zAH hown3; have N3 := zSt (N2.out.1.push (boxed _ _) hown3 hg3 hloc); clear hown3 hg3 hloc))
   refine bodyPost_ret (v := .tuple #[]) (by simp [results, Tryz.results58, go_sem]) rfl ?_
   obtain ⟨lab', n3, s3⟩ := N3.out
   have st := N1.out.2.trans (N2.out.2.trans s3)
   exact ⟨rfl, _, ⟨lab', _, _, by rw [E.out]; exact n3, rfl⟩, st.fr, st.ext⟩
end Lk
namespace Lk
open Go.RowKit Go.Maps
open Gr (Gram zAA boxed)
open Au
open Rw (zAI)
theorem zNV : (Tryz.prog.info? 117).map (fun i => (i.zero, i.size, i.bytes)) = some (some (.agg #[.pointer none, .bool false, .int .i64 0]), 3, 24) := by kernel_rfl
theorem zK2 : (Tryz.prog.info? 122).map (fun i => (i.zero, i.size, i.bytes)) = some (some (.agg #[.pointer none, .slice none 0 0, .bool false]), 3, 40) := by kernel_rfl
theorem zQ0 (T : TypeId) (base q : Nat) (y : Way) (w : World) (hq : q = w.heap.size) (hb : base <= q) : (w.alloc (.cells #[y.v, .bool y.e, .int .i64 (y.to : Int)] T)).ownsRow base T 3 (.slice (some ⟨q, 0, none⟩) 1 1) 1 (yc y) := by
 subst hq
 exact World.ownsRow_lit w #[y.v, .bool y.e, .int .i64 (y.to : Int)] 1 hb (by decide) (by simp)
theorem zMe {K : Fk} {G : Gram} {y : Way} (h : YOk K G y) : ∀ u ∈ yc y, u.oneCell' = true := by
 intro u hu
 simp only [yc, List.mem_cons, List.not_mem_nil, or_false] at hu
 rcases hu with rfl | rfl | rfl
 ·rcases h with ⟨h, _⟩ | ⟨k, d, _, _, h, _⟩ <;> rw [h] <;> rfl
 ·rfl
 ·rfl
def Led (W : World) (K : Fk) (G : Gram) (q : Whole) (N : Nt) (k : Nat) (y : Way) (S : Nat -> Prop) (w : World) (e : Ending) (w' : World) : Prop := e = .returned (.tuple #[]) /\ ∃ v T, NAt W K G q (N.lead k y v) T w' /\ Sep.Fr S w w' /\ Sep.Ext T S w
theorem zNe {W : World} {K : Fk} {G : Gram} {q : Whole} {N : Nt} {S : Nat -> Prop} (w : World) (h : NAt W K G q N S w) {k : Nat} (hk : k < N.pls.length) (hC : N.pls.length <= 100000000) {y : Way} (hy : YOk K G y) (hl : (N.Ys k).length <= 1000000000) :
  Calls Tryz.prog 57 #[.pointer (some ⟨K.p, 0, none⟩), .int .i64 (k : Int), .agg #[y.v, .bool y.e, .int .i64 (y.to : Int)]] w (Led W K G q N k y S w) := by
 obtain ⟨lab, cv, qv, h, rfl⟩ := h
 have bX : Below w.heap.size w (w.alloc (.cells #[y.v, .bool y.e, .int .i64 (y.to : Int)] 117)) := boxed _ _
 have H := zSt (h.went bX)
 have HB := zSt bX
 obtain ⟨g, c, rfl, hg, hgW, c0, c1, c2, c3⟩ := H.out.cell hk
 obtain ⟨ay, cy, hwv⟩ := Rw.zAH (h.ways k hk)
 rw [hwv] at c1
 have p5 := H.out.eight.2.2.2.2.2.1
 have b0 : (w.alloc (.cells #[y.v, .bool y.e, .int .i64 (y.to : Int)] 117)).cell? ⟨w.heap.size, 0, none⟩ = some y.v := zAA rfl rfl
 have b1 : (w.alloc (.cells #[y.v, .bool y.e, .int .i64 (y.to : Int)] 117)).cell? ⟨w.heap.size, 1, none⟩ = some (.bool y.e) := zAA rfl rfl
 have b2 : (w.alloc (.cells #[y.v, .bool y.e, .int .i64 (y.to : Int)] 117)).cell? ⟨w.heap.size, 2, none⟩ = some (.int .i64 (y.to : Int)) := zAA rfl rfl
 have hWs : W.heap.size <= w.heap.size := h.fr.size
 obtain ⟨i0, hj, hz0, hz1, hz2⟩ := info_parts zNV
 have YC := zSt (zMe hy)
 have YO := zSt hy
 have hgl : g < (w.alloc (.cells #[y.v, .bool y.e, .int .i64 (y.to : Int)] 117)).heap.size := H.out.lab_lt hg (by intro e; cases e)
 have hbl : w.heap.size < (w.alloc (.cells #[y.v, .bool y.e, .int .i64 (y.to : Int)] 117)).heap.size := by simp
 clear h hg hgW c2 hy bX
 go_enter Tryz.func57, Tryz.ntmps57
 go_wp2_with fail
 generalize hw1 : w.alloc (.cells #[y.v, .bool y.e, .int .i64 (y.to : Int)] 117) = w1 at *
 have hs1 : W.heap.size <= w1.heap.size := Nat.le_trans hWs HB.out.size
 have bY : Below w1.heap.size w1 (w1.alloc (.cells #[y.v, .bool y.e, .int .i64 (y.to : Int)] 117)).drew := (boxed _ _).drew
 have BY := zSt bY
 have RX := zSt (H.out.ways k hk |> fun r => Sep.zAE r fun g hg => bY.block g (r.lt g hg).2)
 rw [hwv] at RX
 have ON := zSt (show (w1.alloc (.cells #[y.v, .bool y.e, .int .i64 (y.to : Int)] 117)).drew.ownsRow _ _ _ _ _ _ from zQ0 117 W.heap.size w1.heap.size y w1 rfl hs1)
 have hs2 : W.heap.size <= (w1.alloc (.cells #[y.v, .bool y.e, .int .i64 (y.to : Int)] 117)).drew.heap.size := Nat.le_trans hs1 bY.size
 have LC := zSt (fun (w2 : World) (hg : (w1.alloc (.cells #[y.v, .bool y.e, .int .i64 (y.to : Int)] 117)).drew.grownBy w2 (N.wv k).ownBlock) => H.out.lead_cell hk bY hg)
 have LE := zSt (fun (w2 : World) (v' : Value) hown (hg : (w1.alloc (.cells #[y.v, .bool y.e, .int .i64 (y.to : Int)] 117)).drew.grownBy w2 (N.wv k).ownBlock) hv => H.out.lead hk YO.out bY (w2 := w2) (v' := v') hown hg hv rfl)
 rw [hwv] at LC LE
 generalize hYs : N.Ys k = Ys at *
 clear bY hw1
 go_region_law (first
  | (refine zAI _ (by rfl) _ _ 120 (by rfl) W.heap.size 117 i0 (.agg #[.pointer none, .bool false, .int .i64 0]) 3 24 Tryz.underlying120 hj hz0 hz1 hz2 rfl (by decide) (.slice ay Ys.length cy) Ys.length (Ys.flatMap yc) (by rfl) RX.out W.heap.size (.slice (some ⟨w1.heap.size, 0, none⟩) 1 1) 1 (yc y) (by rfl) ON.out YC.out (by unfold maxLen; omega) (by omega) hs2 ?_; intro v4 w4 hown4 hg4 hloc4; obtain ⟨a4, c4, rfl⟩ := Rw.zAH hown4; obtain ⟨q9, f9⟩ := LC.out w4 hg4; have R4 := zSt (LE.out w4 _ hown4 hg4 hloc4); clear hown4 hg4 hloc4))
 all_goals
  go_wp2_with fail
  refine bodyPost_ret (v := .tuple #[]) (by simp [results, Tryz.results57, go_sem]) rfl ?_
  obtain ⟨lab', n3, s3⟩ := R4.out
  have st := (Stp.of_below lab HB.out).trans s3
  exact ⟨rfl, _, _, ⟨lab', _, _, n3, rfl⟩, st.fr, st.ext⟩
end Lk
namespace Lk
open Go.RowKit Go.Maps
open Gr (ivs)
open Bt (SetAt putI Keeps cap)
def inL (m : Nat) (L : List Int) : Nat -> Bool := fun u => decide (u < m /\ (u : Int) ∈ L)
theorem zKx (m : Nat) : inL m [] = fun _ => false := by
 funext u
 simp [inL]
theorem zP0 (m : Nat) (L : List Int) (t : Int) : putI (inL m L) m t = inL m (L ++ [t]) := by
 funext u
 unfold putI
 split
 ·rename_i h
  unfold Bt.put inL
  rw [Bool.eq_iff_iff, Bool.or_eq_true, decide_eq_true_iff, decide_eq_true_iff, decide_eq_true_iff, List.mem_append, List.mem_singleton]
  constructor
  ·rintro (⟨h1, h2⟩ | h1)
   ·exact ⟨h1, .inl h2⟩
   ·exact ⟨by omega, .inr (by omega)⟩
  ·rintro ⟨h1, h2 | h2⟩
   ·exact .inl ⟨h1, h2⟩
   ·exact .inr (by omega)
 ·rename_i h
  unfold inL
  rw [Bool.eq_iff_iff, decide_eq_true_iff, decide_eq_true_iff, List.mem_append, List.mem_singleton]
  constructor
  ·rintro ⟨h1, h2⟩
   exact ⟨h1, .inl h2⟩
  ·rintro ⟨h1, h2 | h2⟩
   ·exact ⟨h1, h2⟩
   ·exact absurd ⟨by omega, by omega⟩ h
def zG0 (m : Nat) (B : Nat -> Bool) (w : World) (e : Ending) (w' : World) : Prop := ∃ P D, e = .returned (.pointer (some ⟨P, 0, none⟩)) /\ w.heap.size <= P /\ w.heap.size <= D /\ SetAt P D m B w' /\ Below w.heap.size w w'
structure Fill (m P D : Nat) (B : Nat -> Bool) (w wr : World) : Prop where
 hP : w.heap.size <= P
 hD : w.heap.size <= D
 set : SetAt P D m B wr
 below : Below w.heap.size w wr
theorem Fill.put {m P D : Nat} {L : List Int} {w wr w' : World} (h : Fill m P D (inL m L) w wr) {t : Int} (hs : SetAt P D m (putI (inL m L) m t) w') (hk : Keeps D wr w') : Fill m P D (inL m (L ++ [t])) w w' :=
 ⟨h.hP, h.hD, by rw [← zP0]; exact hs, h.below.trans (hk.below h.hD h.below.size)⟩
theorem zPY {m : Nat} (h : m <= 4096) : cap (m : Int) = m := by unfold cap; omega
theorem zHk (T p : Nat) (L : List Int) (a : Option Addr) (c : Nat) (w : World) (hT : T <= 1000) (hp : w.cell? ⟨p, 1, none⟩ = some (.int .i64 (T : Int))) (hR : Sep.Reads a (ivs L) w) (hl : L.length <= 1000000) (hL : ∀ t ∈ L, t <= 9223372036854775807) :
  Calls Tryz.prog 59 #[.pointer (some ⟨p, 0, none⟩), .slice a L.length c] w (zG0 (T + 1) (inL (T + 1) L) w) := by
 have HN := zSt (Bt.zFj ((T + 1 : Nat) : Int) w)
 rw [zPY (by omega)] at HN
 have HR := zSt hR
 have HL := zSt hL
 have hw : IntKind.i64.wrap ((T : Int) + 1) = ((T + 1 : Nat) : Int) := IntWalk.i64_in _ (by omega)
 clear hR hL
 go_enter Tryz.func59, Tryz.ntmps59
 go_wp2_with (go_at_call 93; refine HN.out.mono ?_; rintro e w1 ⟨P, D, rfl, hp, hd, hs, hb, hh⟩; have HF : Hid (Fill (T + 1) P D (inL (T + 1) (L.take 0)) w w1) := ⟨hp, hd, by rw [List.take_zero, zKx]; exact hs, hb⟩; clear hp hd hs hb hh)
 go_loopw [16] (fun i wr => ∃ j : Nat, j <= L.length /\ i = .int .i64 j /\ Fill (T + 1) P D (inL (T + 1) (L.take j)) w wr) (fun i _ => L.length - (intOf i).toNat)
 case atStart => exact ⟨0, Nat.zero_le _, rfl, HF.out⟩
 case round =>
  obtain ⟨j, hj, rfl, hf⟩ := hrel
  have HF2 := zSt hf
  clear hf HF
  by_cases hlt : j < L.length
  ·obtain ⟨b, o, rfl, hc⟩ := (HR.out.below HF2.out.below (Nat.le_refl _)) j (by simpa [ivs] using hlt)
   have hc2 : wr.cell? ⟨b, o + j, none⟩ = some (.int .i64 L[j]) := by simpa [ivs, Gr.iv] using hc
   have HP := zSt (Bt.zCC wr HF2.out.set L[j] (HL.out _ (List.getElem_mem hlt)))
   have HE := zSt (show L.take j ++ [L[j]] = L.take (j + 1) from (List.take_succ_eq_append_getElem hlt).symm)
   generalize L[j] = t at *
   clear hc
   go_wp2_with (go_at_call 94; refine HP.out.mono ?_; rintro e w' ⟨rfl, hs, hkp⟩; have HF3 := zSt (HF2.out.put hs hkp); clear hs hkp)
   go_roundw
   case rel => exact ⟨j + 1, by omega, by go_num, by rw [← HE.out]; exact HF3.out⟩
   case measure => simp [intOf]; omega
  ·have hE : j = L.length := by omega
   have HF3 := zSt (show Fill (T + 1) P D (inL (T + 1) L) w wr from by have := HF2.out; rw [hE, List.take_length] at this; exact this)
   go_wp2
   go_ret
   exact ⟨P, D, rfl, HF3.out.hP, HF3.out.hD, HF3.out.set, HF3.out.below⟩
end Lk
namespace Fi
open Go.RowKit Go.Maps
open Bt (SetAt Keeps OtherV)
open Rw (Bk)
inductive Ix : Type
 | e : Ix
 | f : Nat -> Ix
 | g : Nat -> Ix
 | o : Ix
structure Fam (I : Ix -> Prop) (P D : Ix -> Nat) (R : Ix -> Nat) (V : Ix -> Nat -> Bool) (w : World) : Prop where
 at_ : ∀ k, I k -> SetAt (P k) (D k) (R k) (V k) w
 inj : ∀ j k, I j -> I k -> D j = D k -> j = k
 off : ∀ j k, I j -> I k -> D j ≠ P k
theorem zEI {p d n : Nat} {B : Nat -> Bool} {w w' : World} (h : SetAt p d n B w) (hb : Below w.heap.size w w') : SetAt p d n B w' := h.below hb h.inp h.ind
theorem Fam.went {I : Ix -> Prop} {P D R : Ix -> Nat} {V : Ix -> Nat -> Bool} {w w' : World} (h : Fam I P D R V w) (hb : Below w.heap.size w w') : Fam I P D R V w' := ⟨fun k hk => zEI (h.at_ k hk) hb, h.inj, h.off⟩
open Classical in
noncomputable def upd (V : Ix -> Nat -> Bool) (k : Ix) (B : Nat -> Bool) : Ix -> Nat -> Bool := fun j => if j = k then B else V j
theorem zBD (V : Ix -> Nat -> Bool) (k : Ix) (B : Nat -> Bool) : upd V k B k = B := by unfold upd; rw [if_pos rfl]
theorem zAR (V : Ix -> Nat -> Bool) {j k : Ix} (B : Nat -> Bool) (h : j ≠ k) : upd V k B j = V j := by unfold upd; rw [if_neg h]
theorem upd_same (V : Ix -> Nat -> Bool) (k : Ix) : upd V k (V k) = V := by
 funext j
 by_cases h : j = k
 ·subst h
  rw [zBD]
 ·rw [zAR _ _ h]
theorem zHt (V : Ix -> Nat -> Bool) (k : Ix) (B C : Nat -> Bool) : upd (upd V k B) k C = upd V k C := by
 funext j
 by_cases h : j = k
 ·subst h
  rw [zBD, zBD]
 ·rw [zAR _ _ h, zAR _ _ h, zAR _ _ h]
theorem Fam.wrote {I : Ix -> Prop} {P D R : Ix -> Nat} {V : Ix -> Nat -> Bool} {w w' : World} (h : Fam I P D R V w) {k : Ix} (hk : I k) {B : Nat -> Bool} (hs : SetAt (P k) (D k) (R k) B w') (hK : Keeps (D k) w w') : Fam I P D R (upd V k B) w' := by
 refine ⟨fun j hj => ?_, h.inj, h.off⟩
 by_cases e : j = k
 ·subst e
  rw [zBD]
  exact hs
 ·rw [zAR _ _ e]
  exact (h.at_ j hj).keeps hK (fun e2 => h.off k j hk hj e2.symm) (fun e2 => e (h.inj j k hj hk e2))
theorem Fam.other {I : Ix -> Prop} {P D R : Ix -> Nat} {V : Ix -> Nat -> Bool} {w : World} (h : Fam I P D R V w) {j k : Ix} (hk : I k) (hj : I j) (hne : j ≠ k) : OtherV (D k) (.pointer (some ⟨P j, 0, none⟩)) (R j) (V j) w :=
 .at_ (h.at_ j hj) (fun e => h.off k j hk hj e.symm) (fun e => hne (h.inj j k hj hk e))
def rm (t n : Nat) : Ix -> Nat
 | .e => n
 | _ => t + 1
structure SAt (I : Ix -> Prop) (P D : Ix -> Nat) (p q1 q2 t n : Nat) (V : Ix -> Nat -> Bool) (w : World) : Prop where
 box : Bk p #[.int .i64 (t : Int), .int .i64 (n : Int), .pointer (some ⟨P .e, 0, none⟩), .slice (some ⟨q1, 0, none⟩) n n, .slice (some ⟨q2, 0, none⟩) n n] 161 w
 firsts : ∀ s, s < n -> w.cell? ⟨q1, s, none⟩ = some (.pointer (some ⟨P (.f s), 0, none⟩))
 follows : ∀ s, s < n -> w.cell? ⟨q2, s, none⟩ = some (if t < s then .pointer (some ⟨P (.g s), 0, none⟩) else .pointer none)
 fam : Fam I P D (rm t n) V w
 off : ∀ k, I k -> D k ≠ p /\ D k ≠ q1 /\ D k ≠ q2
 ie : I .e
 if_ : ∀ s, s < n -> I (.f s)
 ig : ∀ s, t < s -> s < n -> I (.g s)
 tn : t < n
 n4 : n <= 4000
theorem SAt.went {I : Ix -> Prop} {P D : Ix -> Nat} {p q1 q2 t n : Nat} {V : Ix -> Nat -> Bool} {w w' : World} (h : SAt I P D p q1 q2 t n V w) (hb : Below w.heap.size w w') : SAt I P D p q1 q2 t n V w' :=
 ⟨h.box.went hb, fun s hs => Gr.cell_later hb (h.firsts s hs), fun s hs => Gr.cell_later hb (h.follows s hs), h.fam.went hb, h.off, h.ie, h.if_, h.ig, h.tn, h.n4⟩
theorem SAt.wrote {I : Ix -> Prop} {P D : Ix -> Nat} {p q1 q2 t n : Nat} {V : Ix -> Nat -> Bool} {w w' : World} (h : SAt I P D p q1 q2 t n V w) {k : Ix} (hk : I k) {B : Nat -> Bool} (hs : SetAt (P k) (D k) (rm t n k) B w') (hK : Keeps (D k) w w') : SAt I P D p q1 q2 t n (upd V k B) w' := by
 have ho := h.off k hk
 have hF : Sep.Fr (fun b => b = D k) w w' := ⟨hK.os, hK.tape, hK.output, hK.size, fun i hi hb => hK.block i hi hb⟩
 exact ⟨h.box.fr hF (fun e => ho.1 e.symm), fun s hs => hF.cell (h.firsts s hs) (fun e => ho.2.1 e.symm), fun s hs => hF.cell (h.follows s hs) (fun e => ho.2.2 e.symm), h.fam.wrote hk hs hK, h.off, h.ie, h.if_, h.ig, h.tn, h.n4⟩
def tv (C : Int -> Bool) (F B : Int -> Int -> Bool) (O : Nat -> Bool) : Ix -> Nat -> Bool
 | .e => rw' C
 | .f s => rw' (F (s : Int))
 | .g s => rw' (B (s : Int))
 | .o => O
structure TOk (t n : Nat) (C : Int -> Bool) (F B : Int -> Int -> Bool) : Prop where
 c : Rng C n
 f1 : ∀ x, Rng (F x) (t + 1)
 f2 : ∀ x i, F x i = true -> 0 <= x /\ x < (n : Int)
 b1 : ∀ x, Rng (B x) (t + 1)
 b2 : ∀ x i, B x i = true -> (t : Int) < x /\ x < (n : Int)
theorem tv_e {C D : Int -> Bool} {F B : Int -> Int -> Bool} {O : Nat -> Bool} {V : Nat -> Bool} (h : V = rw' D) : upd (tv C F B O) .e V = tv D F B O := by
 funext j
 cases j with
 | e => rw [zBD, h]; rfl
 | f s => rw [zAR _ _ (by intro h; cases h)]; rfl
 | g s => rw [zAR _ _ (by intro h; cases h)]; rfl
 | o => rw [zAR _ _ (by intro h; cases h)]; rfl
theorem tv_f {C : Int -> Bool} {F H B : Int -> Int -> Bool} {O : Nat -> Bool} {V : Nat -> Bool} {s : Nat} (h : V = rw' (H (s : Int))) (ho : ∀ x : Int, x ≠ (s : Int) -> H x = F x) : upd (tv C F B O) (.f s) V = tv C H B O := by
 funext j
 cases j with
 | e => rw [zAR _ _ (by intro h; cases h)]; rfl
 | f k =>
  by_cases e : k = s
  ·subst e
   rw [zBD, h]; rfl
  ·rw [zAR _ _ (by intro h; injection h with h; exact e h)]
   show rw' (F (k : Int)) = rw' (H (k : Int))
   rw [ho _ (by omega)]
 | g s => rw [zAR _ _ (by intro h; cases h)]; rfl
 | o => rw [zAR _ _ (by intro h; cases h)]; rfl
theorem tv_g {C : Int -> Bool} {F B H : Int -> Int -> Bool} {O : Nat -> Bool} {V : Nat -> Bool} {s : Nat} (h : V = rw' (H (s : Int))) (ho : ∀ x : Int, x ≠ (s : Int) -> H x = B x) : upd (tv C F B O) (.g s) V = tv C F H O := by
 funext j
 cases j with
 | e => rw [zAR _ _ (by intro h; cases h)]; rfl
 | f s => rw [zAR _ _ (by intro h; cases h)]; rfl
 | g k =>
  by_cases e : k = s
  ·subst e
   rw [zBD, h]; rfl
  ·rw [zAR _ _ (by intro h; injection h with h; exact e h)]
   show rw' (B (k : Int)) = rw' (H (k : Int))
   rw [ho _ (by omega)]
 | o => rw [zAR _ _ (by intro h; cases h)]; rfl
theorem SAt.more {I : Ix -> Prop} {P D : Ix -> Nat} {p q1 q2 t n : Nat} {C : Int -> Bool} {F B : Int -> Int -> Bool} {O : Nat -> Bool} {w w' : World} (h : SAt I P D p q1 q2 t n (tv C F B O) w) (hI : ¬ I .o) (hb : Below w.heap.size w w') {po d : Nat} {N : Nat -> Bool} (hs : SetAt po d (t + 1) N w') (hp : w.heap.size <= po) (hd : w.heap.size <= d) :
    ∃ I' P' D', SAt I' P' D' p q1 q2 t n (tv C F B N) w' /\ I' .o /\ P' .o = po /\ D' .o = d := by
  have hq1 : q1 < w.heap.size := World.block_lt_of_cell? w ⟨q1, 0, none⟩ (h.firsts 0 (by have := h.tn; omega))
  have hq2 : q2 < w.heap.size := World.block_lt_of_cell? w ⟨q2, 0, none⟩ (h.follows 0 (by have := h.tn; omega))
  have hp0 := h.box.lt
  refine ⟨fun k => I k \/ k = .o, fun k => match k with | .o => po | k => P k, fun k => match k with | .o => d | k => D k, ⟨(h.went hb).box, ?_, ?_, ⟨?_, ?_, ?_⟩, ?_, .inl h.ie, fun s hs => .inl (h.if_ s hs), fun s h1 h2 => .inl (h.ig s h1 h2), h.tn, h.n4⟩, .inr rfl, rfl, rfl⟩
  · exact (h.went hb).firsts
  · exact (h.went hb).follows
  · rintro (_ | s | s | _) hk
    · exact (h.went hb).fam.at_ .e h.ie
    · rcases hk with hk | hk
      · exact (h.went hb).fam.at_ (.f s) hk
      · cases hk
    · rcases hk with hk | hk
      · exact (h.went hb).fam.at_ (.g s) hk
      · cases hk
    · exact hs
  · have key : ∀ j, I j -> D j ≠ d := fun j hj e => by have := (h.fam.at_ j hj).ind; omega
    rintro (_ | s | s | _) (_ | s' | s' | _) hj hk he
    all_goals first
      | rfl
      | exact absurd he (key _ (by rcases hj with hj | hj; · exact hj
                                   · cases hj))
      | exact absurd he.symm (key _ (by rcases hk with hk | hk; · exact hk
                                        · cases hk))
      | exact h.fam.inj _ _ (by rcases hj with hj | hj; · exact hj
                                · cases hj) (by rcases hk with hk | hk; · exact hk
                                                · cases hk) he
  · have k1 : ∀ j, I j -> D j ≠ po := fun j hj e => by have := (h.fam.at_ j hj).ind; omega
    have k2 : ∀ j, I j -> d ≠ P j := fun j hj e => by have := (h.fam.at_ j hj).inp; omega
    rintro (_ | s | s | _) (_ | s' | s' | _) hj hk
    all_goals first
      | exact hs.apart.symm
      | exact k1 _ (by rcases hj with hj | hj; · exact hj
                       · cases hj)
      | exact k2 _ (by rcases hk with hk | hk; · exact hk
                       · cases hk)
      | exact h.fam.off _ _ (by rcases hj with hj | hj; · exact hj
                                · cases hj) (by rcases hk with hk | hk; · exact hk
                                                · cases hk)
  · rintro (_ | s | s | _) hk
    · exact h.off .e h.ie
    · rcases hk with hk | hk
      · exact h.off _ hk
      · cases hk
    · rcases hk with hk | hk
      · exact h.off _ hk
      · cases hk
    · show d ≠ p /\ d ≠ q1 /\ d ≠ q2
      omega
def VS (nl : Bool) (I : Ix -> Prop) (P D : Ix -> Nat) (v : Value) (t n : Nat) (C : Int -> Bool) (F B : Int -> Int -> Bool) (O : Nat -> Bool) (w : World) : Prop :=
 (nl = true /\ v = .pointer none /\ C = (fun _ => false) /\ F = (fun _ _ => false) /\ B = (fun _ _ => false)) \/ (nl = false /\ ∃ p q1 q2, v = .pointer (some ⟨p, 0, none⟩) /\ SAt I P D p q1 q2 t n (tv C F B O) w)
theorem VS.went {nl : Bool} {I : Ix -> Prop} {P D : Ix -> Nat} {v : Value} {t n : Nat} {C : Int -> Bool} {F B : Int -> Int -> Bool} {O : Nat -> Bool} {w w' : World} (h : VS nl I P D v t n C F B O w) (hb : Below w.heap.size w w') : VS nl I P D v t n C F B O w' := by
 rcases h with h | ⟨h1, p, q1, q2, h2, h3⟩
 ·exact .inl h
 ·exact .inr ⟨h1, p, q1, q2, h2, h3.went hb⟩
end Fi
namespace Fi
open Go.RowKit Go.Maps
open Gr (Is boxed cell_later zAD)
open Bt (has)
open Rw (Bk)
theorem Bk.five {q : Nat} {a b c d e : Value} {T : TypeId} {w : World} (h : Bk q #[a, b, c, d, e] T w) : w.cell? ⟨q, 0, none⟩ = some a /\ w.cell? ⟨q, 1, none⟩ = some b /\ w.cell? ⟨q, 2, none⟩ = some c /\ w.cell? ⟨q, 3, none⟩ = some d /\ w.cell? ⟨q, 4, none⟩ = some e :=
 ⟨h.cell rfl, h.cell rfl, h.cell rfl, h.cell rfl, h.cell rfl⟩
def symB (n : Nat) (x : Int) : Bool := decide (0 <= x /\ x < (n : Int))
def ntB (t n : Nat) (x : Int) : Bool := decide ((t : Int) < x /\ x < (n : Int))
theorem zJk (t n : Nat) (x : Int) (w : World) (hn : n <= 4000) :
  Calls Tryz.prog 152 #[.agg #[.int .i64 (t : Int), .int .i64 (n : Int)], .int .i64 x] w (Is (.bool (symB n x)) w) := by
 go_enter Tryz.func152, Tryz.ntmps152
 go_wp2
 all_goals
  go_ret
  refine ⟨zAD ?_, boxed _ _⟩
  go_light
  unfold symB
  first | (rw [decide_eq_true_iff]; omega) | (rw [decide_eq_false_iff_not]; omega) | (rw [Bool.eq_iff_iff]; simp only [decide_eq_true_eq]; omega)
theorem zPC (t n : Nat) (x : Int) (w : World) (hn : n <= 4000) :
  Calls Tryz.prog 116 #[.agg #[.int .i64 (t : Int), .int .i64 (n : Int)], .int .i64 x] w (Is (.bool (ntB t n x)) w) := by
 go_enter Tryz.func116, Tryz.ntmps116
 go_wp2
 all_goals
  go_ret
  refine ⟨zAD ?_, boxed _ _⟩
  go_light
  unfold ntB
  first | (rw [decide_eq_true_iff]; omega) | (rw [decide_eq_false_iff_not]; omega) | (rw [Bool.eq_iff_iff]; simp only [decide_eq_true_eq]; omega)
def fptr (P : Ix -> Nat) (n : Nat) (x : Int) : Value := if 0 <= x /\ x < (n : Int) then .pointer (some ⟨P (.f x.toNat), 0, none⟩) else .pointer none
def gptr (P : Ix -> Nat) (t n : Nat) (x : Int) : Value := if (t : Int) < x /\ x < (n : Int) then .pointer (some ⟨P (.g x.toNat), 0, none⟩) else .pointer none
theorem zFQ {I : Ix -> Prop} {P D : Ix -> Nat} {p q1 q2 t n : Nat} {V : Ix -> Nat -> Bool} (w : World) (h : SAt I P D p q1 q2 t n V w) (x : Int) :
  Calls Tryz.prog 119 #[.pointer (some ⟨p, 0, none⟩), .int .i64 x] w (Is (fptr P n x) w) := by
 have H := zSt h
 have S := zSt (fun w1 => zJk t n x w1 h.n4)
 have h4 := h.n4
 obtain ⟨x0, x1, x2, x3, x4⟩ := Bk.five h.box
 clear h
 by_cases hx : 0 <= x /\ x < (n : Int)
 ·have e : symB n x = true := decide_eq_true hx
  obtain ⟨s, rfl⟩ : ∃ s : Nat, x = (s : Int) := ⟨x.toNat, by omega⟩
  have EF := zSt (show fptr P n (s : Int) = .pointer (some ⟨P (.f s), 0, none⟩) by unfold fptr; rw [if_pos hx]; rfl)
  have hs : s < n := by omega
  rw [e] at S
  clear e
  go_enter Tryz.func119, Tryz.ntmps119
  go_wp2_with (go_at_call 152; refine (S.out _).mono ?_; rintro e w1 ⟨rfl, hb⟩; have HB := zSt hb; have y3 := cell_later hb x3; have z := cell_later hb (H.out.firsts s hs); clear hb x0 x1 x2 x3 x4)
  go_ret
  rw [EF.out]
  exact ⟨rfl, HB.out⟩
 ·have e : symB n x = false := decide_eq_false hx
  have EF := zSt (show fptr P n x = .pointer none by unfold fptr; rw [if_neg hx])
  rw [e] at S
  clear e hx
  go_enter Tryz.func119, Tryz.ntmps119
  go_wp2_with (go_at_call 152; refine (S.out _).mono ?_; rintro e w1 ⟨rfl, hb⟩; have HB := zSt hb; clear hb)
  go_ret
  rw [EF.out]
  exact ⟨rfl, HB.out⟩
theorem zKf {I : Ix -> Prop} {P D : Ix -> Nat} {p q1 q2 t n : Nat} {V : Ix -> Nat -> Bool} (w : World) (h : SAt I P D p q1 q2 t n V w) (x : Int) :
  Calls Tryz.prog 120 #[.pointer (some ⟨p, 0, none⟩), .int .i64 x] w (Is (gptr P t n x) w) := by
 have H := zSt h
 have S := zSt (fun w1 => zPC t n x w1 h.n4)
 have h4 := h.n4
 obtain ⟨x0, x1, x2, x3, x4⟩ := Bk.five h.box
 clear h
 by_cases hx : (t : Int) < x /\ x < (n : Int)
 ·have e : ntB t n x = true := decide_eq_true hx
  obtain ⟨s, rfl⟩ : ∃ s : Nat, x = (s : Int) := ⟨x.toNat, by omega⟩
  have EF := zSt (show gptr P t n (s : Int) = .pointer (some ⟨P (.g s), 0, none⟩) by unfold gptr; rw [if_pos hx]; rfl)
  have hs : s < n := by omega
  have hz := H.out.follows s hs
  rw [if_pos (by omega)] at hz
  have HZ := zSt hz
  rw [e] at S
  clear e hz
  go_enter Tryz.func120, Tryz.ntmps120
  go_wp2_with (go_at_call 116; refine (S.out _).mono ?_; rintro e w1 ⟨rfl, hb⟩; have HB := zSt hb; have y3 := cell_later hb x4; have z := cell_later hb HZ.out; clear hb x0 x1 x2 x3 x4)
  go_ret
  rw [EF.out]
  exact ⟨rfl, HB.out⟩
 ·have e : ntB t n x = false := decide_eq_false hx
  have EF := zSt (show gptr P t n x = .pointer none by unfold gptr; rw [if_neg hx])
  rw [e] at S
  clear e hx
  go_enter Tryz.func120, Tryz.ntmps120
  go_wp2_with (go_at_call 116; refine (S.out _).mono ?_; rintro e w1 ⟨rfl, hb⟩; have HB := zSt hb; clear hb)
  go_ret
  rw [EF.out]
  exact ⟨rfl, HB.out⟩
theorem zA1 (w : World) (m : Nat) : Below w.heap.size w (w.drewN m) := ⟨rfl, rfl, rfl, Nat.le_refl _, fun _ _ => rfl⟩
theorem zM8 {I : Ix -> Prop} {P D : Ix -> Nat} {p q1 q2 t n : Nat} {C : Int -> Bool} {F B : Int -> Int -> Bool} {O : Nat -> Bool} (w : World) (h : SAt I P D p q1 q2 t n (tv C F B O) w) (hC : Rng C n) (x : Int) (hx : x <= 9223372036854775807) :
  Calls Tryz.prog 151 #[.pointer (some ⟨p, 0, none⟩), .int .i64 x] w (Is (.bool (C x)) w) := by
 have H := zSt (Bt.zKp w (.at_ (h.fam.at_ .e h.ie)) x hx)
 rw [show has (tv C F B O .e) x = C x from zRU hC x] at H
 obtain ⟨x0, x1, x2, x3, x4⟩ := Bk.five h.box
 clear h
 go_enter Tryz.func151, Tryz.ntmps151
 go_wp2_with (go_at_call 125; refine H.out.mono ?_; rintro e w1 ⟨rfl, m, rfl⟩)
 go_ret
 exact ⟨rfl, zA1 _ _⟩
theorem zOl {I : Ix -> Prop} {P D : Ix -> Nat} {p q1 q2 t n : Nat} {V : Ix -> Nat -> Bool} (w : World) (h : SAt I P D p q1 q2 t n V w) :
  Calls Tryz.prog 115 #[.pointer (some ⟨p, 0, none⟩)] w (Bt.Made (t + 1) w) := by
 have hcap : Bt.cap ((t : Int) + 1) = t + 1 := by have := h.tn; have := h.n4; unfold Bt.cap; omega
 have N := zSt (Bt.zFj ((t : Int) + 1) w)
 rw [hcap] at N
 have ht := h.tn
 have h4 := h.n4
 obtain ⟨x0, x1, x2, x3, x4⟩ := Bk.five h.box
 clear h hcap
 go_enter Tryz.func115, Tryz.ntmps115
 go_wp2_with (go_at_call 93; refine N.out.mono ?_; rintro e w2 ⟨p, d, rfl, hM⟩; have M := zSt hM; clear hM)
 go_ret
 exact ⟨p, d, rfl, M.out⟩
