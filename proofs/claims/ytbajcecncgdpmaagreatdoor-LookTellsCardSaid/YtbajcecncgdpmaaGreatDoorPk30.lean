/- A part of the proof. -/
import Derived.Test.YtbajcecncgdpmaaGreatDoorPk29
import Derived.Deep.LoopGhost
set_option maxHeartbeats 4000000
set_option maxRecDepth 100000
set_option linter.unusedVariables false
namespace Go.Proofs.YtbajcecncgdpmaaGreatDoor
open Go.RowKit Go.Maps
namespace Au
open Gr (Gram Sh cell_later)
open Im
open It (isIn num)
def zHD (ks : List (List Itm)) (K : List Itm) : List (List Itm) := if K ∈ ks then ks else ks ++ [K]
def numK (ks : List (List Itm)) (K : List Itm) : Nat := (ks ++ [K]).idxOf K
theorem zQI {W : World} {p : Nat} {S : Nat -> Prop} {h : Sh} {G : Gram} {ks : List (List Itm)} {X : Itm -> Option Int} {n : Nat} {a : Option Addr} {c bt bn : Nat} {us : List Value} {w1 w2 : World} (k : Parts W p S h G ks X n a c bt bn us w1) (hg : w1.grownBy w2 (some bn)) :
  W.heap.size <= w2.heap.size /\ ∀ (w3 : World) (o : Obj), (w2.alloc o).grownBy w3 (Value.slice a ks.length c).ownBlock -> w3.cell? ⟨p, 4, none⟩ = some (.slice a ks.length c) /\ w3.frozen? ⟨p, 4, none⟩ = false := by
 have h1 := k.below.size
 have h2 := hg.size
 have h3 := k.inn p k.sp
 refine ⟨by omega, fun w3 o hg3 => ?_⟩
 have e : w3.heap[p]? = w1.heap[p]? := by
  rw [hg3.block p (by simp; omega) (fun e => (k.rp p e.symm).1 rfl), Below.heap_alloc _ _ _ (by omega), hg.block p h3 (fun e => k.np (by injection e with e; exact e.symm))]
 exact ⟨(World.cell?_of_block (a := ⟨p, 4, none⟩) e).trans k.items, (World.frozen?_of_block (a := ⟨p, 4, none⟩) e).trans k.free⟩
def zPb (W : World) (r : Nat) (p : Nat) (S : Nat -> Prop) (h : Sh) (G : Gram) (ks : List (List Itm)) (X : Itm -> Option Int) (n : Nat) (w : World) (e : Ending) (w' : World) : Prop :=
 e = .returned (.int .i64 (r : Int)) /\ ∃ T, BAt W p T h G ks X n w' /\ Sep.Fr S w w' /\ Sep.Ext T S w /\ ∀ v, w.cell? ⟨p, 5, none⟩ = some v -> w'.cell? ⟨p, 5, none⟩ = some v
theorem zFa {W : World} {p : Nat} {S : Nat -> Prop} {h : Sh} {G : Gram} {ks : List (List Itm)} {X : Itm -> Option Int} {n : Nat} (w : World) (k : BAt W p S h G ks X n w) (K : List Itm) (a : Option Addr) (c : Nat) (hK : LAt S K (.slice a K.length c) w)
  (hf : Fit3 K) (hs : ∀ x ∈ ks, Fit3 x) (hn : ks.Nodup) (hl : ks.length <= 1000000) (hL : K.length <= 1000000) :
  Calls Tryz.prog 40 #[.pointer (some ⟨p, 0, none⟩), .slice a K.length c] w (zPb W (numK ks K) p S h G (zHD ks K) X n w) := by
 obtain ⟨a0, c0, bt, bn, us, k⟩ := k
 have KE := zUB (zRT K a c w (by obtain ⟨_, _, e, _, h3, _⟩ := hK; simp only [Value.slice.injEq] at e; rw [e.1]; exact h3) hf hL)
 have hsz : (keyB K).size <= maxLen := by rw [zLW]; unfold maxLen; omega
 by_cases hin : K ∈ ks
 ·have hi := (zMo hs hf).2 hin
  have e1 : zHD ks K = ks := if_pos hin
  have e2 : numK ks K = num (zCF ks) (keyB K) := by
   unfold numK
   rw [List.idxOf_append, if_pos hin, zRd hs hf hn hin]
  rw [e1, e2]
  have k0 := zUB k
  clear hK k hf hs hn hl hL hin e1 e2
  go_enter Tryz.func40, Tryz.ntmps40
  go_wp2_with (first
   | (go_at_call 77; refine KE.out.mono ?_; rintro e w1 ⟨rfl, hb⟩; have k1 := zUB (k0.out.went hb); have HB := zUB hb; have q1 := k1.out.items; have q2 := k1.out.numbers; clear hb)
   | (at_lookup; refine zCo _ rfl _ _ rfl lawS Tryz.underlying9 Tryz.underlying93 Tryz.underlying3 (zNq _) bn ks.length (zCF ks) rfl k1.out.sm (keyB K) rfl hsz ?_))
  go_ret
  exact ⟨rfl, S, ⟨a0, c0, bt, bn, us, k1.out⟩, .of_below HB.out, .refl _ _, fun v hv => cell_later HB.out hv⟩
 ·have hi : isIn (zCF ks) (keyB K) = false := by
   cases e : isIn (zCF ks) (keyB K) with
   | false => rfl
   | true => exact absurd ((zMo hs hf).1 e) hin
  have e1 : zHD ks K = ks ++ [K] := if_neg hin
  have e2 : numK ks K = ks.length := by
   unfold numK
   rw [List.idxOf_append, if_neg hin]
   simp
  rw [e1, e2]
  have hkl : (zCF ks).length = ks.length := by simp [zCF]
  obtain ⟨i0, hj, hz0, hz1, hz2⟩ := info_parts zC7
  have k0 := zUB k
  have U0 := zUB hK
  clear hK k hf hs hn hin e1 e2
  go_enter Tryz.func40, Tryz.ntmps40
  go_wp2_with (first
   | (go_at_call 77; refine KE.out.mono ?_; rintro e w1 ⟨rfl, hb⟩; have k1 := zUB (k0.out.went hb); have U1 := zUB (U0.out.went hb); have HB := zUB hb; have q1 := k1.out.items; have q2 := k1.out.numbers; clear hb)
   | (at_lookup; refine zCo _ rfl _ _ rfl lawS Tryz.underlying9 Tryz.underlying93 Tryz.underlying3 (zNq _) bn ks.length (zCF ks) rfl k1.out.sm (keyB K) rfl hsz ?_)
   | (at_mapUpdate; refine zEe _ rfl _ _ _ rfl lawS Tryz.underlying9 Tryz.underlying93 Tryz.underlying3 bn ks.length (zCF ks) rfl k1.out.sm (by unfold maxLen; omega) (keyB K) rfl hsz hi _ rfl (by rw [hkl]) (by omega) ?_; intro w2 hm2 hg2; have M2 := zUB hm2; have G2 := zUB hg2; have ep := hg2.block p (k1.out.inn p k1.out.sp) (fun e => k1.out.np (by injection e with e; exact e.symm)); have q3 := (World.cell?_of_block (a := ⟨p, 4, none⟩) ep).trans k1.out.items; have f3 := (World.frozen?_of_block (a := ⟨p, 4, none⟩) ep).trans k1.out.free; have R3 := zUB (k1.out.row.kept hg2 (zQt k1.out)); have hw2 := (zQI k1.out hg2).1; have KP := zUB (zQI k1.out hg2).2; clear hm2 hg2 ep)
   | (at_builtin; refine wpList_append_own_at _ rfl _ _ 61 rfl W.heap.size 49 i0 (.slice none 0 0) 1 24 Tryz.underlying61 hj hz0 hz1 hz2 rfl (by decide) _ _ _ rfl (R3.out.alloc _) ⟨w2.heap.size, 0, none⟩ 1 1 [.slice a K.length c] rfl rfl (cell_one_new _ _ _) (by simp [Value.oneCell']) (by unfold maxLen; omega) (by omega) (by simp; omega) ?_; intro v' w3 hown3 hg3 _ hloc; obtain ⟨q5, f5⟩ := KP.out _ _ hg3; obtain ⟨a', c', rfl⟩ := Sep.zAc hown3; have O3 := zUB hown3; have G3 := zUB hg3; have HL := zUB hloc; clear hown3 hg3 hloc))
  go_ret
  obtain ⟨T, t1, t2, t3⟩ := added k1.out U1.out M2.out G2.out O3.out G3.out HL.out
  refine ⟨rfl, T, t1, (Sep.Fr.of_below HB.out).trans t2 (.refl _ _), t3.at HB.out.size, fun v hv => ?_⟩
  rw [World.cell?_setCell_other _ _ _ _ (fun q => by have := congrArg Addr.off q; simp at this)]
  have hp1 := k1.out.inn p k1.out.sp
  have h2 := G2.out.size
  have e : w3.heap[p]? = w1.heap[p]? := by
   rw [G3.out.block p (by simp; omega) (fun e => (k1.out.rp p e.symm).1 rfl), Below.heap_alloc _ _ _ (by omega), G2.out.block p hp1 (fun e => k1.out.np (by injection e with e; exact e.symm))]
  exact (World.cell?_of_block (a := ⟨p, 5, none⟩) e).trans (cell_later HB.out hv)
end Au
namespace Au
open Gr (Gram Sh gv GAt checkN boxed zAA zAK)
open Im
theorem zGR (n k : Nat) (h : k < n) (z : Value) : (madeCells #[z] n)[k]? = some z := by
 simp [madeCells, h, Nat.mod_one]
theorem zMb (n : Nat) (hn : n <= 10000) (w : World) :
  (Instr.makeSlice 61 (.int .i64 (n : Int)) (.int .i64 (n : Int))).run Tryz.prog w = .ok (.slice (some ⟨w.heap.size, 0, none⟩) n n) (w.alloc (.cells (madeCells #[.slice none 0 0] n) 49)) :=
 run_make_row' 61 49 (.slice none 0 0) 24 Tryz.underlying61 zC7 rfl .i64 .i64 n (by omega) (by omega) w
theorem zRr (n m : Nat) (w w' : World) (hm : w.heap.size < m) (hw : m <= w'.heap.size) (hb : w'.heap[w.heap.size]? = (w.alloc (.cells (madeCells #[.slice none 0 0] n) 49)).heap[w.heap.size]?) : Fam 57 w.heap.size m n (fun _ => []) (fun _ => .slice none 0 0) w' := by
 have B := Rw.Bk.new w (madeCells #[.slice none 0 0] n) 49 _ rfl
 exact ⟨fun s hs => (World.cell?_of_block (a := ⟨w.heap.size, s, none⟩) hb).trans (B.cell (zGR n s hs _)), fun j => (World.frozen?_of_block (a := ⟨w.heap.size, j, none⟩) hb).trans (B.free j), fun s _ => ItsV.nil _ _ _, fun s r _ _ _ g e => by simp [Value.ownBlock] at e, hm, hw⟩
def zPi (Y : List Itm) (w : World) (e : Ending) (w' : World) : Prop := ∃ a c, e = .returned (.slice a Y.length c) /\ ItsV 57 w.heap.size Y (.slice a Y.length c) w' /\ Below w.heap.size w w'
theorem zJg (h : Sh) (G : Gram) (hv : checkN G = 0) (L : List Itm) (a : Option Addr) (c : Nat) (w : World) (k : GAt h G w) (kl : ItsA a L w) (hw : ∀ x ∈ L, W64 x) (hL : L.length <= 1000000) :
  Calls Tryz.prog 114 #[gv h G, .slice a L.length c] w (zPi (clL G L) w) := by
 refine (zMq h G L a c w k kl hw hL).mono ?_
 rintro e w' ⟨Y, a', c', rfl, h1, h2, h3⟩
 have : Y = clL G L := (h1.iff (Q := Clo G L) fun x => ⟨fun q => q.2, fun q => ⟨hv, q⟩⟩).uniq (zDX G L)
 subst this
 exact ⟨a', c', rfl, h2, h3⟩
def zOw (F : Nat -> List Itm) (n : Nat) (w : World) (e : Ending) (w' : World) : Prop := ∃ b c, e = .returned (.slice (some ⟨b, 0, none⟩) n c) /\ w.heap.size <= b /\ b < w'.heap.size /\
 (∀ s, s < n -> ∃ a c', w'.cell? ⟨b, s, none⟩ = some (.slice a (F s).length c') /\ (F s).length <= c' /\ ItsA a (F s) w' /\ ∀ b' o, a = some ⟨b', o, none⟩ -> w.heap.size <= b') /\ Below w.heap.size w w'
theorem zNX {G : Gram} {c : List Itm} {k : Nat} (hk : k < c.length) (hb : behB G c[k] = true) {s : Nat} (hs : behV G c[k] = (s : Int)) (r : Nat) :
  upd (fun r : Nat => zAv G (c.take k) (r : Int)) s (zAv G (c.take k) (s : Int) ++ [(c[k].1, c[k].2 + 1)]) r = zAv G (c.take (k + 1)) (r : Int) := by
 rw [List.take_succ_eq_append_getElem hk, zFb]
 by_cases e : r = s
 ·subst e
  rw [upd_same, if_pos ⟨hb, hs⟩]
 ·rw [zAB e, if_neg, List.append_nil]
  rintro ⟨_, q⟩
  omega
theorem zPM {G : Gram} {c : List Itm} {k : Nat} (hk : k < c.length) (hb : behB G c[k] = false) (r : Int) : zAv G (c.take k) r = zAv G (c.take (k + 1)) r := by
 rw [List.take_succ_eq_append_getElem hk, zFb, if_neg, List.append_nil]
 rintro ⟨q, _⟩
 rw [hb] at q
 cases q
structure StR (W w w2 : World) (b n : Nat) (a : Option Addr) (G : Gram) (C : List Itm) (k : Nat) (D : Nat -> Value) (wr : World) : Prop where
 fam : Fam 57 b w2.heap.size n (fun s => zAv G (C.take k) (s : Int)) D wr
 fr : Sep.Fr (· = b) w2 wr
theorem StR.below {W w w2 wr : World} {b n k : Nat} {a : Option Addr} {G : Gram} {C : List Itm} {D : Nat -> Value} (h : StR W w w2 b n a G C k D wr) (hb : w.heap.size <= b) (h2 : Below w.heap.size w w2) : Below w.heap.size w wr :=
 h2.trans (h.fr.below (fun i hi => by omega) h2.size)
theorem StR.went {W w w2 wr wx : World} {b n k : Nat} {a : Option Addr} {G : Gram} {C : List Itm} {D : Nat -> Value} (h : StR W w w2 b n a G C k D wr) (hb : Below wr.heap.size wr wx) : StR W w w2 b n a G C k D wx :=
 ⟨h.fam.went hb, Rw.zCV h.fr hb⟩
structure BoxC (wb wc : World) (rb : Nat) (rr : List Int) (ra : Option Addr) (rc : Nat) : Prop where
 below : Below wb.heap.size wb wc
 cell : wc.cell? ⟨rb, 1, none⟩ = some (.slice ra rr.length rc)
 at_ : ∀ d (hd : d < rr.length), rr[d] ≠ 0 -> ∃ b2 o2, ra = some ⟨b2, o2, none⟩ /\ wc.cell? ⟨b2, o2 + d, none⟩ = some (.int .i64 rr[d])
theorem zHJ {ra : Option Addr} {rr : List Int} {w : World} (h : Sep.Reads ra (Gr.ivs rr) w) (d : Nat) (hd : d < rr.length) : ∃ b2 o2, ra = some ⟨b2, o2, none⟩ /\ w.cell? ⟨b2, o2 + d, none⟩ = some (.int .i64 rr[d]) := by
 obtain ⟨b2, o2, e, hc⟩ := h d (by simpa [Gr.ivs] using hd)
 exact ⟨b2, o2, e, by simpa [Gr.ivs, Gr.iv] using hc⟩
theorem zK8 {wb v1 : World} {rl : Int} {rr : List Int} {ra : Option Addr} {rc : Nat} (T : TypeId) (h : Below wb.heap.size wb v1) (r : Sep.Reads ra (Gr.ivs rr) v1) : BoxC wb (v1.alloc (.cells #[.int .i64 rl, .slice ra rr.length rc] T)) v1.heap.size rr ra rc :=
 ⟨Gr.step h (boxed _ _), zAA rfl rfl, fun d hd _ => by
  obtain ⟨b2, o2, e, hc⟩ := zHJ r d hd
  exact ⟨b2, o2, e, zAK hc⟩⟩
theorem zM9 {wb v1 : World} {rl : Int} {rr : List Int} {ra : Option Addr} {rc : Nat} (h : Below wb.heap.size wb v1) (r : Sep.Reads ra (Gr.ivs rr) v1) (z0 : v1.cell? ⟨wb.heap.size, 0, none⟩ = some (.int .i64 0)) (z1 : v1.cell? ⟨wb.heap.size, 1, none⟩ = some (.slice none 0 0)) :
  BoxC wb ((v1.setCell ⟨wb.heap.size, 0, none⟩ (.int .i64 rl)).setCell ⟨wb.heap.size, 1, none⟩ (.slice ra rr.length rc)) wb.heap.size rr ra rc :=
 ⟨(h.setCell (Nat.le_refl _) _).setCell (Nat.le_refl _) _, World.cell?_setCell_same _ _ _ (by rw [World.cell?_setCell_other _ _ _ _ (fun q => by have := congrArg Addr.off q; simp at this)]; exact z1), fun d hd hne => by
  obtain ⟨b2, o2, e, hc⟩ := zHJ r d hd
  refine ⟨b2, o2, e, ?_⟩
  rw [World.cell?_setCell_other _ _ _ _ (fun q => by
   rw [← q] at hc
   rw [hc] at z1
   cases z1), World.cell?_setCell_other _ _ _ _ (fun q => by
   rw [← q, z0] at hc
   injection hc with hc
   injection hc with _ hc
   exact hne hc.symm)]
  exact hc⟩
end Au
namespace Fr
open Gr
open Fi (rw' lst zNQ zIe zEf)
open Bt (Keeps)
open Rw (zAH)
structure BRow (d m : Nat) (P : Nat -> Bool) (w : World) : Prop where
 at_ : ∀ s : Nat, s < m -> w.cell? ⟨d, s, none⟩ = some (.bool (P s))
 free : ∀ j : Nat, w.frozen? ⟨d, j, none⟩ = false
 lt : d < w.heap.size
theorem BRow.block {d m : Nat} {P : Nat -> Bool} {w w' : World} (h : BRow d m P w) (hb : w'.heap[d]? = w.heap[d]?) (hs : w.heap.size <= w'.heap.size) : BRow d m P w' :=
 ⟨fun s hs => (World.cell?_of_block (a := ⟨d, s, none⟩) hb).trans (h.at_ s hs), fun x => (World.frozen?_of_block (a := ⟨d, x, none⟩) hb).trans (h.free x), Nat.lt_of_lt_of_le h.lt hs⟩
theorem BRow.went {d m : Nat} {P : Nat -> Bool} {w w' : World} (h : BRow d m P w) (hb : Below w.heap.size w w') : BRow d m P w' := h.block (hb.block d h.lt) hb.size
theorem BRow.keeps {d m k : Nat} {P : Nat -> Bool} {w w' : World} (h : BRow d m P w) (hk : Keeps k w w') (hd : d ≠ k) : BRow d m P w' := h.block (hk.block d h.lt hd) hk.size
theorem BRow.congr {d m : Nat} {P Q : Nat -> Bool} {w : World} (h : BRow d m P w) (e : ∀ s, s < m -> P s = Q s) : BRow d m Q w := ⟨fun s hs => by rw [← e s hs]; exact h.at_ s hs, h.free, h.lt⟩
theorem BRow.set {d m : Nat} {P : Nat -> Bool} {w : World} (h : BRow d m P w) {s : Nat} (hs : s < m) : BRow d m (fun t => P t || decide (t = s)) (w.setCell ⟨d, s, none⟩ (.bool true)) := by
 refine ⟨fun t ht => ?_, fun j => ?_, by rw [Rw.zBo]; exact h.lt⟩
 ·by_cases e : t = s
  ·subst e
   rw [World.cell?_setCell_same _ _ _ (h.at_ t ht)]
   simp
  ·rw [World.cell?_setCell_other _ _ _ _ (by intro e2; exact e (congrArg Addr.off e2).symm), h.at_ t ht]
   simp [e]
 ·rw [World.frozen?_setCell]
  exact h.free j
theorem zNZ : (Tryz.prog.info? 4).map (fun i => (i.zero, i.size, i.bytes)) = some (some (.bool false), 1, 1) := by kernel_rfl
theorem zCc (n : Nat) (hn : n <= 10000) (w : World) :
  (Instr.makeSlice 65 (.int .i64 (n : Int)) (.int .i64 (n : Int))).run Tryz.prog w = .ok (.slice (some ⟨w.heap.size, 0, none⟩) n n) (w.alloc (.cells (madeCells #[.bool false] n) 4)) :=
 run_make_row' 65 4 (.bool false) 1 Tryz.underlying65 zNZ rfl .i64 .i64 n (by omega) (by omega) w
theorem zGT (n : Nat) (w : World) : BRow w.heap.size n (fun _ => false) (w.alloc (.cells (madeCells #[.bool false] n) 4)) := by
 have B := Rw.Bk.new w (madeCells #[.bool false] n) 4 _ rfl
 exact ⟨fun s hs => B.cell (Bt.zC9 n s hs _), fun j => B.free j, B.lt⟩
def upK (P Q : Nat -> Bool) (k : Nat) : Nat -> Bool := fun i => P i || (decide (i < k) && Q i)
theorem zOO (P Q : Nat -> Bool) : upK P Q 0 = P := by funext i; simp [upK]
theorem zSC {P Q : Nat -> Bool} {m : Nat} (hQ : ∀ i, Q i = true -> i < m) : upK P Q m = fun i => P i || Q i := by
 funext i
 unfold upK
 cases e : Q i with
 | false => simp
 | true => simp [hQ i e]
theorem zJU {P Q : Nat -> Bool} {k : Nat} (h : Q k = true -> P k = true) : upK P Q (k + 1) = upK P Q k := by
 funext i
 unfold upK
 by_cases e : i = k
 ·subst e
  cases hq : Q i with
  | false => simp
  | true => simp [h hq]
 ·have : decide (i < k + 1) = decide (i < k) := by rw [decide_eq_decide]; omega
  rw [this]
theorem zRC {P Q : Nat -> Bool} {k : Nat} (h : Q k = true) : (fun t => upK P Q k t || decide (t = k)) = upK P Q (k + 1) := by
 funext i
 unfold upK
 by_cases e : i = k
 ·subst e
  simp [h]
 ·have : decide (i < k + 1) = decide (i < k) := by rw [decide_eq_decide]; omega
  rw [this]
  simp [e]
theorem zTE (P Q : Nat -> Bool) (k : Nat) : upK P Q k k = P k := by simp [upK]
def Gk (P Q : Nat -> Bool) (k : Nat) (b : Bool) : Prop := b = true ↔ ∃ i, i < k /\ Q i = true /\ P i = false
theorem zH9 (P Q : Nat -> Bool) : Gk P Q 0 false := by
 unfold Gk
 constructor
 ·intro h; cases h
 ·rintro ⟨i, h, _⟩; omega
theorem zGJ {P Q : Nat -> Bool} {k : Nat} {b : Bool} (h : Gk P Q k b) (hk : Q k = true -> P k = true) : Gk P Q (k + 1) b := by
 unfold Gk at h ⊢
 rw [h]
 constructor
 ·rintro ⟨i, h1, h2⟩; exact ⟨i, by omega, h2⟩
 ·rintro ⟨i, h1, h2, h3⟩
  by_cases e : i = k
  ·subst e
   rw [hk h2] at h3
   cases h3
  ·exact ⟨i, by omega, h2, h3⟩
theorem zSY {P Q : Nat -> Bool} {k : Nat} (h1 : Q k = true) (h2 : P k = false) : Gk P Q (k + 1) true := ⟨fun _ => ⟨k, by omega, h1, h2⟩, fun _ => rfl⟩
def zSx (d m : Nat) (P Q : Nat -> Bool) (w : World) (e : Ending) (w' : World) : Prop :=
 ∃ b, e = .returned (.bool b) /\ (b = true ↔ ∃ i, Q i = true /\ P i = false) /\ BRow d m (fun i => P i || Q i) w' /\ Keeps d w w'
def zTz (d e m : Nat) (P Q : Nat -> Bool) (W : World) (v i : Value) (w : World) : Prop :=
 ∃ (k : Nat) (b : Bool), k <= m /\ i = .int .i64 k /\ v = .bool b /\ Gk P Q k b /\ BRow d m (upK P Q k) w /\ BRow e m Q w /\ Keeps d W w
theorem zAt (d e m c1 c2 : Nat) (P Q : Nat -> Bool) (w : World) (hd : BRow d m P w) (he : BRow e m Q w) (hne : d ≠ e) (hQ : ∀ i, Q i = true -> i < m) (hm : m <= 10000) :
  Calls Tryz.prog 34 #[.slice (some ⟨d, 0, none⟩) m c1, .slice (some ⟨e, 0, none⟩) m c2] w (zSx d m P Q w) := by
 have D0 := zUB (show BRow d m (upK P Q 0) w by rw [zOO]; exact hd)
 have E0 := zUB he
 have QE := zUB (zSC (P := P) hQ)
 have HQ := zUB hQ
 clear hd he hQ
 go_enter Tryz.func34, Tryz.ntmps34
 go_wp2
 go_loopw [5, 6] (fun v i wr => zTz d e m P Q w v i wr) (fun _ i _ => m - (intOf i).toNat)
 case atStart => exact ⟨0, false, Nat.zero_le _, rfl, rfl, zH9 _ _, D0.out, E0.out, .refl _ _⟩
 case round =>
  clear D0 E0
  obtain ⟨k, b, hk, rfl, rfl, hg, hD, hE, hK⟩ := hrel
  have GG := zUB hg
  have D1 := zUB hD
  have E1 := zUB hE
  have K1 := zUB hK
  clear hg hD hE hK
  by_cases hlt : k < m
  ·have z1 := D1.out.at_ k hlt
   rw [zTE] at z1
   have z2 := E1.out.at_ k hlt
   have zf := D1.out.free k
   cases hq : Q k with
   | false =>
    have G2 := zUB (zGJ GG.out (fun h => by rw [hq] at h; cases h))
    have D2 := zUB (show BRow d m (upK P Q (k + 1)) wr by rw [zJU (fun h => by rw [hq] at h; cases h)]; exact D1.out)
    rw [hq] at z2
    clear hq
    go_wp2
    go_roundw
    case rel => exact ⟨k + 1, b, by omega, by go_num, rfl, G2.out, D2.out, E1.out, K1.out⟩
    case measure => simp [intOf]; omega
   | true =>
    cases hp : P k with
    | true =>
     have G2 := zUB (zGJ GG.out (fun _ => hp))
     have D2 := zUB (show BRow d m (upK P Q (k + 1)) wr by rw [zJU (fun _ => hp)]; exact D1.out)
     rw [hq] at z2
     rw [hp] at z1
     clear hq hp
     go_wp2
     go_roundw
     case rel => exact ⟨k + 1, b, by omega, by go_num, rfl, G2.out, D2.out, E1.out, K1.out⟩
     case measure => simp [intOf]; omega
    | false =>
     have G2 := zUB (zSY hq hp)
     have D2 := zUB (show BRow d m (upK P Q (k + 1)) (wr.setCell ⟨d, k, none⟩ (.bool true)) by rw [← zRC hq]; exact D1.out.set hlt)
     have K2 := zUB ((Keeps.refl d wr).setCell k (.bool true))
     have E2 := zUB (E1.out.keeps K2.out (fun h => hne h.symm))
     rw [hq] at z2
     rw [hp] at z1
     clear hq hp
     go_wp2
     go_roundw
     case rel => exact ⟨k + 1, true, by omega, by go_num, rfl, G2.out, D2.out, E2.out, K1.out.trans K2.out⟩
     case measure => simp [intOf]; omega
  ·have hE : k = m := by omega
   subst hE
   have D2 := zUB (show BRow d k (fun i => P i || Q i) wr by rw [← QE.out]; exact D1.out)
   have G2 := zUB (show b = true ↔ ∃ i, Q i = true /\ P i = false from by
    have := GG.out
    unfold Gk at this
    rw [this]
    exact ⟨fun ⟨i, _, h⟩ => ⟨i, h⟩, fun ⟨i, h⟩ => ⟨i, HQ.out i h.1, h⟩⟩)
   go_wp2
   go_ret
   exact ⟨b, rfl, G2.out, D2.out, K1.out⟩
theorem zNu (d m c1 c2 : Nat) (P : Nat -> Bool) (w : World) (hd : BRow d m P w) (hm : m <= 10000) :
  Calls Tryz.prog 34 #[.slice (some ⟨d, 0, none⟩) m c1, .slice (some ⟨d, 0, none⟩) m c2] w (fun e w' => e = .returned (.bool false) /\ w = w') := by
 have D0 := zUB hd
 clear hd
 go_enter Tryz.func34, Tryz.ntmps34
 go_wp2
 go_loopw [5, 6] (fun v i wr => ∃ k : Nat, k <= m /\ i = .int .i64 k /\ v = .bool false /\ w = wr) (fun _ i _ => m - (intOf i).toNat)
 case atStart => exact ⟨0, Nat.zero_le _, rfl, rfl, rfl⟩
 case round =>
  obtain ⟨k, hk, rfl, rfl, eqs⟩ := hrel
  subst eqs
  by_cases hlt : k < m
  ·have z1 := D0.out.at_ k hlt
   cases hq : P k with
   | false =>
    rw [hq] at z1
    clear hq
    go_wp2
    go_roundw
    case rel => exact ⟨k + 1, by omega, by go_num, rfl, by first | rfl | trivial⟩
    case measure => simp [intOf]; omega
   | true =>
    rw [hq] at z1
    clear hq
    go_wp2
    go_roundw
    case rel => exact ⟨k + 1, by omega, by go_num, rfl, by first | rfl | trivial⟩
    case measure => simp [intOf]; omega
  ·go_wp2
   go_ret
   exact ⟨rfl, rfl⟩
theorem zAx : (Tryz.prog.info? 3).map (fun i => (i.zero, i.size, i.bytes)) = some (some (.int .i64 0), 1, 8) := by kernel_rfl
def zTd (Q : Int -> Bool) (d m : Nat) (W : World) (v i : Value) (w : World) : Prop :=
 ∃ k : Nat, k <= m /\ i = .int .i64 k /\ W.heap.size <= w.heap.size /\ w.ownsRow W.heap.size 3 1 v (lst Q k).length (ivs (lst Q k)) /\ Below W.heap.size W w
theorem zCh (Q : Int -> Bool) (d m c : Nat) (w : World) (hd : BRow d m (rw' Q) w) (hm : m <= 10000) :
  Calls Tryz.prog 38 #[.slice (some ⟨d, 0, none⟩) m c] w (Listed (lst Q m) w) := by
 obtain ⟨i0, hi, hz0, hz1, hz2⟩ := info_parts zAx
 have D0 := zUB (fun w' (b : Below w.heap.size w w') => hd.went b)
 clear hd
 go_enter Tryz.func38, Tryz.ntmps38
 go_wp2
 go_loopw [3, 4] (fun v i wr => zTd Q d m w v i wr) (fun _ i _ => m - (intOf i).toNat)
 case atStart => exact ⟨0, Nat.zero_le _, rfl, Nat.le_refl _, World.ownsRow_nil _ _ _ _, .refl _ _⟩
 case round =>
  obtain ⟨k, hk, rfl, hsz, hO, hb⟩ := hrel
  have O := zUB hO
  have B := zUB hb
  obtain ⟨va, vc, rfl⟩ := zAH hO
  have hl := zEf Q k
  clear hO hb
  by_cases hlt : k < m
  ·have z := (D0.out _ B.out).at_ k hlt
   cases hq : rw' Q k with
   | false =>
    have E := zUB (zIe (P := Q) (n := k) hq)
    rw [hq] at z
    clear hq
    go_wp2
    go_roundw
    case rel => exact ⟨k + 1, by omega, by go_num, hsz, by rw [E.out]; exact O.out, B.out⟩
    case measure => simp [intOf]; omega
   | true =>
    have E := zUB (zNQ (P := Q) (n := k) hq)
    rw [hq] at z
    clear hq
    go_wp2_with (at_builtin; refine wpList_append_own _ rfl _ _ 37 rfl w.heap.size 3 i0 (.int .i64 0) 1 8 Tryz.underlying37 hi hz0 hz1 hz2 rfl (by decide) _ _ _ rfl (O.out.alloc _) ⟨wr.heap.size, 0, none⟩ 1 1 [.int .i64 (k : Int)] rfl rfl ?c1 ?c2 ?c3 ?c4 ?c5 ?_)
    case c1 =>
     intro j u hj
     match j, hj with
     | 0, hj => simp at hj; subst hj; simp [Addr.add]
    case c2 => intro u hu; simp at hu; subst hu; rfl
    case c3 => unfold maxLen; omega
    case c4 => omega
    case c5 => simp; omega
    intro v' w2 hown' hgrow _
    have O2 := zUB (show w2.ownsRow w.heap.size 3 1 v' (lst Q (k + 1)).length (ivs (lst Q (k + 1))) by
     rw [E.out]
     unfold ivs at hown' ⊢
     rw [List.map_append, List.length_append]
     exact hown')
    have B2 : Hid (Below w.heap.size w w2) := (B.out.alloc hsz _).grown hgrow (by simp; omega) (fun q hq => (O.out.lt q hq).1)
    have hs2 := B2.out.size
    clear hown' hgrow
    go_wp2
    go_roundw
    case rel => exact ⟨k + 1, by omega, by go_num, hs2, O2.out, B2.out⟩
    case measure => simp [intOf]; omega
  ·have hE : k = m := by omega
   subst hE
   go_wp2
   go_ret
   exact ⟨va, vc, rfl, Sep.Reads.of_row O.out, zDj O.out (Nat.le_refl _), B.out⟩
