/- A part of the proof. -/
import Derived.Test.YtbajcecncgdpmaaGreatDoorPk37
import Derived.Deep.OwnRows
import Derived.Test.YtbajcecncgdpmaaGreatDoorPk38
set_option maxHeartbeats 2000000
set_option maxRecDepth 100000
set_option linter.unusedVariables false
namespace Go.Proofs.YtbajcecncgdpmaaGreatDoor
open Go.RowKit Go.Maps
namespace Lk
open Gr (ivs)
theorem zSV : Tryz.prog.underlying 37 = some (.slice (Tryz.prog.elem 37)) := by kernel_rfl
theorem zSp (w : World) : (sizeOf (Tryz.prog.elem 37)).run Tryz.prog w = .ok 1 w := by kernel_rfl
theorem zNY (X : List Int) (k : Nat) : ivs (X.drop k) = (ivs X).drop k := by simp [ivs]
theorem zK7 (X : List Int) : (ivs X).length = X.length := by simp [ivs]
end Lk
namespace Au
open Gr (Gram Sh cell_later)
open Im
open It (isIn num)
def zGg (ks : List (List Itm)) (K : List Itm) : List (List Itm) := if K ∈ ks then ks else ks ++ [K]
def numK (ks : List (List Itm)) (K : List Itm) : Nat := (ks ++ [K]).idxOf K
theorem zO8 {W : World} {p : Nat} {S : Nat -> Prop} {h : Sh} {G : Gram} {ks : List (List Itm)} {X : Itm -> Option Int} {n : Nat} {a : Option Addr} {c bt bn : Nat} {us : List Value} {w1 w2 : World} (k : Parts W p S h G ks X n a c bt bn us w1) (hg : w1.grownBy w2 (some bn)) :
  W.heap.size <= w2.heap.size /\ ∀ (w3 : World) (o : Obj), (w2.alloc o).grownBy w3 (Value.slice a ks.length c).ownBlock -> w3.cell? ⟨p, 4, none⟩ = some (.slice a ks.length c) /\ w3.frozen? ⟨p, 4, none⟩ = false := by
 have h1 := k.below.size
 have h2 := hg.size
 have h3 := k.inn p k.sp
 refine ⟨by omega, fun w3 o hg3 => ?_⟩
 have e : w3.heap[p]? = w1.heap[p]? := by
  rw [hg3.block p (by simp; omega) (fun e => (k.rp p e.symm).1 rfl), Below.heap_alloc _ _ _ (by omega), hg.block p h3 (fun e => k.np (by injection e with e; exact e.symm))]
 exact ⟨(World.cell?_of_block (a := ⟨p, 4, none⟩) e).trans k.items, (World.frozen?_of_block (a := ⟨p, 4, none⟩) e).trans k.free⟩
def zMk (W : World) (r : Nat) (p : Nat) (S : Nat -> Prop) (h : Sh) (G : Gram) (ks : List (List Itm)) (X : Itm -> Option Int) (n : Nat) (w : World) (e : Ending) (w' : World) : Prop :=
 e = .returned (.int .i64 (r : Int)) /\ ∃ T, BAt W p T h G ks X n w' /\ Sep.Fr S w w' /\ Sep.Ext T S w /\ ∀ v, w.cell? ⟨p, 5, none⟩ = some v -> w'.cell? ⟨p, 5, none⟩ = some v
theorem zE4 {W : World} {p : Nat} {S : Nat -> Prop} {h : Sh} {G : Gram} {ks : List (List Itm)} {X : Itm -> Option Int} {n : Nat} (w : World) (k : BAt W p S h G ks X n w) (K : List Itm) (a : Option Addr) (c : Nat) (hK : LAt S K (.slice a K.length c) w)
  (hf : Fit3 K) (hs : ∀ x ∈ ks, Fit3 x) (hn : ks.Nodup) (hl : ks.length <= 1000000) (hL : K.length <= 1000000) :
  Calls Tryz.prog 40 #[.pointer (some ⟨p, 0, none⟩), .slice a K.length c] w (zMk W (numK ks K) p S h G (zGg ks K) X n w) := by
 obtain ⟨a0, c0, bt, bn, us, k⟩ := k
 have KE := zSt (zP8 K a c w (by obtain ⟨_, _, e, _, h3, _⟩ := hK; simp only [Value.slice.injEq] at e; rw [e.1]; exact h3) hf hL)
 have hsz : (keyB K).size <= maxLen := by rw [zLC]; unfold maxLen; omega
 by_cases hin : K ∈ ks
 ·have hi := (zLE hs hf).2 hin
  have e1 : zGg ks K = ks := if_pos hin
  have e2 : numK ks K = num (zBr ks) (keyB K) := by
   unfold numK
   rw [List.idxOf_append, if_pos hin, zQA hs hf hn hin]
  rw [e1, e2]
  have k0 := zSt k
  clear hK k hf hs hn hl hL hin e1 e2
  go_enter Tryz.func40, Tryz.ntmps40
  go_wp2_with (first
   | (go_at_call 77; refine KE.out.mono ?_; rintro e w1 ⟨rfl, hb⟩; have k1 := zSt (k0.out.went hb); have HB := zSt hb; have q1 := k1.out.items; have q2 := k1.out.numbers; clear hb)
   | (at_lookup; refine zCY _ rfl _ _ rfl lawS Tryz.underlying9 Tryz.underlying93 Tryz.underlying3 (zOz _) bn ks.length (zBr ks) rfl k1.out.sm (keyB K) rfl hsz ?_))
  go_ret
  exact ⟨rfl, S, ⟨a0, c0, bt, bn, us, k1.out⟩, .of_below HB.out, .refl _ _, fun v hv => cell_later HB.out hv⟩
 ·have hi : isIn (zBr ks) (keyB K) = false := by
   cases e : isIn (zBr ks) (keyB K) with
   | false => rfl
   | true => exact absurd ((zLE hs hf).1 e) hin
  have e1 : zGg ks K = ks ++ [K] := if_neg hin
  have e2 : numK ks K = ks.length := by
   unfold numK
   rw [List.idxOf_append, if_neg hin]
   simp
  rw [e1, e2]
  have hkl : (zBr ks).length = ks.length := by simp [zBr]
  obtain ⟨i0, hj, hz0, hz1, hz2⟩ := info_parts zDa
  have k0 := zSt k
  have U0 := zSt hK
  clear hK k hf hs hn hin e1 e2
  go_enter Tryz.func40, Tryz.ntmps40
  go_wp2_with (first
   | (go_at_call 77; refine KE.out.mono ?_; rintro e w1 ⟨rfl, hb⟩; have k1 := zSt (k0.out.went hb); have U1 := zSt (U0.out.went hb); have HB := zSt hb; have q1 := k1.out.items; have q2 := k1.out.numbers; clear hb)
   | (at_lookup; refine zCY _ rfl _ _ rfl lawS Tryz.underlying9 Tryz.underlying93 Tryz.underlying3 (zOz _) bn ks.length (zBr ks) rfl k1.out.sm (keyB K) rfl hsz ?_)
   | (at_mapUpdate; refine zEQ _ rfl _ _ _ rfl lawS Tryz.underlying9 Tryz.underlying93 Tryz.underlying3 bn ks.length (zBr ks) rfl k1.out.sm (by unfold maxLen; omega) (keyB K) rfl hsz hi _ rfl (by rw [hkl]) (by omega) ?_; intro w2 hm2 hg2; have M2 := zSt hm2; have G2 := zSt hg2; have ep := hg2.block p (k1.out.inn p k1.out.sp) (fun e => k1.out.np (by injection e with e; exact e.symm)); have q3 := (World.cell?_of_block (a := ⟨p, 4, none⟩) ep).trans k1.out.items; have f3 := (World.frozen?_of_block (a := ⟨p, 4, none⟩) ep).trans k1.out.free; have R3 := zSt (k1.out.row.kept hg2 (zQc k1.out)); have hw2 := (zO8 k1.out hg2).1; have KP := zSt (zO8 k1.out hg2).2; clear hm2 hg2 ep)
   | (at_builtin; refine wpList_append_own_at _ rfl _ _ 61 rfl W.heap.size 49 i0 (.slice none 0 0) 1 24 Tryz.underlying61 hj hz0 hz1 hz2 rfl (by decide) _ _ _ rfl (R3.out.alloc _) ⟨w2.heap.size, 0, none⟩ 1 1 [.slice a K.length c] rfl rfl (cell_one_new _ _ _) (by simp [Value.oneCell']) (by unfold maxLen; omega) (by omega) (by simp; omega) ?_; intro v' w3 hown3 hg3 _ hloc; obtain ⟨q5, f5⟩ := KP.out _ _ hg3; obtain ⟨a', c', rfl⟩ := Sep.zAZ hown3; have O3 := zSt hown3; have G3 := zSt hg3; have HL := zSt hloc; clear hown3 hg3 hloc))
  go_ret
  obtain ⟨T, t1, t2, t3⟩ := added k1.out U1.out M2.out G2.out O3.out G3.out HL.out
  refine ⟨rfl, T, t1, (Sep.Fr.of_below HB.out).trans t2 (.refl _ _), t3.at HB.out.size, fun v hv => ?_⟩
  rw [World.cell?_setCell_other _ _ _ _ (fun q => by have := congrArg Addr.off q; simp at this)]
  have hp1 := k1.out.inn p k1.out.sp
  have h2 := G2.out.size
  have e : w3.heap[p]? = w1.heap[p]? := by
   rw [G3.out.block p (by simp; omega) (fun e => (k1.out.rp p e.symm).1 rfl), Below.heap_alloc _ _ _ (by omega), G2.out.block p hp1 (fun e => k1.out.np (by injection e with e; exact e.symm))]
  exact (World.cell?_of_block (a := ⟨p, 5, none⟩) e).trans (cell_later HB.out hv)
end Au
namespace Au
open Gr (Gram Sh gv GAt checkN boxed zAA zAJ)
open Im
theorem zFg (n k : Nat) (h : k < n) (z : Value) : (madeCells #[z] n)[k]? = some z := by
 simp [madeCells, h, Nat.mod_one]
theorem zLT (n : Nat) (hn : n <= 10000) (w : World) :
  (Instr.makeSlice 61 (.int .i64 (n : Int)) (.int .i64 (n : Int))).run Tryz.prog w = .ok (.slice (some ⟨w.heap.size, 0, none⟩) n n) (w.alloc (.cells (madeCells #[.slice none 0 0] n) 49)) :=
 run_make_row' 61 49 (.slice none 0 0) 24 Tryz.underlying61 zDa rfl .i64 .i64 n (by omega) (by omega) w
theorem zPk (n m : Nat) (w w' : World) (hm : w.heap.size < m) (hw : m <= w'.heap.size) (hb : w'.heap[w.heap.size]? = (w.alloc (.cells (madeCells #[.slice none 0 0] n) 49)).heap[w.heap.size]?) : Fam 57 w.heap.size m n (fun _ => []) (fun _ => .slice none 0 0) w' := by
 have B := Rw.Bk.new w (madeCells #[.slice none 0 0] n) 49 _ rfl
 exact ⟨fun s hs => (World.cell?_of_block (a := ⟨w.heap.size, s, none⟩) hb).trans (B.cell (zFg n s hs _)), fun j => (World.frozen?_of_block (a := ⟨w.heap.size, j, none⟩) hb).trans (B.free j), fun s _ => ItsV.nil _ _ _, fun s r _ _ _ g e => by simp [Value.ownBlock] at e, hm, hw⟩
def zMh (Y : List Itm) (w : World) (e : Ending) (w' : World) : Prop := ∃ a c, e = .returned (.slice a Y.length c) /\ ItsV 57 w.heap.size Y (.slice a Y.length c) w' /\ Below w.heap.size w w'
theorem zIz (h : Sh) (G : Gram) (hv : checkN G = 0) (L : List Itm) (a : Option Addr) (c : Nat) (w : World) (k : GAt h G w) (kl : ItsA a L w) (hw : ∀ x ∈ L, W64 x) (hL : L.length <= 1000000) :
  Calls Tryz.prog 114 #[gv h G, .slice a L.length c] w (zMh (clL G L) w) := by
 refine (zKS h G L a c w k kl hw hL).mono ?_
 rintro e w' ⟨Y, a', c', rfl, h1, h2, h3⟩
 have : Y = clL G L := (h1.iff (Q := Clo G L) fun x => ⟨fun q => q.2, fun q => ⟨hv, q⟩⟩).uniq (zEY G L)
 subst this
 exact ⟨a', c', rfl, h2, h3⟩
def zMo (F : Nat -> List Itm) (n : Nat) (w : World) (e : Ending) (w' : World) : Prop := ∃ b c, e = .returned (.slice (some ⟨b, 0, none⟩) n c) /\ w.heap.size <= b /\ b < w'.heap.size /\
 (∀ s, s < n -> ∃ a c', w'.cell? ⟨b, s, none⟩ = some (.slice a (F s).length c') /\ (F s).length <= c' /\ ItsA a (F s) w' /\ ∀ b' o, a = some ⟨b', o, none⟩ -> w.heap.size <= b') /\ Below w.heap.size w w'
theorem zKb {G : Gram} {c : List Itm} {k : Nat} (hk : k < c.length) (hb : behB G c[k] = true) {s : Nat} (hs : behV G c[k] = (s : Int)) (r : Nat) :
  upd (fun r : Nat => zAl G (c.take k) (r : Int)) s (zAl G (c.take k) (s : Int) ++ [(c[k].1, c[k].2 + 1)]) r = zAl G (c.take (k + 1)) (r : Int) := by
 rw [List.take_succ_eq_append_getElem hk, zFD]
 by_cases e : r = s
 ·subst e
  rw [upd_same, if_pos ⟨hb, hs⟩]
 ·rw [zAC e, if_neg, List.append_nil]
  rintro ⟨_, q⟩
  omega
theorem zND {G : Gram} {c : List Itm} {k : Nat} (hk : k < c.length) (hb : behB G c[k] = false) (r : Int) : zAl G (c.take k) r = zAl G (c.take (k + 1)) r := by
 rw [List.take_succ_eq_append_getElem hk, zFD, if_neg, List.append_nil]
 rintro ⟨q, _⟩
 rw [hb] at q
 cases q
structure StR (W w w2 : World) (b n : Nat) (a : Option Addr) (G : Gram) (C : List Itm) (k : Nat) (D : Nat -> Value) (wr : World) : Prop where
 fam : Fam 57 b w2.heap.size n (fun s => zAl G (C.take k) (s : Int)) D wr
 fr : Sep.Fr (· = b) w2 wr
theorem StR.below {W w w2 wr : World} {b n k : Nat} {a : Option Addr} {G : Gram} {C : List Itm} {D : Nat -> Value} (h : StR W w w2 b n a G C k D wr) (hb : w.heap.size <= b) (h2 : Below w.heap.size w w2) : Below w.heap.size w wr :=
 h2.trans (h.fr.below (fun i hi => by omega) h2.size)
theorem StR.went {W w w2 wr wx : World} {b n k : Nat} {a : Option Addr} {G : Gram} {C : List Itm} {D : Nat -> Value} (h : StR W w w2 b n a G C k D wr) (hb : Below wr.heap.size wr wx) : StR W w w2 b n a G C k D wx :=
 ⟨h.fam.went hb, Rw.zB7 h.fr hb⟩
structure BoxC (wb wc : World) (rb : Nat) (rr : List Int) (ra : Option Addr) (rc : Nat) : Prop where
 below : Below wb.heap.size wb wc
 cell : wc.cell? ⟨rb, 1, none⟩ = some (.slice ra rr.length rc)
 at_ : ∀ d (hd : d < rr.length), rr[d] ≠ 0 -> ∃ b2 o2, ra = some ⟨b2, o2, none⟩ /\ wc.cell? ⟨b2, o2 + d, none⟩ = some (.int .i64 rr[d])
theorem zGp {ra : Option Addr} {rr : List Int} {w : World} (h : Sep.Reads ra (Gr.ivs rr) w) (d : Nat) (hd : d < rr.length) : ∃ b2 o2, ra = some ⟨b2, o2, none⟩ /\ w.cell? ⟨b2, o2 + d, none⟩ = some (.int .i64 rr[d]) := by
 obtain ⟨b2, o2, e, hc⟩ := h d (by simpa [Gr.ivs] using hd)
 exact ⟨b2, o2, e, by simpa [Gr.ivs, Gr.iv] using hc⟩
theorem zPU {wb v1 : World} {rl : Int} {rr : List Int} {ra : Option Addr} {rc : Nat} (T : TypeId) (h : Below wb.heap.size wb v1) (r : Sep.Reads ra (Gr.ivs rr) v1) : BoxC wb (v1.alloc (.cells #[.int .i64 rl, .slice ra rr.length rc] T)) v1.heap.size rr ra rc :=
 ⟨Gr.step h (boxed _ _), zAA rfl rfl, fun d hd _ => by
  obtain ⟨b2, o2, e, hc⟩ := zGp r d hd
  exact ⟨b2, o2, e, zAJ hc⟩⟩
theorem zPV {wb v1 : World} {rl : Int} {rr : List Int} {ra : Option Addr} {rc : Nat} (h : Below wb.heap.size wb v1) (r : Sep.Reads ra (Gr.ivs rr) v1) (z0 : v1.cell? ⟨wb.heap.size, 0, none⟩ = some (.int .i64 0)) (z1 : v1.cell? ⟨wb.heap.size, 1, none⟩ = some (.slice none 0 0)) :
  BoxC wb ((v1.setCell ⟨wb.heap.size, 0, none⟩ (.int .i64 rl)).setCell ⟨wb.heap.size, 1, none⟩ (.slice ra rr.length rc)) wb.heap.size rr ra rc :=
 ⟨(h.setCell (Nat.le_refl _) _).setCell (Nat.le_refl _) _, World.cell?_setCell_same _ _ _ (by rw [World.cell?_setCell_other _ _ _ _ (fun q => by have := congrArg Addr.off q; simp at this)]; exact z1), fun d hd hne => by
  obtain ⟨b2, o2, e, hc⟩ := zGp r d hd
  refine ⟨b2, o2, e, ?_⟩
  rw [World.cell?_setCell_other _ _ _ _ (fun q => by
   rw [← q] at hc
   rw [hc] at z1
   cases z1), World.cell?_setCell_other _ _ _ _ (fun q => by
   rw [← q, z0] at hc
   injection hc with hc
   injection hc with _ hc
   exact hne hc.symm)]
  exact hc⟩
end Au
namespace Im
open Gr (Gram Sh Bx)
def zSG (P : Itm -> Prop) (w : World) (e : Ending) (w' : World) : Prop := ∃ (Y : List Itm) (a : Option Addr) (c : Nat), e = .returned (.slice a Y.length c) /\ Y.length <= c /\ Is Y P /\ ItsA a Y w' /\ Below w.heap.size w w'
def Nw (w : World) (a : Option Addr) : Prop := ∀ b o, a = some ⟨b, o, none⟩ -> w.heap.size <= b
theorem Nw.step {w : World} {a a' : Option Addr} {n : Nat} (h : Nw w a) (hn : w.heap.size <= n) (k : ∀ b o, a' = some ⟨b, o, none⟩ -> a' = a \/ n <= b) : Nw w a' := fun b o e => by
 rcases k b o e with q | q
 ·exact h b o (q ▸ e)
 ·omega
def zQ3 (P : Itm -> Prop) (w : World) (e : Ending) (w' : World) : Prop := ∃ (Y : List Itm) (a : Option Addr) (c : Nat), e = .returned (.slice a Y.length c) /\ Y.length <= c /\ Is Y P /\ ItsA a Y w' /\ Below w.heap.size w w' /\ Nw w a
def zSR (L : List Itm) (F : Itm -> Itm) (Q : Itm -> Prop) (j : Nat) (x : Itm) : Prop := ∃ q, ∃ h : q < L.length, q < j /\ x = F L[q] /\ Q L[q]
structure Out (W : World) (h : Sh) (G : Gram) (L : List Itm) (F : Itm -> Itm) (Q : Itm -> Prop) (j : Nat) (Y : List Itm) (a : Option Addr) (c : Nat) (w : World) : Prop where
 bx : Bx W h G w
 its : Is Y (zSR L F Q j)
 at_ : ItsA a Y w
 cap : Y.length <= c
 len : Y.length <= j
theorem Out.went {W : World} {h : Sh} {G : Gram} {L : List Itm} {F : Itm -> Itm} {Q : Itm -> Prop} {j : Nat} {Y : List Itm} {a : Option Addr} {c : Nat} {w w' : World} (k : Out W h G L F Q j Y a c w) (hb : Below w.heap.size w w') : Out W h G L F Q j Y a c w' := ⟨k.bx.went hb, k.its, k.at_.went hb, k.cap, k.len⟩
theorem Out.miss {W : World} {h : Sh} {G : Gram} {L : List Itm} {F : Itm -> Itm} {Q : Itm -> Prop} {j : Nat} {Y : List Itm} {a : Option Addr} {c : Nat} {w : World} (k : Out W h G L F Q j Y a c w) (hj : j < L.length) (hq : ¬ Q L[j]) : Out W h G L F Q (j + 1) Y a c w := ⟨k.bx, zMZ k.its hj hq, k.at_, k.cap, Nat.le_succ_of_le k.len⟩
theorem Out.hit {W : World} {h : Sh} {G : Gram} {L : List Itm} {F : Itm -> Itm} {Q : Itm -> Prop} {j : Nat} {Y : List Itm} {a a' : Option Addr} {c c' : Nat} {w w' : World} (k : Out W h G L F Q j Y a c w) (hj : j < L.length) (hq : Q L[j]) {x : Itm} (hx : x = F L[j]) (hb : Below w.heap.size w w') (h1 : (putI Y x).length <= c') (h2 : ItsA a' (putI Y x) w') : Out W h G L F Q (j + 1) (putI Y x) a' c' w' := by
 subst hx
 refine ⟨k.bx.went hb, zOt k.its hj hq, h2, h1, ?_⟩
 rw [zE7 k.its.1]
 have := k.len
 split <;> omega
