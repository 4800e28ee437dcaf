/- A part of the proof. -/
import Derived.Test.YtnfbjlainpenaaaGreatPk33
set_option maxHeartbeats 2000000
set_option maxRecDepth 100000
set_option linter.unusedVariables false
namespace Go.Proofs.YtnfbjlainpenaaaGreat
open Go.RowKit Go.Maps
namespace Au
open Gr (Gram Sh Box cell_later step)
open Im
theorem zNK : laidOutB Tryz.prog = true := by kernel_rfl
theorem rowA : 117 < Tryz.prog.types.size := of_decide_eq_true (by kernel_rfl)
theorem lawA : Keyed Tryz.prog 117 := .of_law (deep_law_laid zNK (m := 2) (by omega) rowA (by kernel_rfl) (by rw [Tryz.underlying117]))
theorem kaA : Ka Tryz.prog 117 :=
 zNI lawA Tryz.underlying117 Tryz.underlying3 (by kernel_rfl) (by kernel_rfl) (by kernel_rfl) (Tryz.prog.types.size - 1) (by have := rowA; omega)
theorem lawS : Keyed Tryz.prog 9 := string_keyed Tryz.underlying9
theorem zK5 (w : World) : (zeroValue 3).run Tryz.prog w = .ok (.int .i64 0) w := by kernel_rfl
theorem zFy : (Tryz.prog.info? 50).map (fun i => (i.zero, i.size, i.bytes)) = some (some (.slice none 0 0), 1, 24) := by kernel_rfl
abbrev TM (b n : Nat) (X : Itm -> Option Int) (w : World) : Prop := TMap Tryz.prog 117 3 b n X w
abbrev SM (b n : Nat) (L : List ByteArray) (w : World) : Prop := SMap Tryz.prog 9 3 b n L w
def LAt (S : Nat -> Prop) (K : List Itm) (u : Value) (w : World) : Prop := ∃ a c, u = .slice a K.length c /\ K.length <= c /\ ItsA a K w /\ (K ≠ [] -> ∀ b o, a = some ⟨b, o, none⟩ -> ¬ S b)
theorem LAt.fr {S T : Nat -> Prop} {K : List Itm} {u : Value} {w w' : World} (h : LAt S K u w) (f : Sep.Fr S w w') (x : Sep.Ext T S w) : LAt T K u w' := by
 obtain ⟨a, c, h1, h2, h3, h4⟩ := h
 by_cases hn : K = []
 ·subst hn
  exact ⟨a, c, h1, h2, .nil _ _, fun q => absurd rfl q⟩
 ·refine ⟨a, c, h1, h2, h3.keep fun b o e => f.block b (zB2 h3 hn e) (h4 hn b o e), fun _ b o e q => ?_⟩
  have := zB2 h3 hn e
  rcases x b q with r | r
  ·exact h4 hn b o e r
  ·omega
theorem LAt.went {S : Nat -> Prop} {K : List Itm} {u : Value} {w w' : World} (h : LAt S K u w) (hb : Below w.heap.size w w') : LAt S K u w' := h.fr (.of_below hb) (.refl _ _)
structure Parts (W : World) (p : Nat) (S : Nat -> Prop) (h : Sh) (G : Gram) (ks : List (List Itm)) (X : Itm -> Option Int) (n : Nat) (a : Option Addr) (c bt bn : Nat) (us : List Value) (w : World) : Prop where
 below : Below W.heap.size W w
 box : Box p h G w
 items : w.cell? ⟨p, 4, none⟩ = some (.slice a ks.length c)
 targets : w.cell? ⟨p, 5, none⟩ = some (.map (some bt))
 numbers : w.cell? ⟨p, 6, none⟩ = some (.map (some bn))
 free : w.frozen? ⟨p, 4, none⟩ = false
 row : w.ownsRow W.heap.size 50 1 (.slice a ks.length c) ks.length us
 lists : ∀ i (h : i < ks.length) (h' : i < us.length), LAt S ks[i] us[i] w
 tm : TM bt n X w
 sm : SM bn ks.length (zBM ks) w
 sp : S p
 st : S bt
 sn : S bn
 sr : ∀ g, (Value.slice a ks.length c).ownBlock = some g -> S g
 tp : bt ≠ p
 np : bn ≠ p
 tn : bt ≠ bn
 rp : ∀ g, (Value.slice a ks.length c).ownBlock = some g -> g ≠ p /\ g ≠ bt /\ g ≠ bn
 low : ∀ k, S k -> W.heap.size <= k
 inn : Sep.Inn S w
theorem Parts.len {W : World} {p : Nat} {S : Nat -> Prop} {h : Sh} {G : Gram} {ks : List (List Itm)} {X : Itm -> Option Int} {n : Nat} {a : Option Addr} {c bt bn : Nat} {us : List Value} {w : World} (k : Parts W p S h G ks X n a c bt bn us w) : us.length = ks.length := by
 have := k.row.1
 omega
theorem Parts.went {W : World} {p : Nat} {S : Nat -> Prop} {h : Sh} {G : Gram} {ks : List (List Itm)} {X : Itm -> Option Int} {n : Nat} {a : Option Addr} {c bt bn : Nat} {us : List Value} {w w' : World} (k : Parts W p S h G ks X n a c bt bn us w) (hb : Below w.heap.size w w') : Parts W p S h G ks X n a c bt bn us w' :=
 ⟨Gr.step k.below hb, k.box.later hb, cell_later hb k.items, cell_later hb k.targets, cell_later hb k.numbers, (World.frozen?_of_block (a := ⟨p, 4, none⟩) (hb.block p (k.inn p k.sp))).trans k.free, Sep.zAG k.row fun g hg => hb.block g (k.inn g (k.sr g hg)), fun i h1 h2 => (k.lists i h1 h2).went hb, k.tm.keep (hb.block _ (k.inn _ k.st)), k.sm.keep (hb.block _ (k.inn _ k.sn)), k.sp, k.st, k.sn, k.sr, k.tp, k.np, k.tn, k.rp, k.low, k.inn.le hb.size⟩
def BAt (W : World) (p : Nat) (S : Nat -> Prop) (h : Sh) (G : Gram) (ks : List (List Itm)) (X : Itm -> Option Int) (n : Nat) (w : World) : Prop := ∃ a c bt bn us, Parts W p S h G ks X n a c bt bn us w
theorem BAt.went {W : World} {p : Nat} {S : Nat -> Prop} {h : Sh} {G : Gram} {ks : List (List Itm)} {X : Itm -> Option Int} {n : Nat} {w w' : World} (k : BAt W p S h G ks X n w) (hb : Below w.heap.size w w') : BAt W p S h G ks X n w' := by
 obtain ⟨a, c, bt, bn, us, k⟩ := k
 exact ⟨a, c, bt, bn, us, k.went hb⟩
theorem BAt.inn {W : World} {p : Nat} {S : Nat -> Prop} {h : Sh} {G : Gram} {ks : List (List Itm)} {X : Itm -> Option Int} {n : Nat} {w : World} (k : BAt W p S h G ks X n w) : Sep.Inn S w := by
 obtain ⟨a, c, bt, bn, us, k⟩ := k
 exact k.inn
theorem BAt.eq {W : World} {p : Nat} {S : Nat -> Prop} {h : Sh} {G : Gram} {ks : List (List Itm)} {X Y : Itm -> Option Int} {n m : Nat} {w : World} (k : BAt W p S h G ks X n w) (e : ∀ x, X x = Y x) (hm : n <= m) : BAt W p S h G ks Y m w := by
 obtain ⟨a, c, bt, bn, us, k⟩ := k
 exact ⟨a, c, bt, bn, us, { k with tm := (k.tm.eq e).mono hm }⟩
theorem Parts.at {W : World} {p : Nat} {S : Nat -> Prop} {h : Sh} {G : Gram} {ks : List (List Itm)} {X : Itm -> Option Int} {n : Nat} {a : Option Addr} {c bt bn : Nat} {us : List Value} {w : World} (k : Parts W p S h G ks X n a c bt bn us w) {i : Nat} (hi : i < ks.length) :
  ∃ b a' c', a = some ⟨b, 0, none⟩ /\ w.cell? ⟨b, i, none⟩ = some (.slice a' ks[i].length c') /\ ks[i].length <= c' /\ ItsA a' ks[i] w /\ (ks[i] ≠ [] -> ∀ b o, a' = some ⟨b, o, none⟩ -> ¬ S b) := by
 have hl := k.len
 obtain ⟨a', c', e, h1, h2, h3⟩ := k.lists i hi (by omega)
 rcases k.row.2 with ⟨_, h0⟩ | ⟨g, cap, cur, he, _⟩
 ·omega
 ·simp only [Value.slice.injEq] at he
  obtain ⟨rfl, _, _⟩ := he
  have := World.ownsRow.cells k.row (g := g) rfl i us[i] (List.getElem?_eq_getElem (by omega))
  rw [WideShapes.add_plain] at this
  refine ⟨g, a', c', rfl, ?_, h1, h2, h3⟩
  rw [← e]
  simpa using this
theorem zMF {W : World} {p : Nat} {S : Nat -> Prop} {h : Sh} {G : Gram} {ks : List (List Itm)} {X : Itm -> Option Int} {n : Nat} {a : Option Addr} {c bt bn : Nat} {us : List Value} {w : World} (k : Parts W p S h G ks X n a c bt bn us w) : (Value.slice a ks.length c).ownBlock = none \/ (Value.slice a ks.length c).ownBlock ≠ some bn := by
 cases hb : (Value.slice a ks.length c).ownBlock with
 | none => exact .inl rfl
 | some g => exact .inr fun e => (k.rp g hb).2.2 (by injection e)
theorem Parts.turn {W : World} {p : Nat} {S : Nat -> Prop} {h : Sh} {G : Gram} {ks : List (List Itm)} {X Y : Itm -> Option Int} {n m : Nat} {a : Option Addr} {c bt bn : Nat} {us : List Value} {w w' : World} (k : Parts W p S h G ks X n a c bt bn us w) (f : Sep.Fr (· = bt) w w') (ht : TM bt m Y w') : Parts W p S h G ks Y m a c bt bn us w' :=
 have e (q : Nat) (hq : S q) (hne : q ≠ bt) : w'.heap[q]? = w.heap[q]? := f.block q (k.inn q hq) hne
 have ep := e p k.sp fun q => k.tp q.symm
 have F : Sep.Fr S w w' := f.mono fun q hq => hq ▸ k.st
 ⟨k.below.trans (F.below k.low k.below.size), ⟨(World.cell?_of_block (a := ⟨p, 0, none⟩) ep).trans k.box.x0, (World.cell?_of_block (a := ⟨p, 1, none⟩) ep).trans k.box.x1, (World.cell?_of_block (a := ⟨p, 2, none⟩) ep).trans k.box.x2, (World.cell?_of_block (a := ⟨p, 3, none⟩) ep).trans k.box.x3⟩,
  (World.cell?_of_block (a := ⟨p, 4, none⟩) ep).trans k.items, (World.cell?_of_block (a := ⟨p, 5, none⟩) ep).trans k.targets, (World.cell?_of_block (a := ⟨p, 6, none⟩) ep).trans k.numbers, (World.frozen?_of_block (a := ⟨p, 4, none⟩) ep).trans k.free,
  Sep.zAG k.row fun g hg => e g (k.sr g hg) (k.rp g hg).2.1, fun i h1 h2 => (k.lists i h1 h2).fr F (.refl _ _), ht, k.sm.keep (e bn k.sn fun q => k.tn q.symm), k.sp, k.st, k.sn, k.sr, k.tp, k.np, k.tn, k.rp, k.low, k.inn.le f.size⟩
theorem added {W : World} {p : Nat} {S : Nat -> Prop} {h : Sh} {G : Gram} {ks : List (List Itm)} {X : Itm -> Option Int} {n : Nat} {a a' : Option Addr} {c c' bt bn : Nat} {us : List Value} {w w1 w2 : World} {K : List Itm} {u : Value}
  (k : Parts W p S h G ks X n a c bt bn us w) (hu : LAt S K u w)
  (hm1 : SM bn (ks.length + 1) (zBM ks ++ [keyB K]) w1) (hg1 : w.grownBy w1 (some bn))
  (hown2 : w2.ownsRow W.heap.size 50 1 (.slice a' (ks.length + 1) c') (ks.length + 1) (us ++ [u]))
  (hg2 : (w1.alloc (.cells #[u] 50)).grownBy w2 (Value.slice a ks.length c).ownBlock)
  (hloc : (Value.slice a' (ks.length + 1) c').ownBlock = (Value.slice a ks.length c).ownBlock \/ (Value.slice a' (ks.length + 1) c').ownBlock = some (w1.alloc (.cells #[u] 50)).heap.size) :
  ∃ T, BAt W p T h G (ks ++ [K]) X n (w2.setCell ⟨p, 4, none⟩ (.slice a' (ks.length + 1) c')) /\ Sep.Fr S w (w2.setCell ⟨p, 4, none⟩ (.slice a' (ks.length + 1) c')) /\ Sep.Ext T S w := by
 have hp : p < w.heap.size := k.inn p k.sp
 have hsz1 : w.heap.size <= w1.heap.size := hg1.size
 have hsz2 : w1.heap.size + 1 <= w2.heap.size := by have := hg2.size; simpa using this
 have hrow : ∀ g, (Value.slice a ks.length c).ownBlock = some g -> S g /\ g < w.heap.size /\ g ≠ p /\ g ≠ bt /\ g ≠ bn := fun g hg => ⟨k.sr g hg, k.inn g (k.sr g hg), k.rp g hg⟩
 have hrow' : ∀ g, (Value.slice a' (ks.length + 1) c').ownBlock = some g -> ((Value.slice a ks.length c).ownBlock = some g \/ w.heap.size <= g) /\ g < w2.heap.size /\ W.heap.size <= g := fun g hg => by
  refine ⟨?_, (hown2.lt g hg).2, (hown2.lt g hg).1⟩
  rcases hloc with e | e
  ·exact .inl (e.symm.trans hg)
  ·have e2 := e.symm.trans hg
   injection e2 with e2
   simp at e2
   exact .inr (by omega)
 have F2 : Sep.Fr S w w2 := Sep.Fr.grown (w := w1.alloc (.cells #[u] 50)) (Sep.Fr.alloc (Sep.Fr.grown (.refl _ _) hg1 fun q hq => by injection hq with hq; subst hq; exact .inl k.sn) _) hg2 fun q hq => .inl (hrow q hq).1
 have F3 : Sep.Fr S w (w2.setCell ⟨p, 4, none⟩ (.slice a' (ks.length + 1) c')) := Sep.Fr.setCell F2 _ k.sp _
 have X3 : Sep.Ext (fun q => S q \/ (Value.slice a' (ks.length + 1) c').ownBlock = some q) S w := by
  rintro q (hq | hq)
  ·exact .inl hq
  ·rcases (hrow' q hq).1 with e | e
   ·exact .inl (hrow q e).1
   ·exact .inr e
 have hkeep : ∀ q, q < w.heap.size -> q ≠ bn -> (Value.slice a ks.length c).ownBlock ≠ some q -> w2.heap[q]? = w.heap[q]? := fun q hq h1 h2 => by
  rw [hg2.block q (by simp; omega) (fun e => h2 e.symm), Below.heap_alloc _ _ _ (by omega), hg1.block q hq (fun e => h1 (by injection e))]
 have ep : w2.heap[p]? = w.heap[p]? := hkeep p hp (fun e => k.np e.symm) fun e => (hrow p e).2.2.1 rfl
 have cell : ∀ j v, j ≠ 4 -> w.cell? ⟨p, j, none⟩ = some v -> (w2.setCell ⟨p, 4, none⟩ (.slice a' (ks.length + 1) c')).cell? ⟨p, j, none⟩ = some v := fun j v hj hc => by
  rw [World.cell?_setCell_other _ _ _ _ (fun e => hj (congrArg Addr.off e).symm)]
  exact (World.cell?_of_block (a := ⟨p, j, none⟩) ep).trans hc
 have hbn : bn < w1.heap.size := hm1.lt
 have hl3 : ∀ q, q ≠ p -> (w2.setCell ⟨p, 4, none⟩ (.slice a' (ks.length + 1) c')).heap[q]? = w2.heap[q]? := fun q hq => Below.heap_setCell _ _ _ _ hq
 refine ⟨_, ⟨a', c', bt, bn, us ++ [u], ?_⟩, F3, X3⟩
 have hel : (ks ++ [K]).length = ks.length + 1 := by simp
 refine ⟨k.below.trans (F3.below k.low k.below.size), ⟨cell 0 _ (by omega) k.box.x0, cell 1 _ (by omega) k.box.x1, cell 2 _ (by omega) k.box.x2, cell 3 _ (by omega) k.box.x3⟩, ?_, cell 5 _ (by omega) k.targets, cell 6 _ (by omega) k.numbers, ?_, ?_, ?_, ?_, ?_, .inl k.sp, .inl k.st, .inl k.sn, ?_, k.tp, k.np, k.tn, ?_, ?_, ?_⟩
 ·rw [hel]
  exact World.cell?_setCell_same _ _ _ ((World.cell?_of_block (a := ⟨p, 4, none⟩) ep).trans k.items)
 ·rw [World.frozen?_setCell]
  exact (World.frozen?_of_block (a := ⟨p, 4, none⟩) ep).trans k.free
 ·rw [hel]
  refine Sep.zAG hown2 fun g hg => hl3 g fun e => ?_
  subst e
  rcases (hrow' g hg).1 with q | q
  ·exact (hrow g q).2.2.1 rfl
  ·omega
 ·intro i h1 h2
  have hul := k.len
  have key : LAt S (ks ++ [K])[i] (us ++ [u])[i] w := by
   by_cases hi : i < ks.length
   ·rw [List.getElem_append_left hi, List.getElem_append_left (by omega)]
    exact k.lists i hi (by omega)
   ·rw [List.getElem_append_right (by omega), List.getElem_append_right (by omega)]
    simpa using hu
  exact key.fr F3 X3
 ·refine k.tm.keep ((hl3 bt k.tp).trans (hkeep bt (k.inn _ k.st) k.tn fun e => (hrow bt e).2.2.2.1 rfl))
 ·rw [hel]
  have : zBM (ks ++ [K]) = zBM ks ++ [keyB K] := by simp [zBM]
  rw [this]
  refine hm1.keep ((hl3 bn k.np).trans ?_)
  rw [hg2.block bn (by simp; omega) (fun e => (hrow bn e.symm).2.2.2.2 rfl), Below.heap_alloc _ _ _ hbn]
 ·rw [hel]
  exact fun g hg => .inr hg
 ·rw [hel]
  intro g hg
  rcases (hrow' g hg).1 with q | q
  ·exact (hrow g q).2.2
  ·have h1 := k.inn _ k.st
   have h2 := k.inn _ k.sn
   exact ⟨by omega, by omega, by omega⟩
 ·rintro q (hq | hq)
  ·exact k.low q hq
  ·exact (hrow' q hq).2.2
 ·rintro q (hq | hq)
  ·have := k.inn q hq
   rw [show (w2.setCell ⟨p, 4, none⟩ (.slice a' (ks.length + 1) c')).heap.size = w2.heap.size by simp [World.setCell]]
   omega
  ·rw [show (w2.setCell ⟨p, 4, none⟩ (.slice a' (ks.length + 1) c')).heap.size = w2.heap.size by simp [World.setCell]]
   exact (hrow' q hq).2.1
end Au
namespace Au
open Gr (Gram Sh cell_later)
open Im
open It (isIn num)
def zEn (ks : List (List Itm)) (K : List Itm) : List (List Itm) := if K ∈ ks then ks else ks ++ [K]
def numK (ks : List (List Itm)) (K : List Itm) : Nat := (ks ++ [K]).idxOf K
theorem zLC {W : World} {p : Nat} {S : Nat -> Prop} {h : Sh} {G : Gram} {ks : List (List Itm)} {X : Itm -> Option Int} {n : Nat} {a : Option Addr} {c bt bn : Nat} {us : List Value} {w1 w2 : World} (k : Parts W p S h G ks X n a c bt bn us w1) (hg : w1.grownBy w2 (some bn)) :
  W.heap.size <= w2.heap.size /\ ∀ (w3 : World) (o : Obj), (w2.alloc o).grownBy w3 (Value.slice a ks.length c).ownBlock -> w3.cell? ⟨p, 4, none⟩ = some (.slice a ks.length c) /\ w3.frozen? ⟨p, 4, none⟩ = false := by
 have h1 := k.below.size
 have h2 := hg.size
 have h3 := k.inn p k.sp
 refine ⟨by omega, fun w3 o hg3 => ?_⟩
 have e : w3.heap[p]? = w1.heap[p]? := by
  rw [hg3.block p (by simp; omega) (fun e => (k.rp p e.symm).1 rfl), Below.heap_alloc _ _ _ (by omega), hg.block p h3 (fun e => k.np (by injection e with e; exact e.symm))]
 exact ⟨(World.cell?_of_block (a := ⟨p, 4, none⟩) e).trans k.items, (World.frozen?_of_block (a := ⟨p, 4, none⟩) e).trans k.free⟩
def zJi (W : World) (r : Nat) (p : Nat) (S : Nat -> Prop) (h : Sh) (G : Gram) (ks : List (List Itm)) (X : Itm -> Option Int) (n : Nat) (w : World) (e : Ending) (w' : World) : Prop :=
 e = .returned (.int .i64 (r : Int)) /\ ∃ T, BAt W p T h G ks X n w' /\ Sep.Fr S w w' /\ Sep.Ext T S w /\ ∀ v, w.cell? ⟨p, 5, none⟩ = some v -> w'.cell? ⟨p, 5, none⟩ = some v
theorem zDY {W : World} {p : Nat} {S : Nat -> Prop} {h : Sh} {G : Gram} {ks : List (List Itm)} {X : Itm -> Option Int} {n : Nat} (w : World) (k : BAt W p S h G ks X n w) (K : List Itm) (a : Option Addr) (c : Nat) (hK : LAt S K (.slice a K.length c) w)
  (hf : Fit3 K) (hs : ∀ x ∈ ks, Fit3 x) (hn : ks.Nodup) (hl : ks.length <= 1000000) (hL : K.length <= 1000000) :
  Calls Tryz.prog 38 #[.pointer (some ⟨p, 0, none⟩), .slice a K.length c] w (zJi W (numK ks K) p S h G (zEn ks K) X n w) := by
 obtain ⟨a0, c0, bt, bn, us, k⟩ := k
 have KE := zNR (zLo K a c w (by obtain ⟨_, _, e, _, h3, _⟩ := hK; simp only [Value.slice.injEq] at e; rw [e.1]; exact h3) hf hL)
 have hsz : (keyB K).size <= maxLen := by rw [zIS]; unfold maxLen; omega
 by_cases hin : K ∈ ks
 ·have hi := (zIU hs hf).2 hin
  have e1 : zEn ks K = ks := if_pos hin
  have e2 : numK ks K = num (zBM ks) (keyB K) := by
   unfold numK
   rw [List.idxOf_append, if_pos hin, zLq hs hf hn hin]
  rw [e1, e2]
  have k0 := zNR k
  clear hK k hf hs hn hl hL hin e1 e2
  go_enter Tryz.func38, Tryz.ntmps38
  go_wp2_with (first
   | (go_at_call 66; refine KE.out.mono ?_; rintro e w1 ⟨rfl, hb⟩; have k1 := zNR (k0.out.went hb); have HB := zNR hb; have q1 := k1.out.items; have q2 := k1.out.numbers; clear hb)
   | (at_lookup; refine zBn _ rfl _ _ rfl lawS Tryz.underlying9 Tryz.underlying84 Tryz.underlying3 (zK5 _) bn ks.length (zBM ks) rfl k1.out.sm (keyB K) rfl hsz ?_))
  go_ret
  exact ⟨rfl, S, ⟨a0, c0, bt, bn, us, k1.out⟩, .of_below HB.out, .refl _ _, fun v hv => cell_later HB.out hv⟩
 ·have hi : isIn (zBM ks) (keyB K) = false := by
   cases e : isIn (zBM ks) (keyB K) with
   | false => rfl
   | true => exact absurd ((zIU hs hf).1 e) hin
  have e1 : zEn ks K = ks ++ [K] := if_neg hin
  have e2 : numK ks K = ks.length := by
   unfold numK
   rw [List.idxOf_append, if_neg hin]
   simp
  rw [e1, e2]
  have hkl : (zBM ks).length = ks.length := by simp [zBM]
  obtain ⟨i0, hj, hz0, hz1, hz2⟩ := info_parts zFy
  have k0 := zNR k
  have U0 := zNR hK
  clear hK k hf hs hn hin e1 e2
  go_enter Tryz.func38, Tryz.ntmps38
  go_wp2_with (first
   | (go_at_call 66; refine KE.out.mono ?_; rintro e w1 ⟨rfl, hb⟩; have k1 := zNR (k0.out.went hb); have U1 := zNR (U0.out.went hb); have HB := zNR hb; have q1 := k1.out.items; have q2 := k1.out.numbers; clear hb)
   | (at_lookup; refine zBn _ rfl _ _ rfl lawS Tryz.underlying9 Tryz.underlying84 Tryz.underlying3 (zK5 _) bn ks.length (zBM ks) rfl k1.out.sm (keyB K) rfl hsz ?_)
   | (at_mapUpdate; refine zC4 _ rfl _ _ _ rfl lawS Tryz.underlying9 Tryz.underlying84 Tryz.underlying3 bn ks.length (zBM ks) rfl k1.out.sm (by unfold maxLen; omega) (keyB K) rfl hsz hi _ rfl (by rw [hkl]) (by omega) ?_; intro w2 hm2 hg2; have M2 := zNR hm2; have G2 := zNR hg2; have ep := hg2.block p (k1.out.inn p k1.out.sp) (fun e => k1.out.np (by injection e with e; exact e.symm)); have q3 := (World.cell?_of_block (a := ⟨p, 4, none⟩) ep).trans k1.out.items; have f3 := (World.frozen?_of_block (a := ⟨p, 4, none⟩) ep).trans k1.out.free; have R3 := zNR (k1.out.row.kept hg2 (zMF k1.out)); have hw2 := (zLC k1.out hg2).1; have KP := zNR (zLC k1.out hg2).2; clear hm2 hg2 ep)
   | (at_builtin; refine wpList_append_own_at _ rfl _ _ 85 rfl W.heap.size 50 i0 (.slice none 0 0) 1 24 Tryz.underlying85 hj hz0 hz1 hz2 rfl (by decide) _ _ _ rfl (R3.out.alloc _) ⟨w2.heap.size, 0, none⟩ 1 1 [.slice a K.length c] rfl rfl (cell_one_new _ _ _) (by simp [Value.oneCell']) (by unfold maxLen; omega) (by omega) (by simp; omega) ?_; intro v' w3 hown3 hg3 _ hloc; obtain ⟨q5, f5⟩ := KP.out _ _ hg3; obtain ⟨a', c', rfl⟩ := Sep.zAX hown3; have O3 := zNR hown3; have G3 := zNR hg3; have HL := zNR hloc; clear hown3 hg3 hloc))
  go_ret
  obtain ⟨T, t1, t2, t3⟩ := added k1.out U1.out M2.out G2.out O3.out G3.out HL.out
  refine ⟨rfl, T, t1, (Sep.Fr.of_below HB.out).trans t2 (.refl _ _), t3.at HB.out.size, fun v hv => ?_⟩
  rw [World.cell?_setCell_other _ _ _ _ (fun q => by have := congrArg Addr.off q; simp at this)]
  have hp1 := k1.out.inn p k1.out.sp
  have h2 := G2.out.size
  have e : w3.heap[p]? = w1.heap[p]? := by
   rw [G3.out.block p (by simp; omega) (fun e => (k1.out.rp p e.symm).1 rfl), Below.heap_alloc _ _ _ (by omega), G2.out.block p hp1 (fun e => k1.out.np (by injection e with e; exact e.symm))]
  exact (World.cell?_of_block (a := ⟨p, 5, none⟩) e).trans (cell_later HB.out hv)
