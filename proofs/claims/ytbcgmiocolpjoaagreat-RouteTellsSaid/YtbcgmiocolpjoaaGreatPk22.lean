/- A part of the proof. -/
import Derived.Test.YtbcgmiocolpjoaaGreatPk21
set_option maxHeartbeats 2000000
set_option maxRecDepth 100000
set_option linter.unusedVariables false
namespace Go.Proofs.YtbcgmiocolpjoaaGreat
open Go.RowKit Go.Maps
namespace Au
open Gr (Gram Sh Box cell_later step)
open Im
theorem zO2 : laidOutB Tryz.prog = true := by kernel_rfl
theorem rowA : 117 < Tryz.prog.types.size := of_decide_eq_true (by kernel_rfl)
theorem lawA : Keyed Tryz.prog 117 := .of_law (deep_law_laid zO2 (m := 2) (by omega) rowA (by kernel_rfl) (by rw [Tryz.underlying117]))
theorem kaA : Ka Tryz.prog 117 :=
 zO0 lawA Tryz.underlying117 Tryz.underlying3 (by kernel_rfl) (by kernel_rfl) (by kernel_rfl) (Tryz.prog.types.size - 1) (by have := rowA; omega)
theorem lawS : Keyed Tryz.prog 9 := string_keyed Tryz.underlying9
theorem zMR (w : World) : (zeroValue 3).run Tryz.prog w = .ok (.int .i64 0) w := by kernel_rfl
theorem zGq : (Tryz.prog.info? 50).map (fun i => (i.zero, i.size, i.bytes)) = some (some (.slice none 0 0), 1, 24) := by kernel_rfl
abbrev TM (b n : Nat) (X : Itm -> Option Int) (w : World) : Prop := TMap Tryz.prog 117 3 b n X w
abbrev SM (b n : Nat) (L : List ByteArray) (w : World) : Prop := SMap Tryz.prog 9 3 b n L w
def LAt (S : Nat -> Prop) (K : List Itm) (u : Value) (w : World) : Prop := ∃ a c, u = .slice a K.length c /\ K.length <= c /\ ItsA a K w /\ (K ≠ [] -> ∀ b o, a = some ⟨b, o, none⟩ -> ¬ S b)
theorem LAt.fr {S T : Nat -> Prop} {K : List Itm} {u : Value} {w w' : World} (h : LAt S K u w) (f : Sep.Fr S w w') (x : Sep.Ext T S w) : LAt T K u w' := by
 obtain ⟨a, c, h1, h2, h3, h4⟩ := h
 by_cases hn : K = []
 ·subst hn
  exact ⟨a, c, h1, h2, .nil _ _, fun q => absurd rfl q⟩
 ·refine ⟨a, c, h1, h2, h3.keep fun b o e => f.block b (zCK h3 hn e) (h4 hn b o e), fun _ b o e q => ?_⟩
  have := zCK h3 hn e
  rcases x b q with r | r
  ·exact h4 hn b o e r
  ·omega
theorem LAt.went {S : Nat -> Prop} {K : List Itm} {u : Value} {w w' : World} (h : LAt S K u w) (hb : Below w.heap.size w w') : LAt S K u w' := h.fr (.of_below hb) (.refl _ _)
structure Parts (W : World) (p : Nat) (S : Nat -> Prop) (h : Sh) (G : Gram) (ks : List (List Itm)) (X : Itm -> Option Int) (n : Nat) (a : Option Addr) (c bt bn : Nat) (us : List Value) (w : World) : Prop where
 below : Below W.heap.size W w
 box : Box p h G w
 items : w.cell? ⟨p, 4, none⟩ = some (.slice a ks.length c)
 targets : w.cell? ⟨p, 5, none⟩ = some (.map (some bt))
 numbers : w.cell? ⟨p, 6, none⟩ = some (.map (some bn))
 free : w.frozen? ⟨p, 4, none⟩ = false
 row : w.ownsRow W.heap.size 50 1 (.slice a ks.length c) ks.length us
 lists : ∀ i (h : i < ks.length) (h' : i < us.length), LAt S ks[i] us[i] w
 tm : TM bt n X w
 sm : SM bn ks.length (zBZ ks) w
 sp : S p
 st : S bt
 sn : S bn
 sr : ∀ g, (Value.slice a ks.length c).ownBlock = some g -> S g
 tp : bt ≠ p
 np : bn ≠ p
 tn : bt ≠ bn
 rp : ∀ g, (Value.slice a ks.length c).ownBlock = some g -> g ≠ p /\ g ≠ bt /\ g ≠ bn
 low : ∀ k, S k -> W.heap.size <= k
 inn : Sep.Inn S w
theorem Parts.len {W : World} {p : Nat} {S : Nat -> Prop} {h : Sh} {G : Gram} {ks : List (List Itm)} {X : Itm -> Option Int} {n : Nat} {a : Option Addr} {c bt bn : Nat} {us : List Value} {w : World} (k : Parts W p S h G ks X n a c bt bn us w) : us.length = ks.length := by
 have := k.row.1
 omega
theorem Parts.went {W : World} {p : Nat} {S : Nat -> Prop} {h : Sh} {G : Gram} {ks : List (List Itm)} {X : Itm -> Option Int} {n : Nat} {a : Option Addr} {c bt bn : Nat} {us : List Value} {w w' : World} (k : Parts W p S h G ks X n a c bt bn us w) (hb : Below w.heap.size w w') : Parts W p S h G ks X n a c bt bn us w' :=
 ⟨Gr.step k.below hb, k.box.later hb, cell_later hb k.items, cell_later hb k.targets, cell_later hb k.numbers, (World.frozen?_of_block (a := ⟨p, 4, none⟩) (hb.block p (k.inn p k.sp))).trans k.free, Sep.zAH k.row fun g hg => hb.block g (k.inn g (k.sr g hg)), fun i h1 h2 => (k.lists i h1 h2).went hb, k.tm.keep (hb.block _ (k.inn _ k.st)), k.sm.keep (hb.block _ (k.inn _ k.sn)), k.sp, k.st, k.sn, k.sr, k.tp, k.np, k.tn, k.rp, k.low, k.inn.le hb.size⟩
def BAt (W : World) (p : Nat) (S : Nat -> Prop) (h : Sh) (G : Gram) (ks : List (List Itm)) (X : Itm -> Option Int) (n : Nat) (w : World) : Prop := ∃ a c bt bn us, Parts W p S h G ks X n a c bt bn us w
theorem BAt.went {W : World} {p : Nat} {S : Nat -> Prop} {h : Sh} {G : Gram} {ks : List (List Itm)} {X : Itm -> Option Int} {n : Nat} {w w' : World} (k : BAt W p S h G ks X n w) (hb : Below w.heap.size w w') : BAt W p S h G ks X n w' := by
 obtain ⟨a, c, bt, bn, us, k⟩ := k
 exact ⟨a, c, bt, bn, us, k.went hb⟩
theorem BAt.inn {W : World} {p : Nat} {S : Nat -> Prop} {h : Sh} {G : Gram} {ks : List (List Itm)} {X : Itm -> Option Int} {n : Nat} {w : World} (k : BAt W p S h G ks X n w) : Sep.Inn S w := by
 obtain ⟨a, c, bt, bn, us, k⟩ := k
 exact k.inn
theorem BAt.eq {W : World} {p : Nat} {S : Nat -> Prop} {h : Sh} {G : Gram} {ks : List (List Itm)} {X Y : Itm -> Option Int} {n m : Nat} {w : World} (k : BAt W p S h G ks X n w) (e : ∀ x, X x = Y x) (hm : n <= m) : BAt W p S h G ks Y m w := by
 obtain ⟨a, c, bt, bn, us, k⟩ := k
 exact ⟨a, c, bt, bn, us, { k with tm := (k.tm.eq e).mono hm }⟩
theorem Parts.at {W : World} {p : Nat} {S : Nat -> Prop} {h : Sh} {G : Gram} {ks : List (List Itm)} {X : Itm -> Option Int} {n : Nat} {a : Option Addr} {c bt bn : Nat} {us : List Value} {w : World} (k : Parts W p S h G ks X n a c bt bn us w) {i : Nat} (hi : i < ks.length) :
  ∃ b a' c', a = some ⟨b, 0, none⟩ /\ w.cell? ⟨b, i, none⟩ = some (.slice a' ks[i].length c') /\ ks[i].length <= c' /\ ItsA a' ks[i] w /\ (ks[i] ≠ [] -> ∀ b o, a' = some ⟨b, o, none⟩ -> ¬ S b) := by
 have hl := k.len
 obtain ⟨a', c', e, h1, h2, h3⟩ := k.lists i hi (by omega)
 rcases k.row.2 with ⟨_, h0⟩ | ⟨g, cap, cur, he, _⟩
 ·omega
 ·simp only [Value.slice.injEq] at he
  obtain ⟨rfl, _, _⟩ := he
  have := World.ownsRow.cells k.row (g := g) rfl i us[i] (List.getElem?_eq_getElem (by omega))
  rw [WideShapes.add_plain] at this
  refine ⟨g, a', c', rfl, ?_, h1, h2, h3⟩
  rw [← e]
  simpa using this
theorem zNh {W : World} {p : Nat} {S : Nat -> Prop} {h : Sh} {G : Gram} {ks : List (List Itm)} {X : Itm -> Option Int} {n : Nat} {a : Option Addr} {c bt bn : Nat} {us : List Value} {w : World} (k : Parts W p S h G ks X n a c bt bn us w) : (Value.slice a ks.length c).ownBlock = none \/ (Value.slice a ks.length c).ownBlock ≠ some bn := by
 cases hb : (Value.slice a ks.length c).ownBlock with
 | none => exact .inl rfl
 | some g => exact .inr fun e => (k.rp g hb).2.2 (by injection e)
theorem Parts.turn {W : World} {p : Nat} {S : Nat -> Prop} {h : Sh} {G : Gram} {ks : List (List Itm)} {X Y : Itm -> Option Int} {n m : Nat} {a : Option Addr} {c bt bn : Nat} {us : List Value} {w w' : World} (k : Parts W p S h G ks X n a c bt bn us w) (f : Sep.Fr (· = bt) w w') (ht : TM bt m Y w') : Parts W p S h G ks Y m a c bt bn us w' :=
 have e (q : Nat) (hq : S q) (hne : q ≠ bt) : w'.heap[q]? = w.heap[q]? := f.block q (k.inn q hq) hne
 have ep := e p k.sp fun q => k.tp q.symm
 have F : Sep.Fr S w w' := f.mono fun q hq => hq ▸ k.st
 ⟨k.below.trans (F.below k.low k.below.size), ⟨(World.cell?_of_block (a := ⟨p, 0, none⟩) ep).trans k.box.x0, (World.cell?_of_block (a := ⟨p, 1, none⟩) ep).trans k.box.x1, (World.cell?_of_block (a := ⟨p, 2, none⟩) ep).trans k.box.x2, (World.cell?_of_block (a := ⟨p, 3, none⟩) ep).trans k.box.x3⟩,
  (World.cell?_of_block (a := ⟨p, 4, none⟩) ep).trans k.items, (World.cell?_of_block (a := ⟨p, 5, none⟩) ep).trans k.targets, (World.cell?_of_block (a := ⟨p, 6, none⟩) ep).trans k.numbers, (World.frozen?_of_block (a := ⟨p, 4, none⟩) ep).trans k.free,
  Sep.zAH k.row fun g hg => e g (k.sr g hg) (k.rp g hg).2.1, fun i h1 h2 => (k.lists i h1 h2).fr F (.refl _ _), ht, k.sm.keep (e bn k.sn fun q => k.tn q.symm), k.sp, k.st, k.sn, k.sr, k.tp, k.np, k.tn, k.rp, k.low, k.inn.le f.size⟩
theorem added {W : World} {p : Nat} {S : Nat -> Prop} {h : Sh} {G : Gram} {ks : List (List Itm)} {X : Itm -> Option Int} {n : Nat} {a a' : Option Addr} {c c' bt bn : Nat} {us : List Value} {w w1 w2 : World} {K : List Itm} {u : Value}
  (k : Parts W p S h G ks X n a c bt bn us w) (hu : LAt S K u w)
  (hm1 : SM bn (ks.length + 1) (zBZ ks ++ [keyB K]) w1) (hg1 : w.grownBy w1 (some bn))
  (hown2 : w2.ownsRow W.heap.size 50 1 (.slice a' (ks.length + 1) c') (ks.length + 1) (us ++ [u]))
  (hg2 : (w1.alloc (.cells #[u] 50)).grownBy w2 (Value.slice a ks.length c).ownBlock)
  (hloc : (Value.slice a' (ks.length + 1) c').ownBlock = (Value.slice a ks.length c).ownBlock \/ (Value.slice a' (ks.length + 1) c').ownBlock = some (w1.alloc (.cells #[u] 50)).heap.size) :
  ∃ T, BAt W p T h G (ks ++ [K]) X n (w2.setCell ⟨p, 4, none⟩ (.slice a' (ks.length + 1) c')) /\ Sep.Fr S w (w2.setCell ⟨p, 4, none⟩ (.slice a' (ks.length + 1) c')) /\ Sep.Ext T S w := by
 have hp : p < w.heap.size := k.inn p k.sp
 have hsz1 : w.heap.size <= w1.heap.size := hg1.size
 have hsz2 : w1.heap.size + 1 <= w2.heap.size := by have := hg2.size; simpa using this
 have hrow : ∀ g, (Value.slice a ks.length c).ownBlock = some g -> S g /\ g < w.heap.size /\ g ≠ p /\ g ≠ bt /\ g ≠ bn := fun g hg => ⟨k.sr g hg, k.inn g (k.sr g hg), k.rp g hg⟩
 have hrow' : ∀ g, (Value.slice a' (ks.length + 1) c').ownBlock = some g -> ((Value.slice a ks.length c).ownBlock = some g \/ w.heap.size <= g) /\ g < w2.heap.size /\ W.heap.size <= g := fun g hg => by
  refine ⟨?_, (hown2.lt g hg).2, (hown2.lt g hg).1⟩
  rcases hloc with e | e
  ·exact .inl (e.symm.trans hg)
  ·have e2 := e.symm.trans hg
   injection e2 with e2
   simp at e2
   exact .inr (by omega)
 have F2 : Sep.Fr S w w2 := Sep.Fr.grown (w := w1.alloc (.cells #[u] 50)) (Sep.Fr.alloc (Sep.Fr.grown (.refl _ _) hg1 fun q hq => by injection hq with hq; subst hq; exact .inl k.sn) _) hg2 fun q hq => .inl (hrow q hq).1
 have F3 : Sep.Fr S w (w2.setCell ⟨p, 4, none⟩ (.slice a' (ks.length + 1) c')) := Sep.Fr.setCell F2 _ k.sp _
 have X3 : Sep.Ext (fun q => S q \/ (Value.slice a' (ks.length + 1) c').ownBlock = some q) S w := by
  rintro q (hq | hq)
  ·exact .inl hq
  ·rcases (hrow' q hq).1 with e | e
   ·exact .inl (hrow q e).1
   ·exact .inr e
 have hkeep : ∀ q, q < w.heap.size -> q ≠ bn -> (Value.slice a ks.length c).ownBlock ≠ some q -> w2.heap[q]? = w.heap[q]? := fun q hq h1 h2 => by
  rw [hg2.block q (by simp; omega) (fun e => h2 e.symm), Below.heap_alloc _ _ _ (by omega), hg1.block q hq (fun e => h1 (by injection e))]
 have ep : w2.heap[p]? = w.heap[p]? := hkeep p hp (fun e => k.np e.symm) fun e => (hrow p e).2.2.1 rfl
 have cell : ∀ j v, j ≠ 4 -> w.cell? ⟨p, j, none⟩ = some v -> (w2.setCell ⟨p, 4, none⟩ (.slice a' (ks.length + 1) c')).cell? ⟨p, j, none⟩ = some v := fun j v hj hc => by
  rw [World.cell?_setCell_other _ _ _ _ (fun e => hj (congrArg Addr.off e).symm)]
  exact (World.cell?_of_block (a := ⟨p, j, none⟩) ep).trans hc
 have hbn : bn < w1.heap.size := hm1.lt
 have hl3 : ∀ q, q ≠ p -> (w2.setCell ⟨p, 4, none⟩ (.slice a' (ks.length + 1) c')).heap[q]? = w2.heap[q]? := fun q hq => Below.heap_setCell _ _ _ _ hq
 refine ⟨_, ⟨a', c', bt, bn, us ++ [u], ?_⟩, F3, X3⟩
 have hel : (ks ++ [K]).length = ks.length + 1 := by simp
 refine ⟨k.below.trans (F3.below k.low k.below.size), ⟨cell 0 _ (by omega) k.box.x0, cell 1 _ (by omega) k.box.x1, cell 2 _ (by omega) k.box.x2, cell 3 _ (by omega) k.box.x3⟩, ?_, cell 5 _ (by omega) k.targets, cell 6 _ (by omega) k.numbers, ?_, ?_, ?_, ?_, ?_, .inl k.sp, .inl k.st, .inl k.sn, ?_, k.tp, k.np, k.tn, ?_, ?_, ?_⟩
 ·rw [hel]
  exact World.cell?_setCell_same _ _ _ ((World.cell?_of_block (a := ⟨p, 4, none⟩) ep).trans k.items)
 ·rw [World.frozen?_setCell]
  exact (World.frozen?_of_block (a := ⟨p, 4, none⟩) ep).trans k.free
 ·rw [hel]
  refine Sep.zAH hown2 fun g hg => hl3 g fun e => ?_
  subst e
  rcases (hrow' g hg).1 with q | q
  ·exact (hrow g q).2.2.1 rfl
  ·omega
 ·intro i h1 h2
  have hul := k.len
  have key : LAt S (ks ++ [K])[i] (us ++ [u])[i] w := by
   by_cases hi : i < ks.length
   ·rw [List.getElem_append_left hi, List.getElem_append_left (by omega)]
    exact k.lists i hi (by omega)
   ·rw [List.getElem_append_right (by omega), List.getElem_append_right (by omega)]
    simpa using hu
  exact key.fr F3 X3
 ·refine k.tm.keep ((hl3 bt k.tp).trans (hkeep bt (k.inn _ k.st) k.tn fun e => (hrow bt e).2.2.2.1 rfl))
 ·rw [hel]
  have : zBZ (ks ++ [K]) = zBZ ks ++ [keyB K] := by simp [zBZ]
  rw [this]
  refine hm1.keep ((hl3 bn k.np).trans ?_)
  rw [hg2.block bn (by simp; omega) (fun e => (hrow bn e.symm).2.2.2.2 rfl), Below.heap_alloc _ _ _ hbn]
 ·rw [hel]
  exact fun g hg => .inr hg
 ·rw [hel]
  intro g hg
  rcases (hrow' g hg).1 with q | q
  ·exact (hrow g q).2.2
  ·have h1 := k.inn _ k.st
   have h2 := k.inn _ k.sn
   exact ⟨by omega, by omega, by omega⟩
 ·rintro q (hq | hq)
  ·exact k.low q hq
  ·exact (hrow' q hq).2.2
 ·rintro q (hq | hq)
  ·have := k.inn q hq
   rw [show (w2.setCell ⟨p, 4, none⟩ (.slice a' (ks.length + 1) c')).heap.size = w2.heap.size by simp [World.setCell]]
   omega
  ·rw [show (w2.setCell ⟨p, 4, none⟩ (.slice a' (ks.length + 1) c')).heap.size = w2.heap.size by simp [World.setCell]]
   exact (hrow' q hq).2.1
end Au
namespace Au
open Gr (Gram Sh cell_later)
open Im
open It (isIn num)
def zFf (ks : List (List Itm)) (K : List Itm) : List (List Itm) := if K ∈ ks then ks else ks ++ [K]
def numK (ks : List (List Itm)) (K : List Itm) : Nat := (ks ++ [K]).idxOf K
theorem zMY {W : World} {p : Nat} {S : Nat -> Prop} {h : Sh} {G : Gram} {ks : List (List Itm)} {X : Itm -> Option Int} {n : Nat} {a : Option Addr} {c bt bn : Nat} {us : List Value} {w1 w2 : World} (k : Parts W p S h G ks X n a c bt bn us w1) (hg : w1.grownBy w2 (some bn)) :
  W.heap.size <= w2.heap.size /\ ∀ (w3 : World) (o : Obj), (w2.alloc o).grownBy w3 (Value.slice a ks.length c).ownBlock -> w3.cell? ⟨p, 4, none⟩ = some (.slice a ks.length c) /\ w3.frozen? ⟨p, 4, none⟩ = false := by
 have h1 := k.below.size
 have h2 := hg.size
 have h3 := k.inn p k.sp
 refine ⟨by omega, fun w3 o hg3 => ?_⟩
 have e : w3.heap[p]? = w1.heap[p]? := by
  rw [hg3.block p (by simp; omega) (fun e => (k.rp p e.symm).1 rfl), Below.heap_alloc _ _ _ (by omega), hg.block p h3 (fun e => k.np (by injection e with e; exact e.symm))]
 exact ⟨(World.cell?_of_block (a := ⟨p, 4, none⟩) e).trans k.items, (World.frozen?_of_block (a := ⟨p, 4, none⟩) e).trans k.free⟩
def zKw (W : World) (r : Nat) (p : Nat) (S : Nat -> Prop) (h : Sh) (G : Gram) (ks : List (List Itm)) (X : Itm -> Option Int) (n : Nat) (w : World) (e : Ending) (w' : World) : Prop :=
 e = .returned (.int .i64 (r : Int)) /\ ∃ T, BAt W p T h G ks X n w' /\ Sep.Fr S w w' /\ Sep.Ext T S w /\ ∀ v, w.cell? ⟨p, 5, none⟩ = some v -> w'.cell? ⟨p, 5, none⟩ = some v
theorem zEB {W : World} {p : Nat} {S : Nat -> Prop} {h : Sh} {G : Gram} {ks : List (List Itm)} {X : Itm -> Option Int} {n : Nat} (w : World) (k : BAt W p S h G ks X n w) (K : List Itm) (a : Option Addr) (c : Nat) (hK : LAt S K (.slice a K.length c) w)
  (hf : Fit3 K) (hs : ∀ x ∈ ks, Fit3 x) (hn : ks.Nodup) (hl : ks.length <= 1000000) (hL : K.length <= 1000000) :
  Calls Tryz.prog 38 #[.pointer (some ⟨p, 0, none⟩), .slice a K.length c] w (zKw W (numK ks K) p S h G (zFf ks K) X n w) := by
 obtain ⟨a0, c0, bt, bn, us, k⟩ := k
 have KE := zPB (zNF K a c w (by obtain ⟨_, _, e, _, h3, _⟩ := hK; simp only [Value.slice.injEq] at e; rw [e.1]; exact h3) hf hL)
 have hsz : (keyB K).size <= maxLen := by rw [zJT]; unfold maxLen; omega
 by_cases hin : K ∈ ks
 ·have hi := (zJV hs hf).2 hin
  have e1 : zFf ks K = ks := if_pos hin
  have e2 : numK ks K = num (zBZ ks) (keyB K) := by
   unfold numK
   rw [List.idxOf_append, if_pos hin, zNH hs hf hn hin]
  rw [e1, e2]
  have k0 := zPB k
  clear hK k hf hs hn hl hL hin e1 e2
  go_enter Tryz.func38, Tryz.ntmps38
  go_wp2_with (first
   | (go_at_call 66; refine KE.out.mono ?_; rintro e w1 ⟨rfl, hb⟩; have k1 := zPB (k0.out.went hb); have HB := zPB hb; have q1 := k1.out.items; have q2 := k1.out.numbers; clear hb)
   | (at_lookup; refine zB3 _ rfl _ _ rfl lawS Tryz.underlying9 Tryz.underlying84 Tryz.underlying3 (zMR _) bn ks.length (zBZ ks) rfl k1.out.sm (keyB K) rfl hsz ?_))
  go_ret
  exact ⟨rfl, S, ⟨a0, c0, bt, bn, us, k1.out⟩, .of_below HB.out, .refl _ _, fun v hv => cell_later HB.out hv⟩
 ·have hi : isIn (zBZ ks) (keyB K) = false := by
   cases e : isIn (zBZ ks) (keyB K) with
   | false => rfl
   | true => exact absurd ((zJV hs hf).1 e) hin
  have e1 : zFf ks K = ks ++ [K] := if_neg hin
  have e2 : numK ks K = ks.length := by
   unfold numK
   rw [List.idxOf_append, if_neg hin]
   simp
  rw [e1, e2]
  have hkl : (zBZ ks).length = ks.length := by simp [zBZ]
  obtain ⟨i0, hj, hz0, hz1, hz2⟩ := info_parts zGq
  have k0 := zPB k
  have U0 := zPB hK
  clear hK k hf hs hn hin e1 e2
  go_enter Tryz.func38, Tryz.ntmps38
  go_wp2_with (first
   | (go_at_call 66; refine KE.out.mono ?_; rintro e w1 ⟨rfl, hb⟩; have k1 := zPB (k0.out.went hb); have U1 := zPB (U0.out.went hb); have HB := zPB hb; have q1 := k1.out.items; have q2 := k1.out.numbers; clear hb)
   | (at_lookup; refine zB3 _ rfl _ _ rfl lawS Tryz.underlying9 Tryz.underlying84 Tryz.underlying3 (zMR _) bn ks.length (zBZ ks) rfl k1.out.sm (keyB K) rfl hsz ?_)
   | (at_mapUpdate; refine zDc _ rfl _ _ _ rfl lawS Tryz.underlying9 Tryz.underlying84 Tryz.underlying3 bn ks.length (zBZ ks) rfl k1.out.sm (by unfold maxLen; omega) (keyB K) rfl hsz hi _ rfl (by rw [hkl]) (by omega) ?_; intro w2 hm2 hg2; have M2 := zPB hm2; have G2 := zPB hg2; have ep := hg2.block p (k1.out.inn p k1.out.sp) (fun e => k1.out.np (by injection e with e; exact e.symm)); have q3 := (World.cell?_of_block (a := ⟨p, 4, none⟩) ep).trans k1.out.items; have f3 := (World.frozen?_of_block (a := ⟨p, 4, none⟩) ep).trans k1.out.free; have R3 := zPB (k1.out.row.kept hg2 (zNh k1.out)); have hw2 := (zMY k1.out hg2).1; have KP := zPB (zMY k1.out hg2).2; clear hm2 hg2 ep)
   | (at_builtin; refine wpList_append_own_at _ rfl _ _ 85 rfl W.heap.size 50 i0 (.slice none 0 0) 1 24 Tryz.underlying85 hj hz0 hz1 hz2 rfl (by decide) _ _ _ rfl (R3.out.alloc _) ⟨w2.heap.size, 0, none⟩ 1 1 [.slice a K.length c] rfl rfl (cell_one_new _ _ _) (by simp [Value.oneCell']) (by unfold maxLen; omega) (by omega) (by simp; omega) ?_; intro v' w3 hown3 hg3 _ hloc; obtain ⟨q5, f5⟩ := KP.out _ _ hg3; obtain ⟨a', c', rfl⟩ := Sep.zAe hown3; have O3 := zPB hown3; have G3 := zPB hg3; have HL := zPB hloc; clear hown3 hg3 hloc))
  go_ret
  obtain ⟨T, t1, t2, t3⟩ := added k1.out U1.out M2.out G2.out O3.out G3.out HL.out
  refine ⟨rfl, T, t1, (Sep.Fr.of_below HB.out).trans t2 (.refl _ _), t3.at HB.out.size, fun v hv => ?_⟩
  rw [World.cell?_setCell_other _ _ _ _ (fun q => by have := congrArg Addr.off q; simp at this)]
  have hp1 := k1.out.inn p k1.out.sp
  have h2 := G2.out.size
  have e : w3.heap[p]? = w1.heap[p]? := by
   rw [G3.out.block p (by simp; omega) (fun e => (k1.out.rp p e.symm).1 rfl), Below.heap_alloc _ _ _ (by omega), G2.out.block p hp1 (fun e => k1.out.np (by injection e with e; exact e.symm))]
  exact (World.cell?_of_block (a := ⟨p, 5, none⟩) e).trans (cell_later HB.out hv)
end Au
namespace Im
theorem zG2 (x y : Itm) : ltOf cmpI x y = decide (ltP x y) := by
 unfold ltOf cmpI orI Lib.compareInt ltP
 by_cases h1 : x.1 < y.1
 ·simp [h1]
 ·by_cases h2 : y.1 < x.1
  ·have h3 : ¬ x.1 = y.1 := by omega
   simp [h1, h2, h3]
  ·have h3 : x.1 = y.1 := by omega
   by_cases h4 : x.2 < y.2
   ·simp [h3, h4]
   ·by_cases h5 : y.2 < x.2 <;> simp [h3, h4, h5]
theorem zNu : Go.Sort.SWO (ltOf cmpI) where
 irrefl x := by
  rw [zG2, decide_eq_false_iff_not]
  exact fun h => h.ne rfl
 trans x y z h1 h2 := by
  rw [zG2, decide_eq_true_iff] at *
  exact h1.trans h2
 ntrans x y z h1 h2 := by
  rw [zG2, decide_eq_false_iff_not] at *
  unfold ltP at *
  omega
theorem zHM : ∀ {l : List Itm}, l.Nodup -> l.Pairwise (fun a b => ¬ ltP b a) -> Srt l
 | [], _, _ => zKS
 | x :: l, h, k => by
  have h' := List.nodup_cons.1 h
  have k' := List.pairwise_cons.1 k
  refine List.pairwise_cons.2 ⟨fun y hy => ?_, zHM h'.2 k'.2⟩
  exact zJf (k'.1 y hy) fun e => h'.1 (e ▸ hy)
theorem zI1 (d : Array Itm) : Go.Sort.flatK ic 2 d = (d.toList.flatMap ic).toArray := by
 have hl := zAO d.toList
 apply Array.ext_getElem?
 intro t
 by_cases ht : t < d.size * 2
 ·have hi : t / 2 < d.toList.length := by rw [Array.length_toList]; omega
  have h := Rw.zET ic zBF d.toList (t / 2) hi (t % 2) (Nat.mod_lt _ (by omega))
  rw [show t / 2 * 2 + t % 2 = t by omega] at h
  conv => rhs; rw [List.getElem?_toArray, h]
  unfold Go.Sort.flatK
  rw [Array.getElem?_map, Array.getElem?_range, if_pos ht]
  have hi' : t / 2 < d.size := by omega
  rw [Option.map_some, getElem!_pos d (t / 2) hi', Array.getElem_toList]
  rcases Nat.mod_two_eq_zero_or_one t with e | e <;> rw [e] <;> simp [ic]
 ·conv => rhs; rw [List.getElem?_toArray]
  rw [Array.getElem?_eq_none (by simp; omega), List.getElem?_eq_none (by rw [hl, Array.length_toList]; omega)]
theorem zLJ {T base : Nat} {X : List Itm} {g cap : Nat} {w : World} (h : ItsV T base X (.slice (some ⟨g, 0, none⟩) X.length cap) w) : Go.Sort.HoldsK ic 2 w g 0 X.toArray /\ g < w.heap.size := by
 rcases h.2 with ⟨e, _⟩ | ⟨g', cap', cur, e, _, hb, _, _, h3, h4⟩
 ·cases e
 ·simp only [Value.slice.injEq, Option.some.injEq, Addr.mk.injEq, and_true, true_and] at e
  obtain ⟨rfl, rfl⟩ := e
  refine ⟨?_, (Array.getElem?_eq_some_iff.1 hb).1⟩
  unfold Go.Sort.HoldsK
  rw [zI1]
  intro j hj
  have hl := zAO X
  simp only [List.size_toArray] at hj
  refine ⟨?_, by simp [World.frozen?, hb]⟩
  have h1 : (cur.toList.take (X.length * 2))[j]? = (X.flatMap ic)[j]? := by rw [h4]
  rw [List.getElem?_take_of_lt (by omega)] at h1
  simp only [World.cell?, hb, Nat.zero_add]
  simp only [Option.isSome_none, Bool.false_eq_true, if_false]
  rw [← Array.getElem?_toList, h1]
  simp only [List.getElem!_toArray, id]
  rw [List.getElem?_eq_getElem hj, getElem!_pos _ j hj]
theorem zLI {w : World} {g n : Nat} {os : Array Obj} {cur : Array Value} {e : TypeId} {fr : Nat × Nat} (F : Array Value) (hb : w.heap[g]? = some (.cells cur e fr)) :
  (Go.Sort.grow (Go.Sort.putRow id (Go.Sort.ahead w n) g 0 F) os).heap[g]? = some (.cells (Go.Sort.putCells id 0 F cur) e fr) := by
 have hg : g < w.heap.size := (Array.getElem?_eq_some_iff.1 hb).1
 rw [Go.Sort.heap_grow_old _ _ (by simpa using hg)]
 simp [Go.Sort.putRow, Go.Sort.mapBlock, Go.Sort.ahead, Array.getElem?_modify, hb, Go.Sort.onCells]
theorem zI9 {w : World} {g n : Nat} {os : Array Obj} (F : Array Value) : w.grownBy (Go.Sort.grow (Go.Sort.putRow id (Go.Sort.ahead w n) g 0 F) os) (some g) := by
 refine ⟨rfl, rfl, rfl, by simp, fun k hk hne => ?_⟩
 rw [Go.Sort.heap_grow_old _ _ (by simpa using hk)]
 have : g ≠ k := fun e => hne (by rw [e])
 simp [Go.Sort.putRow, Go.Sort.mapBlock, Go.Sort.ahead, Array.getElem?_modify, this]
theorem zIU (cur : Array Value) (L : List Value) (h : L.length <= cur.size) : (Go.Sort.putCells id 0 L.toArray cur).toList.take L.length = L := by
 apply List.ext_getElem?
 intro j
 by_cases hj : j < L.length
 ·rw [List.getElem?_take_of_lt hj, Array.getElem?_toList]
  simp [Go.Sort.putCells, hj, show j < cur.size by omega]
 ·rw [List.getElem?_take_eq_none (by omega), List.getElem?_eq_none (by omega)]
theorem zNC {T base : Nat} {X Y : List Itm} {g cap n : Nat} {w : World} {os : Array Obj} (h : ItsV T base X (.slice (some ⟨g, 0, none⟩) X.length cap) w) (hl : Y.length = X.length) :
  ItsV T base Y (.slice (some ⟨g, 0, none⟩) X.length cap) (sortWorldK ic 2 w g 0 n Y.toArray os) /\ Below base w (sortWorldK ic 2 w g 0 n Y.toArray os) := by
 unfold sortWorldK Go.Sort.putRowK
 rw [zI1]
 rcases h.2 with ⟨e, _⟩ | ⟨g', cap', cur, e, hbase, hb, h1, h2, h3, h4⟩
 ·cases e
 ·simp only [Value.slice.injEq, Option.some.injEq, Addr.mk.injEq, and_true, true_and] at e
  obtain ⟨rfl, rfl⟩ := e
  have hly := zAO Y
  have hgr := zI9 (w := w) (g := g) (n := n) (os := os) ((Y.flatMap ic).toArray)
  refine ⟨⟨by rw [hly], .inr ⟨g, cap, _, by rw [hl], hbase, zLI _ hb, by omega, h2, by simp [Go.Sort.putCells, h3], ?_⟩⟩, ?_⟩
  ·rw [← hly]
   exact zIU cur _ (by rw [hly]; have := Nat.mul_le_mul_right 2 h1; omega)
  ·exact ⟨hgr.os, hgr.tape, hgr.output, hgr.size, fun k hk => (hgr.block k (Nat.lt_of_lt_of_le hk (Nat.le_trans hbase (Nat.le_of_lt (Array.getElem?_eq_some_iff.1 hb).1))) fun e => by injection e with e; omega)⟩
theorem zMC (base : Nat) (X : List Itm) (a : Option Addr) (c : Nat) (w : World) (h : ItsV 108 base X (.slice a X.length c) w) (hl : X.length <= 1000000) :
  Calls Tryz.prog 128 #[.slice a X.length c, .func (.func 125) #[] #[]] w fun e w' => e = .returned (.tuple #[]) /\ ∃ Y, Y.Perm X /\ Y.Pairwise (fun a b => ¬ ltP b a) /\ ItsV 108 base Y (.slice a X.length c) w' /\ Below base w w' := by
 have h' := h
 rcases h'.2 with ⟨e, h0⟩ | ⟨g, cap, cur, e, hbase, hb, _⟩
 ·simp only [Value.slice.injEq] at e
  obtain ⟨rfl, _, rfl⟩ := e
  obtain rfl : X = [] := List.eq_nil_of_length_eq_zero h0
  exact (zKR none 0 _ w).mono fun e w' ⟨h1, h2⟩ => ⟨h1, [], .nil, .nil, by rw [h2]; exact h, by rw [h2]; exact .refl _ _⟩
 ·simp only [Value.slice.injEq, true_and] at e
  obtain ⟨rfl, rfl⟩ := e
  obtain ⟨hH, hg⟩ := zLJ h
  have eg : ∀ args w, (callFunc 125 args).run Tryz.prog w = .ok (.enter 125 args) w := enters_of Tryz.func125 (by kernel_rfl) rfl
  have hcmp : CmpLays Tryz.prog 125 #[] ic 2 cmpI g 0 X.toArray.size w := fun m os dk _ x y => (zB6 x y _).mono fun e w' ⟨h1, q, os', h2⟩ => ⟨h1, q, os', h2⟩
  have hcon := AnyQ.slices_SortFunc Tryz.sortItm 2 Tryz.isAgg108 Tryz.sizeOf108 ic zBF (fun x v hv => by simp [ic] at hv; rcases hv with rfl | rfl <;> rfl) cmpI zNu 125 #[] g 0 c X.toArray w eg hcmp hH hg (by simp; omega)
  change Calls Tryz.prog 128 _ _ _ at hcon
  simp only [List.size_toArray] at hcon
  refine hcon.mono ?_
  rintro e w' ⟨h1, d', n, os, ⟨p1, p2, p3⟩, hs, rfl⟩
  simp only [List.size_toArray] at p1 p3
  have hp : d'.toList.Perm X := by
   have e1 : d'.extract 0 X.length = d' := by rw [← p1]; simp
   have e2 : X.toArray.extract 0 X.length = X.toArray := by simp
   rw [e1, e2] at p3
   simpa using p3
  have hd : d' = d'.toList.toArray := by simp
  have hr := zNC (Y := d'.toList) (n := n) (os := os) h (by rw [Array.length_toList]; exact p1)
  rw [← hd] at hr
  refine ⟨h1, d'.toList, hp, ?_, hr⟩
  rw [List.pairwise_iff_getElem]
  intro i j hi hj hij
  have hi' : i < d'.size := by simpa using hi
  have hj' : j < d'.size := by simpa using hj
  have := hs i j (Nat.zero_le _) hij (by omega)
  rw [zG2, decide_eq_false_iff_not, getElem!_pos d' j hj', getElem!_pos d' i hi'] at this
  simpa using this
theorem zEW (Bm b nn : Nat) (X : Itm -> Prop) (w : World) (hBm : Bm < w.heap.size) (hm : w.cell? ⟨Bm, 0, none⟩ = some (.map (some b))) (hs : MS b nn X w) (hnn : nn <= 1000000) :
  Calls Tryz.prog 131 #[.slice none 0 0, seqv Bm] w (zMi X w) :=
 (callsIn_wide (n := 3)).1 (appendSeq_in Fence.wide 3 trivial trivial rfl (by omega) Bm b nn X w hBm hm hs hnn)
theorem zF4 (Bm b nn : Nat) (X : Itm -> Prop) (w : World) (hBm : Bm < w.heap.size) (hm : w.cell? ⟨Bm, 0, none⟩ = some (.map (some b))) (hs : MS b nn X w) (hnn : nn <= 1000000) :
  Calls Tryz.prog 127 #[seqv Bm] w (zMi X w) := by
 have A := zPB (zEW Bm b nn X w hBm hm hs hnn)
 clear hm hs
 go_enter Tryz.func127, Tryz.ntmps127
 go_wp2_with (go_at_call 131; refine A.out.mono ?_; rintro e w1 ⟨v, ss, rfl, h1, h2, h3⟩; have H1 := zPB h1; have H2 := zPB h2; have H3 := zPB h3; clear h1 h2 h3)
 go_ret
 exact ⟨v, ss, rfl, H1.out, H2.out, H3.out⟩
theorem zLN (b : Nat) (w : World) : Calls Tryz.prog 124 #[.map (some b)] w fun e w' => e = .returned (seqv w.heap.size) /\ w' = w.alloc (.cells #[.map (some b)] 149) := by
 go_enter Tryz.func124, Tryz.ntmps124
 go_wp2
 go_ret
 exact ⟨rfl, rfl⟩
def zCs (P : Itm -> Prop) (w : World) (e : Ending) (w' : World) : Prop := ∃ (Y : List Itm) (a : Option Addr) (c : Nat), e = .returned (.slice a Y.length c) /\ Is Y P /\ ItsV 108 w.heap.size Y (.slice a Y.length c) w' /\ Below w.heap.size w w'
theorem zDp (Bm b nn : Nat) (X : Itm -> Prop) (w : World) (hBm : Bm < w.heap.size) (hm : w.cell? ⟨Bm, 0, none⟩ = some (.map (some b))) (hs : MS b nn X w) (hnn : nn <= 1000000) (M : List Itm) (hM : ∀ x, X x -> x ∈ M) (hML : M.length <= 1000000) :
  Calls Tryz.prog 123 #[seqv Bm, .func (.func 125) #[] #[]] w (zCs (fun x => X x /\ W64 x) w) := by
 have C := zPB (zF4 Bm b nn X w hBm hm hs hnn)
 clear hm hs
 have HM := zPB hM
 clear hM
 go_enter Tryz.func123, Tryz.ntmps123
 go_wp2_with (first
  | (go_at_call 127; refine C.out.mono ?_; rintro e w1 ⟨v, ss, rfl, h1, h2, h3⟩; obtain ⟨a, c, rfl, hc⟩ := h2.shape; have hlen := Nat.le_trans (zBU h1.nd fun x hx => HM.out x ((h1.mem x (h1.fit x hx)).1 hx)) hML; have H1 := zPB h1; have H2 := zPB h2; have H3 := zPB h3; clear h1 h2 h3)
  | (go_at_call 128; refine (zMC _ ss a c _ H2.out hlen).mono ?_; rintro e w2 ⟨rfl, Y, k1, k2, k3, k4⟩; have K1 := zPB k1; have K2 := zPB k2; have K3 := zPB k3; have K4 := zPB k4; clear k1 k2 k3 k4))
 go_ret
 have el := K1.out.length_eq
 refine ⟨Y, a, c, by rw [el]; rfl, ⟨zHM (K1.out.nodup_iff.2 H1.out.nd) K2.out, fun x => ?_⟩, by rw [el]; exact K3.out, H3.out.trans K4.out⟩
 rw [K1.out.mem_iff]
 exact ⟨fun hx => ⟨(H1.out.mem x (H1.out.fit x hx)).1 hx, H1.out.fit x hx⟩, fun ⟨h1, h2⟩ => (H1.out.mem x h2).2 h1⟩
theorem zLW (b nn : Nat) (X : Itm -> Prop) (w : World) (hs : MS b nn X w) (hnn : nn <= 1000000) (M : List Itm) (hM : ∀ x, X x -> x ∈ M) (hML : M.length <= 1000000) :
  Calls Tryz.prog 107 #[.map (some b)] w (zCs (fun x => X x /\ W64 x) w) := by
 have hb : Below w.heap.size w (w.alloc (.cells #[.map (some b)] 149)) := Gr.boxed _ _
 have S := zPB (zDp w.heap.size b nn X (w.alloc (.cells #[.map (some b)] 149)) (by simp) (Gr.zAB rfl rfl) (hs.went hb) hnn M hM hML)
 have K := zPB (zLN b w)
 clear hs
 go_enter Tryz.func107, Tryz.ntmps107
 go_wp2_with (first
  | (go_at_call 124; refine K.out.mono ?_; rintro e w1 ⟨rfl, rfl⟩)
  | (go_at_call 123; refine S.out.mono ?_; rintro e w2 ⟨Y, a, c, rfl, h1, h2, h3⟩; have H1 := zPB h1; have H2 := zPB h2; have H3 := zPB h3; clear h1 h2 h3))
 go_ret
 exact ⟨Y, a, c, rfl, H1.out, H2.out.mono (by simp), hb.trans (H3.out.mono (by simp))⟩
