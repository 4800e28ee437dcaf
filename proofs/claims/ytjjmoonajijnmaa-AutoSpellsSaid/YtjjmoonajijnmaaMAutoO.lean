/-
  Package auto: number: the state with some items, which may be a new one.
  Package auto: key: the text that names a list of items.
  The builder of package auto in memory: the grammar's cells, the states' items in a row, two maps; a state more.
-/
import Derived.Test.YtjjmoonajijnmaaMAutoP
import Derived.Test.YtjjmoonajijnmaaGramRule
import Derived.Test.YtjjmoonajijnmaaItemAt
import Derived.Test.YtjjmoonajijnmaaAutoMap
import Derived.Test.YtjjmoonajijnmaaAutoRow
import Derived.DeepKeys4
namespace Go.Proofs.Ytjjmoonajijnmaa.Au
open Go.RowKit Go.Maps
open Go.Proofs.Ytjjmoonajijnmaa.Gr (Gram boxed drawn cell_new cell_old cell_later step)
open Go.Proofs.Ytjjmoonajijnmaa.Im
set_option linter.unusedVariables false

theorem grown_below2 {w w' : World} {row : Option Nat} {m : Nat} (hg : w.grownBy w' row) (hm : m ≤ w.heap.size) (hr : ∀ k, row = some k → m ≤ k) : Below m w w' :=
  ⟨hg.os, hg.tape, hg.output, hg.size, fun i hi => hg.block i (by omega) fun e => by have := hr i e.symm; omega⟩

theorem ic_one (x : Itm) : ∀ u ∈ ic x, u.oneCell' = true := fun u hu => by
  simp only [ic, List.mem_cons, List.not_mem_nil, or_false] at hu
  rcases hu with rfl | rfl <;> rfl
theorem its_own {T : TypeId} {base : Nat} {X : List Itm} {v : Value} {w : World} (h : ItsV T base X v w) : ∀ k, v.ownBlock = some k → base ≤ k := fun k hk => (World.ownsRow.lt h k hk).1

def bvs (xs : List Int) : List Value := xs.map (.int .u8)
theorem bvs_length (xs : List Int) : (bvs xs).length = xs.length := by simp [bvs]
theorem bvs_append (xs ys : List Int) : bvs (xs ++ ys) = bvs xs ++ bvs ys := by simp [bvs]
theorem info_byte : (Try.prog.info? 5).map (fun i => (i.zero, i.size, i.bytes)) = some (some (.int .u8 0), 1, 1) := by kernel_rfl
/-- A row of bytes of one's own. -/
def BytesV (base : Nat) (xs : List Int) (v : Value) (w : World) : Prop := w.ownsRow base 5 1 v xs.length (bvs xs)
theorem BytesV.went {base : Nat} {X : List Int} {v : Value} {w w' : World} (h : BytesV base X v w) (hb : Below w.heap.size w w') : BytesV base X v w' := Sep.ownsRow_at h fun g hg => hb.block g (h.lt g hg).2
theorem BytesV.nil (base : Nat) (w : World) : BytesV base [] (.slice none 0 0) w := World.ownsRow_nil _ _ _ _
theorem BytesV.shape {base : Nat} {X : List Int} {v : Value} {w : World} (h : BytesV base X v w) : ∃ a c, v = .slice a X.length c := by
  obtain ⟨a, c, e⟩ := Sep.ownsRow_shape h
  exact ⟨a, c, e⟩
/-- As a text. -/
theorem BytesV.text {base : Nat} {X : List Int} {a : Option Addr} {c : Nat} {w : World} (h : BytesV base X (.slice a X.length c) w) :
    (convert 84 9 (.slice a X.length c)).run Try.prog w = .ok (.string (strOfNums X)) w := by
  rcases h.2 with ⟨e1, h0⟩ | ⟨g, cap, cur, he, _⟩
  · have e : X = [] := List.eq_nil_of_length_eq_zero h0
    subst e
    simp only [Value.slice.injEq] at e1
    obtain ⟨rfl, _, rfl⟩ := e1
    exact run_convert_bytes_nil w 84 5 Try.underlying84 Try.underlying5 _ _ 9 Try.underlying9
  · simp only [Value.slice.injEq] at he
    obtain ⟨rfl, _, _⟩ := he
    have hc := World.ownsRow.cells h (g := g) rfl
    refine run_convert_bytes_arg w 84 5 Try.underlying84 Try.underlying5 g 0 X.length c X rfl (fun i hi => ?_) 9 Try.underlying9
    have := hc i (.int .u8 (X.getD i 0)) (by simp [bvs, hi])
    rwa [WideShapes.add_plain] at this

theorem three_new (w : World) (n : Nat) (hn : n = w.heap.size) (x y z : Value) (t : TypeId) : ∀ j u, [x, y, z][j]? = some u → (w.alloc (.cells #[x, y, z] t)).cell? ((⟨n, 0, none⟩ : Addr).add j) = some u := by
  intro j u hj
  subst hn
  rw [WideShapes.add_plain]
  match j, hj with
  | 0, hj => exact cell_new rfl (by simpa using hj)
  | 1, hj => exact cell_new rfl (by simpa using hj)
  | 2, hj => exact cell_new rfl (by simpa using hj)

/-- Behind an append of an item's three bytes. -/
theorem BytesV.more {base : Nat} {L : List Itm} {v : Value} {w : World} {k : Nat} (hk : k < L.length) {p q r : Int} (e : [p, q, r] = kb L[k]) {n : Nat} (hn : n = (keyL (L.take k)).length + 3) (h : w.ownsRow base 5 1 v n (bvs (keyL (L.take k)) ++ [.int .u8 p, .int .u8 q, .int .u8 r])) : BytesV base (keyL (L.take (k + 1))) v w := by
  subst hn
  have ht : keyL (L.take (k + 1)) = keyL (L.take k) ++ [p, q, r] := by
    rw [List.take_succ_eq_append_getElem hk, keyL_snoc, e]
  unfold BytesV
  rw [ht, bvs_append, List.length_append]
  exact h

set_option maxRecDepth 100000 in
set_option maxHeartbeats 2000000 in
theorem key_any (L : List Itm) (a : Option Addr) (c : Nat) (w : World) (kl : ItsA a L w) (hf : Fit3 L) (hL : L.length ≤ 1000000) :
    Calls Try.prog 39 #[.slice a L.length c] w (Gr.Is (.string (keyB L)) w) := by
  obtain ⟨i0, hi, hz0, hz1, hz2⟩ := info_parts info_byte
  have KL := Lib.hid (fun w1 (b : Below w.heap.size w w1) => kl.went b)
  have HF := Lib.hid hf
  have B0 := Lib.hid (BytesV.nil w.heap.size w)
  clear kl hf
  go_enter Try.func39, Try.ntmps39
  go_wp2
  go_loopw [3, 8] (fun v i wr => ∃ j : Nat, j ≤ L.length ∧ i = .int .i64 j ∧ BytesV w.heap.size (keyL (L.take j)) v wr ∧ Below w.heap.size w wr) (fun _ i _ => L.length - (intOf i).toNat)
  case atStart => exact ⟨0, Nat.zero_le _, rfl, B0.out, .refl _ _⟩
  case round =>
    obtain ⟨j, hj, rfl, hB, hW⟩ := hrel
    obtain ⟨av, cv, rfl⟩ := hB.shape
    clear B0
    by_cases hlt : j < L.length
    · obtain ⟨b, o, rfl, c0, c1⟩ := (KL.out wr hW).at j hlt
      have hx := HF.out _ (List.getElem_mem hlt)
      have HM := Lib.hid (fun (v : Value) (w' : World) (n : Nat) (p q r : Int) e hn h => BytesV.more (base := w.heap.size) (v := v) (w := w') hlt (p := p) (q := q) (r := r) (n := n) e hn h)
      have hl : (keyL (L.take j)).length ≤ 3000000 := by
        rw [keyL_length, List.length_take]
        omega
      have B := Lib.hid hB
      have W := Lib.hid hW
      clear hB hW
      have e1 : ((L[j].1, L[j].2) : Itm) = L[j] := rfl
      generalize L[j] = x at *
      obtain ⟨x0, x1⟩ := x
      dsimp only at c0 c1 hx
      clear e1
      generalize keyL (L.take j) = X at B HM hl
      have hk : [x0 % 256, x0 / 256, x1] = kb (x0, x1) := by
        unfold kb
        dsimp only
        rw [show x0 / 256 % 256 = x0 / 256 by omega, show x1 % 256 = x1 by omega]
      have hs0 : (wr.alloc (.cells #[.int .i64 x0, .int .i64 x1] 51)).heap.size = wr.heap.size + 1 := by simp
      have HB2 := Lib.hid (Gr.step W.out (Gr.step (boxed wr (.cells #[.int .i64 x0, .int .i64 x1] 51)) (boxed _ (.cells #[.int .u8 (x0 % 256), .int .u8 (x0 / 256), .int .u8 x1] 5))))
      have RB := Lib.hid (B.out.went (Gr.step (boxed wr (.cells #[.int .i64 x0, .int .i64 x1] 51)) (boxed _ (.cells #[.int .u8 (x0 % 256), .int .u8 (x0 / 256), .int .u8 x1] 5))))
      have NW := Lib.hid (three_new (wr.alloc (.cells #[.int .i64 x0, .int .i64 x1] 51)) (wr.heap.size + 1) hs0.symm (.int .u8 (x0 % 256)) (.int .u8 (x0 / 256)) (.int .u8 x1) 5)
      have hsz := HB2.out.size
      have hbl : ∀ g, (Value.slice av X.length cv).ownBlock = some g → w.heap.size ≤ g := fun g hg => (World.ownsRow.lt B.out g hg).1
      have HBL := Lib.hid hbl
      clear hbl B W
      go_wp2_with (at_builtin; refine wpList_append_own_at _ rfl _ _ 84 rfl w.heap.size 5 i0 (.int .u8 0) 1 1 Try.underlying84 hi hz0 hz1 hz2 rfl (by decide) _ _ _ rfl RB.out ⟨wr.heap.size + 1, 0, none⟩ 3 3 [.int .u8 (x0 % 256), .int .u8 (x0 / 256), .int .u8 x1] rfl rfl NW.out (by simp [Value.oneCell']) (by unfold maxLen; omega) (by omega) hsz ?_; intro v' w' hown hg _ _; have HO := Lib.hid hown; have HG := Lib.hid (HB2.out.trans (grown_below2 hg hsz HBL.out)); clear hown hg)
      go_roundw
      case rel => exact ⟨j + 1, by omega, by go_num, HM.out _ _ _ _ _ _ hk rfl HO.out, HG.out⟩
      case measure => simp [intOf]; omega
    · have hE : j = L.length := by omega
      subst hE
      rw [List.take_length] at hB
      rw [List.take_length]
      have T := hB.text
      have HK := Lib.hid (show strOfNums (keyL L) = keyB L from rfl)
      generalize keyL L = X at *
      generalize strOfNums X = s at *
      go_wp2
      have e := HK.out
      subst e
      go_ret
      exact ⟨rfl, hW⟩

end Go.Proofs.Ytjjmoonajijnmaa.Au

namespace Go.Proofs.Ytjjmoonajijnmaa.Au
open Go.RowKit Go.Maps
open Go.Proofs.Ytjjmoonajijnmaa.Gr (Gram Sh gv GAt Box Bx checkN top boxed drawn cell_new cell_old cell_later step)
open Go.Proofs.Ytjjmoonajijnmaa.Im
open Go.Proofs.Ytjjmoonajijnmaa.It (isIn num)
set_option linter.unusedVariables false

theorem laidA : laidOutB Try.prog = true := by kernel_rfl
theorem rowA : 75 < Try.prog.types.size := of_decide_eq_true (by kernel_rfl)
theorem lawA : Keyed Try.prog 75 := .of_law (deep_law_laid laidA (m := 2) (by omega) rowA (by kernel_rfl) (by rw [Try.underlying75]))
theorem kaA : Ka Try.prog 75 :=
  ka_of lawA Try.underlying75 Try.underlying3 (by kernel_rfl) (by kernel_rfl) (by kernel_rfl) (Try.prog.types.size - 1) (by have := rowA; omega)
theorem lawS : Keyed Try.prog 9 := string_keyed Try.underlying9
theorem zeroA (w : World) : (zeroValue 3).run Try.prog w = .ok (.int .i64 0) w := by kernel_rfl
theorem info_row : (Try.prog.info? 23).map (fun i => (i.zero, i.size, i.bytes)) = some (some (.slice none 0 0), 1, 24) := by kernel_rfl

abbrev TM (b n : Nat) (X : Itm → Option Int) (w : World) : Prop := TMap Try.prog 75 3 b n X w
abbrev SM (b n : Nat) (L : List ByteArray) (w : World) : Prop := SMap Try.prog 9 3 b n L w

/-- A list's value, in no block of S. -/
def LAt (S : Nat → Prop) (K : List Itm) (u : Value) (w : World) : Prop := ∃ a c, u = .slice a K.length c ∧ K.length ≤ c ∧ ItsA a K w ∧ (K ≠ [] → ∀ b o, a = some ⟨b, o, none⟩ → ¬ S b)
theorem LAt.fr {S T : Nat → Prop} {K : List Itm} {u : Value} {w w' : World} (h : LAt S K u w) (f : Sep.Fr S w w') (x : Sep.Ext T S w) : LAt T K u w' := by
  obtain ⟨a, c, h1, h2, h3, h4⟩ := h
  by_cases hn : K = []
  · subst hn
    exact ⟨a, c, h1, h2, .nil _ _, fun q => absurd rfl q⟩
  · refine ⟨a, c, h1, h2, h3.keep fun b o e => f.block b (its_lt h3 hn e) (h4 hn b o e), fun _ b o e q => ?_⟩
    have := its_lt h3 hn e
    rcases x b q with r | r
    · exact h4 hn b o e r
    · omega
theorem LAt.went {S : Nat → Prop} {K : List Itm} {u : Value} {w w' : World} (h : LAt S K u w) (hb : Below w.heap.size w w') : LAt S K u w' := h.fr (.of_below hb) (.refl _ _)

/-- The parts of a builder at p: its states' slice, its maps. -/
structure Parts (W : World) (p : Nat) (S : Nat → Prop) (h : Sh) (G : Gram) (ks : List (List Itm)) (X : Itm → Option Int) (n : Nat) (a : Option Addr) (c bt bn : Nat) (us : List Value) (w : World) : Prop where
  below : Below W.heap.size W w
  box : Box p h G w
  items : w.cell? ⟨p, 4, none⟩ = some (.slice a ks.length c)
  targets : w.cell? ⟨p, 5, none⟩ = some (.map (some bt))
  numbers : w.cell? ⟨p, 6, none⟩ = some (.map (some bn))
  free : w.frozen? ⟨p, 4, none⟩ = false
  row : w.ownsRow W.heap.size 23 1 (.slice a ks.length c) ks.length us
  lists : ∀ i (h : i < ks.length) (h' : i < us.length), LAt S ks[i] us[i] w
  tm : TM bt n X w
  sm : SM bn ks.length (keysB ks) w
  sp : S p
  st : S bt
  sn : S bn
  sr : ∀ g, (Value.slice a ks.length c).ownBlock = some g → S g
  tp : bt ≠ p
  np : bn ≠ p
  tn : bt ≠ bn
  rp : ∀ g, (Value.slice a ks.length c).ownBlock = some g → g ≠ p ∧ g ≠ bt ∧ g ≠ bn
  low : ∀ k, S k → W.heap.size ≤ k
  inn : Sep.Inn S w
theorem Parts.len {W : World} {p : Nat} {S : Nat → Prop} {h : Sh} {G : Gram} {ks : List (List Itm)} {X : Itm → Option Int} {n : Nat} {a : Option Addr} {c bt bn : Nat} {us : List Value} {w : World} (k : Parts W p S h G ks X n a c bt bn us w) : us.length = ks.length := by
  have := k.row.1
  omega
theorem Parts.went {W : World} {p : Nat} {S : Nat → Prop} {h : Sh} {G : Gram} {ks : List (List Itm)} {X : Itm → Option Int} {n : Nat} {a : Option Addr} {c bt bn : Nat} {us : List Value} {w w' : World} (k : Parts W p S h G ks X n a c bt bn us w) (hb : Below w.heap.size w w') : Parts W p S h G ks X n a c bt bn us w' :=
  ⟨Gr.step k.below hb, k.box.later hb, cell_later hb k.items, cell_later hb k.targets, cell_later hb k.numbers, (World.frozen?_of_block (a := ⟨p, 4, none⟩) (hb.block p (k.inn p k.sp))).trans k.free, Sep.ownsRow_at k.row fun g hg => hb.block g (k.inn g (k.sr g hg)), fun i h1 h2 => (k.lists i h1 h2).went hb, k.tm.keep (hb.block _ (k.inn _ k.st)), k.sm.keep (hb.block _ (k.inn _ k.sn)), k.sp, k.st, k.sn, k.sr, k.tp, k.np, k.tn, k.rp, k.low, k.inn.le hb.size⟩

/-- A builder at p of the states ks, whose targets are X. -/
def BAt (W : World) (p : Nat) (S : Nat → Prop) (h : Sh) (G : Gram) (ks : List (List Itm)) (X : Itm → Option Int) (n : Nat) (w : World) : Prop := ∃ a c bt bn us, Parts W p S h G ks X n a c bt bn us w
theorem BAt.went {W : World} {p : Nat} {S : Nat → Prop} {h : Sh} {G : Gram} {ks : List (List Itm)} {X : Itm → Option Int} {n : Nat} {w w' : World} (k : BAt W p S h G ks X n w) (hb : Below w.heap.size w w') : BAt W p S h G ks X n w' := by
  obtain ⟨a, c, bt, bn, us, k⟩ := k
  exact ⟨a, c, bt, bn, us, k.went hb⟩
theorem BAt.below {W : World} {p : Nat} {S : Nat → Prop} {h : Sh} {G : Gram} {ks : List (List Itm)} {X : Itm → Option Int} {n : Nat} {w : World} (k : BAt W p S h G ks X n w) : Below W.heap.size W w := by
  obtain ⟨a, c, bt, bn, us, k⟩ := k
  exact k.below
theorem BAt.inn {W : World} {p : Nat} {S : Nat → Prop} {h : Sh} {G : Gram} {ks : List (List Itm)} {X : Itm → Option Int} {n : Nat} {w : World} (k : BAt W p S h G ks X n w) : Sep.Inn S w := by
  obtain ⟨a, c, bt, bn, us, k⟩ := k
  exact k.inn
theorem BAt.low {W : World} {p : Nat} {S : Nat → Prop} {h : Sh} {G : Gram} {ks : List (List Itm)} {X : Itm → Option Int} {n : Nat} {w : World} (k : BAt W p S h G ks X n w) : ∀ i, S i → W.heap.size ≤ i := by
  obtain ⟨a, c, bt, bn, us, k⟩ := k
  exact k.low
theorem BAt.eq {W : World} {p : Nat} {S : Nat → Prop} {h : Sh} {G : Gram} {ks : List (List Itm)} {X Y : Itm → Option Int} {n m : Nat} {w : World} (k : BAt W p S h G ks X n w) (e : ∀ x, X x = Y x) (hm : n ≤ m) : BAt W p S h G ks Y m w := by
  obtain ⟨a, c, bt, bn, us, k⟩ := k
  exact ⟨a, c, bt, bn, us, { k with tm := (k.tm.eq e).mono hm }⟩
/-- State i's items. -/
theorem Parts.at {W : World} {p : Nat} {S : Nat → Prop} {h : Sh} {G : Gram} {ks : List (List Itm)} {X : Itm → Option Int} {n : Nat} {a : Option Addr} {c bt bn : Nat} {us : List Value} {w : World} (k : Parts W p S h G ks X n a c bt bn us w) {i : Nat} (hi : i < ks.length) :
    ∃ b a' c', a = some ⟨b, 0, none⟩ ∧ w.cell? ⟨b, i, none⟩ = some (.slice a' ks[i].length c') ∧ ks[i].length ≤ c' ∧ ItsA a' ks[i] w ∧ (ks[i] ≠ [] → ∀ b o, a' = some ⟨b, o, none⟩ → ¬ S b) := by
  have hl := k.len
  obtain ⟨a', c', e, h1, h2, h3⟩ := k.lists i hi (by omega)
  rcases k.row.2 with ⟨_, h0⟩ | ⟨g, cap, cur, he, _⟩
  · omega
  · simp only [Value.slice.injEq] at he
    obtain ⟨rfl, _, _⟩ := he
    have := World.ownsRow.cells k.row (g := g) rfl i us[i] (List.getElem?_eq_getElem (by omega))
    rw [WideShapes.add_plain] at this
    refine ⟨g, a', c', rfl, ?_, h1, h2, h3⟩
    rw [← e]
    simpa using this

theorem row_off {W : World} {p : Nat} {S : Nat → Prop} {h : Sh} {G : Gram} {ks : List (List Itm)} {X : Itm → Option Int} {n : Nat} {a : Option Addr} {c bt bn : Nat} {us : List Value} {w : World} (k : Parts W p S h G ks X n a c bt bn us w) : (Value.slice a ks.length c).ownBlock = none ∨ (Value.slice a ks.length c).ownBlock ≠ some bn := by
  cases hb : (Value.slice a ks.length c).ownBlock with
  | none => exact .inl rfl
  | some g => exact .inr fun e => (k.rp g hb).2.2 (by injection e)

/-- The map of targets is another. -/
theorem Parts.turn {W : World} {p : Nat} {S : Nat → Prop} {h : Sh} {G : Gram} {ks : List (List Itm)} {X Y : Itm → Option Int} {n m : Nat} {a : Option Addr} {c bt bn : Nat} {us : List Value} {w w' : World} (k : Parts W p S h G ks X n a c bt bn us w) (f : Sep.Fr (· = bt) w w') (ht : TM bt m Y w') : Parts W p S h G ks Y m a c bt bn us w' :=
  have e (q : Nat) (hq : S q) (hne : q ≠ bt) : w'.heap[q]? = w.heap[q]? := f.block q (k.inn q hq) hne
  have ep := e p k.sp fun q => k.tp q.symm
  have F : Sep.Fr S w w' := f.mono fun q hq => hq ▸ k.st
  ⟨k.below.trans (F.below k.low k.below.size), ⟨(World.cell?_of_block (a := ⟨p, 0, none⟩) ep).trans k.box.x0, (World.cell?_of_block (a := ⟨p, 1, none⟩) ep).trans k.box.x1, (World.cell?_of_block (a := ⟨p, 2, none⟩) ep).trans k.box.x2, (World.cell?_of_block (a := ⟨p, 3, none⟩) ep).trans k.box.x3⟩,
    (World.cell?_of_block (a := ⟨p, 4, none⟩) ep).trans k.items, (World.cell?_of_block (a := ⟨p, 5, none⟩) ep).trans k.targets, (World.cell?_of_block (a := ⟨p, 6, none⟩) ep).trans k.numbers, (World.frozen?_of_block (a := ⟨p, 4, none⟩) ep).trans k.free,
    Sep.ownsRow_at k.row fun g hg => e g (k.sr g hg) (k.rp g hg).2.1, fun i h1 h2 => (k.lists i h1 h2).fr F (.refl _ _), ht, k.sm.keep (e bn k.sn fun q => k.tn q.symm), k.sp, k.st, k.sn, k.sr, k.tp, k.np, k.tn, k.rp, k.low, k.inn.le f.size⟩

/-- What a call that writes the builder at p answers, and what is there behind it. -/
def Wrote (W : World) (r : Value) (p : Nat) (S : Nat → Prop) (h : Sh) (G : Gram) (ks : List (List Itm)) (X : Itm → Option Int) (n : Nat) (w : World) (e : Ending) (w' : World) : Prop :=
  e = .returned r ∧ ∃ T, BAt W p T h G ks X n w' ∧ Sep.Fr S w w' ∧ Sep.Ext T S w

/-- The end of number, where the state is new. -/
theorem added {W : World} {p : Nat} {S : Nat → Prop} {h : Sh} {G : Gram} {ks : List (List Itm)} {X : Itm → Option Int} {n : Nat} {a a' : Option Addr} {c c' bt bn : Nat} {us : List Value} {w w1 w2 : World} {K : List Itm} {u : Value}
    (k : Parts W p S h G ks X n a c bt bn us w) (hu : LAt S K u w)
    (hm1 : SM bn (ks.length + 1) (keysB ks ++ [keyB K]) w1) (hg1 : w.grownBy w1 (some bn))
    (hown2 : w2.ownsRow W.heap.size 23 1 (.slice a' (ks.length + 1) c') (ks.length + 1) (us ++ [u]))
    (hg2 : (w1.alloc (.cells #[u] 23)).grownBy w2 (Value.slice a ks.length c).ownBlock)
    (hloc : (Value.slice a' (ks.length + 1) c').ownBlock = (Value.slice a ks.length c).ownBlock ∨ (Value.slice a' (ks.length + 1) c').ownBlock = some (w1.alloc (.cells #[u] 23)).heap.size) :
    ∃ T, BAt W p T h G (ks ++ [K]) X n (w2.setCell ⟨p, 4, none⟩ (.slice a' (ks.length + 1) c')) ∧ Sep.Fr S w (w2.setCell ⟨p, 4, none⟩ (.slice a' (ks.length + 1) c')) ∧ Sep.Ext T S w := by
  have hp : p < w.heap.size := k.inn p k.sp
  have hsz1 : w.heap.size ≤ w1.heap.size := hg1.size
  have hsz2 : w1.heap.size + 1 ≤ w2.heap.size := by have := hg2.size; simpa using this
  have hrow : ∀ g, (Value.slice a ks.length c).ownBlock = some g → S g ∧ g < w.heap.size ∧ g ≠ p ∧ g ≠ bt ∧ g ≠ bn := fun g hg => ⟨k.sr g hg, k.inn g (k.sr g hg), k.rp g hg⟩
  have hrow' : ∀ g, (Value.slice a' (ks.length + 1) c').ownBlock = some g → ((Value.slice a ks.length c).ownBlock = some g ∨ w.heap.size ≤ g) ∧ g < w2.heap.size ∧ W.heap.size ≤ g := fun g hg => by
    refine ⟨?_, (hown2.lt g hg).2, (hown2.lt g hg).1⟩
    rcases hloc with e | e
    · exact .inl (e.symm.trans hg)
    · have e2 := e.symm.trans hg
      injection e2 with e2
      simp at e2
      exact .inr (by omega)
  have F2 : Sep.Fr S w w2 := Sep.Fr.grown (w := w1.alloc (.cells #[u] 23)) (Sep.Fr.alloc (Sep.Fr.grown (.refl _ _) hg1 fun q hq => by injection hq with hq; subst hq; exact .inl k.sn) _) hg2 fun q hq => .inl (hrow q hq).1
  have F3 : Sep.Fr S w (w2.setCell ⟨p, 4, none⟩ (.slice a' (ks.length + 1) c')) := Sep.Fr.setCell F2 _ k.sp _
  have X3 : Sep.Ext (fun q => S q ∨ (Value.slice a' (ks.length + 1) c').ownBlock = some q) S w := by
    rintro q (hq | hq)
    · exact .inl hq
    · rcases (hrow' q hq).1 with e | e
      · exact .inl (hrow q e).1
      · exact .inr e
  -- a block that is not the row's, nor that of the map of numbers
  have hkeep : ∀ q, q < w.heap.size → q ≠ bn → (Value.slice a ks.length c).ownBlock ≠ some q → w2.heap[q]? = w.heap[q]? := fun q hq h1 h2 => by
    rw [hg2.block q (by simp; omega) (fun e => h2 e.symm), Below.heap_alloc _ _ _ (by omega), hg1.block q hq (fun e => h1 (by injection e))]
  have ep : w2.heap[p]? = w.heap[p]? := hkeep p hp (fun e => k.np e.symm) fun e => (hrow p e).2.2.1 rfl
  have cell : ∀ j v, j ≠ 4 → w.cell? ⟨p, j, none⟩ = some v → (w2.setCell ⟨p, 4, none⟩ (.slice a' (ks.length + 1) c')).cell? ⟨p, j, none⟩ = some v := fun j v hj hc => by
    rw [World.cell?_setCell_other _ _ _ _ (fun e => hj (congrArg Addr.off e).symm)]
    exact (World.cell?_of_block (a := ⟨p, j, none⟩) ep).trans hc
  have hbn : bn < w1.heap.size := hm1.lt
  have hl3 : ∀ q, q ≠ p → (w2.setCell ⟨p, 4, none⟩ (.slice a' (ks.length + 1) c')).heap[q]? = w2.heap[q]? := fun q hq => Below.heap_setCell _ _ _ _ hq
  refine ⟨_, ⟨a', c', bt, bn, us ++ [u], ?_⟩, F3, X3⟩
  have hel : (ks ++ [K]).length = ks.length + 1 := by simp
  refine ⟨k.below.trans (F3.below k.low k.below.size), ⟨cell 0 _ (by omega) k.box.x0, cell 1 _ (by omega) k.box.x1, cell 2 _ (by omega) k.box.x2, cell 3 _ (by omega) k.box.x3⟩, ?_, cell 5 _ (by omega) k.targets, cell 6 _ (by omega) k.numbers, ?_, ?_, ?_, ?_, ?_, .inl k.sp, .inl k.st, .inl k.sn, ?_, k.tp, k.np, k.tn, ?_, ?_, ?_⟩
  · rw [hel]
    exact World.cell?_setCell_same _ _ _ ((World.cell?_of_block (a := ⟨p, 4, none⟩) ep).trans k.items)
  · rw [World.frozen?_setCell]
    exact (World.frozen?_of_block (a := ⟨p, 4, none⟩) ep).trans k.free
  · rw [hel]
    refine Sep.ownsRow_at hown2 fun g hg => hl3 g fun e => ?_
    subst e
    rcases (hrow' g hg).1 with q | q
    · exact (hrow g q).2.2.1 rfl
    · omega
  · intro i h1 h2
    have hul := k.len
    have key : LAt S (ks ++ [K])[i] (us ++ [u])[i] w := by
      by_cases hi : i < ks.length
      · rw [List.getElem_append_left hi, List.getElem_append_left (by omega)]
        exact k.lists i hi (by omega)
      · rw [List.getElem_append_right (by omega), List.getElem_append_right (by omega)]
        simpa using hu
    exact key.fr F3 X3
  · refine k.tm.keep ((hl3 bt k.tp).trans (hkeep bt (k.inn _ k.st) k.tn fun e => (hrow bt e).2.2.2.1 rfl))
  · rw [hel]
    have : keysB (ks ++ [K]) = keysB ks ++ [keyB K] := by simp [keysB]
    rw [this]
    refine hm1.keep ((hl3 bn k.np).trans ?_)
    rw [hg2.block bn (by simp; omega) (fun e => (hrow bn e.symm).2.2.2.2 rfl), Below.heap_alloc _ _ _ hbn]
  · rw [hel]
    exact fun g hg => .inr hg
  · rw [hel]
    intro g hg
    rcases (hrow' g hg).1 with q | q
    · exact (hrow g q).2.2
    · have h1 := k.inn _ k.st
      have h2 := k.inn _ k.sn
      exact ⟨by omega, by omega, by omega⟩
  · rintro q (hq | hq)
    · exact k.low q hq
    · exact (hrow' q hq).2.2
  · rintro q (hq | hq)
    · have := k.inn q hq
      rw [show (w2.setCell ⟨p, 4, none⟩ (.slice a' (ks.length + 1) c')).heap.size = w2.heap.size by simp [World.setCell]]
      omega
    · rw [show (w2.setCell ⟨p, 4, none⟩ (.slice a' (ks.length + 1) c')).heap.size = w2.heap.size by simp [World.setCell]]
      exact (hrow' q hq).2.1

end Go.Proofs.Ytjjmoonajijnmaa.Au

namespace Go.Proofs.Ytjjmoonajijnmaa.Au
open Go.RowKit Go.Maps
open Go.Proofs.Ytjjmoonajijnmaa.Gr (Gram Sh gv GAt Box Bx checkN top boxed drawn cell_new cell_old cell_later)
open Go.Proofs.Ytjjmoonajijnmaa.Im
open Go.Proofs.Ytjjmoonajijnmaa.It (isIn num)
set_option linter.unusedVariables false

/-- The states behind: one more, if it was not there. -/
def moreK (ks : List (List Itm)) (K : List Itm) : List (List Itm) := if K ∈ ks then ks else ks ++ [K]
/-- Its number. -/
def numK (ks : List (List Itm)) (K : List Itm) : Nat := (ks ++ [K]).idxOf K

theorem keep_p {W : World} {p : Nat} {S : Nat → Prop} {h : Sh} {G : Gram} {ks : List (List Itm)} {X : Itm → Option Int} {n : Nat} {a : Option Addr} {c bt bn : Nat} {us : List Value} {w1 w2 : World} (k : Parts W p S h G ks X n a c bt bn us w1) (hg : w1.grownBy w2 (some bn)) :
    W.heap.size ≤ w2.heap.size ∧ ∀ (w3 : World) (o : Obj), (w2.alloc o).grownBy w3 (Value.slice a ks.length c).ownBlock → w3.cell? ⟨p, 4, none⟩ = some (.slice a ks.length c) ∧ w3.frozen? ⟨p, 4, none⟩ = false := by
  have h1 := k.below.size
  have h2 := hg.size
  have h3 := k.inn p k.sp
  refine ⟨by omega, fun w3 o hg3 => ?_⟩
  have e : w3.heap[p]? = w1.heap[p]? := by
    rw [hg3.block p (by simp; omega) (fun e => (k.rp p e.symm).1 rfl), Below.heap_alloc _ _ _ (by omega), hg.block p h3 (fun e => k.np (by injection e with e; exact e.symm))]
  exact ⟨(World.cell?_of_block (a := ⟨p, 4, none⟩) e).trans k.items, (World.frozen?_of_block (a := ⟨p, 4, none⟩) e).trans k.free⟩

/-- What number answers, and what is there behind it; the map of targets is the one it was. -/
def Numbered (W : World) (r : Nat) (p : Nat) (S : Nat → Prop) (h : Sh) (G : Gram) (ks : List (List Itm)) (X : Itm → Option Int) (n : Nat) (w : World) (e : Ending) (w' : World) : Prop :=
  e = .returned (.int .i64 (r : Int)) ∧ ∃ T, BAt W p T h G ks X n w' ∧ Sep.Fr S w w' ∧ Sep.Ext T S w ∧ ∀ v, w.cell? ⟨p, 5, none⟩ = some v → w'.cell? ⟨p, 5, none⟩ = some v

set_option maxRecDepth 100000 in
set_option maxHeartbeats 2000000 in
theorem number_any {W : World} {p : Nat} {S : Nat → Prop} {h : Sh} {G : Gram} {ks : List (List Itm)} {X : Itm → Option Int} {n : Nat} (w : World) (k : BAt W p S h G ks X n w) (K : List Itm) (a : Option Addr) (c : Nat) (hK : LAt S K (.slice a K.length c) w)
    (hf : Fit3 K) (hs : ∀ x ∈ ks, Fit3 x) (hn : ks.Nodup) (hl : ks.length ≤ 1000000) (hL : K.length ≤ 1000000) :
    Calls Try.prog 25 #[.pointer (some ⟨p, 0, none⟩), .slice a K.length c] w (Numbered W (numK ks K) p S h G (moreK ks K) X n w) := by
  obtain ⟨a0, c0, bt, bn, us, k⟩ := k
  have KE := Lib.hid (key_any K a c w (by obtain ⟨_, _, e, _, h3, _⟩ := hK; simp only [Value.slice.injEq] at e; rw [e.1]; exact h3) hf hL)
  have hsz : (keyB K).size ≤ maxLen := by rw [keyB_size]; unfold maxLen; omega
  by_cases hin : K ∈ ks
  · have hi := (key_in hs hf).2 hin
    have e1 : moreK ks K = ks := if_pos hin
    have e2 : numK ks K = num (keysB ks) (keyB K) := by
      unfold numK
      rw [List.idxOf_append, if_pos hin, key_num hs hf hn hin]
    rw [e1, e2]
    have k0 := Lib.hid k
    clear hK k hf hs hn hl hL hin e1 e2
    go_enter Try.func25, Try.ntmps25
    go_wp2_with (first
      | (go_at_call 39; refine KE.out.mono ?_; rintro e w1 ⟨rfl, hb⟩; have k1 := Lib.hid (k0.out.went hb); have HB := Lib.hid hb; have q1 := k1.out.items; have q2 := k1.out.numbers; clear hb)
      | (at_lookup; refine wpList_smap_ok _ rfl _ _ rfl lawS Try.underlying9 Try.underlying59 Try.underlying3 (zeroA _) bn ks.length (keysB ks) rfl k1.out.sm (keyB K) rfl hsz ?_))
    go_ret
    exact ⟨rfl, S, ⟨a0, c0, bt, bn, us, k1.out⟩, .of_below HB.out, .refl _ _, fun v hv => cell_later HB.out hv⟩
  · have hi : isIn (keysB ks) (keyB K) = false := by
      cases e : isIn (keysB ks) (keyB K) with
      | false => rfl
      | true => exact absurd ((key_in hs hf).1 e) hin
    have e1 : moreK ks K = ks ++ [K] := if_neg hin
    have e2 : numK ks K = ks.length := by
      unfold numK
      rw [List.idxOf_append, if_neg hin]
      simp
    rw [e1, e2]
    have hkl : (keysB ks).length = ks.length := by simp [keysB]
    obtain ⟨i0, hj, hz0, hz1, hz2⟩ := info_parts info_row
    have k0 := Lib.hid k
    have U0 := Lib.hid hK
    clear hK k hf hs hn hin e1 e2
    go_enter Try.func25, Try.ntmps25
    go_wp2_with (first
      | (go_at_call 39; refine KE.out.mono ?_; rintro e w1 ⟨rfl, hb⟩; have k1 := Lib.hid (k0.out.went hb); have U1 := Lib.hid (U0.out.went hb); have HB := Lib.hid hb; have q1 := k1.out.items; have q2 := k1.out.numbers; clear hb)
      | (at_lookup; refine wpList_smap_ok _ rfl _ _ rfl lawS Try.underlying9 Try.underlying59 Try.underlying3 (zeroA _) bn ks.length (keysB ks) rfl k1.out.sm (keyB K) rfl hsz ?_)
      | (at_mapUpdate; refine wpList_smap_put _ rfl _ _ _ rfl lawS Try.underlying9 Try.underlying59 Try.underlying3 bn ks.length (keysB ks) rfl k1.out.sm (by unfold maxLen; omega) (keyB K) rfl hsz hi _ rfl (by rw [hkl]) (by omega) ?_; intro w2 hm2 hg2; have M2 := Lib.hid hm2; have G2 := Lib.hid hg2; have ep := hg2.block p (k1.out.inn p k1.out.sp) (fun e => k1.out.np (by injection e with e; exact e.symm)); have q3 := (World.cell?_of_block (a := ⟨p, 4, none⟩) ep).trans k1.out.items; have f3 := (World.frozen?_of_block (a := ⟨p, 4, none⟩) ep).trans k1.out.free; have R3 := Lib.hid (k1.out.row.kept hg2 (row_off k1.out)); have hw2 := (keep_p k1.out hg2).1; have KP := Lib.hid (keep_p k1.out hg2).2; clear hm2 hg2 ep)
      | (at_builtin; refine wpList_append_own_at _ rfl _ _ 60 rfl W.heap.size 23 i0 (.slice none 0 0) 1 24 Try.underlying60 hj hz0 hz1 hz2 rfl (by decide) _ _ _ rfl (R3.out.alloc _) ⟨w2.heap.size, 0, none⟩ 1 1 [.slice a K.length c] rfl rfl (cell_one_new _ _ _) (by simp [Value.oneCell']) (by unfold maxLen; omega) (by omega) (by simp; omega) ?_; intro v' w3 hown3 hg3 _ hloc; obtain ⟨q5, f5⟩ := KP.out _ _ hg3; obtain ⟨a', c', rfl⟩ := Sep.ownsRow_shape hown3; have O3 := Lib.hid hown3; have G3 := Lib.hid hg3; have HL := Lib.hid hloc; clear hown3 hg3 hloc))
    go_ret
    obtain ⟨T, t1, t2, t3⟩ := added k1.out U1.out M2.out G2.out O3.out G3.out HL.out
    refine ⟨rfl, T, t1, (Sep.Fr.of_below HB.out).trans t2 (.refl _ _), t3.at HB.out.size, fun v hv => ?_⟩
    rw [World.cell?_setCell_other _ _ _ _ (fun q => by have := congrArg Addr.off q; simp at this)]
    have hp1 := k1.out.inn p k1.out.sp
    have h2 := G2.out.size
    have e : w3.heap[p]? = w1.heap[p]? := by
      rw [G3.out.block p (by simp; omega) (fun e => (k1.out.rp p e.symm).1 rfl), Below.heap_alloc _ _ _ (by omega), G2.out.block p hp1 (fun e => k1.out.np (by injection e with e; exact e.symm))]
    exact (World.cell?_of_block (a := ⟨p, 5, none⟩) e).trans (cell_later HB.out hv)

end Go.Proofs.Ytjjmoonajijnmaa.Au
