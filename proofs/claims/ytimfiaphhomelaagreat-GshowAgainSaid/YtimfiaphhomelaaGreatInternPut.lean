/-
  Package intern: add and Put: what becomes of the collection.
-/
import Derived.Test.YtimfiaphhomelaaGreatInternMore
import Derived.Deep.QuietTactic
import Derived.BigQuiet
namespace Go.Proofs.YtimfiaphhomelaaGreat.It
open Go.RowKit Go.Maps

/-- What a call that writes the collection at p answers, and what is there behind it. -/
def Wrote (r : Value) (p : Nat) (S : Nat → Prop) (n : Nat) (L : List ByteArray) (w : World) (e : Ending) (w' : World) : Prop :=
  e = .returned r ∧ ∃ T, NmAt p T n L w' ∧ Sep.Fr S w w' ∧ Sep.Ext T S w

theorem good_len {L : List ByteArray} {s : ByteArray} (h : okLen s = true) (_ : Good L) : s.size ≤ maxLen := by
  simp only [okLen, Bool.and_eq_true, decide_eq_true_eq] at h
  unfold maxLen
  omega

theorem key_lit {s : ByteArray} (h : s.size ≤ maxLen) : WideAt.IsKeyLit (.string s.data.toList) := law.key (key_of h)

/-- The end of add. -/
theorem added {p : Nat} {S : Nat → Prop} {n : Nat} {L : List ByteArray} {a a' : Option Addr} {c c' bm : Nat} {D : DataW Unit} {w w1 w2 : World} {s : ByteArray} (h : Parts p S n L a c bm D w) (hl : L.length < n)
    (hs : okLen s = true) (hn : isIn L s = false)
    (hown1 : w1.ownsMap Tryz.prog 9 ReadI bm (L.length + 1) (D.put (.string s.data.toList) (.lit (.int .i64 L.length)))) (hg1 : w.grownBy w1 (some bm))
    (hown2 : w2.ownsRow (p + 1) 9 1 (.slice a' (L.length + 1) c') (L.length + 1) (L.map .string ++ [.string s]))
    (hg2 : (w1.alloc (.cells #[.string s] 9)).grownBy w2 (Value.slice a L.length c).ownBlock)
    (hloc : (Value.slice a' (L.length + 1) c').ownBlock = (Value.slice a L.length c).ownBlock ∨ (Value.slice a' (L.length + 1) c').ownBlock = some (w1.alloc (.cells #[.string s] 9)).heap.size) :
    Wrote (.int .i64 L.length) p S n (L ++ [s]) w (.returned (.int .i64 L.length)) (w2.setCell ⟨p, 1, none⟩ (.slice a' (L.length + 1) c')) := by
  have hp : p < w.heap.size := h.inn p h.sp
  have hpm : some p ≠ some bm := fun e => by have := h.lt; injection e with e; omega
  have hrow : ∀ g, (Value.slice a L.length c).ownBlock = some g → p < g ∧ S g ∧ g < w.heap.size := fun g hg => ⟨by have := (h.row.lt g hg).1; omega, h.sr g hg, (h.row.lt g hg).2⟩
  have hrow' : ∀ g, (Value.slice a' (L.length + 1) c').ownBlock = some g → p < g ∧ g < w2.heap.size := fun g hg => ⟨by have := (hown2.lt g hg).1; omega, (hown2.lt g hg).2⟩
  have hsz1 : w.heap.size ≤ w1.heap.size := hg1.size
  have hsz2 : w1.heap.size + 1 ≤ w2.heap.size := by have := hg2.size; simpa using this
  have hneR : ∀ k, k ≤ p → some k ≠ (Value.slice a L.length c).ownBlock := fun k hk e => by have := (hrow k e.symm).1; omega
  have hb2 : ∀ k, k < w.heap.size → k ≠ bm → some k ≠ (Value.slice a L.length c).ownBlock → w2.heap[k]? = w.heap[k]? := fun k hk h1 h2 => by
    rw [hg2.block k (by simp; omega) h2, Below.heap_alloc _ _ _ (by omega), hg1.block k hk (fun e => h1 (by injection e))]
  have hmap2 : w2.ownsMap Tryz.prog 9 ReadI bm (L.length + 1) (D.put (.string s.data.toList) (.lit (.int .i64 L.length))) := by
    refine Sep.ownsMap_at (hown1.alloc (.cells #[.string s] 9)) ?_
    have h1 := h.lt
    exact hg2.block bm (by simp; omega) (hneR bm (by omega))
  have ep : w2.heap[p]? = w.heap[p]? := hb2 p hp (fun e => hpm (by rw [e])) (hneR p (Nat.le_refl _))
  refine ⟨rfl, fun k => S k ∨ (Value.slice a' (L.length + 1) c').ownBlock = some k, ⟨a', c', bm, D.put (.string s.data.toList) (.lit (.int .i64 L.length)), ?_⟩, ?_, ?_⟩
  · refine ⟨?_, ?_, ?_, ?_, ?_, ?_, mapIs_put h.map.isMap (key_lit (good_len hs h.good)) h.is hn, h.lt, .inl h.sp, .inl h.sm, fun g hg => .inr (by rw [← hg]; simp [Value.ownBlock]), ?_, h.good.snoc hs hn, by simp; omega, h.top⟩
    · rw [World.cell?_setCell_other _ _ _ _ (by intro e; simp at e)]
      exact (World.cell?_of_block (a := ⟨p, 0, none⟩) ep).trans h.most
    · rw [show (L ++ [s]).length = L.length + 1 by simp]
      exact World.cell?_setCell_same _ _ _ ((World.cell?_of_block (a := ⟨p, 1, none⟩) ep).trans h.texts)
    · rw [World.cell?_setCell_other _ _ _ _ (by intro e; simp at e)]
      exact (World.cell?_of_block (a := ⟨p, 2, none⟩) ep).trans h.numbers
    · rw [World.frozen?_setCell]
      exact (World.frozen?_of_block (a := ⟨p, 1, none⟩) ep).trans h.free
    · rw [show (L ++ [s]).length = L.length + 1 by simp, List.map_append]
      refine Sep.ownsRow_at hown2 fun g hg => ?_
      exact Below.heap_setCell _ _ _ _ (by have := (hrow' g hg).1; simp; omega)
    · rw [show (L ++ [s]).length = L.length + 1 by simp]
      exact hmap2.setCell (by have := h.lt; simp; omega) _
    · rintro k (hk | hk)
      · have := h.inn k hk
        simp [World.setCell]
        omega
      · have := (hrow' k hk).2
        simpa [World.setCell] using this
  · refine Sep.Fr.setCell ?_ _ h.sp _
    refine Sep.Fr.grown (w := w1.alloc (.cells #[.string s] 9)) (Sep.Fr.alloc (Sep.Fr.grown (.refl _ _) hg1 fun k hk => ?_) _) hg2 fun k hk => .inl (hrow k hk).2.1
    injection hk with hk
    subst hk
    exact .inl h.sm
  · rintro k (hk | hk)
    · exact .inl hk
    · rcases hloc with e | e
      · exact .inl (hrow k (e.symm.trans hk)).2.1
      · have e2 := e.symm.trans hk
        injection e2 with e2
        simp at e2
        exact .inr (by omega)

set_option maxHeartbeats 1000000 in
theorem add_any {p : Nat} {S : Nat → Prop} {n : Nat} {L : List ByteArray} (w : World) (h : NmAt p S n L w) (s : ByteArray) (hl : L.length < n) (hs : okLen s = true) (hn : isIn L s = false) :
    Calls Tryz.prog 123 #[.pointer (some ⟨p, 0, none⟩), .string s] w (Wrote (.int .i64 L.length) p S n (L ++ [s]) w) := by
  obtain ⟨a, c, bm, D, h⟩ := h
  obtain ⟨i0, hi, hz0, hz1, hz2⟩ := info_parts info_string
  have HA := Lib.hid (fun (a' : Option Addr) (c' : Nat) (w1 w2 : World) => added (a' := a') (c' := c') (w1 := w1) (w2 := w2) h hl hs hn)
  have hlen : L.length < 4096 := by have := h.top; omega
  have HS := Lib.hid (good_len hs h.good)
  have HM := Lib.hid h.map
  have HR := Lib.hid h.row
  have HG := Lib.hid (show ∀ w1 : World, w.grownBy w1 (some bm) → w1.cell? ⟨p, 1, none⟩ = some (.slice a L.length c) ∧ w1.frozen? ⟨p, 1, none⟩ = false ∧ w1.ownsRow (p + 1) 9 1 (.slice a L.length c) L.length (L.map .string) ∧ p < w1.heap.size from fun w1 hg => by
    have h1 := h.lt
    have hp : p < w.heap.size := h.inn p h.sp
    have e := hg.block p hp (fun e => by injection e; omega)
    refine ⟨(World.cell?_of_block (a := ⟨p, 1, none⟩) e).trans h.texts, (World.frozen?_of_block (a := ⟨p, 1, none⟩) e).trans h.free, h.row.kept hg ?_, by have := hg.size; omega⟩
    cases hb : (Value.slice a L.length c).ownBlock with
    | none => exact .inl rfl
    | some g =>
      refine .inr fun e => ?_
      injection e with e
      have := (h.row.lt g hb).1
      omega)
  have HP := Lib.hid (show ∀ w1 w2 : World, p < w1.heap.size → w1.cell? ⟨p, 1, none⟩ = some (.slice a L.length c) → w1.frozen? ⟨p, 1, none⟩ = false → (w1.alloc (.cells #[.string s] 9)).grownBy w2 (Value.slice a L.length c).ownBlock →
      w2.cell? ⟨p, 1, none⟩ = some (.slice a L.length c) ∧ w2.frozen? ⟨p, 1, none⟩ = false from fun w1 w2 h0 h1 h2 hg => by
    have e : w2.heap[p]? = w1.heap[p]? := (hg.block p (by simp; omega) (fun e => by have := (h.row.lt p e.symm).1; omega)).trans (Below.heap_alloc _ _ _ h0)
    exact ⟨(World.cell?_of_block (a := ⟨p, 1, none⟩) e).trans h1, (World.frozen?_of_block (a := ⟨p, 1, none⟩) e).trans h2⟩)
  have c1 := h.texts
  have c2 := h.numbers
  clear h hl hn hs
  go_enter Tryz.func123, Tryz.ntmps123
  go_wp2_with (first
    | (at_mapUpdate; refine wpList_mapUpdate_own _ rfl _ _ _ 108 rfl 9 3 law Tryz.underlying108 ReadI bm L.length D rfl HM.out (by unfold maxLen; omega) _ _ _ rfl rfl (key_of HS.out) _ [] (plainElem_int Tryz.underlying3 (WalkArith.wf_i64 (by omega))) ?_; intro w1 hown1 hg1; obtain ⟨k1, f1, r1, p1⟩ := HG.out w1 hg1; have HO1 := Lib.hid hown1; have HG1 := Lib.hid hg1; have HR1 := Lib.hid r1; have HK1 := Lib.hid (HP.out w1 · p1 k1 f1); clear hown1 hg1 r1)
    | (at_builtin; refine wpList_append_own_at _ rfl _ _ 22 rfl (p + 1) 9 i0 (.string ByteArray.empty) 1 16 Tryz.underlying22 hi hz0 hz1 hz2 rfl (by decide) _ _ _ rfl (HR1.out.alloc _) ⟨w1.heap.size, 0, none⟩ 1 1 [.string s] rfl rfl (cell_one_new _ _ _) (by simp [Value.oneCell']) (by unfold maxLen; omega) (by omega) (by simp; omega) ?_; intro v' w2 hown2 hg2 _ hloc; obtain ⟨a', c', rfl⟩ := Sep.ownsRow_shape hown2; obtain ⟨k2, f2⟩ := HK1.out w2 hg2; have HO2 := Lib.hid hown2; have HG2 := Lib.hid hg2; have HL := Lib.hid hloc; clear hown2 hg2 hloc))
  go_ret
  exact HA.out _ _ _ _ HO1.out HG1.out HO2.out HG2.out HL.out

set_option maxHeartbeats 1000000 in
theorem put_nil (s : ByteArray) (w : World) : Calls Tryz.prog 110 #[.pointer none, .string s] w fun e w' => e = .returned (.tuple #[.int .i64 0, .int .i64 13]) ∧ w = w' := by
  go_enter Tryz.func110, Tryz.ntmps110
  go_wp2
  go_ret2
  exact ⟨rfl, rfl⟩

theorem empty_of {s : ByteArray} (h : s.size = 0) : s = ByteArray.empty := by
  cases s
  rename_i d
  have : d = #[] := Array.eq_empty_of_size_eq_zero h
  subst this
  rfl

theorem not_empty {s : ByteArray} (h : ¬ s.size = 0) : s.toList.isEmpty = false ∧ ¬ s.toList = [] := by
  have e : s.toList ≠ [] := fun e => h (by
    rw [ByteArray.toList_eq] at e
    have := congrArg List.length e
    rwa [Array.length_toList, List.length_nil] at this)
  exact ⟨List.isEmpty_eq_false_iff.2 e, e⟩

theorem wrote_same {r : Value} {p : Nat} {S : Nat → Prop} {n : Nat} {L : List ByteArray} {w : World} (h : NmAt p S n L w) (m : Nat) : Wrote r p S n L w (.returned r) (w.drewN m) :=
  ⟨rfl, S, h.keep (Nat.le_refl _) fun _ _ _ => rfl, (Sep.Fr.refl _ _).drewN m, .refl _ _⟩

set_option maxHeartbeats 1000000 in
theorem put_any {p : Nat} {S : Nat → Prop} {n : Nat} {L : List ByteArray} (w : World) (h : NmAt p S n L w) (s : ByteArray) (hm : s.size ≤ maxLen) :
    Calls Tryz.prog 110 #[.pointer (some ⟨p, 0, none⟩), .string s] w (Wrote (.tuple #[.int .i64 (putN n L s), .int .i64 (putE n L s)]) p S n (putL n L s) w) := by
  by_cases h0 : s.size = 0
  · have e1 : putN n L s = 0 := by simp [putN, okLen, h0]
    have e2 : putE n L s = 5 := by simp [putE, okLen, h0]
    have e3 : putL n L s = L := by simp [putL, okLen, h0]
    rw [e1, e2, e3]
    have HE := Lib.hid (wrote_same (r := .tuple #[.int .i64 (0 : Nat), .int .i64 (5 : Nat)]) h 0)
    obtain rfl := empty_of h0
    clear h h0 e1 e2 e3
    go_enter Tryz.func110, Tryz.ntmps110
    go_wp2
    go_ret2
    exact HE.out
  · obtain ⟨hne, hnl⟩ := not_empty h0
    by_cases h1 : 24 < s.size
    · have hok : okLen s = false := by
        unfold okLen
        rw [decide_eq_false (p := s.size ≤ 24) (by omega), Bool.and_false]
      have e1 : putN n L s = 0 := by simp [putN, hok]
      have e2 : putE n L s = 5 := by simp [putE, hok]
      have e3 : putL n L s = L := by simp [putL, hok]
      rw [e1, e2, e3]
      have HE := Lib.hid (wrote_same (r := .tuple #[.int .i64 (0 : Nat), .int .i64 (5 : Nat)]) h 0)
      clear h h0 e1 e2 e3 hok
      go_enter Tryz.func110, Tryz.ntmps110
      go_wp2
      go_ret2
      exact HE.out
    · have hok : okLen s = true := by simp only [okLen, Bool.and_eq_true, decide_eq_true_eq]; omega
      cases hi : isIn L s with
      | true =>
        have e1 : putN n L s = num L s := by simp [putN, hok, hi]
        have e2 : putE n L s = 0 := by simp [putE, hok, hi]
        have e3 : putL n L s = L := by simp [putL, hok, hi]
        rw [e1, e2, e3]
        have HE := Lib.hid (wrote_same (r := .tuple #[.int .i64 (num L s), .int .i64 (0 : Nat)]) h 0)
        have HS := Lib.hid hm
        obtain ⟨a, c, bm, D, h⟩ := h
        have c2 := h.numbers
        have H := Lib.hid h
        clear h h0 e1 e2 e3 hm hok
        go_enter Tryz.func110, Tryz.ntmps110
        go_wp2_with (at_lookup; refine wpList_look _ rfl _ _ rfl H.out rfl s HS.out rfl ?_)
        go_ret2
        exact HE.out
      | false =>
        have hlen := h.good.2
        by_cases hf : n ≤ L.length
        · have e1 : putN n L s = 0 := by simp [putN, hok, hi, hf]
          have e2 : putE n L s = 14 := by simp [putE, hok, hi, hf]
          have e3 : putL n L s = L := by simp [putL, hok, hi, hf]
          rw [e1, e2, e3]
          have HE := Lib.hid (fun m => wrote_same (r := .tuple #[.int .i64 (0 : Nat), .int .i64 (14 : Nat)]) h m)
          have HS := Lib.hid hm
          obtain ⟨a, c, bm, D, h⟩ := h
          have c0 := h.most
          have c1 := h.texts
          have c2 := h.numbers
          have H := Lib.hid h
          clear h h0 e1 e2 e3 hm hok
          go_enter Tryz.func110, Tryz.ntmps110
          go_wp2_with (at_lookup; refine wpList_look _ rfl _ _ rfl H.out rfl s HS.out rfl ?_)
          go_quiet (fail)
          go_wp2
          go_ret2
          exact HE.out _
        · have e1 : putN n L s = L.length := by simp [putN, hok, hi, hf]
          have e2 : putE n L s = 0 := by simp [putE, hok, hi, hf]
          have e3 : putL n L s = L ++ [s] := by simp [putL, hok, hi, hf]
          rw [e1, e2, e3]
          have HS := Lib.hid hm
          have HA := Lib.hid (fun w' (hw : NmAt p S n L w') => add_any w' hw s (by omega) hok hi)
          have HN := Lib.hid (fun m => (show NmAt p S n L (w.drewN m) from h.keep (Nat.le_refl _) fun _ _ _ => rfl))
          obtain ⟨a, c, bm, D, h⟩ := h
          have c0 := h.most
          have c1 := h.texts
          have c2 := h.numbers
          have H := Lib.hid h
          clear h h0 e1 e2 e3 hm hok
          go_enter Tryz.func110, Tryz.ntmps110
          go_wp2_with (at_lookup; refine wpList_look _ rfl _ _ rfl H.out rfl s HS.out rfl ?_)
          go_quiet (fail)
          go_wp2_with (go_at_call 123; refine (HA.out _ (HN.out _)).mono ?_; rintro e w' ⟨rfl, T, hT, hF, hX⟩; have HT := Lib.hid hT; have HF := Lib.hid hF; have HX := Lib.hid hX; clear hT hF hX)
          go_ret2
          exact ⟨rfl, T, HT.out, (Sep.Fr.drewN (.refl _ _) _).trans HF.out (.refl _ _), HX.out⟩

end Go.Proofs.YtimfiaphhomelaaGreat.It
