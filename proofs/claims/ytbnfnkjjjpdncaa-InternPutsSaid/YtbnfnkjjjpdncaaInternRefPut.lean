/-
  The document's plain names: New, Put.
-/
import Derived.Test.YtbnfnkjjjpdncaaInternRef
namespace Go.Proofs.Ytbnfnkjjjpdncaa.It
open Go.RowKit Go.Maps

/-- The plain names at p. -/
structure RParts (p : Nat) (T : Nat → Prop) (n : Nat) (L : List ByteArray) (a : Option Addr) (c : Nat) (w : World) : Prop where
  texts : w.cell? ⟨p, 0, none⟩ = some (.slice a L.length c)
  most : w.cell? ⟨p, 1, none⟩ = some (.int .i64 n)
  free : w.frozen? ⟨p, 0, none⟩ = false
  row : w.ownsRow (p + 1) 9 1 (.slice a L.length c) L.length (L.map .string)
  sp : T p
  sr : ∀ g, (Value.slice a L.length c).ownBlock = some g → T g
  inn : Sep.Inn T w
  full : L.length ≤ n
  top : n ≤ 4096

def RNmAt (p : Nat) (T : Nat → Prop) (n : Nat) (L : List ByteArray) (w : World) : Prop := ∃ a c, RParts p T n L a c w

theorem RParts.keep {p : Nat} {T : Nat → Prop} {n : Nat} {L : List ByteArray} {a : Option Addr} {c : Nat} {w w' : World} (h : RParts p T n L a c w)
    (hs : w.heap.size ≤ w'.heap.size) (hb : ∀ k, k < w.heap.size → T k → w'.heap[k]? = w.heap[k]?) : RParts p T n L a c w' :=
  have e (k : Nat) (hk : T k) := hb k (h.inn k hk) hk
  ⟨(World.cell?_of_block (a := ⟨p, 0, none⟩) (e p h.sp)).trans h.texts, (World.cell?_of_block (a := ⟨p, 1, none⟩) (e p h.sp)).trans h.most,
    (World.frozen?_of_block (a := ⟨p, 0, none⟩) (e p h.sp)).trans h.free, Sep.ownsRow_at h.row (fun g hg => e g (h.sr g hg)), h.sp, h.sr, h.inn.le hs, h.full, h.top⟩

theorem RNmAt.inn {p : Nat} {T : Nat → Prop} {n : Nat} {L : List ByteArray} {w : World} (h : RNmAt p T n L w) : Sep.Inn T w := by
  obtain ⟨a, c, h⟩ := h
  exact h.inn
theorem RNmAt.keep {p : Nat} {T : Nat → Prop} {n : Nat} {L : List ByteArray} {w w' : World} (h : RNmAt p T n L w) (hs : w.heap.size ≤ w'.heap.size) (hb : ∀ k, k < w.heap.size → T k → w'.heap[k]? = w.heap[k]?) : RNmAt p T n L w' := by
  obtain ⟨a, c, h⟩ := h
  exact ⟨a, c, h.keep hs hb⟩
theorem RNmAt.off {p : Nat} {T S : Nat → Prop} {n : Nat} {L : List ByteArray} {w w' : World} (h : RNmAt p T n L w) (k : Sep.Fr S w w') (ho : Sep.Off T S) : RNmAt p T n L w' :=
  h.keep k.size fun i hi hS => k.block i hi (ho i hS)
theorem RNmAt.went {p : Nat} {T : Nat → Prop} {n : Nat} {L : List ByteArray} {w w' : World} (h : RNmAt p T n L w) (k : Below w.heap.size w w') : RNmAt p T n L w' :=
  h.keep k.size fun i hi _ => k.block i hi

def RMade (n : Nat) (w : World) (e : Ending) (w' : World) : Prop :=
  ∃ p T, e = .returned (.pointer (some ⟨p, 0, none⟩)) ∧ (∀ k, T k → w.heap.size ≤ k) ∧ RNmAt p T n [] w' ∧ Below w.heap.size w w'

theorem rmade (n : Nat) (hn : n ≤ 4096) (w : World) (w1 : World) (hw : w1 = w.alloc (.cells #[.slice none 0 0, .int .i64 n] 33)) :
    RMade n w (.returned (.pointer (some ⟨w.heap.size, 0, none⟩))) w1 := by
  subst hw
  refine ⟨w.heap.size, fun k => k = w.heap.size, rfl, fun k hk => by omega, ⟨none, 0, ?_⟩, (Below.refl _ _).alloc (Nat.le_refl _) _⟩
  exact ⟨by simp, by simp, by simp, World.ownsRow_nil _ _ _ _, rfl, by simp [Value.ownBlock], fun k hk => by simp; omega, Nat.zero_le _, hn⟩

set_option maxHeartbeats 1000000 in
theorem rnew_any (n : Int) (w : World) :
    Calls Try.prog 8 #[.int .i64 n] w (RMade (cap n) w) := by
  have hc := cap_le n
  by_cases hneg : n < 0
  · have HI := Lib.hid (show (cap n : Int) = 0 by unfold cap; omega)
    have HM := Lib.hid (rmade (cap n) hc w)
    generalize cap n = c at *
    clear hc
    go_enter Try.func8, Try.ntmps8
    go_wp2
    go_ret
    exact HM.out _ (by rw [HI.out])
  · by_cases hbig : 4096 < n
    · have HI := Lib.hid (show (cap n : Int) = 4096 by unfold cap; omega)
      have HM := Lib.hid (rmade (cap n) hc w)
      generalize cap n = c at *
      clear hc
      go_enter Try.func8, Try.ntmps8
      go_wp2
      go_ret
      exact HM.out _ (by rw [HI.out])
    · have HI := Lib.hid (show (cap n : Int) = n by unfold cap; omega)
      have HM := Lib.hid (rmade (cap n) hc w)
      generalize cap n = c at *
      clear hc
      go_enter Try.func8, Try.ntmps8
      go_wp2
      go_ret
      exact HM.out _ (by rw [HI.out])

/-- append of nothing to an empty slice. -/
theorem wpList_append_nothing (w : World) {ops : Array Oper} {rest : List Oper} {o : Oper} {a : Act} {Q : Exit → Act → World → Prop} (hgd : o.guard = none) (s x : Operand)
    (ho : o.op = .call { callee := .builtin .append, args := #[s, x], argTypes := #[22, 22] }) (g c : Nat) (hs : a.eval s = .slice (some ⟨g, 0, none⟩) 0 0) (hx : a.eval x = .slice none 0 c)
    (h : wpList Try.prog ops Q rest (a.put o.dst (.slice (some ⟨g, 0, none⟩) 0 0)) w) : wpList Try.prog ops Q (o :: rest) a w := by
  obtain ⟨i0, hi, hz0, hz1, hz2⟩ := info_parts info_string
  have hr : (Builtin.append_ #[22, 22] o.type #[.slice (some ⟨g, 0, none⟩) 0 0, .slice none 0 c]).run Try.prog w = .ok (.slice (some ⟨g, 0, none⟩) 0 0) w := by
    simp [Builtin.append_, run_underlying Try.underlying22, sizeOf, typeInfo, hi, Builtin.lenOf, Builtin.firstCells, loadCells, loadCellsFrom, storeCells]
  refine wpList_plain hgd fun K hK => ?_
  unfold Oper.wp execOp
  simp only [ho, resolve, invoke, builtin, Sem.run_bind, Sem.run_pure, Result.andThen_ok, List.map_toArray, List.map_cons, List.map_nil, hs, hx, hr]
  exact hK _ _ h

/-- The document's list behind Put, and that nothing but the plain names is written. -/
def RWrote (r : Value) (p : Nat) (T : Nat → Prop) (n : Nat) (L : List ByteArray) (w : World) (e : Ending) (w' : World) : Prop :=
  e = .returned r ∧ ∃ U, RNmAt p U n L w' ∧ Sep.Fr T w w' ∧ Sep.Ext U T w

theorem rwrote_same {r : Value} {p : Nat} {T : Nat → Prop} {n : Nat} {L : List ByteArray} {w : World} (h : RNmAt p T n L w) (m : Nat) : RWrote r p T n L w (.returned r) (w.drewN m) :=
  ⟨rfl, T, h.keep (Nat.le_refl _) fun _ _ _ => rfl, (Sep.Fr.refl _ _).drewN m, .refl _ _⟩

theorem ownsRow_base {w : World} {b b' size n : Nat} {e : TypeId} {v : Value} {xs : List Value} (h : w.ownsRow b e size v n xs) (hb : b' ≤ b) : w.ownsRow b' e size v n xs := by
  obtain ⟨h1, h2⟩ := h
  refine ⟨h1, h2.imp id ?_⟩
  rintro ⟨g, cap, cur, rfl, hg, r⟩
  exact ⟨g, cap, cur, rfl, by omega, r⟩

/-- The end of Put that adds. -/
theorem radded {p : Nat} {T : Nat → Prop} {n : Nat} {L : List ByteArray} {a a2 : Option Addr} {c c2 : Nat} {w w2 : World} {s : ByteArray} (h : RParts p T n L a c w) (hl : L.length < n)
    (hown2 : w2.ownsRow w.heap.size 9 1 (.slice a2 (L.length + 1) c2) (L.length + 1) (L.map .string ++ [.string s])) (hB : Below w.heap.size w w2) (r : Value) :
    RWrote r p T n (L ++ [s]) w (.returned r) (w2.setCell ⟨p, 0, none⟩ (.slice a2 (L.length + 1) c2)) := by
  have hp : p < w.heap.size := h.inn p h.sp
  have ep : w2.heap[p]? = w.heap[p]? := hB.block p hp
  refine ⟨rfl, fun k => T k ∨ (Value.slice a2 (L.length + 1) c2).ownBlock = some k, ⟨a2, c2, ?_⟩, ?_, ?_⟩
  · refine ⟨?_, ?_, ?_, ?_, .inl h.sp, fun g hg => .inr (by rw [← hg]; simp [Value.ownBlock]), ?_, by simp; omega, h.top⟩
    · rw [show (L ++ [s]).length = L.length + 1 by simp]
      exact World.cell?_setCell_same _ _ _ ((World.cell?_of_block (a := ⟨p, 0, none⟩) ep).trans h.texts)
    · rw [World.cell?_setCell_other _ _ _ _ (by intro e; simp at e)]
      exact (World.cell?_of_block (a := ⟨p, 1, none⟩) ep).trans h.most
    · rw [World.frozen?_setCell]
      exact (World.frozen?_of_block (a := ⟨p, 0, none⟩) ep).trans h.free
    · rw [show (L ++ [s]).length = L.length + 1 by simp, List.map_append]
      refine Sep.ownsRow_at (ownsRow_base hown2 (by omega)) fun g hg => ?_
      exact Below.heap_setCell _ _ _ _ (by have := (hown2.lt g hg).1; simp; omega)
    · rintro k (hk | hk)
      · have := h.inn k hk
        have := hB.size
        simp [World.setCell]
        omega
      · have := (hown2.lt k hk).2
        simpa [World.setCell] using this
  · exact (Sep.Fr.of_below hB).setCell _ h.sp _
  · rintro k (hk | hk)
    · exact .inl hk
    · exact .inr (hown2.lt k hk).1

/-- The second append's end. -/
theorem grew {L : List ByteArray} {v1 v2 : Value} {w w1 w2 : World} {s : ByteArray} (h1 : w1.ownsRow w.heap.size 9 1 v1 L.length (L.map .string)) (hB : Below w.heap.size w w1)
    (hg : (w1.alloc (.cells #[.string s] 9)).grownBy w2 v1.ownBlock) (_ : w2.ownsRow w.heap.size 9 1 v2 (L.length + 1) (L.map .string ++ [.string s])) : Below w.heap.size w w2 :=
  (hB.alloc hB.size _).grown hg (by have := hB.size; simp; omega) fun k hk => (h1.lt k hk).1

/-- What the walk wants of the plain names behind the tests. -/
theorem rput_facts {p : Nat} {T : Nat → Prop} {n : Nat} {L : List ByteArray} {a : Option Addr} {c : Nat} {w : World} {s : ByteArray} (h : RParts p T n L a c w) (hf : L.length < n) :
    (∀ (a2 : Option Addr) (c2 : Nat) (w2 : World), w2.ownsRow w.heap.size 9 1 (.slice a2 (L.length + 1) c2) (L.length + 1) (L.map .string ++ [.string s]) → Below w.heap.size w w2 →
      RWrote (.tuple #[.int .i64 L.length, .int .i64 0]) p T n (L ++ [s]) w (.returned (.tuple #[.int .i64 L.length, .int .i64 0])) (w2.setCell ⟨p, 0, none⟩ (.slice a2 (L.length + 1) c2))) ∧
    (w.alloc (.cells #[] 9)).ownsRow w.heap.size 9 1 (.slice (some ⟨w.heap.size, 0, none⟩) 0 0) 0 [] ∧
    Below w.heap.size w (w.alloc (.cells #[] 9)) ∧
    (∀ w2 : World, Below w.heap.size w w2 → w2.cell? ⟨p, 0, none⟩ = some (.slice a L.length c) ∧ w2.frozen? ⟨p, 0, none⟩ = false) :=
  ⟨fun _ _ _ h1 h2 => radded (s := s) h hf h1 h2 _, World.ownsRow_made w #[] 0 (Nat.le_refl _) (by simp) (by simp), (Below.refl w.heap.size w).alloc (Nat.le_refl _) _, fun w2 hB => by
    have ep : w2.heap[p]? = w.heap[p]? := hB.block p (h.inn p h.sp)
    exact ⟨(World.cell?_of_block (a := ⟨p, 0, none⟩) ep).trans h.texts, (World.frozen?_of_block (a := ⟨p, 0, none⟩) ep).trans h.free⟩⟩

set_option maxHeartbeats 2000000 in
theorem rput_add {p : Nat} {T : Nat → Prop} {n : Nat} {L : List ByteArray} (w : World) (h : RNmAt p T n L w) (s : ByteArray) (hok : okLen s = true) (hi : isIn L s = false) (hf : L.length < n) :
    Calls Try.prog 10 #[.pointer (some ⟨p, 0, none⟩), .string s] w (RWrote (.tuple #[.int .i64 L.length, .int .i64 0]) p T n (L ++ [s]) w) := by
  obtain ⟨a, c, h⟩ := h
  obtain ⟨i0, hi0, hz0, hz1, hz2⟩ := info_parts info_string
  have hlen : L.length < 4096 := by have := h.top; omega
  have hs : 0 < s.size ∧ s.size ≤ 24 := by simpa [okLen] using hok
  obtain ⟨hne, hnl⟩ := not_empty (s := s) (by omega)
  obtain ⟨hs1, hs2⟩ := hs
  have HP := Lib.hid (place_any L s a c w (.of_row h.row) (by omega))
  rw [place_out hi] at HP
  have H := Lib.hid h
  have HF := Lib.hid hf
  have c0 := h.texts
  have c1 := h.most
  have hb := build_none
  clear h hok hi
  cases a with
  | none =>
    have h0 : L = [] := by
      rcases H.out.row.2 with ⟨_, h2⟩ | ⟨g, _, _, h2, _⟩
      · exact List.eq_nil_of_length_eq_zero h2
      · cases h2
    subst h0
    go_enter Try.func10, Try.ntmps10
    go_wp2_with (go_at_call 13; refine HP.out.mono ?_; rintro e w' ⟨rfl, rfl⟩)
    go_quiet (fail)
    clear HP
    have HQ := Lib.hid (rput_facts (s := s) (show RParts p T n [] none c (w.drewN nq) from H.out.keep (Nat.le_refl _) fun _ _ _ => rfl) HF.out)
    have HW := Lib.hid (show ∀ r L' e w', RWrote r p T n L' (w.drewN nq) e w' → RWrote r p T n L' w e w' from fun r L' e w' ⟨h1, U, h2, h3, h4⟩ => ⟨h1, U, h2, ⟨h3.os, h3.tape, h3.output, h3.size, h3.block⟩, h4⟩)
    clear c0 c1 H
    generalize w.drewN nq = wq at *
    obtain ⟨c0, f0⟩ := HQ.out.2.2.2 wq (.refl _ _)
    obtain ⟨c0a, f0a⟩ := HQ.out.2.2.2 (wq.alloc (.cells #[] 9)) HQ.out.2.2.1
    have HN := Lib.hid (show ∀ (j : Nat) (u : Value), [Value.string s][j]? = some u → ((wq.alloc (.cells #[] 9)).alloc (.cells #[.string s] 9)).cell? ((⟨wq.heap.size + 1, 0, none⟩ : Addr).add j) = some u from fun j u hj => by
      have := cell_one_new (wq.alloc (.cells #[] 9)) (.string s) 9 j u hj
      rwa [show (wq.alloc (.cells #[] 9)).heap.size = wq.heap.size + 1 by simp] at this)
    go_wp2_with (first
      | (at_builtin; refine wpList_append_nothing _ rfl (.tmp 34) (.tmp 38) rfl wq.heap.size c rfl rfl ?_)
      | (at_builtin; refine wpList_append_own_at _ rfl (.tmp 39) (.tmp 41) 22 rfl wq.heap.size 9 i0 (.string ByteArray.empty) 1 16 Try.underlying22 hi0 hz0 hz1 hz2 rfl (by decide) _ _ _ rfl (HQ.out.2.1.alloc _) ⟨wq.heap.size + 1, 0, none⟩ 1 1 [.string s] rfl rfl HN.out (by simp [Value.oneCell']) (by unfold maxLen; omega) (by omega) (by simp; omega) ?_; intro v' w2 hown2 hg2 _ _; obtain ⟨a', c', rfl⟩ := Sep.ownsRow_shape hown2; have HB := Lib.hid (grew (L := []) HQ.out.2.1 HQ.out.2.2.1 hg2 hown2); obtain ⟨k2, f2⟩ := HQ.out.2.2.2 w2 HB.out; have HO2 := Lib.hid hown2; clear hown2 hg2))
    go_ret2
    exact HW.out _ _ _ _ (HQ.out.1 _ _ _ HO2.out HB.out)
  | some x =>
    obtain ⟨g, rfl, hlt⟩ : ∃ g, x = ⟨g, 0, none⟩ ∧ g < w.heap.size := by
      rcases H.out.row.2 with ⟨h1, _⟩ | ⟨g, _, _, h1, _, h2, _⟩
      · cases h1
      · simp only [Value.slice.injEq, Option.some.injEq] at h1
        exact ⟨g, h1.1, (Array.getElem?_eq_some_iff.1 h2).1⟩
    go_enter Try.func10, Try.ntmps10
    go_wp2_with (go_at_call 13; refine HP.out.mono ?_; rintro e w' ⟨rfl, rfl⟩)
    go_quiet (fail)
    clear HP
    have HQ := Lib.hid (rput_facts (s := s) (show RParts p T n L (some ⟨g, 0, none⟩) c (w.drewN nq) from H.out.keep (Nat.le_refl _) fun _ _ _ => rfl) HF.out)
    have HW := Lib.hid (show ∀ r L' e w', RWrote r p T n L' (w.drewN nq) e w' → RWrote r p T n L' w e w' from fun r L' e w' ⟨h1, U, h2, h3, h4⟩ => ⟨h1, U, h2, ⟨h3.os, h3.tape, h3.output, h3.size, h3.block⟩, h4⟩)
    have HN := Lib.hid (show ∀ (j : Nat) (u : Value), (L.map Value.string)[j]? = some u → ((w.drewN nq).alloc (.cells #[] 9)).cell? ((⟨g, 0, none⟩ : Addr).add j) = some u from fun j u hj => by
      rw [← H.out.row.cells (g := g) rfl j u hj]
      exact World.cell?_of_block (by rw [WideShapes.add_plain]; exact Below.heap_alloc _ _ _ hlt))
    have HS := Lib.hid (strings_oneCell L)
    clear c0 c1 H hlt
    generalize w.drewN nq = wq at *
    obtain ⟨c0, f0⟩ := HQ.out.2.2.2 wq (.refl _ _)
    obtain ⟨c0a, f0a⟩ := HQ.out.2.2.2 (wq.alloc (.cells #[] 9)) HQ.out.2.2.1
    go_wp2_with (first
      | (at_builtin; refine wpList_append_own_at _ rfl (.tmp 34) (.tmp 38) 22 rfl wq.heap.size 9 i0 (.string ByteArray.empty) 1 16 Try.underlying22 hi0 hz0 hz1 hz2 rfl (by decide) _ _ _ rfl HQ.out.2.1 ⟨g, 0, none⟩ L.length c (L.map .string) rfl (by simp) HN.out HS.out (by unfold maxLen; omega) (by omega) (by simp) ?_; intro v1 w1 hown1 hg1 _ _; rw [Nat.zero_add, List.nil_append] at hown1; obtain ⟨a1, c1, rfl⟩ := Sep.ownsRow_shape hown1; have HO1 := Lib.hid hown1; have HB1 := Lib.hid (HQ.out.2.2.1.grown hg1 (by simp) (fun k hk => (HQ.out.2.1.lt k hk).1)); obtain ⟨k1, f1⟩ := HQ.out.2.2.2 w1 HB1.out; have hsz := HB1.out.size; clear hown1 hg1)
      | (at_builtin; refine wpList_append_own_at _ rfl (.tmp 39) (.tmp 41) 22 rfl wq.heap.size 9 i0 (.string ByteArray.empty) 1 16 Try.underlying22 hi0 hz0 hz1 hz2 rfl (by decide) _ _ _ rfl (HO1.out.alloc _) ⟨w1.heap.size, 0, none⟩ 1 1 [.string s] rfl rfl (cell_one_new _ _ _) (by simp [Value.oneCell']) (by unfold maxLen; omega) (by omega) (by simp; omega) ?_; intro v' w2 hown2 hg2 _ _; obtain ⟨a', c', rfl⟩ := Sep.ownsRow_shape hown2; have HB := Lib.hid (grew (L := L) HO1.out HB1.out hg2 hown2); obtain ⟨k2, f2⟩ := HQ.out.2.2.2 w2 HB.out; have HO2 := Lib.hid hown2; clear hown2 hg2))
    go_ret2
    exact HW.out _ _ _ _ (HQ.out.1 _ _ _ HO2.out HB.out)

end Go.Proofs.Ytbnfnkjjjpdncaa.It
