/-
  A strings.Builder that a call has made itself, with the blocks that are its own: what is written into it, what it holds. Conditions: at most 2^47 bytes.
-/
import Derived.Test.YtoohnkffclkmhaaRowKit
import Derived.Test.YtoohnkffclkmhaaShelf
import Derived.Shelf.Strings.BuilderF
import Derived.Shelf.Strings.BuilderK
namespace Go.Proofs.Ytoohnkffclkmhaa.Sb
open Go.RowKit Go.Maps
open Go.Proofs.Ytoohnkffclkmhaa.Sep
set_option linter.unusedVariables false
set_option linter.unusedSimpArgs false

/-- A builder at b that holds these bytes; v: its row. -/
structure BdS (b : Nat) (l : List UInt8) (S : Nat → Prop) (w : World) : Prop where
  is : Lib.IsBuilderF 66 5 b b (Lib.byteCells l) w
  own : ∃ p v, w.heap[b]? = some (.cells #[p, v] 66 (0, 0)) ∧ S = fun x => x = b ∨ v.ownBlock = some x
theorem is_new (w : World) : Lib.IsBuilderF 66 5 w.heap.size w.heap.size (Lib.byteCells []) (w.alloc (.cells #[.pointer none, .slice none 0 0] 66)) :=
  .inl ⟨Nat.le_refl _, .slice none 0 0, heap_alloc_new w _, World.ownsRowF_nil _ _ _ _, by simp [Value.ownBlock]⟩
theorem BdS.new (w : World) : BdS w.heap.size [] (fun x => x = w.heap.size ∨ (Value.slice none 0 0).ownBlock = some x) (w.alloc (.cells #[.pointer none, .slice none 0 0] 66)) :=
  ⟨is_new w, _, _, heap_alloc_new w _, rfl⟩
/-- It stays where its own blocks do. -/
theorem is_kept {b : Nat} {l : List UInt8} {p0 v0 : Value} {w w' : World} (h : Lib.IsBuilderF 66 5 b b (Lib.byteCells l) w) (hb0 : w.heap[b]? = some (.cells #[p0, v0] 66 (0, 0))) (hb : w'.heap[b]? = w.heap[b]?) (hv : ∀ g, v0.ownBlock = some g → w'.heap[g]? = w.heap[g]?) : Lib.IsBuilderF 66 5 b b (Lib.byteCells l) w' := by
  have one : ∀ p, Lib.BuilderAtF 66 5 b b p (Lib.byteCells l) w → Lib.BuilderAtF 66 5 b b p (Lib.byteCells l) w' := fun p ⟨h1, v, h2, h3, h4⟩ => by
    rw [h2] at hb0
    injection hb0 with hb0
    injection hb0 with hb0 _ _
    simp at hb0
    obtain ⟨rfl, rfl⟩ := hb0
    refine ⟨h1, v, hb.trans h2, ⟨h3.1, ?_⟩, h4⟩
    rcases h3.2 with h5 | ⟨g, cap, cur, fz, e, h6, h7, h8⟩
    · exact .inl h5
    · exact .inr ⟨g, cap, cur, fz, e, h6, (hv g (by rw [e]; rfl)).trans h7, h8⟩
  rcases h with h | h
  · exact .inl (one _ h)
  · exact .inr (one _ h)
theorem BdS.fr {b : Nat} {l : List UInt8} {S F : Nat → Prop} {w w' : World} (h : BdS b l S w) (hf : Fr F w w') (hS : Off F S) : BdS b l S w' := by
  obtain ⟨h1, p, v, h2, rfl⟩ := h
  have hbl : b < w.heap.size := (Array.getElem?_eq_some_iff.1 h2).1
  have hb := hf.block b hbl fun e => hS b e (.inl rfl)
  refine ⟨is_kept h1 h2 hb fun g hg => ?_, p, v, hb.trans h2, rfl⟩
  have hgl : g < w.heap.size := by
    rcases h1 with ⟨_, v', h3, h4, _⟩ | ⟨_, v', h3, h4, _⟩
    all_goals
      rw [h2] at h3
      injection h3 with h3
      injection h3 with h3 _ _
      simp at h3
      obtain ⟨_, rfl⟩ := h3
      exact (h4.lt g hg).2
  exact hf.block g hgl fun e => hS g e (.inr hg)
theorem BdS.inn {b : Nat} {l : List UInt8} {S : Nat → Prop} {w : World} (h : BdS b l S w) : Inn S w := by
  obtain ⟨h1, p, v, h2, rfl⟩ := h
  rintro g (rfl | hg)
  · exact (Array.getElem?_eq_some_iff.1 h2).1
  · rcases h1 with ⟨_, v', h3, h4, _⟩ | ⟨_, v', h3, h4, _⟩
    all_goals
      rw [h2] at h3
      injection h3 with h3
      injection h3 with h3 _ _
      simp at h3
      obtain ⟨_, rfl⟩ := h3
      exact (h4.lt g hg).2

/-- Where the row lies behind append. -/
theorem append_at {P : Program} (w : World) (base : Nat) (t u ty e : TypeId) (i : TypeInfo) (ht : P.underlying t = some (.slice e)) (hu : P.underlying u = some .string) (hi : P.info? e = some i) (hz : i.zero = some (.int .u8 0))
    (hsize : i.size = 1) (hby : i.bytes = 1) (v : Value) (n : Nat) (xs : List Value) (hown : w.ownsRowF base e 1 v n xs) (s : ByteArray) (h63 : n + s.size ≤ maxLen) (hbytes : n + s.size ≤ 140737488355328) (hbase : base ≤ w.heap.size) :
    ∃ v' w', (Builtin.append_ #[t, u] ty #[v, .string s]).run P w = .ok v' w' ∧ w'.ownsRowF base e 1 v' (n + s.size) (xs ++ Lib.strCells s) ∧ w.grownBy w' v.ownBlock ∧ ∀ g, v'.ownBlock = some g → v.ownBlock = some g ∨ w.heap.size ≤ g := by
  obtain ⟨v', w', hr, h2, h3, h4⟩ := Lib.run_append_own_stringF (P := P) w base t u ty e i ht hu hi hz hsize hby v n xs hown s h63 hbytes hbase
  refine ⟨v', w', hr, h2, h3, fun g hg => ?_⟩
  rcases hown.2 with ⟨rfl, rfl⟩ | ⟨g0, cap, cur, fz, rfl, hbg, hg0, hfz, hnc, hcm, hcs, htake⟩
  · obtain ⟨v2, w2, hr2, h5, _, _⟩ := Lib.run_append_own_stringF (P := P) w w.heap.size t u ty e i ht hu hi hz hsize hby (.slice none 0 0) 0 xs ⟨hown.1, .inl ⟨rfl, rfl⟩⟩ s h63 hbytes (Nat.le_refl _)
    rw [hr] at hr2
    injection hr2 with e1 e2
    subst e1
    exact .inr (h5.lt g hg).1
  · by_cases hroom : n + s.size ≤ cap
    · have hcs' : cur.size = cap := by simpa using hcs
      have hr2 := Lib.run_append_room_stringF (P := P) w t u ty e i ht hu hi hsize g0 n cap cur fz hg0 (by simpa using hfz) s hroom (by omega)
      rw [hr] at hr2
      injection hr2 with e1 e2
      subst e1
      exact .inl hg
    · have holds : ∀ j u, xs[j]? = some u → w.cell? ((⟨g0, 0, none⟩ : Addr).add j) = some u := hown.cells (g := g0) rfl
      have hxl : xs.length = n := by simpa using hown.1
      have hr2 := Lib.run_append_grow_string (P := P) w t u ty e i (.int .u8 0) ht hu hi hz ⟨g0, 0, none⟩ n cap xs (by rw [hsize]; simpa using hxl) holds s (by omega) (by simp only [maxLen] at h63; omega) (by rw [hby]; exact growslice_fits (by omega) (by omega))
      rw [hr] at hr2
      injection hr2 with e1 e2
      subst e1
      simp only [Value.ownBlock, Option.map_some, Option.some.injEq] at hg
      exact .inr (by omega)
theorem wpList_append_at {P : Program} (w : World) {ops : Array Oper} {rest : List Oper} {o : Oper} {a : Act} {Q : Exit → Act → World → Prop} (hgd : o.guard = none) (sl x : Operand) (t u : TypeId)
    (ho : o.op = .call { callee := .builtin .append, args := #[sl, x], argTypes := #[t, u] })
    (base : Nat) (e : TypeId) (i : TypeInfo) (ht : P.underlying t = some (.slice e)) (hu : P.underlying u = some .string) (hi : P.info? e = some i) (hz : i.zero = some (.int .u8 0)) (hsize : i.size = 1) (hby : i.bytes = 1)
    (v : Value) (n : Nat) (xs : List Value) (hs : a.eval sl = v) (hown : w.ownsRowF base e 1 v n xs) (s : ByteArray) (hx : a.eval x = .string s) (h63 : n + s.size ≤ maxLen) (hbytes : n + s.size ≤ 140737488355328) (hbase : base ≤ w.heap.size)
    (h : ∀ v' w', w'.ownsRowF base e 1 v' (n + s.size) (xs ++ Lib.strCells s) → w.grownBy w' v.ownBlock → (∀ g, v'.ownBlock = some g → v.ownBlock = some g ∨ w.heap.size ≤ g) → wpList P ops Q rest (a.put o.dst v') w') : wpList P ops Q (o :: rest) a w := by
  refine wpList_plain hgd fun K hK => ?_
  obtain ⟨v', w', hr, h2, h3, h4⟩ := append_at (P := P) w base t u o.type e i ht hu hi hz hsize hby v n xs hown s h63 hbytes hbase
  unfold Oper.wp execOp
  simp only [ho, resolve, invoke, builtin, Sem.run_bind, Sem.run_pure, Result.andThen_ok, List.map_toArray, List.map_cons, List.map_nil, hs, hx, hr]
  exact hK _ _ (h v' w' h2 h3 h4)

theorem size_b : ∃ i, Try.prog.info? 66 = some i ∧ i.size = 2 := Option.map_eq_some_iff.1 (show (Try.prog.info? 66).map (·.size) = some 2 by kernel_rfl)
theorem info_u : (Try.prog.info? 5).map (fun i => (i.zero, i.size, i.bytes)) = some (some (.int .u8 0), 1, 1) := by kernel_rfl

set_option maxHeartbeats 1000000 in
set_option maxRecDepth 100000 in
theorem check_used (b : Nat) (w : World) (h0 : w.cell? ⟨b, 0, none⟩ = some (.pointer (some ⟨b, 0, none⟩))) :
    Calls Try.prog 46 #[.pointer (some ⟨b, 0, none⟩)] w fun e w' => e = .returned (.tuple #[]) ∧ w' = w := by
  obtain ⟨j, hj, _⟩ := size_b
  go_enter Try.func46, Try.ntmps46
  go_wp2
  rw [Lib.run_neq_ptr_same w _ Try.underlying63 hj]
  go_wp2
  go_end0
  exact ⟨rfl, rfl⟩

set_option maxHeartbeats 1000000 in
set_option maxRecDepth 100000 in
theorem check_fresh (b : Nat) (w : World) (h0 : w.cell? ⟨b, 0, none⟩ = some (.pointer none)) (hsh : w.shape? b = some (66, 2)) (hfz : w.frozen? ⟨b, 0, none⟩ = false) :
    Calls Try.prog 46 #[.pointer (some ⟨b, 0, none⟩)] w fun e w' => e = .returned (.tuple #[]) ∧ w' = w.setCell ⟨b, 0, none⟩ (.pointer (some ⟨b, 0, none⟩)) := by
  obtain ⟨j, hj, hjs⟩ := size_b
  go_enter Try.func46, Try.ntmps46
  go_wp2
  rw [Lib.run_to_unsafe w ⟨b, 0, none⟩ Try.underlying63 Try.underlying97 hj (by rw [hjs]; decide) hsh (Nat.zero_lt_succ 1)]
  simp only [Result.andThen]
  rw [Oper.upon_value]
  go_wp2
  rw [run_callFunc_extern Try.func57 (by kernel_rfl) (by kernel_rfl) (by kernel_rfl) (e := Extern.AbiNoEscape.same) (by kernel_rfl)]
  rw [Lib.run_noEscape]
  simp only [Result.andThen]
  rw [Oper.upon_value]
  go_wp2
  rw [Lib.run_from_unsafe w ⟨b, 0, none⟩ Try.underlying97 Try.underlying63 hj hsh (by kernel_rfl)]
  simp only [Result.andThen]
  rw [Oper.upon_value]
  go_wp2
  go_end0
  exact ⟨rfl, rfl⟩


/-- What comes back when bytes are written. -/
def Wrote (b : Nat) (l : List UInt8) (n : Nat) (S : Nat → Prop) (w : World) (e : Ending) (w' : World) : Prop := e = .returned (.tuple #[.int .i64 n, .nilIface]) ∧ ∃ S', BdS b l S' w' ∧ Ext S' S w ∧ Fr S w w'

/-- Behind copyCheck. -/
structure Ck (b : Nat) (l : List UInt8) (v : Value) (w w' : World) : Prop where
  at_ : Lib.BuilderAtF 66 5 b b (.pointer (some ⟨b, 0, none⟩)) (Lib.byteCells l) w'
  heap : w'.heap[b]? = some (.cells #[.pointer (some ⟨b, 0, none⟩), v] 66 (0, 0))
  fr : Fr (fun x => x = b) w w'
theorem check_any (b : Nat) (l : List UInt8) (p v : Value) (w : World) (h : Lib.IsBuilderF 66 5 b b (Lib.byteCells l) w) (hb : w.heap[b]? = some (.cells #[p, v] 66 (0, 0))) :
    Calls Try.prog 46 #[.pointer (some ⟨b, 0, none⟩)] w fun e w' => e = .returned (.tuple #[]) ∧ Ck b l v w w' := by
  rcases h with h | h
  · refine (check_fresh b w h.cell0 h.shape h.frozen0).mono ?_
    rintro e w' ⟨rfl, rfl⟩
    exact ⟨rfl, h.used _, by simp [World.setCell, Array.getElem?_modify, hb], (Fr.refl (fun x => x = b) w).setCell ⟨b, 0, none⟩ rfl _⟩
  · refine (check_used b w h.cell0).mono ?_
    rintro e w' ⟨rfl, rfl⟩
    refine ⟨rfl, h, ?_, .refl _ _⟩
    obtain ⟨_, v', h2, _⟩ := h
    rw [h2] at hb ⊢
    injection hb with hb
    injection hb with hb _ _
    simp at hb
    rw [hb.2]

set_option maxHeartbeats 2000000 in
set_option maxRecDepth 100000 in
theorem write_any {b : Nat} {l : List UInt8} {S : Nat → Prop} {w : World} (s : ByteArray) (h : BdS b l S w) (hlen : l.length + s.size ≤ 140737488355328) :
    Calls Try.prog 27 #[.pointer (some ⟨b, 0, none⟩), .string s] w (Wrote b (l ++ s.data.toList) s.size S w) := by
  obtain ⟨i0, hi, hz0, hz1, hz2⟩ := info_parts info_u
  obtain ⟨his, p0, v0, hb0, rfl⟩ := h
  have hbl : b < w.heap.size := (Array.getElem?_eq_some_iff.1 hb0).1
  have CK := Lib.hid (check_any b l p0 v0 w his hb0)
  clear his hb0
  go_enter Try.func27, Try.ntmps27
  go_wp2_with (go_at_call 46; refine CK.out.mono ?_)
  rintro e w1 ⟨rfl, h1⟩
  have hbk := h1.heap
  obtain ⟨hB, v, hbk2, hown, hne⟩ := h1.at_
  have hv0 : v = v0 := by
    rw [hbk] at hbk2
    injection hbk2 with hbk2
    injection hbk2 with hbk2 _ _
    simp at hbk2
    exact hbk2.symm
  subst hv0
  have F1 := Lib.hid h1.fr
  clear hbk2 h1
  have c0 : w1.cell? ⟨b, 0, none⟩ = some (.pointer (some ⟨b, 0, none⟩)) := by rw [Lib.cell_of_heap hbk]; rfl
  have c1 : w1.cell? ⟨b, 1, none⟩ = some v := by rw [Lib.cell_of_heap hbk]; rfl
  have hlt : b < w1.heap.size := (Array.getElem?_eq_some_iff.1 hbk).1
  have hlen2 : (Lib.byteCells l).length + s.size ≤ 140737488355328 := by rw [Lib.byteCells_length]; exact hlen
  go_wp2_with (at_builtin; refine wpList_append_at _ rfl _ _ 64 9 rfl b 5 i0 Try.underlying64 Try.underlying9 hi hz0 hz1 hz2 _ _ _ rfl hown s rfl ?c3 ?c4 ?c5 ?_)
  case c3 => unfold maxLen; omega
  case c4 => omega
  case c5 => omega
  intro v' w2 hown' hgrow hloc
  have hb2 : w2.heap[b]? = some (.cells #[.pointer (some ⟨b, 0, none⟩), v] 66 (0, 0)) := by
    rw [hgrow.block b hlt (fun e => hne e.symm)]
    exact hbk
  have d0 : w2.cell? ⟨b, 0, none⟩ = some (.pointer (some ⟨b, 0, none⟩)) := by rw [Lib.cell_of_heap hb2]; rfl
  have d1 : w2.cell? ⟨b, 1, none⟩ = some v := by rw [Lib.cell_of_heap hb2]; rfl
  have f1 : w2.frozen? ⟨b, 1, none⟩ = false := Lib.frozen_of_heap hb2 1
  obtain ⟨ao, n', cap, rfl⟩ : ∃ ao n' cap, v' = .slice ao n' cap := by
    rcases hown'.2 with ⟨hv, _⟩ | ⟨g, cap, cur, fz, hv, _⟩
    · exact ⟨_, _, _, hv⟩
    · exact ⟨_, _, _, hv⟩
  go_wp2
  go_ret2
  have hx : Lib.byteCells (l ++ s.data.toList) = Lib.byteCells l ++ Lib.strCells s := by rw [Lib.strCells_eq, Lib.byteCells_append]
  refine ⟨rfl, fun x => x = b ∨ (Value.slice ao n' cap).ownBlock = some x, ⟨.inr ?_, .pointer (some ⟨b, 0, none⟩), _, by simp [World.setCell, Array.getElem?_modify, hb2], rfl⟩, ?_, ?_⟩
  · rw [hx]
    exact Lib.BuilderAtF.put (T := 66) (e := 5) hB hb2 (bs' := Lib.byteCells l ++ Lib.strCells s) (by simpa [Lib.strCells_length] using hown') (by decide)
  · rintro x (rfl | e)
    · exact .inl (.inl rfl)
    · rcases hloc x e with h | h
      · exact .inl (.inr h)
      · exact .inr (Nat.le_trans F1.out.size h)
  · exact ((F1.out.mono (T := fun x => x = b ∨ v.ownBlock = some x) fun x e => .inl e).grown hgrow fun k e => .inl (.inr e)).setCell ⟨b, 1, none⟩ (.inl rfl) _

/-- What it holds comes back. -/
theorem string_any {b : Nat} {l : List UInt8} {S : Nat → Prop} {w : World} (h : BdS b l S w) : Calls Try.prog 30 #[.pointer (some ⟨b, 0, none⟩)] w fun e w' => e = .returned (.string ⟨l.toArray⟩) ∧ Below b w w' ∧ Lib.OthersKept 5 (some b) w w' :=
  (Any.Builder_String_any_k Try.lays169 Try.Builder_Extra_169 b b l w h.is (Nat.le_of_lt (h.inn b (by obtain ⟨_, _, _, _, rfl⟩ := h; exact .inl rfl)))).mono fun e w' ⟨h1, _, h2, h3⟩ => ⟨h1, h2, h3⟩

theorem len_any {b : Nat} {l : List UInt8} {S : Nat → Prop} {w : World} (h : BdS b l S w) : Calls Try.prog 28 #[.pointer (some ⟨b, 0, none⟩)] w fun e w' => e = .returned (.int .i64 (l.length : Int)) ∧ Below w.heap.size w w' := by
  obtain ⟨a, n, c, hv, hn⟩ : ∃ a n c, w.cell? ⟨b, 1, none⟩ = some (.slice a n c) ∧ n = l.length := by
    rcases h.is with ⟨_, v', h3, h4, _⟩ | ⟨_, v', h3, h4, _⟩
    all_goals
      have hc : w.cell? ⟨b, 1, none⟩ = some v' := by rw [Lib.cell_of_heap h3]; rfl
      rw [Lib.byteCells_length] at h4
      rcases h4.2 with ⟨hv, hn⟩ | ⟨g, cap, cur, fz, hv, _⟩
      · exact ⟨none, 0, 0, by rw [hc, hv], hn.symm⟩
      · exact ⟨_, _, _, by rw [hc, hv], rfl⟩
  subst hn
  clear h
  go_enter Try.func28, Try.ntmps28
  go_wp2
  go_ret
  exact ⟨rfl, .refl _ _⟩

end Go.Proofs.Ytoohnkffclkmhaa.Sb
