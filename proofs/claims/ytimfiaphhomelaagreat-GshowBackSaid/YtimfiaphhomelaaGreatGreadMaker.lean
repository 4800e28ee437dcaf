/-
  The maker in memory: its two maps, its two collections of names, its beginning; what it answers of a token. Condition: a name fits a machine.
-/
import Derived.Test.YtimfiaphhomelaaGreatGreadSource
import Derived.Test.YtimfiaphhomelaaGreatGreadMk
import Derived.Test.YtimfiaphhomelaaGreatInternAll
import Derived.Maps.OwnSet
namespace Go.Proofs.YtimfiaphhomelaaGreat.Rd
open Go.RowKit Go.Maps
open Go.Proofs.YtimfiaphhomelaaGreat.Tk (Tok tcs cells cells_length cells_snoc Just info_tok cells_three_new)
set_option linter.unusedVariables false
set_option linter.unusedSimpArgs false

noncomputable abbrev RU : Value → Option (DataW Unit × List MemPlace) := unitElem (H := Unit)

/-- The map's keys are the names of a list. -/
def KeysIn (L : List ByteArray) (D : DataW Unit) : Prop := ∀ s : ByteArray, Maps.has D (.string s.data.toList) = It.isIn L s

/-- The maker's parts: block m; maps b1 (names before colons), b2 (texts); collections p1, p2 with their blocks. -/
structure MParts (m : Nat) (S : Nat → Prop) (lf : List ByteArray) (st : MSt) (b1 n1 b2 p1 p2 : Nat) (S1 S2 : Nat → Prop) (D1 D2 : DataW Unit) (w : World) : Prop where
  c0 : w.cell? ⟨m, 0, none⟩ = some (.map (some b1))
  c1 : w.cell? ⟨m, 1, none⟩ = some (.map (some b2))
  c2 : w.cell? ⟨m, 2, none⟩ = some (.pointer (some ⟨p1, 0, none⟩))
  c3 : w.cell? ⟨m, 3, none⟩ = some (.pointer (some ⟨p2, 0, none⟩))
  c4 : w.cell? ⟨m, 4, none⟩ = some (.string st.start)
  free : w.frozen? ⟨m, 4, none⟩ = false
  map1 : w.ownsMap Tryz.prog 9 RU b1 n1 D1
  map2 : w.ownsMap Tryz.prog 9 RU b2 st.texts.length D2
  k1 : KeysIn lf D1
  k2 : KeysIn st.texts D2
  z2 : Maps.size D2 = st.texts.length
  t2 : st.texts.length ≤ 300
  nm1 : It.NmAt p1 S1 120 st.L1 w
  nm2 : It.NmAt p2 S2 120 st.L2 w
  sm : S m
  sb1 : S b1
  sb2 : S b2
  s1 : ∀ k, S1 k → S k
  s2 : ∀ k, S2 k → S k
  inn : Sep.Inn S w
  mb : m ≠ b1 ∧ m ≠ b2 ∧ b1 ≠ b2
  m1 : ¬ S1 m ∧ ¬ S2 m
  x1 : ¬ S1 b1 ∧ ¬ S2 b1
  x2 : ¬ S1 b2 ∧ ¬ S2 b2
  off : Sep.Off S1 S2

/-- The maker at m: all its blocks are of S. -/
def MAt (m : Nat) (S : Nat → Prop) (lf : List ByteArray) (st : MSt) (w : World) : Prop := ∃ b1 n1 b2 p1 p2 S1 S2 D1 D2, MParts m S lf st b1 n1 b2 p1 p2 S1 S2 D1 D2 w

theorem MParts.keep {m : Nat} {S : Nat → Prop} {lf : List ByteArray} {st : MSt} {b1 n1 b2 p1 p2 : Nat} {S1 S2 : Nat → Prop} {D1 D2 : DataW Unit} {w w' : World} (h : MParts m S lf st b1 n1 b2 p1 p2 S1 S2 D1 D2 w) (hs : w.heap.size ≤ w'.heap.size) (hb : ∀ k, k < w.heap.size → S k → w'.heap[k]? = w.heap[k]?) :
    MParts m S lf st b1 n1 b2 p1 p2 S1 S2 D1 D2 w' :=
  have e (k : Nat) (hk : S k) := hb k (h.inn k hk) hk
  ⟨(World.cell?_of_block (a := ⟨m, 0, none⟩) (e m h.sm)).trans h.c0, (World.cell?_of_block (a := ⟨m, 1, none⟩) (e m h.sm)).trans h.c1, (World.cell?_of_block (a := ⟨m, 2, none⟩) (e m h.sm)).trans h.c2, (World.cell?_of_block (a := ⟨m, 3, none⟩) (e m h.sm)).trans h.c3, (World.cell?_of_block (a := ⟨m, 4, none⟩) (e m h.sm)).trans h.c4,
    (World.frozen?_of_block (a := ⟨m, 4, none⟩) (e m h.sm)).trans h.free, Sep.ownsMap_at h.map1 (e b1 h.sb1), Sep.ownsMap_at h.map2 (e b2 h.sb2), h.k1, h.k2, h.z2, h.t2,
    h.nm1.keep hs (fun k hk hS => hb k hk (h.s1 k hS)), h.nm2.keep hs (fun k hk hS => hb k hk (h.s2 k hS)), h.sm, h.sb1, h.sb2, h.s1, h.s2, h.inn.le hs, h.mb, h.m1, h.x1, h.x2, h.off⟩
theorem MAt.went {m : Nat} {S : Nat → Prop} {lf : List ByteArray} {st : MSt} {w w' : World} (h : MAt m S lf st w) (hb : Below w.heap.size w w') : MAt m S lf st w' := by
  obtain ⟨b1, n1, b2, p1, p2, S1, S2, D1, D2, h⟩ := h
  exact ⟨b1, n1, b2, p1, p2, S1, S2, D1, D2, h.keep hb.size fun k hk _ => hb.block k hk⟩
theorem MAt.inn {m : Nat} {S : Nat → Prop} {lf : List ByteArray} {st : MSt} {w : World} (h : MAt m S lf st w) : Sep.Inn S w := by
  obtain ⟨b1, n1, b2, p1, p2, S1, S2, D1, D2, h⟩ := h
  exact h.inn
theorem MAt.lt {m : Nat} {S : Nat → Prop} {lf : List ByteArray} {st : MSt} {w : World} (h : MAt m S lf st w) : m < w.heap.size := by
  obtain ⟨b1, n1, b2, p1, p2, S1, S2, D1, D2, h⟩ := h
  exact World.block_lt_of_cell? w ⟨m, 0, none⟩ h.c0

theorem drawnN (w : World) (n : Nat) : Below w.heap.size w (w.drewN n) := ⟨rfl, rfl, rfl, Nat.le_refl _, fun _ _ => rfl⟩

theorem place_ge (L : List ByteArray) (s : ByteArray) : decide ((0 : Int) ≤ It.place L s) = It.isIn L s := by
  cases h : It.isIn L s with
  | true => rw [It.place_in h, decide_eq_true_iff]; omega
  | false => rw [It.place_out h, decide_eq_false_iff_not]; omega

set_option maxRecDepth 100000 in
set_option maxHeartbeats 2000000 in
theorem declared_any {m : Nat} {S : Nat → Prop} {lf : List ByteArray} {st : MSt} (w : World) (h : MAt m S lf st w) (t : Tok) (hs : t.s.size ≤ maxLen) :
    Calls Tryz.prog 84 #[.pointer (some ⟨m, 0, none⟩), tokV t] w fun e w' => e = .returned (.bool (It.isIn st.L1 t.s)) ∧ Below w.heap.size w w' := by
  obtain ⟨b1, n1, b2, p1, p2, S1, S2, D1, D2, h⟩ := h
  have c2 := h.c2
  have hm := World.block_lt_of_cell? w ⟨m, 2, none⟩ c2
  have FI := Lib.hid (fun w1 (hb : Below w.heap.size w w1) => It.find_any w1 (h.nm1.went hb) t.s hs)
  have E := Lib.hid (place_ge st.L1 t.s)
  generalize It.place st.L1 t.s = pl at FI E
  clear h
  go_enter Tryz.func84, Tryz.ntmps84
  go_wp2
  go_quiet ((go_at_call 109; exact Calls.quiet_of_same ((FI.out _ (Gr.step (Gr.boxed _ _) (drawnN _ _))).mono fun _ _ h => ⟨h.1, h.2.symm⟩)))
  go_wp2
  go_ret
  exact ⟨Gr.bool_of (by rw [← E.out]), Gr.step (Gr.boxed _ _) (drawnN _ _)⟩

theorem law : Keyed Tryz.prog 9 := string_keyed Tryz.underlying9
set_option maxRecDepth 100000 in
theorem key_of {s : ByteArray} (h : s.size ≤ maxLen) : keyOf Tryz.prog 9 (.string s) = some (.string s.data.toList) := WideMaps.keyOf_string_mk Tryz.underlying9 h
set_option maxRecDepth 100000 in
theorem key_lit {s : ByteArray} (h : s.size ≤ maxLen) : WideAt.IsKeyLit (.string s.data.toList) := law.key (key_of h)
set_option maxRecDepth 100000 in
theorem zero_unit (w : World) : (zeroValue 114).run Tryz.prog w = .ok (.agg #[]) w := by kernel_rfl

set_option maxRecDepth 100000 in
/-- A look-up in one of the maker's maps. -/
theorem run_look {b n : Nat} {D : DataW Unit} {L : List ByteArray} {w : World} (h : w.ownsMap Tryz.prog 9 RU b n D) (k : KeysIn L D) (s : ByteArray) (hs : s.size ≤ maxLen) :
    (Instr.lookup 83 (.map (some b)) (.string s) true).run Tryz.prog w = .ok (.tuple #[.agg #[], .bool (It.isIn L s)]) w := by
  obtain ⟨v, ps, hr, hv⟩ := h.look_ok law Tryz.underlying83 (zero_unit w) unitElem_mk (key_of hs)
  obtain ⟨rfl, _⟩ := unitElem_inv hv
  rw [← k s]
  exact hr

set_option maxRecDepth 100000 in
set_option maxHeartbeats 2000000 in
theorem left_any {m : Nat} {S : Nat → Prop} {lf : List ByteArray} {st : MSt} (w : World) (h : MAt m S lf st w) (t : Tok) (hs : t.s.size ≤ maxLen) :
    Calls Tryz.prog 108 #[.pointer (some ⟨m, 0, none⟩), tokV t] w fun e w' => e = .returned (.bool (It.isIn lf t.s)) ∧ Below w.heap.size w w' := by
  obtain ⟨b1, n1, b2, p1, p2, S1, S2, D1, D2, h⟩ := h
  have c0 := h.c0
  have hm := World.block_lt_of_cell? w ⟨m, 0, none⟩ c0
  have bx := Gr.boxed w (.cells #[.int .i64 t.k, .string t.s, .int .i64 (t.at_ : Int)] 75)
  have hl1 := run_look (w := (w.alloc (.cells #[.int .i64 t.k, .string t.s, .int .i64 (t.at_ : Int)] 75)).drew) (Sep.ownsMap_at h.map1 (bx.block _ h.map1.lt)) h.k1 t.s hs
  have hl2 := run_look (w := ((w.alloc (.cells #[.int .i64 t.k, .string t.s, .int .i64 (t.at_ : Int)] 75)).alloc (.cells #[] 114)).drew) (Sep.ownsMap_at h.map1 ((Gr.step bx (Gr.boxed _ _)).block _ h.map1.lt)) h.k1 t.s hs
  generalize It.isIn lf t.s = bb at *
  clear h bx
  go_enter Tryz.func108, Tryz.ntmps108
  go_wp2
  go_cut [6] (fun s6 wx => s6 = .bool bb ∧ Below w.heap.size w wx)
  case first =>
    go_region
    all_goals
      go_wp2
      go_meet
      case rel => exact ⟨rfl, by first | exact Gr.step (Gr.step (Gr.boxed _ _) (Gr.boxed _ _)) (Gr.drawn _)⟩
  case rest =>
    obtain ⟨rfl, hb⟩ := hcut
    go_wp2
    go_ret
    exact ⟨rfl, hb⟩

end Go.Proofs.YtimfiaphhomelaaGreat.Rd
