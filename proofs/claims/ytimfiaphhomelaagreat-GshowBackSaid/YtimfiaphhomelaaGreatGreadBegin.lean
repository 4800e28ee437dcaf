/-
  The maker: a %start; a declaration. Condition: names fit a machine.
-/
import Derived.Test.YtimfiaphhomelaaGreatGreadSym
namespace Go.Proofs.YtimfiaphhomelaaGreat.Rd
open Go.RowKit Go.Maps
open Go.Proofs.YtimfiaphhomelaaGreat.Tk (Tok tcs cells cells_length cells_snoc Just info_tok cells_three_new)
set_option linter.unusedVariables false
set_option linter.unusedSimpArgs false

theorem cells_at (T : List Tok) (j : Nat) (hj : j < T.length) : (cells T)[j * 3]? = some (.int .i64 T[j].k) ∧ (cells T)[j * 3 + 1]? = some (.string T[j].s) ∧ (cells T)[j * 3 + 2]? = some (.int .i64 (T[j].at_ : Int)) := by
  induction T generalizing j with
  | nil => simp at hj
  | cons t T ih =>
    rw [cells_cons]
    cases j with
    | zero => simp [tcs]
    | succ j =>
      have hl : (tcs t).length = 3 := rfl
      obtain ⟨a, b, c⟩ := ih j (by simpa using hj)
      refine ⟨?_, ?_, ?_⟩
      · rw [List.getElem?_append_right (by rw [hl]; omega), hl, show (j + 1) * 3 - 3 = j * 3 by omega]
        simpa using a
      · rw [List.getElem?_append_right (by rw [hl]; omega), hl, show (j + 1) * 3 + 1 - 3 = j * 3 + 1 by omega]
        simpa using b
      · rw [List.getElem?_append_right (by rw [hl]; omega), hl, show (j + 1) * 3 + 2 - 3 = j * 3 + 2 by omega]
        simpa using c

/-- A token of a row, at its place. -/
theorem Toks.get {base : Nat} {S : List Tok} {v : Value} {w : World} (h : Toks base S v w) (j : Nat) (hj : j < S.length) : ∃ g c, v = .slice (some ⟨g, 0, none⟩) S.length c ∧
    w.cell? ⟨g, j * 3, none⟩ = some (.int .i64 S[j].k) ∧ w.cell? ⟨g, j * 3 + 1, none⟩ = some (.string S[j].s) ∧ w.cell? ⟨g, j * 3 + 2, none⟩ = some (.int .i64 (S[j].at_ : Int)) := by
  rcases h.2 with ⟨_, h0⟩ | ⟨g, cap, cur, rfl, _⟩
  · omega
  · obtain ⟨a, b, c⟩ := cells_at S j hj
    have hc := World.ownsRow.cells h (g := g) rfl
    refine ⟨g, cap, rfl, ?_, ?_, ?_⟩
    · have := hc _ _ a; rwa [WideShapes.add_plain, Nat.zero_add] at this
    · have := hc _ _ b; rwa [WideShapes.add_plain, Nat.zero_add] at this
    · have := hc _ _ c; rwa [WideShapes.add_plain, Nat.zero_add] at this

theorem MParts.begin {m : Nat} {S : Nat → Prop} {lf : List ByteArray} {st : MSt} {b1 n1 b2 p1 p2 : Nat} {S1 S2 : Nat → Prop} {D1 D2 : DataW Unit} {w : World} (h : MParts m S lf st b1 n1 b2 p1 p2 S1 S2 D1 D2 w) (s : ByteArray) :
    MAt m S lf { st with start := s } (w.setCell ⟨m, 4, none⟩ (.string s)) := by
  have hs : (w.setCell ⟨m, 4, none⟩ (.string s)).heap.size = w.heap.size := set_size _ _ _
  have e (k : Nat) (hk : k ≠ m) : (w.setCell ⟨m, 4, none⟩ (.string s)).heap[k]? = w.heap[k]? := Below.heap_setCell _ _ _ _ hk
  refine ⟨b1, n1, b2, p1, p2, S1, S2, D1, D2, ?_, ?_, ?_, ?_, ?_, ?_, Sep.ownsMap_at h.map1 (e b1 h.mb.1.symm), Sep.ownsMap_at h.map2 (e b2 h.mb.2.1.symm), h.k1, h.k2, h.z2, h.t2,
    h.nm1.keep (Nat.le_of_eq hs.symm) (fun k _ hS => e k (fun hk => h.m1.1 (hk ▸ hS))), h.nm2.keep (Nat.le_of_eq hs.symm) (fun k _ hS => e k (fun hk => h.m1.2 (hk ▸ hS))), h.sm, h.sb1, h.sb2, h.s1, h.s2, h.inn.le (Nat.le_of_eq hs.symm), h.mb, h.m1, h.x1, h.x2, h.off⟩
  · rw [World.cell?_setCell_other _ _ _ _ (by intro e; simp at e)]; exact h.c0
  · rw [World.cell?_setCell_other _ _ _ _ (by intro e; simp at e)]; exact h.c1
  · rw [World.cell?_setCell_other _ _ _ _ (by intro e; simp at e)]; exact h.c2
  · rw [World.cell?_setCell_other _ _ _ _ (by intro e; simp at e)]; exact h.c3
  · exact World.cell?_setCell_same _ _ _ h.c4
  · rw [World.frozen?_setCell]; exact h.free

theorem emp_true {s : ByteArray} (h : isEmp s = true) : s = ⟨#[]⟩ := It.empty_of (by simpa [isEmp] using h)

/-- The value of a declaration. -/
abbrev declV (d : Decl) (nv : Value) : Value := .agg #[.int .i64 d.mark.k, .string d.mark.s, .int .i64 (d.mark.at_ : Int), nv]

/-- What a %start makes. -/
def beginM (lf : List ByteArray) (st : MSt) (d : Decl) : Mo MSt := if isEmp st.start = false then .no 8 d.mark.at_ else if It.isIn lf (headT d.names).s = false then .no 9 (headT d.names).at_ else .ok { st with start := (headT d.names).s }

set_option maxRecDepth 100000 in
set_option maxHeartbeats 4000000 in
theorem begin_any {m base : Nat} {S : Nat → Prop} {lf : List ByteArray} {st : MSt} (w : World) (h : MAt m S lf st w) (d : Decl) (nv : Value) (hd : Toks base d.names nv w) (hn : d.names ≠ []) (hlen : d.names.length ≤ 10000) (hs : (headT d.names).s.size ≤ maxLen) :
    Calls Tryz.prog 83 #[.pointer (some ⟨m, 0, none⟩), declV d nv] w (MGave m S lf (beginM lf st d) w) := by
  obtain ⟨n0, r0, hnr⟩ : ∃ n0 r0, d.names = n0 :: r0 := by
    cases hd' : d.names with
    | nil => exact absurd hd' hn
    | cons a b => exact ⟨a, b, rfl⟩
  have hl0 : 0 < d.names.length := by rw [hnr]; simp
  have e0 : headT d.names = n0 := by rw [hnr]; rfl
  obtain ⟨g, c, rfl, k0, k1, k2⟩ := hd.get 0 hl0
  have eg : d.names[0]'hl0 = n0 := by simp [hnr]
  rw [eg] at k0 k1 k2
  simp only [Nat.zero_mul, Nat.zero_add] at k0 k1 k2
  unfold beginM
  rw [e0] at hs ⊢
  have hg : g < w.heap.size := World.block_lt_of_cell? w ⟨g, 0, none⟩ k0
  have LC := Lib.hid (fun w1 (hb : Below w.heap.size w w1) => left_any w1 (h.went hb) n0 hs)
  have RF := Lib.hid (fun t (k : Int) w1 => refuse_any t k w1)
  have H := Lib.hid h
  obtain ⟨b1, n1, b2, p1, p2, S1, S2, D1, D2, hM⟩ := h
  have c4 := hM.c4
  have f4 := hM.free
  have hm : m < w.heap.size := World.block_lt_of_cell? w ⟨m, 4, none⟩ c4
  have MK := Lib.hid (fun w1 (hb : Below w.heap.size w w1) => hM.keep hb.size fun k hk _ => hb.block k hk)
  have BX := Lib.hid (Gr.step (Gr.boxed w (.cells #[.int .i64 d.mark.k, .string d.mark.s, .int .i64 (d.mark.at_ : Int), .slice (some ⟨g, 0, none⟩) d.names.length c] 90)) (Gr.boxed _ (.cells #[.int .i64 n0.k, .string n0.s, .int .i64 (n0.at_ : Int)] 75)))
  have N := Lib.hid (Bk.new (w.alloc (.cells #[.int .i64 d.mark.k, .string d.mark.s, .int .i64 (d.mark.at_ : Int), .slice (some ⟨g, 0, none⟩) d.names.length c] 90)) #[.int .i64 n0.k, .string n0.s, .int .i64 (n0.at_ : Int)] 75 (w.heap.size + 1) (by simp))
  have SM := Lib.hid hM.sm
  clear hM hd hn hs e0 eg hnr
  generalize hdl : d.names.length = nn at *
  clear hdl
  cases he : isEmp st.start with
  | false =>
    have h1 := It.not_empty (s := st.start) (by simpa [isEmp] using he)
    obtain ⟨h1, h2⟩ := h1
    clear he
    go_enter Tryz.func83, Tryz.ntmps83
    go_wp2_with (go_at_call 85; refine (RF.out d.mark 8 _).mono ?_; rintro e w2 ⟨rfl, hb⟩; have HG := Lib.hid (Gr.step BX.out hb); clear hb)
    exact ⟨rfl, rfl, Sep.Fr.of_below HG.out⟩
  | true =>
    have he2 := emp_true he
    rw [he2] at c4
    clear he he2
    cases hl : It.isIn lf n0.s with
    | false =>
      rw [hl] at LC
      clear hl
      go_enter Tryz.func83, Tryz.ntmps83
      go_wp2_with (first
        | (go_at_call 108; refine (LC.out _ BX.out).mono ?_; rintro e w1 ⟨rfl, hb⟩; have HB := Lib.hid (Gr.step BX.out hb); obtain ⟨x0, x1, x2, xf⟩ := (N.out.went hb).three; clear hb)
        | (go_at_call 85; refine (RF.out n0 9 _).mono ?_; rintro e w2 ⟨rfl, hb⟩; have HG := Lib.hid (Gr.step HB.out hb); clear hb))
      exact ⟨rfl, rfl, Sep.Fr.of_below HG.out⟩
    | true =>
      rw [hl] at LC
      clear hl
      go_enter Tryz.func83, Tryz.ntmps83
      go_wp2_with (go_at_call 108; refine (LC.out _ BX.out).mono ?_; rintro e w1 ⟨rfl, hb⟩; have HB := Lib.hid (Gr.step BX.out hb); obtain ⟨x0, x1, x2, xf⟩ := (N.out.went hb).three; have q4 := (MK.out _ (Gr.step BX.out hb)).c4; have qf := (MK.out _ (Gr.step BX.out hb)).free; clear hb)
      go_end0
      exact ⟨rfl, S, (MK.out _ HB.out).begin n0.s, (Sep.Fr.of_below (S := S) HB.out).setCell ⟨m, 4, none⟩ SM.out _, .refl _ _⟩

end Go.Proofs.YtimfiaphhomelaaGreat.Rd
