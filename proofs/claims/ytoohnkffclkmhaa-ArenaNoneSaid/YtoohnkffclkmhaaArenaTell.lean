/-
  Package arena: Roots, Node, Twin; one node derived.
-/
import Derived.Test.YtoohnkffclkmhaaArenaJoin
import Derived.Test.YtoohnkffclkmhaaArenaWalk
import Derived.Test.YtoohnkffclkmhaaRowLie
namespace Go.Proofs.Ytoohnkffclkmhaa.Tr
open Go.RowKit Go.Maps
open Go.Proofs.Ytoohnkffclkmhaa.Sep
open Go.Proofs.Ytoohnkffclkmhaa.Rw (Bk)
open Go.Proofs.Ytoohnkffclkmhaa.Gr (Gram Sh gv GAt termB cell_later boxed drawn Is bool_of int_of ivs iv Listed New clone_any info_int)
set_option linter.unusedVariables false
set_option linter.unusedSimpArgs false

section
variable {pv : Value} {p : Nat} {S K : Nat → Prop} {L : List Nv} {T : List Nd} {v : Value} {w : World}

theorem len_o (h : TrO pv S K L w) : Calls Try.prog 12 #[pv] w (Is (.int .i64 (L.length : Int)) w) := by
  rcases h with ⟨rfl, rfl, _⟩ | ⟨p, v, rfl, h⟩
  · exact len_nil w
  · have := len_any (p := p) ⟨L, v, rfl, h⟩
    rwa [List.length_map] at this
theorem free_nil (i : Int) (w : World) : Calls Try.prog 20 #[.pointer none, .int .i64 i] w (Is (.bool false) w) := by
  have N := Lib.hid (has_nil i w)
  go_enter Try.func20, Try.ntmps20
  go_wp2_with (go_at_call 22; refine N.out.mono ?_; rintro e w1 ⟨rfl, hb⟩; have HB := Lib.hid hb; clear hb)
  go_ret
  exact ⟨rfl, HB.out⟩
theorem free_o (h : TrO pv S K L w) (i : Int) : Calls Try.prog 20 #[pv, .int .i64 i] w (Is (.bool (freeP (L.map Prod.fst) i)) w) := by
  rcases h with ⟨rfl, rfl, _⟩ | ⟨p, v, rfl, h⟩
  · have e : freeP (([] : List Nv).map Prod.fst) i = false := by simp [freeP, freeAt]
    rw [e]
    exact free_nil i w
  · exact free_any ⟨L, v, rfl, h⟩ i

/-! ### Roots -/

def rootsTo (T : List Nd) (k : Nat) : List Int := ((List.range k).filter (freeAt T)).map Int.ofNat
theorem rootsTo_succ (T : List Nd) (k : Nat) : rootsTo T (k + 1) = rootsTo T k ++ (if freeAt T k then [(k : Int)] else []) := by
  unfold rootsTo
  rw [List.range_succ, List.filter_append, List.map_append]
  congr 1
  cases h : freeAt T k <;> simp [h]
theorem rootsTo_len (T : List Nd) (k : Nat) : (rootsTo T k).length ≤ k := by
  unfold rootsTo
  rw [List.length_map]
  exact Nat.le_trans (List.length_filter_le _ _) (by simp)

set_option maxHeartbeats 4000000 in
set_option maxRecDepth 100000 in
theorem roots_any (h : TrO pv S K L w) : Calls Try.prog 8 #[pv] w (Listed (rootsP (L.map Prod.fst)) w) := by
  obtain ⟨i0, hi, hz0, hz1, hz2⟩ := info_parts info_int
  have LN := Lib.hid (len_o h)
  have FR := Lib.hid (fun (k : Nat) w1 (hb : Below w.heap.size w w1) => free_o (h.went hb) (k : Int))
  have few := h.few
  have EF := Lib.hid (show ∀ k : Nat, freeP (L.map Prod.fst) (k : Int) = freeAt (L.map Prod.fst) k from fun k => by simp [freeP])
  obtain ⟨pa, rfl⟩ := h.ptr
  have RE := Lib.hid (show rootsP (L.map Prod.fst) = rootsTo (L.map Prod.fst) L.length by unfold rootsP rootsN rootsTo; rw [List.length_map])
  generalize L.map Prod.fst = T at *
  generalize L.length = N at *
  clear h
  go_enter Try.func8, Try.ntmps8
  go_wp2_with (go_at_call 12; refine LN.out.mono ?_; rintro e w1 ⟨rfl, hb⟩; have HB1 := Lib.hid hb; clear hb)
  go_loopw [3, 7] (fun v x wr => ∃ k : Nat, x = .int .i64 (k : Int) ∧ k ≤ N ∧ wr.ownsRow w.heap.size 3 1 v (rootsTo T k).length (ivs (rootsTo T k)) ∧ Below w.heap.size w wr) (fun v x _ => N - (intOf x).toNat)
  case atStart => exact ⟨0, rfl, Nat.zero_le _, World.ownsRow_nil _ _ _ _, HB1.out⟩
  case round =>
    obtain ⟨k, rfl, hk, hr, hb⟩ := hrel
    have RR := Lib.hid hr
    have HB := Lib.hid hb
    have hl := rootsTo_len T k
    obtain ⟨a, c, rfl⟩ := Sep.ownsRow_shape hr
    by_cases hlt : k < N
    · have FK := Lib.hid (FR.out k _ hb)
      rw [EF.out k] at FK
      have hkN : (k : Int) < (N : Int) := by omega
      cases hf : freeAt T k with
      | true =>
        rw [hf] at FK
        have RS := Lib.hid (show rootsTo T (k + 1) = rootsTo T k ++ [(k : Int)] by rw [rootsTo_succ, if_pos hf])
        have R2 := Lib.hid (show ∀ w2, Below wr.heap.size wr w2 → Below w.heap.size w w2 ∧ (w2.alloc (.cells #[.int .i64 (k : Int)] 3)).ownsRow w.heap.size 3 1 (.slice a (rootsTo T k).length c) (rootsTo T k).length (ivs (rootsTo T k)) ∧
            (w2.alloc (.cells #[.int .i64 (k : Int)] 3)).ownsRow w.heap.size 3 1 (.slice (some ⟨w2.heap.size, 0, none⟩) 1 1) 1 [.int .i64 (k : Int)] ∧ w.heap.size ≤ (w2.alloc (.cells #[.int .i64 (k : Int)] 3)).heap.size from fun w2 hb2 => by
          have h1 := Gr.step HB.out hb2
          exact ⟨h1, (ownsRow_at RR.out fun g hg => hb2.block g (RR.out.lt g hg).2).alloc _, World.ownsRow_lit (base := w.heap.size) (e := 3) (size := 1) w2 #[.int .i64 (k : Int)] 1 h1.size (by decide) (by simp), by rw [World.size_alloc]; have := h1.size; omega⟩)
        clear hr hb hf
        go_wp2_with (first
          | (go_at_call 20; refine FK.out.mono ?_; rintro e w2 ⟨rfl, hb2⟩; obtain ⟨h2, r3, on, hs2⟩ := R2.out w2 hb2; have H2 := Lib.hid h2; have R3 := Lib.hid r3; have ON := Lib.hid on; clear hb2 h2 r3 on)
          | (at_builtin; refine Rw.wpList_append_rows _ rfl _ _ 25 rfl w.heap.size 3 i0 (.int .i64 0) 1 8 Try.underlying25 hi hz0 hz1 hz2 rfl (by decide) (.slice a (rootsTo T k).length c) (rootsTo T k).length (ivs (rootsTo T k)) rfl R3.out w.heap.size (.slice (some ⟨w2.heap.size, 0, none⟩) 1 1) 1 [.int .i64 (k : Int)] rfl ON.out (by simp [Value.oneCell']) (by unfold maxLen; omega) (by omega) hs2 ?_; intro v4 w4 hown4 hg4 hloc4; have O4 := Lib.hid hown4; have H4 := Lib.hid ((Gr.step H2.out (boxed w2 (.cells #[.int .i64 (k : Int)] 3))).grown hg4 hs2 fun g hg => (R3.out.lt g hg).1); clear hown4 hg4 hloc4))
        go_roundw
        case rel => exact ⟨k + 1, by go_num, by omega, by rw [RS.out, List.length_append, List.length_singleton, show ivs (rootsTo T k ++ [(k : Int)]) = ivs (rootsTo T k) ++ [.int .i64 (k : Int)] by simp [ivs, iv]]; exact O4.out, H4.out⟩
        case measure => first | (simp [intOf]; omega) | omega
      | false =>
        rw [hf] at FK
        have RS := Lib.hid (show rootsTo T (k + 1) = rootsTo T k by rw [rootsTo_succ, if_neg (by simp [hf]), List.append_nil])
        clear hr hb hf
        go_wp2_with (go_at_call 20; refine FK.out.mono ?_; rintro e w2 ⟨rfl, hb2⟩; have H2 := Lib.hid (Gr.step HB.out hb2); have R3 := Lib.hid (ownsRow_at RR.out fun g hg => hb2.block g (RR.out.lt g hg).2); clear hb2)
        go_roundw
        case rel => exact ⟨k + 1, by go_num, by omega, by rw [RS.out]; exact R3.out, H2.out⟩
        case measure => first | (simp [intOf]; omega) | omega
    · obtain rfl : k = N := by omega
      clear hr hb
      go_wp2
      go_ret
      rw [RE.out]
      exact ⟨a, c, rfl, .of_row RR.out, Gr.row_new RR.out (Nat.le_refl _), HB.out⟩

/-! ### Node -/

def nodeP (T : List Nd) (i : Int) : Nd := if inP T i then ndAt T i.toNat else ⟨0, 0, 0, [], false, false⟩
/-- How a node comes back. -/
def NodeGave (n : Nd) (b : Bool) (w : World) (e : Ending) (w' : World) : Prop :=
  ∃ a c, e = .returned (.tuple #[.agg #[.int .i64 n.sym, .int .i64 n.leaf, .int .i64 n.rule, .slice a n.kids.length c], .bool b]) ∧ Reads a (ivs n.kids) w' ∧ n.kids.length ≤ 1000 ∧ Below w.heap.size w w'

set_option maxHeartbeats 4000000 in
set_option maxRecDepth 100000 in
theorem node_o (h : TrO pv S K L w) (i : Int) : Calls Try.prog 11 #[pv, .int .i64 i] w (NodeGave (nodeP (L.map Prod.fst) i) (inP (L.map Prod.fst) i) w) := by
  have B0 := boxed w (.cells #[.int .i64 0, .int .i64 0, .int .i64 0, .slice none 0 0] 35)
  have HS := Lib.hid (has_o (h.went B0) i)
  unfold nodeP
  cases hi : inP (L.map Prod.fst) i with
  | false =>
    rw [hi] at HS
    obtain ⟨pa, rfl⟩ := h.ptr
    have Q0 := Lib.hid (Bk.new w #[.int .i64 0, .int .i64 0, .int .i64 0, .slice none 0 0] 35 _ rfl)
    have HB0 := Lib.hid B0
    clear h hi B0
    simp only [Bool.false_eq_true, if_false]
    go_enter Try.func11, Try.ntmps11
    go_wp2_with (go_at_call 22; refine HS.out.mono ?_; rintro e w2 ⟨rfl, hb2⟩; have Q2 := Q0.out.went hb2; obtain ⟨q0, q1, q2, q3, q4⟩ := Q2.four; have f0 := q4 0; have f1 := q4 1; have f2 := q4 2; have f3 := q4 3; have H2 := Lib.hid (Gr.step HB0.out hb2); clear hb2 Q2 q4)
    have F := Lib.hid (Rw.fr_set4 w2 w.heap.size (.int .i64 0) (.int .i64 0) (.int .i64 0) (.slice none 0 0))
    refine bodyPost_ret (v := .tuple #[.agg #[.int .i64 0, .int .i64 0, .int .i64 0, .slice none 0 0], .bool false]) (by simp [results, Try.results11, go_sem, q0, q1, q2, q3]) rfl ?_
    exact ⟨none, 0, rfl, .nil _ _, Nat.zero_le _, H2.out.trans (F.out.below (fun k e => by subst e; exact Nat.le_refl _) H2.out.size)⟩
  | true =>
    obtain ⟨j, rfl, hj⟩ := inP_iff.1 hi
    rw [hi] at HS
    have hjl : j < L.length := by simpa using hj
    simp only [if_true, Int.toNat_natCast]
    rw [ndAt_get hj, List.getElem_map]
    rcases h with ⟨_, rfl, _⟩ | ⟨p, v, rfl, h⟩
    · cases hjl
    have hn := h.few
    have hkid := h.kids L[j] (List.getElem_mem hjl)
    obtain ⟨a2, c2, hkv, hr2, -⟩ := hkid.at_
    have hfew := hkid.few
    have HC := Lib.hid (fun w1 (hb : Below w.heap.size w w1) => (h.went hb).cell)
    obtain ⟨g, c, rfl, x0, x1, x2, x3, -, -, -⟩ := h.at hjl
    rw [hkv] at x3
    have HX := Lib.hid (fun w1 (hb : Below w.heap.size w w1) => (⟨cell_later hb x0, cell_later hb x1, cell_later hb x2, cell_later hb x3⟩ : _ ∧ _ ∧ _ ∧ _))
    have HR := Lib.hid (fun w1 (hb : Below w.heap.size w w1) => clone_any a2 L[j].1.kids c2 w1 (hr2.below hb (Nat.le_refl _)) (by omega))
    have Q0 := Lib.hid (Bk.new w #[.int .i64 0, .int .i64 0, .int .i64 0, .slice none 0 0] 35 _ rfl)
    have HB0 := Lib.hid B0
    have hj2 : (j : Int) < (L.length : Int) := by omega
    clear h hi B0 x0 x1 x2 x3 hkid hkv hr2
    generalize L[j].1 = n at *
    clear hj hjl
    generalize L.length = N at *
    go_enter Try.func11, Try.ntmps11
    go_wp2_with (go_at_call 22; refine HS.out.mono ?_; rintro e w2 ⟨rfl, hb2⟩; have Q2 := Lib.hid (Q0.out.went hb2); have h2 := Gr.step HB0.out hb2; have H2 := Lib.hid h2; have k0 := HC.out _ h2; obtain ⟨k1, k2, k3, k4⟩ := HX.out _ h2; clear hb2 h2)
    go_wp2_with fail
    have hb3 := boxed w2 (.cells #[.int .i64 n.sym, .int .i64 n.leaf, .int .i64 n.rule, .slice a2 n.kids.length c2] 35)
    have Q6 := Lib.hid (Bk.new w2 #[.int .i64 n.sym, .int .i64 n.leaf, .int .i64 n.rule, .slice a2 n.kids.length c2] 35 _ rfl)
    have H3 := Lib.hid (Gr.step H2.out hb3)
    refine (HR.out _ H3.out).mono ?_
    rintro e w4 ⟨a3, c3, rfl, hr4, hn4, hb4⟩
    have Q2' := (Q2.out.went hb3).went hb4
    have Q6' := Q6.out.went hb4
    have hlt2 : w2.heap.size < w4.heap.size := Q6'.lt
    have hlt0 : w.heap.size < w2.heap.size := Q2.out.lt
    obtain ⟨q0, q1, q2, q3, qf⟩ := Q2'.four
    have f0 := qf 0
    have f1 := qf 1
    have f2 := qf 2
    have f3 := qf 3
    obtain ⟨r0, r1, r2, r3, rf⟩ := Q6'.four
    have f4 := rf 3
    have hne : ¬ w.heap.size = w2.heap.size := by omega
    have hne' : ¬ w2.heap.size = w.heap.size := by omega
    have EN := Lib.hid (show ∀ u0 u1 u2 u3 u4, NodeGave n true w (.returned (.tuple #[.agg #[.int .i64 n.sym, .int .i64 n.leaf, .int .i64 n.rule, .slice a3 n.kids.length c3], .bool true])) (((((w4.setCell ⟨w2.heap.size, 3, none⟩ u4).setCell ⟨w.heap.size, 0, none⟩ u0).setCell ⟨w.heap.size, 1, none⟩ u1).setCell ⟨w.heap.size, 2, none⟩ u2).setCell ⟨w.heap.size, 3, none⟩ u3) from fun u0 u1 u2 u3 u4 => by
      have hF : Fr (fun k => k = w2.heap.size ∨ k = w.heap.size) w4 (((((w4.setCell ⟨w2.heap.size, 3, none⟩ u4).setCell ⟨w.heap.size, 0, none⟩ u0).setCell ⟨w.heap.size, 1, none⟩ u1).setCell ⟨w.heap.size, 2, none⟩ u2).setCell ⟨w.heap.size, 3, none⟩ u3) :=
        (((((Fr.refl (fun k => k = w2.heap.size ∨ k = w.heap.size) w4).setCell ⟨w2.heap.size, 3, none⟩ (.inl rfl) u4).setCell ⟨w.heap.size, 0, none⟩ (.inr rfl) u0).setCell ⟨w.heap.size, 1, none⟩ (.inr rfl) u1).setCell ⟨w.heap.size, 2, none⟩ (.inr rfl) u2).setCell ⟨w.heap.size, 3, none⟩ (.inr rfl) u3
      refine ⟨a3, c3, rfl, reads_fr hr4 hF fun b o e _ => ?_, hfew, (Gr.step H3.out hb4).trans (hF.below (fun k e => by omega) (by have := (Gr.step H3.out hb4).size; omega))⟩
      have := hn4 _ e
      rw [World.size_alloc] at this
      simp only at this
      omega)
    clear Q2' Q6' qf rf hr4 hn4 hb4 hb3 Q2 Q6 H3 HR HX HC
    go_wp2_with fail
    refine bodyPost_ret (v := .tuple #[.agg #[.int .i64 n.sym, .int .i64 n.leaf, .int .i64 n.rule, .slice a3 n.kids.length c3], .bool true]) (by simp [results, Try.results11, go_sem, q0, q1, q2, q3, hne]) rfl ?_
    exact EN.out _ _ _ _ _
end
end Go.Proofs.Ytoohnkffclkmhaa.Tr
