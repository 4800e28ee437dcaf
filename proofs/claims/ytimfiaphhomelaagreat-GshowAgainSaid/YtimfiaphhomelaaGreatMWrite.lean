/-
  gshow's rules. Conditions: at most 2^40 bytes.
  A strings.Builder that a call has made itself: what is written into it, and what it holds. Conditions: at most 2^47 bytes.
  gshow's joined and names: texts one behind the other; a blank and the name for each symbol. Conditions: at most 2^40 bytes.
  gshow's Rule. Conditions: at most 2^40 bytes.
  gshow's declarations. Conditions: at most 2^40 bytes.
-/
import Derived.Test.YtimfiaphhomelaaGreatGramAt
import Derived.Test.YtimfiaphhomelaaGreatGshowPlain
import Derived.Test.YtimfiaphhomelaaGreatShelf
import Derived.Shelf.Strings.BuilderF
import Derived.Test.YtimfiaphhomelaaGreatGramName
namespace Go.Proofs.YtimfiaphhomelaaGreat.Sw
open Go.RowKit Go.Maps
set_option linter.unusedVariables false
set_option linter.unusedSimpArgs false

/-- A builder that holds these bytes. -/
def Bd (b : Nat) (l : List UInt8) (w : World) : Prop := Lib.IsBuilderF 70 5 b b (Lib.byteCells l) w

theorem Bd.lt {b : Nat} {l : List UInt8} {w : World} (h : Bd b l w) : b < w.heap.size := by
  rcases h with h | h <;> exact h.lt

/-- As it is made. -/
theorem Bd.new (w : World) : Bd w.heap.size [] (w.alloc (.cells #[.pointer none, .slice none 0 0] 70)) :=
  .inl ⟨Nat.le_refl _, .slice none 0 0, heap_alloc_new w _, World.ownsRowF_nil _ _ _ _, by simp [Value.ownBlock]⟩

theorem row_keep {B n : Nat} {v : Value} {xs : List Value} {w w' : World} (h : w.ownsRowF B 5 1 v n xs) (hb : Below w.heap.size w w') : w'.ownsRowF B 5 1 v n xs := by
  refine ⟨h.1, ?_⟩
  rcases h.2 with h2 | ⟨g, cap, cur, fz, e, h1, h2, h3⟩
  · exact .inl h2
  · have hg : g < w.heap.size := (Array.getElem?_eq_some_iff.1 h2).1
    exact .inr ⟨g, cap, cur, fz, e, h1, (hb.block g hg).trans h2, h3⟩
/-- It stays while only new blocks are made. -/
theorem Bd.went {b : Nat} {l : List UInt8} {w w' : World} (h : Bd b l w) (hb : Below w.heap.size w w') : Bd b l w' := by
  have one : ∀ p, Lib.BuilderAtF 70 5 b b p (Lib.byteCells l) w → Lib.BuilderAtF 70 5 b b p (Lib.byteCells l) w' := fun p ⟨h1, v, h2, h3, h4⟩ => by
    have hl : b < w.heap.size := (Array.getElem?_eq_some_iff.1 h2).1
    exact ⟨h1, v, (hb.block b hl).trans h2, row_keep h3 hb, h4⟩
  rcases h with h | h
  · exact .inl (one _ h)
  · exact .inr (one _ h)

theorem size_b : ∃ i, Tryz.prog.info? 70 = some i ∧ i.size = 2 := Option.map_eq_some_iff.1 (show (Tryz.prog.info? 70).map (·.size) = some 2 by kernel_rfl)
theorem info_u : (Tryz.prog.info? 5).map (fun i => (i.zero, i.size, i.bytes)) = some (some (.int .u8 0), 1, 1) := by kernel_rfl

set_option maxHeartbeats 1000000 in
set_option maxRecDepth 100000 in
theorem check_used (b : Nat) (w : World) (h0 : w.cell? ⟨b, 0, none⟩ = some (.pointer (some ⟨b, 0, none⟩))) :
    Calls Tryz.prog 74 #[.pointer (some ⟨b, 0, none⟩)] w fun e w' => e = .returned (.tuple #[]) ∧ w' = w := by
  obtain ⟨j, hj, _⟩ := size_b
  go_enter Tryz.func74, Tryz.ntmps74
  go_wp2
  rw [Lib.run_neq_ptr_same w _ Tryz.underlying67 hj]
  go_wp2
  go_end0
  exact ⟨rfl, rfl⟩

set_option maxHeartbeats 1000000 in
set_option maxRecDepth 100000 in
theorem check_fresh (b : Nat) (w : World) (h0 : w.cell? ⟨b, 0, none⟩ = some (.pointer none)) (hsh : w.shape? b = some (70, 2)) (hfz : w.frozen? ⟨b, 0, none⟩ = false) :
    Calls Tryz.prog 74 #[.pointer (some ⟨b, 0, none⟩)] w fun e w' => e = .returned (.tuple #[]) ∧ w' = w.setCell ⟨b, 0, none⟩ (.pointer (some ⟨b, 0, none⟩)) := by
  obtain ⟨j, hj, hjs⟩ := size_b
  go_enter Tryz.func74, Tryz.ntmps74
  go_wp2
  rw [Lib.run_to_unsafe w ⟨b, 0, none⟩ Tryz.underlying67 Tryz.underlying134 hj (by rw [hjs]; decide) hsh (Nat.zero_lt_succ 1)]
  simp only [Result.andThen]
  rw [Oper.upon_value]
  go_wp2
  rw [run_callFunc_extern Tryz.func102 (by kernel_rfl) (by kernel_rfl) (by kernel_rfl) (e := Extern.AbiNoEscape.same) (by kernel_rfl)]
  rw [Lib.run_noEscape]
  simp only [Result.andThen]
  rw [Oper.upon_value]
  go_wp2
  rw [Lib.run_from_unsafe w ⟨b, 0, none⟩ Tryz.underlying134 Tryz.underlying67 hj hsh (by kernel_rfl)]
  simp only [Result.andThen]
  rw [Oper.upon_value]
  go_wp2
  go_end0
  exact ⟨rfl, rfl⟩

/-- What comes back when bytes are written. -/
def Wrote (b : Nat) (l : List UInt8) (n : Nat) (w : World) (e : Ending) (w' : World) : Prop := e = .returned (.tuple #[.int .i64 n, .nilIface]) ∧ Bd b l w' ∧ Below b w w'

theorem check_any (b : Nat) (l : List UInt8) (w : World) (h : Bd b l w) : Calls Tryz.prog 74 #[.pointer (some ⟨b, 0, none⟩)] w fun e w' => e = .returned (.tuple #[]) ∧ Lib.BuilderAtF 70 5 b b (.pointer (some ⟨b, 0, none⟩)) (Lib.byteCells l) w' ∧ Below b w w' := by
  rcases h with h | h
  · refine (check_fresh b w h.cell0 h.shape h.frozen0).mono ?_
    rintro e w' ⟨rfl, rfl⟩
    exact ⟨rfl, h.used _, (Below.refl b w).setCell (p := ⟨b, 0, none⟩) (Nat.le_refl _) _⟩
  · refine (check_used b w h.cell0).mono ?_
    rintro e w' ⟨rfl, rfl⟩
    exact ⟨rfl, h, Below.refl b _⟩

set_option maxHeartbeats 2000000 in
set_option maxRecDepth 100000 in
theorem write_any (b : Nat) (l : List UInt8) (s : ByteArray) (w : World) (h : Bd b l w) (hlen : l.length + s.size ≤ 140737488355328) :
    Calls Tryz.prog 47 #[.pointer (some ⟨b, 0, none⟩), .string s] w (Wrote b (l ++ s.data.toList) s.size w) := by
  obtain ⟨i0, hi, hz0, hz1, hz2⟩ := info_parts info_u
  have hbl := h.lt
  have CK := Lib.hid (check_any b l w h)
  clear h
  go_enter Tryz.func47, Tryz.ntmps47
  go_wp2_with (go_at_call 74; refine CK.out.mono ?_)
  rintro e w1 ⟨rfl, h1, hb1⟩
  obtain ⟨hB, v, hbk, hown, hne⟩ := h1
  have c0 : w1.cell? ⟨b, 0, none⟩ = some (.pointer (some ⟨b, 0, none⟩)) := by rw [Lib.cell_of_heap hbk]; rfl
  have c1 : w1.cell? ⟨b, 1, none⟩ = some v := by rw [Lib.cell_of_heap hbk]; rfl
  have hlt : b < w1.heap.size := (Array.getElem?_eq_some_iff.1 hbk).1
  have hlen2 : (Lib.byteCells l).length + s.size ≤ 140737488355328 := by rw [Lib.byteCells_length]; exact hlen
  go_wp2_with (at_builtin; refine Lib.wpList_append_own_stringF _ rfl _ _ 68 9 rfl b 5 i0 Tryz.underlying68 Tryz.underlying9 hi hz0 hz1 hz2 _ _ _ rfl hown s rfl ?c3 ?c4 ?c5 ?_)
  case c3 => unfold maxLen; omega
  case c4 => omega
  case c5 => omega
  intro v' w2 hown' hgrow _
  have hb2 : w2.heap[b]? = some (.cells #[.pointer (some ⟨b, 0, none⟩), v] 70 (0, 0)) := by
    rw [hgrow.block b hlt (fun e => hne e.symm)]
    exact hbk
  have d0 : w2.cell? ⟨b, 0, none⟩ = some (.pointer (some ⟨b, 0, none⟩)) := by rw [Lib.cell_of_heap hb2]; rfl
  have d1 : w2.cell? ⟨b, 1, none⟩ = some v := by rw [Lib.cell_of_heap hb2]; rfl
  have f1 : w2.frozen? ⟨b, 1, none⟩ = false := Lib.frozen_of_heap hb2 1
  obtain ⟨ao, n', cap, rfl⟩ : ∃ ao n' cap, v' = .slice ao n' cap := by
    rcases hown'.2 with ⟨hv, _⟩ | ⟨g, cap, cur, fz, hv, _⟩
    · exact ⟨_, _, _, hv⟩
    · exact ⟨_, _, _, hv⟩
  go_wp2
  go_ret2
  refine ⟨rfl, .inr ?_, ?_⟩
  · have hx : Lib.byteCells (l ++ s.data.toList) = Lib.byteCells l ++ Lib.strCells s := by rw [Lib.strCells_eq, Lib.byteCells_append]
    rw [hx]
    exact Lib.BuilderAtF.put (T := 70) (e := 5) hB hb2 (bs' := Lib.byteCells l ++ Lib.strCells s) (by simpa [Lib.strCells_length] using hown') (by decide)
  · exact (hb1.grown hgrow (by have := hb1.size; omega) (fun k hk => (hown.lt k hk).1)).setCell (p := ⟨b, 1, none⟩) hB _

/-- What it holds comes back. -/
def Holds (b : Nat) (l : List UInt8) (w : World) (e : Ending) (w' : World) : Prop := e = .returned (.string (str l)) ∧ Below b w w'
theorem string_any (b : Nat) (l : List UInt8) (w : World) (h : Bd b l w) : Calls Tryz.prog 48 #[.pointer (some ⟨b, 0, none⟩)] w (Holds b l w) :=
  (Tryz.Builder_String_any_f b b l w h (Nat.le_of_lt h.lt)).mono fun e w' ⟨h1, _, h2⟩ => ⟨h1, h2⟩

end Go.Proofs.YtimfiaphhomelaaGreat.Sw

namespace Go.Proofs.YtimfiaphhomelaaGreat.Sw
open Go.RowKit Go.Maps
open Go.Proofs.YtimfiaphhomelaaGreat.Gr (Gram GAt Sh gv Is Bx)
set_option linter.unusedVariables false
set_option linter.unusedSimpArgs false

theorem join_flat (xs : List (List UInt8)) : Lib.join xs [] = xs.flatten := by
  cases xs with
  | nil => rfl
  | cons x r =>
    rw [Lib.join_cons]
    unfold Lib.joinTail
    simp

/-- Texts in a slice, one behind the other. -/
theorem joined_any (bk o c : Nat) (xs : List ByteArray) (w : World) (hcells : ∀ (j : Nat) x, xs[j]? = some x → w.cell? ⟨bk, o + j, none⟩ = some (.string x)) (hbk : bk < w.heap.size) (hN : xs.length ≤ 100) (hcap : xs.length ≤ c) (hlen : ((xs.map (·.data.toList)).flatten).length ≤ 140737488355328) :
    Calls Tryz.prog 22 #[.slice (some ⟨bk, o, none⟩) xs.length c] w (Is (.string (str (xs.map (·.data.toList)).flatten)) w) := by
  have J := Lib.hid (Tryz.strings_Join bk o c xs ⟨#[]⟩ w hcells hbk (by omega) hcap (by show (Lib.join _ []).length ≤ _; rw [join_flat]; exact hlen))
  have hr : (⟨(Lib.join (xs.map (·.data.toList)) (⟨#[]⟩ : ByteArray).data.toList).toArray⟩ : ByteArray) = str (xs.map (·.data.toList)).flatten := by
    show (⟨(Lib.join (xs.map (·.data.toList)) []).toArray⟩ : ByteArray) = _
    rw [join_flat]
    rfl
  rw [hr] at J
  generalize str (xs.map (·.data.toList)).flatten = S at *
  clear hr hcells hbk hlen
  generalize xs.length = n at *
  go_enter Tryz.func22, Tryz.ntmps22
  go_wp2_with (go_at_call 46; refine J.out.mono ?_; rintro e w1 ⟨rfl, hb⟩)
  go_ret
  exact ⟨rfl, hb⟩

/-- Names stand for themselves. -/
theorem nm_str (G : Gram) (x : Int) : str (nmL G x) = Gr.nameS G x := str_of _

theorem right_mono (G : Gram) (l : List Int) (k : Nat) : (rightL G (l.take k)).length ≤ (rightL G l).length := by
  have h : rightL G l = rightL G (l.take k) ++ rightL G (l.drop k) := by
    unfold rightL
    rw [← List.flatMap_append, List.take_append_drop]
  rw [h, List.length_append]
  omega

set_option maxHeartbeats 4000000 in
set_option maxRecDepth 100000 in
theorem names_any (h : Sh) (G : Gram) (l : List Int) (ra : Option Addr) (rc : Nat) (w : World) (k : GAt h G w) (hl : Sep.Reads ra (l.map (.int .i64)) w) (hn : l.length ≤ 17592186044416) (hlen : (rightL G l).length ≤ 1099511627776) :
    Calls Tryz.prog 38 #[gv h G, .slice ra l.length rc] w (Is (.string (str (rightL G l))) w) := by
  have X := Lib.hid (Bx.start h G w 25)
  have HB := Lib.hid (Bd.new (w.alloc (.cells #[.slice h.a1 G.terms.length h.c1, .slice h.a2 G.nons.length h.c2, .slice h.a3 G.rules.length h.c3, .int .i64 G.start] 25)))
  have K := Lib.hid k
  have HL := Lib.hid hl
  have HM := Lib.hid hlen
  clear k hl hlen
  unfold gv
  go_enter Tryz.func38, Tryz.ntmps38
  go_wp2
  have HF := Lib.hid (show Below w.heap.size w ((w.alloc (.cells #[.slice h.a1 G.terms.length h.c1, .slice h.a2 G.nons.length h.c2, .slice h.a3 G.rules.length h.c3, .int .i64 G.start] 25)).alloc (.cells #[.pointer none, .slice none 0 0] 70)) from Gr.step X.out.below (Gr.boxed _ _))
  have XB := Lib.hid (X.out.alloc (.cells #[.pointer none, .slice none 0 0] 70)).box
  have hsz : (w.alloc (.cells #[.slice h.a1 G.terms.length h.c1, .slice h.a2 G.nons.length h.c2, .slice h.a3 G.rules.length h.c3, .int .i64 G.start] 25)).heap.size = w.heap.size + 1 := by simp
  rw [hsz] at HB
  clear X hsz
  generalize (w.alloc (.cells #[.slice h.a1 G.terms.length h.c1, .slice h.a2 G.nons.length h.c2, .slice h.a3 G.rules.length h.c3, .int .i64 G.start] 25)).alloc (.cells #[.pointer none, .slice none 0 0] 70) = W2 at *
  go_loopw [10] (fun i wr => ∃ k, k ≤ l.length ∧ i = .int .i64 (k : Int) ∧ Bd (w.heap.size + 1) (rightL G (l.take k)) wr ∧ Below (w.heap.size + 1) W2 wr) (fun i _ => l.length - (intOf i).toNat)
  case atStart => exact ⟨0, Nat.zero_le _, rfl, HB.out, Below.refl _ _⟩
  case round =>
    obtain ⟨k, hk, rfl, hbd, hbel⟩ := hrel
    have BD := Lib.hid hbd
    have BL := Lib.hid hbel
    have B0 := Lib.hid (show Below w.heap.size w wr from HF.out.trans (hbel.mono (Nat.le_succ _)))
    clear hbd hbel
    by_cases hlt : k < l.length
    · have hx := right_take (G := G) hlt
      have hle := right_mono G l (k + 1)
      have hM := HM.out
      rw [hx, List.length_append] at hle
      have hle2 : (rightL G (l.take k)).length + (nmL G l[k]).length + 1 ≤ 1099511627776 := by simp at hle; omega
      have he : (Gr.nameS G l[k]).size = (nmL G l[k]).length := by unfold nmL; simp
      have W1 := Lib.hid (write_any (w.heap.size + 1) (rightL G (l.take k)) ⟨#[32]⟩ wr BD.out (by show _ + 1 ≤ _; omega))
      have NM := Lib.hid (fun w' (b : Below w.heap.size w w') => Gr.name_any h G l[k] w' (K.out.went b))
      have W3 := Lib.hid (fun w' (b : Bd (w.heap.size + 1) (rightL G (l.take k) ++ [32]) w') => write_any (w.heap.size + 1) (rightL G (l.take k) ++ [32]) (Gr.nameS G l[k]) w' b (by rw [List.length_append, he]; show _ + 1 + _ ≤ _; omega))
      have HX := Lib.hid hx
      obtain ⟨b0, o0, e, hc⟩ := (HL.out.below B0.out (Nat.le_refl _)) k (by simpa using hlt)
      subst e
      simp only [List.getElem_map] at hc
      clear hx hle hM hle2 he
      generalize l[k] = x at *
      go_wp2_with (first
        | (go_at_call 47; ((with_reducible refine W1.out.mono ?_)); rintro e w1 ⟨rfl, hd1, hb1⟩; have D1 := Lib.hid hd1; have L1 := Lib.hid (BL.out.trans hb1); have B1 := Lib.hid (B0.out.trans (hb1.mono (Nat.le_succ _))); (obtain ⟨x0, x1, x2, x3⟩ := (show Gr.Box w.heap.size h G w1 from ⟨(L1.out.cell (p := ⟨w.heap.size, 0, none⟩) (Nat.lt_succ_self _)).trans XB.out.x0, (L1.out.cell (p := ⟨w.heap.size, 1, none⟩) (Nat.lt_succ_self _)).trans XB.out.x1, (L1.out.cell (p := ⟨w.heap.size, 2, none⟩) (Nat.lt_succ_self _)).trans XB.out.x2, (L1.out.cell (p := ⟨w.heap.size, 3, none⟩) (Nat.lt_succ_self _)).trans XB.out.x3⟩)); clear hd1 hb1)
        | (go_at_call 37; refine (NM.out _ B1.out).mono ?_; rintro e w2 ⟨rfl, hb2⟩; have D2 := Lib.hid (D1.out.went hb2); have L2 := Lib.hid (L1.out.trans (hb2.mono (Nat.le_of_lt D1.out.lt))); clear hb2)
        | (go_at_call 47; ((with_reducible refine (W3.out _ D2.out).mono ?_)); rintro e w3 ⟨rfl, hd3, hb3⟩; have D3 := Lib.hid hd3; have L3 := Lib.hid (L2.out.trans hb3); clear hd3 hb3)
        | fail)
      go_round
      case rel => exact ⟨k + 1, by omega, by go_num, by rw [HX.out]; have := D3.out; rw [List.append_assoc] at this; exact this, L3.out⟩
      case measure => simp [intOf]; omega
    · obtain rfl : k = l.length := by omega
      have BD2 := Lib.hid (string_any _ _ _ BD.out)
      rw [List.take_length] at BD2
      clear hlt hk
      go_wp2_with (go_at_call 48; refine BD2.out.mono ?_; rintro e w1 ⟨rfl, hb⟩)
      go_ret
      exact ⟨rfl, B0.out.trans (hb.mono (Nat.le_succ _))⟩

end Go.Proofs.YtimfiaphhomelaaGreat.Sw

namespace Go.Proofs.YtimfiaphhomelaaGreat.Sw
open Go.RowKit Go.Maps
open Go.Proofs.YtimfiaphhomelaaGreat.Gr (Gram GAt Sh gv Is Bx)
set_option linter.unusedVariables false
set_option linter.unusedSimpArgs false

/-- Texts just put into a slice, one behind the other. -/
theorem joined_two (a b : ByteArray) (w : World) (hlen : (a.data.toList ++ b.data.toList).length ≤ 140737488355328) :
    Calls Tryz.prog 22 #[.slice (some ⟨w.heap.size, 0, none⟩) 2 2] (w.alloc (.cells #[.string a, .string b] 9)) (Is (.string (str (a.data.toList ++ b.data.toList))) (w.alloc (.cells #[.string a, .string b] 9))) := by
  have := joined_any w.heap.size 0 2 [a, b] (w.alloc (.cells #[.string a, .string b] 9)) (fun j x hx => by
    have hj : j < 2 := by simpa using (List.getElem?_eq_some_iff.1 hx).1
    have : j = 0 ∨ j = 1 := by omega
    rcases this with rfl | rfl <;> (simp at hx; subst hx; exact Gr.cell_new rfl rfl)) (by simp) (by simp) (Nat.le_refl _) (by simpa using hlen)
  simpa using this
theorem joined_three (a b c : ByteArray) (w : World) (hlen : (a.data.toList ++ (b.data.toList ++ c.data.toList)).length ≤ 140737488355328) :
    Calls Tryz.prog 22 #[.slice (some ⟨w.heap.size, 0, none⟩) 3 3] (w.alloc (.cells #[.string a, .string b, .string c] 9)) (Is (.string (str (a.data.toList ++ (b.data.toList ++ c.data.toList)))) (w.alloc (.cells #[.string a, .string b, .string c] 9))) := by
  have := joined_any w.heap.size 0 3 [a, b, c] (w.alloc (.cells #[.string a, .string b, .string c] 9)) (fun j x hx => by
    have hj : j < 3 := by simpa using (List.getElem?_eq_some_iff.1 hx).1
    have : j = 0 ∨ j = 1 ∨ j = 2 := by omega
    rcases this with rfl | rfl | rfl <;> (simp at hx; subst hx; exact Gr.cell_new rfl rfl)) (by simp) (by simp) (Nat.le_refl _) (by simpa using hlen)
  simpa using this
theorem joined_four (a b c d : ByteArray) (w : World) (hlen : (a.data.toList ++ (b.data.toList ++ (c.data.toList ++ d.data.toList))).length ≤ 140737488355328) :
    Calls Tryz.prog 22 #[.slice (some ⟨w.heap.size, 0, none⟩) 4 4] (w.alloc (.cells #[.string a, .string b, .string c, .string d] 9)) (Is (.string (str (a.data.toList ++ (b.data.toList ++ (c.data.toList ++ d.data.toList))))) (w.alloc (.cells #[.string a, .string b, .string c, .string d] 9))) := by
  have := joined_any w.heap.size 0 4 [a, b, c, d] (w.alloc (.cells #[.string a, .string b, .string c, .string d] 9)) (fun j x hx => by
    have hj : j < 4 := by simpa using (List.getElem?_eq_some_iff.1 hx).1
    have : j = 0 ∨ j = 1 ∨ j = 2 ∨ j = 3 := by omega
    rcases this with rfl | rfl | rfl | rfl <;> (simp at hx; subst hx; exact Gr.cell_new rfl rfl)) (by simp) (by simp) (Nat.le_refl _) (by simpa using hlen)
  simpa using this

/-- Six cells that stay. -/
def SixC (w : World) (p1 p2 p3 p4 p5 p6 : Addr) (v1 v2 v3 v4 v5 v6 : Value) : Prop :=
  ∀ w', Below w.heap.size w w' → w'.cell? p1 = some v1 ∧ w'.cell? p2 = some v2 ∧ w'.cell? p3 = some v3 ∧ w'.cell? p4 = some v4 ∧ w'.cell? p5 = some v5 ∧ w'.cell? p6 = some v6 ∧ Below w.heap.size w w'
theorem sixC {w : World} {p1 p2 p3 p4 p5 p6 : Addr} {v1 v2 v3 v4 v5 v6 : Value} (h1 : w.cell? p1 = some v1) (h2 : w.cell? p2 = some v2) (h3 : w.cell? p3 = some v3) (h4 : w.cell? p4 = some v4) (h5 : w.cell? p5 = some v5) (h6 : w.cell? p6 = some v6) :
    SixC w p1 p2 p3 p4 p5 p6 v1 v2 v3 v4 v5 v6 :=
  fun _ hb => ⟨Gr.cell_later hb h1, Gr.cell_later hb h2, Gr.cell_later hb h3, Gr.cell_later hb h4, Gr.cell_later hb h5, Gr.cell_later hb h6, hb⟩

set_option maxHeartbeats 4000000 in
set_option maxRecDepth 100000 in
theorem rule_any (h : Sh) (G : Gram) (r : Int × List Int) (ra : Option Addr) (rc : Nat) (w : World) (k : GAt h G w) (hl : Sep.Reads ra (r.2.map (.int .i64)) w) (hn : r.2.length ≤ 17592186044416) (hlen : (ruleL G r).length ≤ 1099511627776) :
    Calls Tryz.prog 19 #[gv h G, .agg #[.int .i64 r.1, .slice ra r.2.length rc]] w (Is (.string (ruleS G r)) w) := by
  obtain ⟨x, l⟩ := r
  simp only at hl hn
  have X := Lib.hid (Bx.start h G w 25)
  have hl2 : (nmL G x).length + (2 + (rightL G l).length) ≤ 1099511627776 := by
    unfold ruleL at hlen
    simp only [List.length_append] at hlen
    exact hlen
  have NM := Lib.hid (fun w' (b : Below w.heap.size w w') => Gr.name_any h G x w' (k.went b))
  have NS := Lib.hid (fun w' (b : Below w.heap.size w w') => names_any h G l ra rc w' (k.went b) (hl.below b (Nat.le_refl _)) hn (by omega))
  have JJ := Lib.hid (fun w' => joined_three (Gr.nameS G x) ⟨#[32, 58]⟩ (str (rightL G l)) w' (by rw [str_data]; show (nmL G x ++ ([32, 58] ++ rightL G l)).length ≤ _; simp only [List.length_append]; show _ + (2 + _) ≤ _; omega))
  have hR : str ((Gr.nameS G x).data.toList ++ ((⟨#[32, 58]⟩ : ByteArray).data.toList ++ (str (rightL G l)).data.toList)) = ruleS G (x, l) := by
    rw [str_data]
    rfl
  rw [hR] at JJ
  clear k hl hlen hl2 hR
  generalize ruleS G (x, l) = R at *
  generalize str (rightL G l) = S at *
  generalize Gr.nameS G x = nm at *
  unfold gv
  go_enter Tryz.func19, Tryz.ntmps19
  go_upto_region 1 with fail
  have XB := (X.out.alloc (.cells #[.int .i64 x, .slice ra l.length rc] 40)).box
  have hsz : (w.alloc (.cells #[.slice h.a1 G.terms.length h.c1, .slice h.a2 G.nons.length h.c2, .slice h.a3 G.rules.length h.c3, .int .i64 G.start] 25)).heap.size = w.heap.size + 1 := by simp
  have y0 : ((w.alloc (.cells #[.slice h.a1 G.terms.length h.c1, .slice h.a2 G.nons.length h.c2, .slice h.a3 G.rules.length h.c3, .int .i64 G.start] 25)).alloc (.cells #[.int .i64 x, .slice ra l.length rc] 40)).cell? ⟨w.heap.size + 1, 0, none⟩ = some (.int .i64 x) := Gr.cell_new hsz.symm rfl
  have y1 : ((w.alloc (.cells #[.slice h.a1 G.terms.length h.c1, .slice h.a2 G.nons.length h.c2, .slice h.a3 G.rules.length h.c3, .int .i64 G.start] 25)).alloc (.cells #[.int .i64 x, .slice ra l.length rc] 40)).cell? ⟨w.heap.size + 1, 1, none⟩ = some (.slice ra l.length rc) := Gr.cell_new hsz.symm rfl
  have HF := Lib.hid (show Below w.heap.size w ((w.alloc (.cells #[.slice h.a1 G.terms.length h.c1, .slice h.a2 G.nons.length h.c2, .slice h.a3 G.rules.length h.c3, .int .i64 G.start] 25)).alloc (.cells #[.int .i64 x, .slice ra l.length rc] 40)) from Gr.step X.out.below (Gr.boxed _ _))
  clear X hsz
  generalize (w.alloc (.cells #[.slice h.a1 G.terms.length h.c1, .slice h.a2 G.nons.length h.c2, .slice h.a3 G.rules.length h.c3, .int .i64 G.start] 25)).alloc (.cells #[.int .i64 x, .slice ra l.length rc] 40) = W2 at *
  have HQ := Lib.hid (sixC XB.x0 XB.x1 XB.x2 XB.x3 y0 y1)
  have hbd := Gr.drawn W2
  clear XB y0 y1
  go_region_held3 (fun w' => w'.cell? ⟨w.heap.size, 0, none⟩ = some (.slice h.a1 G.terms.length h.c1) ∧ w'.cell? ⟨w.heap.size, 1, none⟩ = some (.slice h.a2 G.nons.length h.c2) ∧ w'.cell? ⟨w.heap.size, 2, none⟩ = some (.slice h.a3 G.rules.length h.c3) ∧ w'.cell? ⟨w.heap.size, 3, none⟩ = some (.int .i64 G.start) ∧
      w'.cell? ⟨w.heap.size + 1, 0, none⟩ = some (.int .i64 x) ∧ w'.cell? ⟨w.heap.size + 1, 1, none⟩ = some (.slice ra l.length rc) ∧ Below W2.heap.size W2 w')
    (exact HQ.out _ (by first | assumption | exact Gr.step (by assumption) (Gr.boxed _ _)))
    (first
      | (go_at_call 37; refine (NM.out _ (Gr.step HF.out (by assumption))).mono ?_; rintro e wa ⟨rfl, hb⟩; have kA : Below W2.heap.size W2 wa := Gr.step (by assumption) hb; clear hb)
      | (go_at_call 38; refine (NS.out _ (Gr.step HF.out (by assumption))).mono ?_; rintro e wb ⟨rfl, hb⟩; have kB : Below W2.heap.size W2 wb := Gr.step (by assumption) hb; clear hb)
      | (go_at_call 22; refine (JJ.out _).mono ?_; rintro e wc ⟨rfl, hb⟩; have kC : Below W2.heap.size W2 wc := Gr.step (Gr.step (by assumption) (Gr.boxed _ _)) hb; clear hb)
      | fail)
  all_goals
    go_wp2
    go_ret
    exact ⟨rfl, Gr.step HF.out kC⟩

end Go.Proofs.YtimfiaphhomelaaGreat.Sw

namespace Go.Proofs.YtimfiaphhomelaaGreat.Sw
open Go.RowKit Go.Maps
open Go.Proofs.YtimfiaphhomelaaGreat.Gr (Gram GAt Sh gv Is Bx)
set_option linter.unusedVariables false
set_option linter.unusedSimpArgs false

/-- Names with a blank between each two, behind a blank. -/
theorem join_terms (L : List ByteArray) (h : L ≠ []) : 32 :: Lib.join (L.map (·.data.toList)) [32] = termsL L := by
  cases L with
  | nil => exact absurd rfl h
  | cons s r =>
    rw [List.map_cons, Lib.join_cons]
    unfold Lib.joinTail termsL
    rw [List.flatMap_cons, List.map_map]
    congr 2

theorem join_any (h : Sh) (G : Gram) (w : World) (k : GAt h G w) (hne : G.terms ≠ []) (hlen : (termsL G.terms).length ≤ 1099511627776) :
    Calls Tryz.prog 46 #[.slice h.a1 G.terms.length h.c1, .string ⟨#[32]⟩] w (Is (.string (str (Lib.join (G.terms.map (·.data.toList)) [32]))) w) := by
  have hl : 0 < G.terms.length := List.length_pos_iff.2 hne
  obtain ⟨b, o, e, hc⟩ := k.terms 0 (by simpa using hl)
  rw [e]
  have hj := join_terms G.terms hne
  have t := k.t2
  refine (Tryz.strings_Join b o h.c1 G.terms ⟨#[32]⟩ w (fun j x hx => ?_) (World.block_lt_of_cell? _ _ hc) (by omega) k.t1 ?_).mono fun e w' hh => hh
  · obtain ⟨hj, rfl⟩ := List.getElem?_eq_some_iff.1 hx
    obtain ⟨b', o', e', hc'⟩ := k.terms j (by simpa using hj)
    rw [e] at e'
    simp only [Option.some.injEq, Addr.mk.injEq, and_true] at e'
    obtain ⟨rfl, rfl⟩ := e'
    simpa using hc'
  · show (Lib.join (G.terms.map (·.data.toList)) [32]).length ≤ _
    rw [← hj] at hlen
    simp at hlen
    omega

set_option maxHeartbeats 400000 in
set_option maxRecDepth 100000 in
theorem decls_any (h : Sh) (G : Gram) (w : World) (k : GAt h G w) (hlen : (tokenL G ++ startL G).length ≤ 1099511627776) (hlt : (termsL G.terms).length ≤ 1099511627776) :
    Calls Tryz.prog 23 #[gv h G] w (Is (.string (str (tokenL G ++ startL G))) w) := by
  have X := Lib.hid (Bx.start h G w 25)
  have hs : (startL G).length ≤ 1099511627776 := by rw [List.length_append] at hlen; omega
  have NM := Lib.hid (fun w' (b : Below w.heap.size w w') => Gr.name_any h G G.start w' (k.went b))
  have JS := Lib.hid (fun w' => joined_three ⟨#[37, 115, 116, 97, 114, 116, 32]⟩ (Gr.nameS G G.start) ⟨#[10]⟩ w' (by show (startL G).length ≤ _; omega))
  have hS : str ((⟨#[37, 115, 116, 97, 114, 116, 32]⟩ : ByteArray).data.toList ++ ((Gr.nameS G G.start).data.toList ++ (⟨#[10]⟩ : ByteArray).data.toList)) = str (startL G) := rfl
  rw [hS] at JS
  have K := Lib.hid k
  have t2 := k.t2
  clear k
  by_cases hne : G.terms = []
  · have hR : str (tokenL G ++ startL G) = str (startL G) := by unfold tokenL; rw [if_pos (by rw [hne]; rfl)]; rfl
    have h0 : G.terms.length < 1 := by rw [hne]; exact Nat.zero_lt_one
    rw [hR]
    clear hR hS hlen hlt hne
    generalize str (startL G) = S at *
    generalize Gr.nameS G G.start = nm at *
    unfold gv
    go_enter Tryz.func23, Tryz.ntmps23
    go_wp2_with (first
      | (go_at_call 37; refine (NM.out _ X.out.below).mono ?_; rintro e w1 ⟨rfl, hb⟩; have X1 := Lib.hid (X.out.went hb); clear hb; obtain ⟨_, x0, x1, x2, x3⟩ := X1.out)
      | (go_at_call 22; refine (JS.out _).mono ?_; rintro e w2 ⟨rfl, hb⟩; have X2 := Lib.hid ((X1.out.alloc _).went hb); clear hb x0 x1 x2 x3; obtain ⟨_, x0, x1, x2, x3⟩ := X2.out)
      | fail)
    go_ret
    exact ⟨rfl, X2.out.below⟩
  · have hl : 0 < G.terms.length := List.length_pos_iff.2 hne
    have JT := Lib.hid (fun w' (b : Below w.heap.size w w') => join_any h G w' (K.out.went b) hne hlt)
    have hj := join_terms G.terms hne
    have hR : str ((⟨#[37, 116, 111, 107, 101, 110, 32]⟩ : ByteArray).data.toList ++ ((str (Lib.join (G.terms.map (·.data.toList)) [32])).data.toList ++ ((⟨#[10]⟩ : ByteArray).data.toList ++ (str (startL G)).data.toList))) = str (tokenL G ++ startL G) := by
      unfold tokenL
      rw [if_neg (by omega), str_data, str_data, ← hj]
      refine congrArg str ?_
      simp
    have JR := Lib.hid (fun w' => joined_four ⟨#[37, 116, 111, 107, 101, 110, 32]⟩ (str (Lib.join (G.terms.map (·.data.toList)) [32])) ⟨#[10]⟩ (str (startL G)) w' (by
      have e := congrArg (fun s : ByteArray => s.size) hR
      simp only [str_size] at e
      rw [e]
      omega))
    rw [hR] at JR
    clear hR hS hlen hlt hj hne
    generalize str (tokenL G ++ startL G) = R at *
    generalize str (startL G) = S at *
    generalize str (Lib.join (G.terms.map (·.data.toList)) [32]) = J at *
    generalize Gr.nameS G G.start = nm at *
    unfold gv
    go_enter Tryz.func23, Tryz.ntmps23
    go_wp2_with (first
      | (go_at_call 37; refine (NM.out _ X.out.below).mono ?_; rintro e w1 ⟨rfl, hb⟩; have X1 := Lib.hid (X.out.went hb); clear hb; obtain ⟨_, x0, x1, x2, x3⟩ := X1.out)
      | (go_at_call 22; ((with_reducible refine (JS.out _).mono ?_)); rintro e w2 ⟨rfl, hb⟩; have X2 := Lib.hid ((X1.out.alloc _).went hb); clear hb x0 x1 x2 x3; obtain ⟨_, x0, x1, x2, x3⟩ := X2.out)
      | (go_at_call 46; refine (JT.out _ X2.out.below).mono ?_; rintro e w3 ⟨rfl, hb⟩; have X3 := Lib.hid (X2.out.went hb); clear hb)
      | (go_at_call 22; ((with_reducible refine (JR.out _).mono ?_)); rintro e w4 ⟨rfl, hb⟩; have X4 := Lib.hid ((X3.out.alloc _).went hb); clear hb)
      | fail)
    go_ret
    exact ⟨rfl, X4.out.below⟩

end Go.Proofs.YtimfiaphhomelaaGreat.Sw

namespace Go.Proofs.YtimfiaphhomelaaGreat.Sw
open Go.RowKit Go.Maps
open Go.Proofs.YtimfiaphhomelaaGreat.Gr (Gram GAt Sh gv Is Bx)
set_option linter.unusedVariables false
set_option linter.unusedSimpArgs false

theorem rows_mono (G : Gram) (R : List (Int × List Int)) {k n : Nat} (h : k ≤ n) : (rowsL G R k).length ≤ (rowsL G R n).length := by
  induction h with
  | refl => exact Nat.le_refl _
  | step _ ih =>
    rw [rows_succ, List.length_append]
    omega

theorem row_zero (G : Gram) {R : List (Int × List Int)} (h : 0 < R.length) : rowL G R 0 = ruleL G R[0] := by
  unfold rowL
  rw [if_pos rfl]
  simp [List.getD_eq_getElem?_getD, List.getElem?_eq_getElem h]
theorem row_first (G : Gram) {R : List (Int × List Int)} {k : Nat} (h : k < R.length) (h1 : k < 1) : rowL G R k = ruleL G R[k] := by
  obtain rfl : k = 0 := by omega
  exact row_zero G h
theorem row_same (G : Gram) {R : List (Int × List Int)} {j : Nat} (h : j + 1 < R.length) (e : Gr.leftOf R j = Gr.leftOf R (j + 1)) : rowL G R (j + 1) = [10, 9, 124] ++ rightL G R[j + 1].2 := by
  unfold rowL
  rw [if_neg (by omega), if_pos (by simpa using e)]
  simp [List.getD_eq_getElem?_getD, List.getElem?_eq_getElem h]
theorem row_new (G : Gram) {R : List (Int × List Int)} {j : Nat} (h : j + 1 < R.length) (e : ¬ Gr.leftOf R j = Gr.leftOf R (j + 1)) : rowL G R (j + 1) = [10, 9, 59, 10] ++ ruleL G R[j + 1] := by
  unfold rowL
  rw [if_neg (by omega), if_neg (by simpa using e)]
  simp [List.getD_eq_getElem?_getD, List.getElem?_eq_getElem h]

/-- The loop over rules: how far the text has come. -/
def SLoop (G : Gram) (w W2 : World) (i : Value) (wr : World) : Prop := ∃ k, k ≤ G.rules.length ∧ i = .int .i64 (k : Int) ∧ Bd (w.heap.size + 1) (rowsL G G.rules k) wr ∧ Below (w.heap.size + 1) W2 wr

set_option maxHeartbeats 1000000 in
set_option maxRecDepth 100000 in
theorem rules_any (h : Sh) (G : Gram) (w : World) (k : GAt h G w) (hlen : (rowsL G G.rules G.rules.length).length + 4 ≤ 1099511627776) :
    Calls Tryz.prog 24 #[gv h G] w (Is (.string (str (rowsL G G.rules G.rules.length ++ [10, 9, 59, 10]))) w) := by
  obtain ⟨a1, c1, a2, c2, a3, c3⟩ := h
  have X := Lib.hid (Bx.start ⟨a1, c1, a2, c2, a3, c3⟩ G w 25)
  have HB := Lib.hid (Bd.new (w.alloc (.cells #[.slice a1 G.terms.length c1, .slice a2 G.nons.length c2, .slice a3 G.rules.length c3, .int .i64 G.start] 25)))
  have K := Lib.hid k
  have HM := Lib.hid hlen
  have r1 := k.r1
  have r2 := k.r2
  clear k hlen
  unfold gv
  dsimp only at r1 ⊢
  go_enter Tryz.func24, Tryz.ntmps24
  go_wp2
  have HF := Lib.hid (show Below w.heap.size w ((w.alloc (.cells #[.slice a1 G.terms.length c1, .slice a2 G.nons.length c2, .slice a3 G.rules.length c3, .int .i64 G.start] 25)).alloc (.cells #[.pointer none, .slice none 0 0] 70)) from Gr.step X.out.below (Gr.boxed _ _))
  have XB := Lib.hid (X.out.alloc (.cells #[.pointer none, .slice none 0 0] 70)).box
  have hsz : (w.alloc (.cells #[.slice a1 G.terms.length c1, .slice a2 G.nons.length c2, .slice a3 G.rules.length c3, .int .i64 G.start] 25)).heap.size = w.heap.size + 1 := by simp
  rw [hsz] at HB
  clear X hsz
  generalize (w.alloc (.cells #[.slice a1 G.terms.length c1, .slice a2 G.nons.length c2, .slice a3 G.rules.length c3, .int .i64 G.start] 25)).alloc (.cells #[.pointer none, .slice none 0 0] 70) = W2 at *
  go_loopw [9] (fun i wr => SLoop G w W2 i wr) (fun i _ => G.rules.length - (intOf i).toNat)
  case atStart => exact ⟨0, Nat.zero_le _, rfl, HB.out, Below.refl _ _⟩
  case round =>
    obtain ⟨k, hk, rfl, hbd, hbel⟩ := hrel
    have BD := Lib.hid hbd
    have BL := Lib.hid hbel
    have B0 := Lib.hid (show Below w.heap.size w wr from HF.out.trans (hbel.mono (Nat.le_succ _)))
    have BX := Lib.hid (show ∀ w', Below (w.heap.size + 1) W2 w' → Gr.Box w.heap.size ⟨a1, c1, a2, c2, a3, c3⟩ G w' from fun w' hb => ⟨(hb.cell (p := ⟨w.heap.size, 0, none⟩) (Nat.lt_succ_self _)).trans XB.out.x0, (hb.cell (p := ⟨w.heap.size, 1, none⟩) (Nat.lt_succ_self _)).trans XB.out.x1, (hb.cell (p := ⟨w.heap.size, 2, none⟩) (Nat.lt_succ_self _)).trans XB.out.x2, (hb.cell (p := ⟨w.heap.size, 3, none⟩) (Nat.lt_succ_self _)).trans XB.out.x3⟩)
    obtain ⟨x0, x1, x2, x3⟩ := BX.out _ BL.out
    clear hbd hbel HB XB HF
    by_cases hlt : k < G.rules.length
    · obtain ⟨b0, o0, ra, rc, e, h1, h2, h3, h4, h5⟩ := (K.out.went B0.out).rules k hlt
      try dsimp only at e
      subst e
      have hmono := rows_mono G G.rules (show k + 1 ≤ G.rules.length from hlt)
      have hM := HM.out
      rw [rows_succ, List.length_append] at hmono
      have H3 := Lib.hid h3
      have hrow : (rowL G G.rules k).length + (rowsL G G.rules k).length ≤ 1099511627776 := by omega
      have WR := Lib.hid (fun w' (b : Bd (w.heap.size + 1) (rowsL G G.rules k) w') => write_any (w.heap.size + 1) (rowsL G G.rules k) (str (rowL G G.rules k)) w' b (by rw [str_size]; omega))
      have HS := Lib.hid (show rowsL G G.rules k ++ (str (rowL G G.rules k)).data.toList = rowsL G G.rules (k + 1) by rw [str_data, rows_succ])
      have BN := Lib.hid (BD.out.went (Gr.boxed wr (.cells #[.int .i64 G.rules[k].1, .slice ra G.rules[k].2.length rc] 40)))
      have LN := Lib.hid (BL.out.trans ((Gr.boxed wr (.cells #[.int .i64 G.rules[k].1, .slice ra G.rules[k].2.length rc] 40)).mono (Nat.le_of_lt BD.out.lt)))
      have QN := Lib.hid (Gr.boxed wr (.cells #[.int .i64 G.rules[k].1, .slice ra G.rules[k].2.length rc] 40))
      clear hmono hM h3
      by_cases hk1 : k < 1
      · have RU := Lib.hid (fun w' (b : Below wr.heap.size wr w') => rule_any ⟨a1, c1, a2, c2, some ⟨b0, o0, none⟩, c3⟩ G G.rules[k] ra rc w' (K.out.went (Gr.step B0.out b)) (H3.out.below b (Nat.le_refl _)) h5 (by rw [row_first G hlt hk1] at hrow; omega))
        have hS : ruleS G G.rules[k] = str (rowL G G.rules k) := by rw [row_first G hlt hk1]; rfl
        rw [hS] at RU
        have hsz : w.heap.size < wr.heap.size := Nat.lt_of_succ_lt BD.out.lt
        clear hrow hS H3 K HM
        go_wp2_with (first
          | (go_at_call 19; refine (RU.out _ QN.out).mono ?_; rintro e w1 ⟨rfl, hb⟩; have D1 := Lib.hid (BN.out.went hb); have L1 := Lib.hid (LN.out.trans (hb.mono (Nat.le_of_lt BN.out.lt))); clear hb)
          | (go_at_call 47; ((with_reducible refine (WR.out _ D1.out).mono ?_)); rintro e w2 ⟨rfl, hd2, hb2⟩; have D2 := Lib.hid hd2; have L2 := Lib.hid (L1.out.trans hb2); clear hd2 hb2)
          | fail)
        go_round
        case rel => exact ⟨k + 1, hlt, by go_num, HS.out ▸ D2.out, L2.out⟩
        case measure => simp [intOf]; omega
      · have hsz : w.heap.size < wr.heap.size := Nat.lt_of_succ_lt BD.out.lt
        obtain ⟨j, rfl⟩ : ∃ j, k = j + 1 := ⟨k - 1, by omega⟩
        obtain ⟨b1, o1, ra1, rc1, e1, p1, _⟩ := (K.out.went B0.out).rules j (by omega)
        simp only [Option.some.injEq, Addr.mk.injEq, and_true] at e1
        obtain ⟨rfl, rfl⟩ := e1
        have hb0 : b0 < wr.heap.size := World.block_lt_of_cell? _ _ p1
        have Q3 := Lib.hid (Gr.step QN.out (Gr.drawn _))
        have D3 := Lib.hid (BN.out.went (Gr.drawn _))
        have L3 := Lib.hid (LN.out.trans ((Gr.drawn (wr.alloc (.cells #[.int .i64 G.rules[j + 1].1, .slice ra G.rules[j + 1].2.length rc] 40))).mono (Nat.le_of_lt BN.out.lt)))
        have hl1 : Gr.leftOf G.rules j = G.rules[j].1 := Gr.leftOf_get (by omega)
        have hl2 : Gr.leftOf G.rules (j + 1) = G.rules[j + 1].1 := Gr.leftOf_get hlt
        by_cases hq : G.rules[j].1 = G.rules[j + 1].1
        · have hr := row_same G hlt (by rw [hl1, hl2]; exact hq)
          have NS := Lib.hid (fun w' (b : Below wr.heap.size wr w') => names_any ⟨a1, c1, a2, c2, some ⟨b0, o0, none⟩, c3⟩ G G.rules[j + 1].2 ra rc w' (K.out.went (Gr.step B0.out b)) (H3.out.below b (Nat.le_refl _)) h5 (by rw [hr, List.length_append] at hrow; omega))
          have hS : str ((⟨#[10, 9, 124]⟩ : ByteArray).data.toList ++ (str (rightL G G.rules[j + 1].2)).data.toList) = str (rowL G G.rules (j + 1)) := by rw [hr, str_data]
          have JJ := Lib.hid (fun w' => joined_two ⟨#[10, 9, 124]⟩ (str (rightL G G.rules[j + 1].2)) w' (by
            have e := congrArg (fun s : ByteArray => s.size) hS
            simp only [str_size] at e
            rw [e]
            omega))
          rw [hS] at JJ
          clear hrow hS H3 K HM hr hl1 hl2
          go_upto_region 8 with fail
          go_region
          go_wp2_with (first
            | (go_at_call 38; refine (NS.out _ Q3.out).mono ?_; rintro e w1 ⟨rfl, hb⟩; have D4 := Lib.hid (D3.out.went hb); have L4 := Lib.hid (L3.out.trans (hb.mono (Nat.le_of_lt D3.out.lt))); clear hb)
            | (go_at_call 22; refine (JJ.out _).mono ?_; rintro e w2 ⟨rfl, hb⟩; have D5 := Lib.hid ((D4.out.went (Gr.boxed _ _)).went hb); have L5 := Lib.hid ((L4.out.trans ((Gr.boxed _ _).mono (Nat.le_of_lt D4.out.lt))).trans (hb.mono (Nat.le_of_lt (D4.out.went (Gr.boxed _ _)).lt))); clear hb)
            | (go_at_call 47; ((with_reducible refine (WR.out _ D5.out).mono ?_)); rintro e w3 ⟨rfl, hd2, hb2⟩; have D6 := Lib.hid hd2; have L6 := Lib.hid (L5.out.trans hb2); clear hd2 hb2)
            | fail)
          go_round
          case rel => exact ⟨j + 1 + 1, hlt, by go_num, HS.out ▸ D6.out, L6.out⟩
          case measure => simp [intOf]; omega
        · have hr := row_new G hlt (by rw [hl1, hl2]; exact hq)
          have RU := Lib.hid (fun w' (b : Below wr.heap.size wr w') => rule_any ⟨a1, c1, a2, c2, some ⟨b0, o0, none⟩, c3⟩ G G.rules[j + 1] ra rc w' (K.out.went (Gr.step B0.out b)) (H3.out.below b (Nat.le_refl _)) h5 (by rw [hr, List.length_append] at hrow; omega))
          have hS : str ((⟨#[10, 9, 59, 10]⟩ : ByteArray).data.toList ++ (ruleS G G.rules[j + 1]).data.toList) = str (rowL G G.rules (j + 1)) := by unfold ruleS; rw [hr, str_data]
          have JJ := Lib.hid (fun w' => joined_two ⟨#[10, 9, 59, 10]⟩ (ruleS G G.rules[j + 1]) w' (by
            have e := congrArg (fun s : ByteArray => s.size) hS
            simp only [str_size] at e
            rw [e]
            omega))
          rw [hS] at JJ
          clear hrow hS H3 K HM hr hl1 hl2
          generalize ruleS G G.rules[j + 1] = RS at *
          go_upto_region 8 with fail
          go_region
          go_wp2_with (first
            | (go_at_call 19; refine (RU.out _ Q3.out).mono ?_; rintro e w1 ⟨rfl, hb⟩; have D4 := Lib.hid (D3.out.went hb); have L4 := Lib.hid (L3.out.trans (hb.mono (Nat.le_of_lt D3.out.lt))); clear hb)
            | (go_at_call 22; refine (JJ.out _).mono ?_; rintro e w2 ⟨rfl, hb⟩; have D5 := Lib.hid ((D4.out.went (Gr.boxed _ _)).went hb); have L5 := Lib.hid ((L4.out.trans ((Gr.boxed _ _).mono (Nat.le_of_lt D4.out.lt))).trans (hb.mono (Nat.le_of_lt (D4.out.went (Gr.boxed _ _)).lt))); clear hb)
            | (go_at_call 47; ((with_reducible refine (WR.out _ D5.out).mono ?_)); rintro e w3 ⟨rfl, hd2, hb2⟩; have D6 := Lib.hid hd2; have L6 := Lib.hid (L5.out.trans hb2); clear hd2 hb2)
            | fail)
          go_round
          case rel => exact ⟨j + 1 + 1, hlt, by go_num, HS.out ▸ D6.out, L6.out⟩
          case measure => simp [intOf]; omega
    · obtain rfl : k = G.rules.length := by omega
      have WE := Lib.hid (write_any (w.heap.size + 1) (rowsL G G.rules G.rules.length) ⟨#[10, 9, 59, 10]⟩ wr BD.out (by have := HM.out; show _ + 4 ≤ _; omega))
      have hS : rowsL G G.rules G.rules.length ++ (⟨#[10, 9, 59, 10]⟩ : ByteArray).data.toList = rowsL G G.rules G.rules.length ++ [10, 9, 59, 10] := rfl
      rw [hS] at WE
      generalize rowsL G G.rules G.rules.length ++ [10, 9, 59, 10] = T at *
      clear hlt hk hS BX
      go_wp2_with (first
        | (go_at_call 47; refine WE.out.mono ?_; rintro e w1 ⟨rfl, hd1, hb1⟩; have S1 := Lib.hid (string_any _ _ _ hd1); have B1 := Lib.hid (B0.out.trans (hb1.mono (Nat.le_succ _))); clear hd1 hb1)
        | (go_at_call 48; refine S1.out.mono ?_; rintro e w2 ⟨rfl, hb2⟩; have B2 := Lib.hid (B1.out.trans (hb2.mono (Nat.le_succ _))); clear hb2)
        | fail)
      go_ret
      exact ⟨rfl, B2.out⟩

end Go.Proofs.YtimfiaphhomelaaGreat.Sw
