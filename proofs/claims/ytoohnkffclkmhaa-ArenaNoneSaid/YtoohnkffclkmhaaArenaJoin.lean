/-
  Package arena: New, Leaf, Join.
-/
import Derived.Test.YtoohnkffclkmhaaArenaMake
namespace Go.Proofs.Ytoohnkffclkmhaa.Tr
open Go.RowKit Go.Maps
open Go.Proofs.Ytoohnkffclkmhaa.Sep
open Go.Proofs.Ytoohnkffclkmhaa.Rw (Bk)
open Go.Proofs.Ytoohnkffclkmhaa.Gr (cell_later boxed drawn Is bool_of int_of ivs iv Listed New clone_any)
set_option linter.unusedVariables false
set_option linter.unusedSimpArgs false

/-- What a call answers that makes a node. -/
def Made (r : Int) (p : Nat) (S K : Nat → Prop) (T : List Nd) (w : World) (e : Ending) (w' : World) : Prop :=
  e = .returned (.int .i64 r) ∧ ∃ S' K', TrAt p S' K' T w' ∧ Ext S' S w ∧ Ext K' K w ∧ Fr S w w'

theorem new_any (w : World) : Calls Try.prog 5 #[] w fun e w' => e = .returned (.pointer (some ⟨w.heap.size, 0, none⟩)) ∧ TrAt w.heap.size (fun k => k = w.heap.size) (fun _ => False) [] w' ∧ Below w.heap.size w w' := by
  have N := Lib.hid (TrM.new w)
  go_enter Try.func5, Try.ntmps5
  go_wp2
  go_ret
  exact ⟨rfl, ⟨_, _, rfl, N.out⟩, boxed _ _⟩

section
variable {p : Nat} {S K : Nat → Prop} {T : List Nd} {w : World}

theorem kid_nil (K : Nat → Prop) (n : Nd) (h : n.kids = []) (w : World) : KidA K (n, .slice none n.kids.length 0) w :=
  ⟨⟨none, 0, rfl, (fun i hi => by simp [h] at hi), (fun b o e => by cases e)⟩, by simp [h]⟩

set_option maxHeartbeats 1000000 in
theorem leaf_any (h : TrAt p S K T w) (hl : T.length < 1000) (s n : Int) : Calls Try.prog 6 #[.pointer (some ⟨p, 0, none⟩), .int .i64 s, .int .i64 n] w (Made (T.length : Int) p S K (leafT T s n) w) := by
  obtain ⟨L, v, rfl, h⟩ := h
  have A := Lib.hid (add_any h (leafD s n) none 0 (kid_nil K _ rfl _) (fun _ h => h) h.kin h.off (by simpa using hl))
  rw [List.length_map]
  clear h hl
  dsimp only [ndv, leafD, List.length_nil] at A
  go_enter Try.func6, Try.ntmps6
  go_wp2_with (go_at_call 17; refine A.out.mono ?_; rintro e w1 ⟨rfl, h1⟩; have R := Lib.hid h1; clear h1)
  go_ret
  obtain ⟨S', v', hm, he, hf⟩ := R.out
  exact ⟨rfl, S', K, ⟨_, _, by rw [List.map_append]; rfl, hm⟩, he, .refl _ _, hf⟩

theorem reads_fr {a : Option Addr} {xs : List Value} {F : Nat → Prop} {w w' : World} (h : Reads a xs w) (hf : Fr F w w') (ha : ∀ b o, a = some ⟨b, o, none⟩ → 0 < xs.length → ¬ F b) : Reads a xs w' := fun i hi => by
  obtain ⟨b, o, e, hc⟩ := h i hi
  exact ⟨b, o, e, (World.cell?_of_block (a := ⟨b, o + i, none⟩) (hf.block b (World.block_lt_of_cell? w ⟨b, o + i, none⟩ hc) (ha b o e (by omega)))).trans hc⟩
theorem tk_back (n : Nd) (q : Bool) (h : n.taken = false) : tk false (if q then tk true n else n) = n := by
  cases n
  subst h
  cases q <;> rfl

/-- One mark away. -/
theorem TrAt.unmark {ks : List Int} {j kj : Nat} (h : TrAt p S K (markB T (inK (ks.drop j))) w) (hj : j < ks.length) (hk : ks[j] = (kj : Int)) (hok : okK T ks = true) :
    ∃ g c, kj < T.length ∧ w.cell? ⟨p, 0, none⟩ = some (.slice (some ⟨g, 0, none⟩) T.length c) ∧ (∃ u, w.cell? ⟨g, kj * 6 + 5, none⟩ = some u) ∧ w.frozen? ⟨g, kj * 6 + 5, none⟩ = false ∧
      TrAt p S K (markB T (inK (ks.drop (j + 1)))) (w.setCell ⟨g, kj * 6 + 5, none⟩ (.bool false)) ∧ Fr S w (w.setCell ⟨g, kj * 6 + 5, none⟩ (.bool false)) := by
  obtain ⟨L, v, e, h⟩ := h
  have hin := ok_in hok (List.getElem_mem hj)
  have hkT : kj < T.length := by omega
  have hl : L.length = T.length := by have := congrArg List.length e; rwa [List.length_map, markB_len] at this
  obtain ⟨g, c, rfl, -, -, -, -, -, x5, f5⟩ := h.at (j := kj) (by omega)
  have hm := h.mark (j := kj) (by omega) rfl false
  refine ⟨g, c, hkT, by rw [← hl]; exact h.cell, ⟨_, x5⟩, f5, ⟨_, _, ?_, hm.1⟩, hm.2⟩
  have hfree : T[kj].taken = false := by
    have := hin.2.2
    rw [hk] at this
    simpa [freeAt, hkT] using this
  have hn0 : ks.drop j = (kj : Int) :: ks.drop (j + 1) := by rw [← hk]; exact (List.getElem_cons_drop ..).symm
  have hnd := (okK_iff.1 hok).2
  rw [← List.take_append_drop j ks, hn0, List.nodup_append] at hnd
  have hnot := (List.nodup_cons.1 hnd.2.1).1
  rw [map_set_tk L kj (by omega)]
  have hget : ∀ (hh : kj < (L.map Prod.fst).length), (L.map Prod.fst)[kj] = if inK (ks.drop j) kj then tk true T[kj] else T[kj] := fun hh => by
    have h1 := markB_get (p := inK (ks.drop j)) hkT
    have h2 : (L.map Prod.fst)[kj]? = (markB T (inK (ks.drop j)))[kj]? := by rw [e]
    rw [List.getElem?_eq_getElem hh, List.getElem?_eq_getElem (by rw [markB_len]; exact hkT)] at h2
    injection h2 with h2
    rw [h2, h1]
  rw [hget, tk_back _ _ hfree, e, markB_unset T _ kj _ (fun n hn => by rw [List.getElem?_eq_getElem hkT] at hn; injection hn)]
  rw [hn0]
  have := inK_uncons (kj : Int) (ks.drop (j + 1)) (by omega) hnot
  simp only [Int.toNat_natCast] at this
  rw [this]
/-- One mark more. -/
theorem TrAt.mark {ks : List Int} {k : Nat} (h : TrAt p S K (markB T (inK (ks.take k))) w) (hk : k < ks.length) (hf : freeP (markB T (inK (ks.take k))) ks[k] = true) :
    ∃ g c kj : Nat, ks[k] = (kj : Int) ∧ kj < T.length ∧ w.cell? ⟨p, 0, none⟩ = some (.slice (some ⟨g, 0, none⟩) T.length c) ∧ (∃ u, w.cell? ⟨g, kj * 6 + 5, none⟩ = some u) ∧ w.frozen? ⟨g, kj * 6 + 5, none⟩ = false ∧
      TrAt p S K (markB T (inK (ks.take (k + 1)))) (w.setCell ⟨g, kj * 6 + 5, none⟩ (.bool true)) ∧ Fr S w (w.setCell ⟨g, kj * 6 + 5, none⟩ (.bool true)) := by
  obtain ⟨L, v, e, h⟩ := h
  obtain ⟨kj, hkj, n, hn, _⟩ := freeP_iff.1 hf
  have hkT : kj < T.length := by have := (List.getElem?_eq_some_iff.1 hn).1; rwa [markB_len] at this
  have hl : L.length = T.length := by have := congrArg List.length e; rwa [List.length_map, markB_len] at this
  obtain ⟨g, c, rfl, -, -, -, -, -, x5, f5⟩ := h.at (j := kj) (by omega)
  have hm := h.mark (j := kj) (by omega) rfl true
  refine ⟨g, c, kj, hkj, hkT, by rw [← hl]; exact h.cell, ⟨_, x5⟩, f5, ⟨_, _, ?_, hm.1⟩, hm.2⟩
  have hget : ∀ (hh : kj < (L.map Prod.fst).length), (L.map Prod.fst)[kj] = if inK (ks.take k) kj then tk true T[kj] else T[kj] := fun hh => by
    have h1 := markB_get (p := inK (ks.take k)) hkT
    have h2 : (L.map Prod.fst)[kj]? = (markB T (inK (ks.take k)))[kj]? := by rw [e]
    rw [List.getElem?_eq_getElem hh, List.getElem?_eq_getElem (by rw [markB_len]; exact hkT)] at h2
    injection h2 with h2
    rw [h2, h1]
  rw [map_set_tk L kj (by omega), hget, e, markB_set T _ kj _ (fun n hn => by
    rw [List.getElem?_eq_getElem hkT] at hn
    injection hn with hn
    subst hn
    split <;> rfl)]
  have e2 : ks.take (k + 1) = ks.take k ++ [(kj : Int)] := by rw [← hkj]; exact (List.take_append_getElem hk).symm
  rw [e2, inK_cons _ _ (by omega)]
  simp only [Int.toNat_natCast]

set_option maxHeartbeats 2000000 in
theorem release_any (ks : List Int) (a : Option Addr) (c : Nat) (h : TrAt p S K (markB T (inK ks)) w) (hok : okK T ks = true) (ha : Reads a (ivs ks) w) (hoff : ∀ b o, a = some ⟨b, o, none⟩ → 0 < ks.length → ¬ S b) (hl : ks.length ≤ 1000) :
    Calls Try.prog 32 #[.pointer (some ⟨p, 0, none⟩), .slice a ks.length c] w (fun e w' => e = .returned (.tuple #[]) ∧ TrAt p S K T w' ∧ Fr S w w') := by
  have HR := Lib.hid (fun w1 (hf : Fr S w w1) => reads_fr ha hf fun b o e hl => hoff b o e (by simpa [ivs] using hl))
  have H0 := Lib.hid h
  have HO := Lib.hid hok
  have fT : T.length ≤ 1000 := by have := h.few; rwa [markB_len] at this
  clear h ha hok
  go_enter Try.func32, Try.ntmps32
  go_wp2
  go_loopw [8] (fun v wr => ∃ j : Nat, v = .int .i64 (j : Int) ∧ j ≤ ks.length ∧ TrAt p S K (markB T (inK (ks.drop j))) wr ∧ Fr S w wr) (fun v _ => ks.length - (intOf v).toNat)
  case atStart => exact ⟨0, rfl, Nat.zero_le _, by rw [List.drop_zero]; exact H0.out, .refl _ _⟩
  case round =>
    obtain ⟨j, rfl, hj, ht, hf⟩ := hrel
    by_cases hlt : j < ks.length
    · obtain ⟨b1, o1, e1, h1⟩ := HR.out _ hf j (by simpa [ivs] using hlt)
      subst e1
      simp only [ivs, iv, List.getElem_map] at h1
      have hin := ok_in HO.out (List.getElem_mem hlt)
      obtain ⟨kj, hkj⟩ : ∃ kj : Nat, ks[j] = (kj : Int) := ⟨ks[j].toNat, by omega⟩
      obtain ⟨g, c2, hk2, y0, ⟨u, y5⟩, f5, ht2, hf2⟩ := ht.unmark hlt hkj HO.out
      rw [hkj] at h1
      have T2 := Lib.hid ht2
      have F2 := Lib.hid (hf.trans hf2 (.refl _ _))
      have hkT : (kj : Int) < (T.length : Int) := by omega
      clear ht2 hf2 ht hf hin hkj
      go_wp2
      go_roundw
      case rel => exact ⟨j + 1, by go_num, by omega, T2.out, F2.out⟩
      case measure => first | (simp [intOf]; omega) | omega
    · obtain rfl : j = ks.length := by omega
      have T2 := Lib.hid ht
      have F2 := Lib.hid hf
      clear ht hf
      go_wp2
      go_end0
      refine ⟨rfl, ?_, F2.out⟩
      have := T2.out
      rwa [List.drop_length, markB_nil] at this

/-- Children taken, all or none. -/
def Took (p : Nat) (S K : Nat → Prop) (T : List Nd) (ks : List Int) (w : World) (e : Ending) (w' : World) : Prop :=
  e = .returned (.bool (okK T ks)) ∧ TrAt p S K (if okK T ks then markB T (inK ks) else T) w' ∧ Fr S w w'

set_option maxHeartbeats 2000000 in
theorem take_any (ks : List Int) (a : Option Addr) (c : Nat) (h : TrAt p S K T w) (ha : Reads a (ivs ks) w) (hoff : ∀ b o, a = some ⟨b, o, none⟩ → 0 < ks.length → ¬ S b) (hl : ks.length ≤ 1000) (hc : ks.length ≤ c) :
    Calls Try.prog 18 #[.pointer (some ⟨p, 0, none⟩), .slice a ks.length c] w (Took p S K T ks w) := by
  have HR := Lib.hid (fun w1 (hf : Fr S w w1) => reads_fr ha hf fun b o e hl => hoff b o e (by simpa [ivs] using hl))
  have H0 := Lib.hid h
  have fT := h.few
  clear h ha
  go_enter Try.func18, Try.ntmps18
  go_wp2
  go_loopw [9] (fun v wr => ∃ j : Nat, v = .int .i64 (j : Int) ∧ j ≤ ks.length ∧ okK T (ks.take j) = true ∧ TrAt p S K (markB T (inK (ks.take j))) wr ∧ Fr S w wr) (fun v _ => ks.length - (intOf v).toNat)
  case atStart => exact ⟨0, rfl, Nat.zero_le _, by rw [List.take_zero]; rfl, by rw [List.take_zero, markB_nil]; exact H0.out, .refl _ _⟩
  case round =>
    obtain ⟨j, rfl, hj, hok, ht, hf⟩ := hrel
    by_cases hlt : j < ks.length
    · obtain ⟨b1, o1, e1, h1⟩ := HR.out _ hf j (by simpa [ivs] using hlt)
      subst e1
      simp only [ivs, iv, List.getElem_map] at h1
      have FA := Lib.hid (free_any ht ks[j])
      have T0 := Lib.hid ht
      have F0 := Lib.hid hf
      have OK := Lib.hid hok
      cases hfr : freeP (markB T (inK (ks.take j))) ks[j] with
      | true =>
        rw [hfr] at FA
        obtain ⟨kj, hkj⟩ : ∃ kj : Nat, ks[j] = (kj : Int) := by obtain ⟨kj, e, _⟩ := freeP_iff.1 hfr; exact ⟨kj, e⟩
        have O2 := Lib.hid (ok_step hlt hok hfr)
        have MK := Lib.hid (fun w1 (hb : Below wr.heap.size wr w1) => TrAt.mark (ht.went hb) hlt hfr)
        rw [hkj] at h1 FA MK
        clear ht hf hok hfr
        go_wp2_with (go_at_call 20; refine FA.out.mono ?_; rintro e w1 ⟨rfl, hb⟩; obtain ⟨g, c2, kk, hkk, hk2, y0, ⟨u, y5⟩, f5, ht2, hf2⟩ := MK.out _ hb; have ekk := Int.ofNat.inj hkk; subst ekk; have T2 := Lib.hid ht2; have F2 := Lib.hid ((Rw.fr_then F0.out hb).trans hf2 (.refl _ _)); have hkT : (kj : Int) < (T.length : Int) := Int.ofNat_lt.2 hk2; clear ht2 hf2 hb hkk)
        go_roundw
        case rel => exact ⟨j + 1, by go_num, by omega, O2.out, T2.out, F2.out⟩
        case measure => first | (simp [intOf]; omega) | omega
      | false =>
        rw [hfr] at FA
        have NO := Lib.hid (ok_fail hlt hfr)
        have RE := Lib.hid (fun w1 (hb : Below wr.heap.size wr w1) => release_any (ks.take j) (some ⟨b1, o1, none⟩) c (ht.went hb) hok (by
          have := HR.out w1 (Rw.fr_then hf hb)
          intro i hi
          rw [ivs, List.length_map, List.length_take] at hi
          obtain ⟨b, o, e, hcc⟩ := this i (by rw [ivs, List.length_map]; omega)
          refine ⟨b, o, e, ?_⟩
          rw [hcc]
          simp [ivs]) (fun b o e hl => hoff b o e (by rw [List.length_take] at hl; omega)) (by rw [List.length_take]; omega))
        rw [List.length_take, Nat.min_eq_left hj] at RE
        clear ht hf hok hfr
        have hj2 : j ≤ c := by omega
        go_wp2_with (first
          | (go_at_call 20; refine FA.out.mono ?_; rintro e w1 ⟨rfl, hb⟩; have F1 := Lib.hid (Rw.fr_then F0.out hb); have R1 := Lib.hid (RE.out _ hb); clear hb)
          | (go_at_call 32; refine R1.out.mono ?_; rintro e w2 ⟨rfl, ht2, hf2⟩; have T2 := Lib.hid ht2; have F2 := Lib.hid (F1.out.trans hf2 (.refl _ _)); clear ht2 hf2))
        go_ret
        refine ⟨by rw [NO.out]; rfl, by rw [NO.out]; exact T2.out, F2.out⟩
    · obtain rfl : j = ks.length := by omega
      rw [List.take_length] at hok ht
      have OK := Lib.hid hok
      have T2 := Lib.hid ht
      have F2 := Lib.hid hf
      clear ht hf hok
      go_wp2
      go_ret
      refine ⟨by rw [OK.out]; rfl, by rw [OK.out]; exact T2.out, F2.out⟩

set_option maxHeartbeats 2000000 in
theorem join_any (s r : Int) (ks : List Int) (a : Option Addr) (c : Nat) (h : TrAt p S K T w) (hT : T.length < 1000) (ha : Reads a (ivs ks) w) (hoff : ∀ b o, a = some ⟨b, o, none⟩ → 0 < ks.length → ¬ S b) (hl : ks.length ≤ 1000) (hc : ks.length ≤ c) :
    Calls Try.prog 7 #[.pointer (some ⟨p, 0, none⟩), .int .i64 s, .int .i64 r, .slice a ks.length c] w (Made (joinR T ks) p S K (joinT T s r ks) w) := by
  have TA := Lib.hid (take_any ks a c h ha hoff hl hc)
  have HR := Lib.hid (fun w1 (hf : Fr S w w1) => reads_fr ha hf fun b o e hl => hoff b o e (by simpa [ivs] using hl))
  clear h ha
  unfold Took at TA
  unfold joinR joinT
  cases hok : okK T ks with
  | false =>
    simp only [hok, Bool.false_eq_true, if_false] at TA
    simp only [Bool.false_eq_true, if_false]
    clear hok
    go_enter Try.func7, Try.ntmps7
    go_wp2_with (go_at_call 18; refine TA.out.mono ?_; rintro e w1 ⟨rfl, ht, hf⟩; have T1 := Lib.hid ht; have F1 := Lib.hid hf; clear ht hf)
    go_ret
    exact ⟨rfl, S, K, T1.out, .refl _ _, .refl _ _, F1.out⟩
  | true =>
    simp only [hok, if_true] at TA
    simp only [if_true]
    clear hok
    go_enter Try.func7, Try.ntmps7
    go_wp2_with (go_at_call 18; refine TA.out.mono ?_; rintro e w1 ⟨rfl, ht, hf⟩; have T1 := Lib.hid ht; have F1 := Lib.hid hf; have C1 := Lib.hid (clone_any a ks c w1 (HR.out _ hf) (by omega)); clear ht hf)
    go_wp2_with fail
    refine C1.out.mono ?_
    rintro e w2 ⟨a2, c2, rfl, hr2, hn2, hb2⟩
    obtain ⟨L, v, eL, hm⟩ := T1.out
    have hm2 := hm.went hb2
    have hlen : L.length = T.length := by have := congrArg List.length eL; rwa [List.length_map, markB_len] at this
    have hKid : KidA (fun b => K b ∨ (w1.heap.size ≤ b ∧ b < w2.heap.size)) (joinD s r ks, .slice a2 (joinD s r ks).kids.length c2) w2 :=
      ⟨⟨a2, c2, rfl, hr2, fun b o e hlen => .inr ⟨hn2 _ e, by
        obtain ⟨b', o', e', hc'⟩ := hr2 0 (by rw [ivs, List.length_map]; exact hlen)
        rw [e] at e'
        injection e' with e'
        have := World.block_lt_of_cell? w2 ⟨b', o' + 0, none⟩ hc'
        injection e' with e1 _ _
        rw [e1]
        exact this⟩⟩, hl⟩
    have A := Lib.hid (add_any hm2 (joinD s r ks) a2 c2 hKid (fun b h => .inl h) (fun b h => h.elim (fun h => hm2.kin b h) fun h => h.2) (fun b hS h => h.elim (fun h => hm2.off b hS h) fun h => by have := hm.inn b hS; omega) (by omega))
    dsimp only [ndv, joinD] at A
    have LEN := Lib.hid hlen
    have B2 := Lib.hid hb2
    have EL := Lib.hid eL
    clear hm hm2 hKid hr2 hn2 hb2 C1 TA HR eL
    go_wp2_with (go_at_call 17; refine A.out.mono ?_; rintro e w3 ⟨rfl, h3⟩; have R := Lib.hid h3; clear h3)
    go_ret
    obtain ⟨S', v', hm3, he, hf⟩ := R.out
    refine ⟨by rw [← LEN.out]; rfl, S', _, ⟨_, _, by rw [List.map_append, EL.out]; rfl, hm3⟩, ?_, ?_, (Rw.fr_then F1.out B2.out).trans hf (.refl _ _)⟩
    · intro k hk
      exact (he k hk).imp id fun h => Nat.le_trans F1.out.size (Nat.le_trans B2.out.size h)
    · rintro k (hk | hk)
      · exact .inl hk
      · exact .inr (Nat.le_trans F1.out.size hk.1)

theorem leaf_nil (s n : Int) (w : World) : Calls Try.prog 6 #[.pointer none, .int .i64 s, .int .i64 n] w (Is (.int .i64 (-1)) w) := by
  go_enter Try.func6, Try.ntmps6
  go_wp2
  go_ret
  exact ⟨rfl, .refl _ _⟩
theorem join_nil (s r : Int) (v : Value) (w : World) : Calls Try.prog 7 #[.pointer none, .int .i64 s, .int .i64 r, v] w (Is (.int .i64 (-1)) w) := by
  go_enter Try.func7, Try.ntmps7
  go_wp2
  go_ret
  exact ⟨rfl, .refl _ _⟩
end
end Go.Proofs.Ytoohnkffclkmhaa.Tr
