/-
  A name that occurs twice: by the program (a map of the names) and by the plain answers (each name's place among those ahead of it).
-/
import Derived.Test.YtoohnkffclkmhaaGramNames
import Derived.Test.YtoohnkffclkmhaaGramEq
namespace Go.Proofs.Ytoohnkffclkmhaa.Gr
open Go.RowKit Go.Maps
set_option linter.unusedVariables false

theorem law : Keyed Try.prog 9 := string_keyed Try.underlying9
theorem key_of {s : ByteArray} (h : s.size ≤ maxLen) : keyOf Try.prog 9 (.string s) = some (.string s.data.toList) := WideMaps.keyOf_string_mk Try.underlying9 h
theorem key_lit {s : ByteArray} (h : s.size ≤ maxLen) : WideAt.IsKeyLit (.string s.data.toList) := law.key (key_of h)
noncomputable abbrev ReadI : Value → Option (DataW Unit × List MemPlace) := plainElem Try.prog 3

/-- The map's keys are the names of a list; how many it has. -/
def Keys (L : List ByteArray) (D : DataW Unit) : Prop :=
  (∀ s : ByteArray, Maps.has D (.string s.data.toList) = It.isIn L s) ∧ Maps.size D ≤ L.length ∧ (Maps.size D = L.length ↔ L.Nodup)

theorem keys_nil : Keys [] (.map []) := ⟨fun s => rfl, by simp [Maps.size], by simp [Maps.size]⟩
theorem keys_put {L : List ByteArray} {D : DataW Unit} {s : ByteArray} (hT : Tidy D) (hM : IsMap D) (hk : WideAt.IsKeyLit (.string s.data.toList)) (h : Keys L D) (d : DataW Unit) : Keys (L ++ [s]) (D.put (.string s.data.toList) d) := by
  obtain ⟨h1, h2, h3⟩ := h
  have hz := size_put (k := .string s.data.toList) hT d
  rw [h1 s] at hz
  refine ⟨fun t => ?_, ?_, ?_⟩
  · by_cases e : s = t
    · subst e
      rw [has_put_same hM hk, It.isIn_snoc]
    · have hne : (Lit.string t.data.toList) ≠ .string s.data.toList := fun h => e (It.data_inj (by injection h with h; exact h.symm))
      rw [has_put_other hne, h1 t, Bool.eq_iff_iff, It.isIn_mem, It.isIn_mem]
      simp [Ne.symm e]
  · rw [hz]
    split <;> simp <;> omega
  · rw [hz]
    cases hi : It.isIn L s with
    | true =>
      have hm := It.isIn_mem.1 hi
      rw [if_pos rfl]
      constructor
      · intro e
        simp at e
        omega
      · intro hN
        rw [List.nodup_append] at hN
        exact absurd rfl (hN.2.2 s hm s (by simp))
    | false =>
      have hm : s ∉ L := fun h => by rw [It.isIn_mem.2 h] at hi; cases hi
      rw [if_neg (by simp)]
      simp only [List.length_append, List.length_cons, List.length_nil, Nat.zero_add, Nat.add_right_cancel_iff]
      rw [h3, List.nodup_append]
      constructor
      · intro hN
        refine ⟨hN, by simp, fun a ha b hb => ?_⟩
        simp only [List.mem_singleton] at hb
        subst hb
        exact fun e => hm (e ▸ ha)
      · exact fun hN => hN.1

theorem name_size {G : Gram} (h : GOk G) {s : Nat} (hs : s < (names G).length) : ((names G)[s]).size ≤ 140737488355328 := by
  have := List.getElem_mem hs
  rcases List.mem_append.1 (show (names G)[s] ∈ G.terms ++ G.nons from this) with h1 | h1
  · exact h.terms _ h1
  · exact h.nons _ h1

set_option maxRecDepth 100000 in
set_option maxHeartbeats 4000000 in
theorem namedTwice_any (h : Sh) (G : Gram) (w : World) (k : GAt h G w) :
    Calls Try.prog 36 #[gv h G] w (Is (.bool (!onceB G)) w) := by
  have T := Lib.hid (fun w1 (b : Below w.heap.size w w1) => top_any h G w1 (k.went b))
  have N := Lib.hid (fun s w1 (b : Below w.heap.size w w1) => name_any h G s w1 (k.went b))
  have X := Lib.hid (Bx.start h G w 43)
  have SZ := Lib.hid (fun s hs => name_size k.ok (s := s) hs)
  have ht : top G ≤ 281474976710656 := by have := k.t2; have := k.n2; unfold top; omega
  have hmm := @run_makeMap Try.prog
  clear k
  unfold gv
  go_enter Try.func36, Try.ntmps36
  go_wp2
  go_loopw [4] (fun i wr => ∃ j : Nat, ∃ D, j ≤ top G ∧ i = .int .i64 ((j : Int) + 1) ∧ Bx w h G wr ∧ wr.ownsMap Try.prog 9 ReadI (w.heap.size + 1) j D ∧ Keys ((names G).take j) D) (fun i _ => (top G + 1) - (intOf i).toNat)
  case atStart => exact ⟨0, .map [], Nat.zero_le _, rfl, X.out.alloc _, by simpa using World.ownsMap_made (w.alloc _) Try.prog 9 ReadI, by simpa using keys_nil⟩
  case round =>
    clear X
    obtain ⟨j, D, hj, rfl, hX, hO, hK⟩ := hrel
    have X := Lib.hid hX
    obtain ⟨x0, x1, x2, x3⟩ := hX.box
    have O := Lib.hid hO
    have KY := Lib.hid hK
    clear hX hO hK
    by_cases hlt : j < top G
    · have hl : j < (names G).length := by rw [names_length]; exact hlt
      have E := Lib.hid (name_in hlt)
      have ST := Lib.hid (List.take_succ_eq_append_getElem hl)
      have hs := SZ.out j hl
      generalize (names G)[j] = x at E ST hs
      have hk := Lib.hid (key_of (s := x) (by unfold maxLen; omega))
      have K2 := Lib.hid (fun d => keys_put (O.out.tidy law) O.out.isMap (key_lit (s := x) (by unfold maxLen; omega)) KY.out d)
      clear hl
      go_wp2_with (first
        | (go_at_call 52; refine (T.out _ X.out.below).mono ?_; rintro e w1 ⟨rfl, hb⟩; have X := Lib.hid (X.out.went hb); have O := Lib.hid (Sep.ownsMap_at O.out (hb.block _ O.out.lt)); obtain ⟨x0, x1, x2, x3⟩ := X.out.box; clear hb)
        | (go_at_call 29; refine (N.out _ _ X.out.below).mono ?_; rw [E.out]; rintro e w2 ⟨rfl, hb⟩; have X := Lib.hid (X.out.went hb); have O := Lib.hid (Sep.ownsMap_at O.out (hb.block _ O.out.lt)); clear hb)
        | (at_mapUpdate; refine wpList_mapUpdate_own _ rfl _ _ _ 90 rfl 9 3 law Try.underlying90 ReadI (w.heap.size + 1) j D rfl O.out (by unfold maxLen; omega) _ _ _ rfl rfl hk.out _ [] (plainElem_int Try.underlying3 (WalkArith.wf_i64 (by omega))) ?_; intro w3 hown1 hg1; have X := Lib.hid (X.out.grown hg1 (fun q hq => by injection hq with hq; omega)); have O := Lib.hid hown1; clear hown1 hg1))
      go_roundw
      case rel => exact ⟨j + 1, _, by omega, by go_num, X.out, O.out, by rw [ST.out]; exact K2.out _⟩
      case measure => simp [intOf]; omega
    · have hE : j = top G := by omega
      subst hE
      have HK := Lib.hid (show Keys (names G) D by have h1 := KY.out; rw [List.take_of_length_le (by rw [names_length]; exact Nat.le_refl _)] at h1; exact h1)
      have hsz := HK.out.2.1
      rw [names_length] at hsz
      go_wp2_with (first
        | (go_at_call 52; refine (T.out _ X.out.below).mono ?_; rintro e w1 ⟨rfl, hb⟩; have X := Lib.hid (X.out.went hb); have O := Lib.hid (Sep.ownsMap_at O.out (hb.block _ O.out.lt)); obtain ⟨x0, x1, x2, x3⟩ := X.out.box; clear hb)
        | (at_len; refine wpList_len_own _ rfl _ 90 rfl 9 3 Try.underlying90 ReadI (w.heap.size + 1) (top G) D rfl O.out ?_))
      go_ret
      refine ⟨bool_of ?_, X.out.below⟩
      have h3 := HK.out.2.2
      rw [names_length] at h3
      unfold onceB
      by_cases hN : (names G).Nodup
      · rw [decide_eq_true hN]
        have := h3.2 hN
        simp
        omega
      · rw [decide_eq_false hN]
        have : ¬ Maps.size D = top G := fun e => hN (h3.1 e)
        simp
        omega

/-! ### The plain answers: once -/

theorem nodup_next {L : List ByteArray} {k : Nat} (hk : k < L.length) (h : (L.take k).Nodup) (hp : It.place (L.take k) L[k] = -1) : (L.take (k + 1)).Nodup := by
  rw [List.take_succ_eq_append_getElem hk, List.nodup_append]
  refine ⟨h, by simp, fun a ha b hb => ?_⟩
  simp only [List.mem_singleton] at hb
  subst hb
  rintro rfl
  rw [It.place_in (It.isIn_mem.2 ha)] at hp
  omega
theorem nodup_fail {L : List ByteArray} {k : Nat} (hk : k < L.length) (hp : ¬ It.place (L.take k) L[k] = -1) : ¬ L.Nodup := by
  intro hN
  cases hi : It.isIn (L.take k) L[k] with
  | false => exact hp (It.place_out hi)
  | true =>
    have hm := It.isIn_mem.1 hi
    obtain ⟨i, hi', e⟩ := List.mem_iff_getElem.1 hm
    simp at hi'
    rw [List.getElem_take] at e
    have := (List.getElem_inj hN (i := i) (j := k) (h₀ := by omega) (h₁ := hk)).1 e
    omega

theorem quiet_flip {P : Program} {f : FuncId} {args : Array Value} {w : World} {v : Value} (h : Calls P f args w fun e w' => e = .returned v ∧ w = w') : Calls P f args w fun e w' => e = .returned v ∧ w' = w :=
  h.mono fun _ _ ⟨h1, h2⟩ => ⟨h1, h2.symm⟩

end Go.Proofs.Ytoohnkffclkmhaa.Gr
