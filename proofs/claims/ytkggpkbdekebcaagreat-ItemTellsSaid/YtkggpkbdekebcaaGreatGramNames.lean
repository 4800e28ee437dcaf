/-
  The plain answers of layer 6: the list of all names, a name's place, Name, Find.
-/
import Derived.Test.YtkggpkbdekebcaaGreatGramAppend
namespace Go.Proofs.YtkggpkbdekebcaaGreat.Gr
open Go.RowKit Go.Maps
set_option linter.unusedVariables false

theorem info_string : (Tryz.prog.info? 9).map (fun i => (i.zero, i.size, i.bytes)) = some (some (.string ByteArray.empty), 1, 16) := by kernel_rfl
theorem strings_oneCell (L : List ByteArray) : ∀ u ∈ L.map Value.string, u.oneCell' = true := by
  intro u hu
  obtain ⟨s, _, rfl⟩ := List.mem_map.1 hu
  rfl
theorem build_nos (w : World) : (Instr.buildSlice 22 0 #[]).run Tryz.prog w = .ok (.slice (some ⟨w.heap.size, 0, none⟩) 0 0) (w.alloc (.cells #[] 9)) := by kernel_rfl

/-- A new list of strings comes back; nothing that was there is written. -/
def ListedS (L : List ByteArray) (w : World) (e : Ending) (w' : World) : Prop :=
  ∃ a c, e = .returned (.slice a L.length c) ∧ Sep.Reads a (L.map .string) w' ∧ L.length ≤ c ∧ Below w.heap.size w w'

theorem row_cap {w : World} {base n c : Nat} {e : TypeId} {a : Option Addr} {xs : List Value} (h : w.ownsRow base e 1 (.slice a n c) n xs) : n ≤ c := by
  rcases h.2 with ⟨h1, h2⟩ | ⟨g, cap, cur, h1, _, _, h3, _⟩
  · omega
  · simp only [Value.slice.injEq] at h1
    omega

set_option maxHeartbeats 1000000 in
theorem place_any (L : List ByteArray) (s : ByteArray) (a : Option Addr) (c : Nat) (w : World) (h : Sep.Reads a (L.map .string) w) (hl : L.length ≤ 17592186044416) :
    Calls Tryz.prog 39 #[.slice a L.length c, .string s] w fun e w' => e = .returned (.int .i64 (It.place L s)) ∧ w = w' := by
  have HR := Lib.hid h
  clear h
  go_enter Tryz.func39, Tryz.ntmps39
  go_wp2
  go_loop [5] (fun i => ∃ k : Nat, k ≤ L.length ∧ i = .int .i64 k ∧ Ahead L s k) (fun i => L.length - (intOf i).toNat)
  case atStart => exact ⟨0, Nat.zero_le _, rfl, ahead_zero _ _⟩
  case round =>
    obtain ⟨k, hk, rfl, hb⟩ := hrel
    have HB := Lib.hid hb
    clear hb
    by_cases hlt : k < L.length
    · obtain ⟨b, o, rfl, hc⟩ := HR.out k (by simpa using hlt)
      simp only [List.getElem_map] at hc
      by_cases he : L[k] = s
      · rw [he] at hc
        have HP := Lib.hid (ahead_hit HB.out hlt he)
        clear he
        go_wp2
        go_ret
        exact ⟨by rw [HP.out]; rfl, rfl⟩
      · have HN := Lib.hid (ahead_step HB.out hlt he)
        have hne := bytes_ne he
        clear he
        go_wp2
        go_round
        case rel => exact ⟨k + 1, by omega, by go_num, HN.out⟩
        case measure => simp [intOf]; omega
    · have HE := Lib.hid (ahead_end HB.out hlt)
      go_wp2
      go_ret
      exact ⟨by rw [HE.out]; rfl, rfl⟩

set_option maxHeartbeats 2000000 in
theorem names_any (h : Sh) (G : Gram) (w : World) (k : GAt h G w) (ht : G.terms.length + G.nons.length ≤ 65536) :
    Calls Tryz.prog 23 #[gv h G] w (ListedS (names G) w) := by
  obtain ⟨i0, hi0, hz0, hz1, hz2⟩ := info_parts info_string
  have X := Lib.hid (Bx.start h G w 25)
  have HT := Lib.hid (fun w1 (b : Below w.heap.size w w1) => (k.went b).terms)
  have HN := Lib.hid (fun w1 (b : Below w.heap.size w w1) => (k.went b).nons)
  have hb := build_nos
  clear k
  unfold gv
  go_enter Tryz.func23, Tryz.ntmps23
  go_wp2
  obtain ⟨wq, hwq⟩ : ∃ wq, w.alloc (.cells #[.slice h.a1 G.terms.length h.c1, .slice h.a2 G.nons.length h.c2, .slice h.a3 G.rules.length h.c3, .int .i64 G.start] 25) = wq := ⟨_, rfl⟩
  rw [hwq]
  rw [hwq] at X
  clear hwq
  have HQ := Lib.hid (show ∀ w', Below wq.heap.size wq w' → w'.cell? ⟨w.heap.size, 0, none⟩ = some (.slice h.a1 G.terms.length h.c1) ∧ w'.cell? ⟨w.heap.size, 1, none⟩ = some (.slice h.a2 G.nons.length h.c2) ∧ Below wq.heap.size wq w'
    from fun w' b => ⟨cell_later b X.out.box.x0, cell_later b X.out.box.x1, b⟩)
  have hbd := drawn wq
  have hbe : Below wq.heap.size wq (wq.drew.alloc (.cells #[] 9)) := hbd.alloc (Nat.le_refl _) _
  have hbf : Below wq.heap.size wq (wq.alloc (.cells #[] 9)).drew := ((Below.refl _ _).alloc (Nat.le_refl _) _).drew
  have HO := Lib.hid (show (wq.alloc (.cells #[] 9)).drew.ownsRow wq.heap.size 9 1 (.slice (some ⟨wq.heap.size, 0, none⟩) 0 0) 0 [] from World.ownsRow_made wq #[] 0 (Nat.le_refl _) (by simp) (by simp))
  have HS := Lib.hid (strings_oneCell G.terms)
  have HS2 := Lib.hid (strings_oneCell G.nons)
  go_region_held3 (fun w' => w'.cell? ⟨w.heap.size, 0, none⟩ = some (.slice h.a1 G.terms.length h.c1) ∧ w'.cell? ⟨w.heap.size, 1, none⟩ = some (.slice h.a2 G.nons.length h.c2) ∧ Below wq.heap.size wq w')
    (exact HQ.out _ (by assumption))
    (first
      | (refine step_append_src _ (by rfl) (.tmp 3) (.tmp 5) 22 (by rfl) wq.heap.size 9 i0 (.string ByteArray.empty) 16 Tryz.underlying22 hi0 hz0 hz1 hz2 rfl _ 0 [] (by rfl) HO.out h.a1 G.terms.length h.c1 (G.terms.map .string) (by rfl) (by simp) (HT.out _ (step X.out.below hbf)) HS.out (by unfold maxLen; omega) (by omega) (by simp) ?_
         intro v1 w1 hown1 hg1 hat1
         have kB : Below wq.heap.size wq w1 := hbf.grown hg1 (by simp) (fun q hq => (HO.out.lt q hq).1)
         have HO1 := Lib.hid hown1
         clear hown1 hg1 hat1)
      | (refine step_append_src _ (by rfl) (.tmp 6) (.tmp 8) 22 (by rfl) wq.heap.size 9 i0 (.string ByteArray.empty) 16 Tryz.underlying22 hi0 hz0 hz1 hz2 rfl _ (0 + G.terms.length) ([] ++ G.terms.map .string) (by rfl) HO1.out h.a2 G.nons.length h.c2 (G.nons.map .string) (by rfl) (by simp) (HN.out _ (step X.out.below kB)) HS2.out (by unfold maxLen; omega) (by omega) kB.size ?_
         intro v2 w2 hown2 hg2 hat2
         have kC : Below wq.heap.size wq w2 := kB.grown hg2 kB.size (fun q hq => (HO1.out.lt q hq).1)
         have HO2 := Lib.hid hown2
         clear hown2 hg2 hat2)
      | fail)
  have HF := Lib.hid (show ListedS (names G) w (.returned v2) w2 from by
    have h1 := HO2.out
    rw [List.nil_append, ← List.map_append, Nat.zero_add, ← List.length_append] at h1
    obtain ⟨a', c', rfl⟩ := Sep.ownsRow_shape h1
    exact ⟨a', c', rfl, .of_row h1, row_cap h1, step X.out.below kC⟩)
  go_wp2
  go_ret
  exact HF.out

theorem place_le (L : List ByteArray) (s : ByteArray) : -1 ≤ It.place L s ∧ It.place L s ≤ L.length := by
  cases h : It.isIn L s with
  | true => rw [It.place_in h]; have := It.num_le (L := L) (s := s); omega
  | false => rw [It.place_out h]; omega

end Go.Proofs.YtkggpkbdekebcaaGreat.Gr
