/-
  The maker: the names before colons, in a map. Condition: names fit a machine.
-/
import Derived.Test.YtimfiaphhomelaaGreatGreadNum
namespace Go.Proofs.YtimfiaphhomelaaGreat.Rd
open Go.RowKit Go.Maps
open Go.Proofs.YtimfiaphhomelaaGreat.Tk (Tok tcs cells cells_length cells_snoc Just info_tok cells_three_new)
set_option linter.unusedVariables false
set_option linter.unusedSimpArgs false

/-- A rule of a row, at its place. -/
theorem RulesV.get {base : Nat} {S : List Rul} {v : Value} {w : World} (h : RulesV base S v w) (j : Nat) (hj : j < S.length) : ∃ g c u lo hi, v = .slice (some ⟨g, 0, none⟩) S.length c ∧
    w.cell? ⟨g, j * 4, none⟩ = some (.int .i64 S[j].left.k) ∧ w.cell? ⟨g, j * 4 + 1, none⟩ = some (.string S[j].left.s) ∧ w.cell? ⟨g, j * 4 + 2, none⟩ = some (.int .i64 (S[j].left.at_ : Int)) ∧ w.cell? ⟨g, j * 4 + 3, none⟩ = some u ∧
    base ≤ lo ∧ hi ≤ w.heap.size ∧ SidesH lo hi S[j].sides u w := by
  obtain ⟨L, rfl, h2, h3⟩ := h
  have hj' : j < L.length := by simpa using hj
  obtain ⟨g, c, hv, _, _, hc⟩ := row4_at rc rc_length h2 j hj'
  have hm := List.getElem_mem hj'
  obtain ⟨lo, hi, g1, g2, g3, _⟩ := h3 _ hm
  refine ⟨g, c, L[j].2, lo, hi, by rw [hv, List.length_map], ?_, ?_, ?_, ?_, g1, g2, ?_⟩
  · rw [List.getElem_map]; exact hc 0 _ (by omega) rfl
  · rw [List.getElem_map]; exact hc 1 _ (by omega) rfl
  · rw [List.getElem_map]; exact hc 2 _ (by omega) rfl
  · exact hc 3 _ (by omega) rfl
  · rw [List.getElem_map]; exact g3

/-- A declaration of a row, at its place. -/
theorem DeclsV.get {base : Nat} {S : List Decl} {v : Value} {w : World} (h : DeclsV base S v w) (j : Nat) (hj : j < S.length) : ∃ g c u, v = .slice (some ⟨g, 0, none⟩) S.length c ∧
    w.cell? ⟨g, j * 4, none⟩ = some (.int .i64 S[j].mark.k) ∧ w.cell? ⟨g, j * 4 + 1, none⟩ = some (.string S[j].mark.s) ∧ w.cell? ⟨g, j * 4 + 2, none⟩ = some (.int .i64 (S[j].mark.at_ : Int)) ∧ w.cell? ⟨g, j * 4 + 3, none⟩ = some u ∧ Toks base S[j].names u w := by
  obtain ⟨L, rfl, h2, h3, _⟩ := h
  have hj' : j < L.length := by simpa using hj
  obtain ⟨g, c, hv, _, _, hc⟩ := row4_at dc dc_length h2 j hj'
  have hm := List.getElem_mem hj'
  refine ⟨g, c, L[j].2, by rw [hv, List.length_map], ?_, ?_, ?_, ?_, ?_⟩
  · rw [List.getElem_map]; exact hc 0 _ (by omega) rfl
  · rw [List.getElem_map]; exact hc 1 _ (by omega) rfl
  · rw [List.getElem_map]; exact hc 2 _ (by omega) rfl
  · exact hc 3 _ (by omega) rfl
  · rw [List.getElem_map]; exact h3 _ hm

theorem keys_none : KeysIn [] (DataW.map ([] : List (Lit × DataW Unit))) := fun s => rfl

theorem keys_put' {L : List ByteArray} {D : DataW Unit} {s : ByteArray} (hM : IsMap D) (hk : WideAt.IsKeyLit (.string s.data.toList)) (h : KeysIn L D) (d : DataW Unit) : KeysIn (L ++ [s]) (D.put (.string s.data.toList) d) := keys_put hM hk h d

/-- The names before colons come back in a new map. -/
def GaveL (L : List ByteArray) (w : World) (e : Ending) (w' : World) : Prop :=
  ∃ b n D, e = .returned (.map (some b)) ∧ w.heap.size ≤ b ∧ w'.ownsMap Tryz.prog 9 RU b n D ∧ KeysIn L D ∧ Below w.heap.size w w'

def LeLoop (rules : List Rul) (w : World) (g : Nat) (i : Value) (wr : World) : Prop :=
  ∃ j D, j + g = rules.length ∧ i = .int .i64 (j : Int) ∧ wr.ownsMap Tryz.prog 9 RU (w.heap.size + 1) j D ∧ KeysIn ((rules.take j).map (·.left.s)) D ∧ Below w.heap.size w wr

/-- A source's value. -/
abbrev srcV (dv rv : Value) : Value := .agg #[dv, rv]

set_option maxRecDepth 100000 in
set_option maxHeartbeats 8000000 in
theorem lefts_any {base : Nat} (w : World) (src : Src) (dv rv : Value) (hv0 : ∃ a n c, dv = .slice a n c) (hd : RulesV base src.rules rv w) (hlen : src.rules.length ≤ 10000) (hs : ∀ R ∈ src.rules, R.left.s.size ≤ maxLen) :
    Calls Tryz.prog 51 #[srcV dv rv] w (GaveL (leftsM src) w) := by
  obtain ⟨a0, n0, c0, rfl⟩ := hv0
  obtain ⟨a, c, rfl⟩ := hd.len
  have hmm := @run_makeMap Tryz.prog
  have B1 := Lib.hid (Gr.step (Gr.boxed w (.cells #[.slice a0 n0 c0, .slice a src.rules.length c] 58)) (Gr.boxed _ (.map #[] 0)))
  have M1 := Lib.hid (World.ownsMap_made (w.alloc (.cells #[.slice a0 n0 c0, .slice a src.rules.length c] 58)) Tryz.prog 9 RU)
  have HD := Lib.hid hd
  have HS := Lib.hid hs
  clear hd hs
  generalize hnn : src.rules.length = nn at *
  have HNN := Lib.hid hnn
  clear hnn
  go_enter Tryz.func51, Tryz.ntmps51
  go_wp2
  go_loopg [10] nn (fun g i wr => LeLoop src.rules w g i wr)
  case atStart => exact ⟨0, _, by rw [HNN.out]; omega, rfl, by simpa using M1.out, keys_none, B1.out⟩
  case round =>
    clear B1 M1
    obtain ⟨j, D, hj, rfl, hO, hK, hB⟩ := hrel
    rw [HNN.out] at hj
    have O := Lib.hid hO
    have K := Lib.hid hK
    have B := Lib.hid hB
    have HD2 := Lib.hid (HD.out.went hB)
    clear hO hB hK
    by_cases hlt : j < nn
    · have hj2 : j < src.rules.length := by rw [HNN.out]; exact hlt
      obtain ⟨g, c', u, lo, hi, hv, k0, k1, k2, k3, kl, kh, kS⟩ := HD2.out.get j hj2
      obtain ⟨a3, c3, rfl⟩ := kS.sides.len
      simp only [Value.slice.injEq] at hv
      have ha := hv.1
      clear hv
      subst ha
      have TK := Lib.hid (List.take_succ_eq_append_getElem hj2)
      have hst := HS.out _ (List.getElem_mem hj2)
      generalize src.rules[j] = R at k0 k1 k2 k3 TK hst kS
      have hg : g < wr.heap.size := World.block_lt_of_cell? wr ⟨g, j * 4, none⟩ k0
      clear kS
      generalize R.sides.length = n3 at *
      have B2 := Lib.hid (Gr.boxed wr (.cells #[.int .i64 R.left.k, .string R.left.s, .int .i64 (R.left.at_ : Int), .slice a3 n3 c3] 94))
      have KO := Lib.hid (key_of hst)
      have KL := Lib.hid (key_lit hst)
      go_wp2_with (at_mapUpdate; refine wpList_mapUpdate_own _ rfl _ _ _ 83 rfl 9 114 law Tryz.underlying83 RU (w.heap.size + 1) j D rfl (Sep.ownsMap_at O.out (B2.out.block _ O.out.lt)) (by unfold maxLen; omega) _ _ _ rfl rfl KO.out _ [] unitElem_mk ?_; intro w3 hown3 hg3; have O3 := Lib.hid hown3; have B3 := Lib.hid ((Gr.step B.out B2.out).grown hg3 (Nat.le_trans B.out.size B2.out.size) fun g hg => by injection hg with hg; omega); clear hown3 hg3)
      go_roundg (nn - (j + 1))
      case rel =>
        refine ⟨j + 1, _, by rw [HNN.out]; omega, by go_num, O3.out, ?_, B3.out⟩
        rw [TK.out, List.map_append]
        exact keys_put O.out.isMap KL.out K.out _
      case measure => omega
    · have hfull : src.rules.take j = src.rules := List.take_of_length_le (by rw [HNN.out]; omega)
      rw [hfull] at K
      go_wp2
      go_ret
      exact ⟨_, j, D, rfl, by omega, O.out, K.out, B.out⟩

end Go.Proofs.YtimfiaphhomelaaGreat.Rd
