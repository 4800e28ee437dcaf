/-
  The maker: a right side. Condition: names of at most 10000 bytes, at most 10000 of them.
-/
import Derived.Test.YtimfiaphhomelaaGreatGreadJoin
namespace Go.Proofs.YtimfiaphhomelaaGreat.Rd
open Go.RowKit Go.Maps
open Go.Proofs.YtimfiaphhomelaaGreat.Tk (Tok tcs cells cells_length cells_snoc Just info_tok cells_three_new)
set_option linter.unusedVariables false
set_option linter.unusedSimpArgs false

theorem joinedS_le (left : Tok) (s : Side) (hlen : s.syms.length ≤ 10000) (hl : left.s.size ≤ 10000) (hs : ∀ t ∈ s.syms, t.s.size ≤ 10000) : (joinedS left s).size ≤ maxLen := by
  have := join_le left.s.data.toList ((s.syms.map (·.s)).map (·.data.toList)) (fun y hy => by
    rcases List.mem_cons.1 hy with rfl | hy
    · exact hl
    · obtain ⟨b, hb, rfl⟩ := List.mem_map.1 hy
      obtain ⟨t, ht, rfl⟩ := List.mem_map.1 hb
      exact hs t ht)
  simp only [List.length_map] at this
  have e : (joinedS left s).size = (Lib.join (left.s.data.toList :: (s.syms.map (·.s)).map (·.data.toList)) [32]).length := by simp [joinedS, ByteArray.size]
  rw [e]
  unfold maxLen
  omega

theorem keys_put {L : List ByteArray} {D : DataW Unit} {s : ByteArray} (hM : IsMap D) (hk : WideAt.IsKeyLit (.string s.data.toList)) (h : KeysIn L D) (d : DataW Unit) : KeysIn (L ++ [s]) (D.put (.string s.data.toList) d) := fun t => by
  by_cases e : s = t
  · subst e
    rw [has_put_same hM hk, It.isIn_snoc]
  · have hne : (Lit.string t.data.toList) ≠ .string s.data.toList := fun h => e (It.data_inj (by injection h with h; exact h.symm))
    rw [has_put_other hne, h t, Bool.eq_iff_iff, It.isIn_mem, It.isIn_mem]
    simp [Ne.symm e]

theorem MParts.text {m : Nat} {S : Nat → Prop} {lf : List ByteArray} {st : MSt} {b1 n1 b2 p1 p2 : Nat} {S1 S2 : Nat → Prop} {D1 D2 : DataW Unit} {w w1 : World} (h : MParts m S lf st b1 n1 b2 p1 p2 S1 S2 D1 D2 w) (s : ByteArray) (hs : s.size ≤ maxLen) (hn : It.isIn st.texts s = false) (hl : st.texts.length < 300)
    (ho : w1.ownsMap Tryz.prog 9 RU b2 (st.texts.length + 1) (D2.put (.string s.data.toList) (.agg []))) (hg : w.grownBy w1 (some b2)) : MAt m S lf { st with texts := st.texts ++ [s] } w1 := by
  have e (k : Nat) (hk : S k) (hne : k ≠ b2) : w1.heap[k]? = w.heap[k]? := hg.block k (h.inn k hk) (fun e => hne (by injection e))
  have hz := size_put (k := .string s.data.toList) (World.ownsMap.tidy h.map2 law) (DataW.agg ([] : List (DataW Unit)))
  rw [h.k2 s, hn] at hz
  refine ⟨b1, n1, b2, p1, p2, S1, S2, D1, D2.put (.string s.data.toList) (.agg []), ?_⟩
  exact ⟨(World.cell?_of_block (a := ⟨m, 0, none⟩) (e m h.sm h.mb.2.1)).trans h.c0, (World.cell?_of_block (a := ⟨m, 1, none⟩) (e m h.sm h.mb.2.1)).trans h.c1, (World.cell?_of_block (a := ⟨m, 2, none⟩) (e m h.sm h.mb.2.1)).trans h.c2, (World.cell?_of_block (a := ⟨m, 3, none⟩) (e m h.sm h.mb.2.1)).trans h.c3, (World.cell?_of_block (a := ⟨m, 4, none⟩) (e m h.sm h.mb.2.1)).trans h.c4,
    (World.frozen?_of_block (a := ⟨m, 4, none⟩) (e m h.sm h.mb.2.1)).trans h.free, Sep.ownsMap_at h.map1 (e b1 h.sb1 h.mb.2.2), by rw [List.length_append]; exact ho, h.k1, keys_put h.map2.isMap (key_lit hs) h.k2 _, by rw [hz, List.length_append, h.z2]; rfl, by rw [List.length_append]; simp; omega,
    h.nm1.keep hg.size (fun k hk hS => hg.block k hk (fun e => h.x2.1 (by injection e with e; exact e ▸ hS))), h.nm2.keep hg.size (fun k hk hS => hg.block k hk (fun e => h.x2.2 (by injection e with e; exact e ▸ hS))), h.sm, h.sb1, h.sb2, h.s1, h.s2, h.inn.le hg.size, h.mb, h.m1, h.x1, h.x2, h.off⟩

/-- The loop over symbols. -/
def SyLoop (m : Nat) (S : Nat → Prop) (lf : List ByteArray) (st : MSt) (syms : List Tok) (x : Mo (List ByteArray)) (w : World) (g : Nat) (i : Value) (wr : World) : Prop :=
  ∃ j L T, j + g = syms.length ∧ i = .int .i64 (j : Int) ∧ symsM lf L (syms.drop j) j = x ∧ MAt m T lf { st with L1 := L } wr ∧ Sep.Fr S w wr ∧ Sep.Ext T S w

theorem symsM_cons (lf L : List ByteArray) (t : Tok) (r : List Tok) (i : Nat) : symsM lf L (t :: r) i = (symM lf L t i).bind fun L' => symsM lf L' r (i + 1) := rfl

set_option maxRecDepth 100000 in
set_option maxHeartbeats 8000000 in
theorem side_any {m base : Nat} {S : Nat → Prop} {lf : List ByteArray} {st : MSt} (w : World) (h : MAt m S lf st w) (left : Tok) (s : Side) (sv : Value) (hd : ∀ w', Sep.Fr S w w' → Toks base s.syms sv w') (hlen : s.syms.length ≤ 10000) (hl : left.s.size ≤ 10000) (hf : s.first.s.size ≤ 10000) (hs : ∀ t ∈ s.syms, t.s.size ≤ 10000) :
    Calls Tryz.prog 87 #[.pointer (some ⟨m, 0, none⟩), tokV left, sideV s sv] w (MGave m S lf (sideM lf left st s) w) := by
  have hd0 := hd w (.refl _ _)
  obtain ⟨a, c, rfl⟩ := row_shape hd0
  have b1 := Gr.step (Gr.boxed w (.cells #[.int .i64 left.k, .string left.s, .int .i64 (left.at_ : Int)] 75)) (Gr.boxed _ (.cells #[.int .i64 s.first.k, .string s.first.s, .int .i64 (s.first.at_ : Int), .slice a s.syms.length c] 122))
  have JC := Lib.hid (joined_any _ left s _ (hd0.went b1) hlen hl hs)
  have hjl := joinedS_le left s hlen hl hs
  have B1 := Lib.hid b1
  have hm := h.lt
  have SD := Lib.hid ((Bk.new (w.alloc (.cells #[.int .i64 left.k, .string left.s, .int .i64 (left.at_ : Int)] 75)) #[.int .i64 s.first.k, .string s.first.s, .int .i64 (s.first.at_ : Int), .slice a s.syms.length c] 122 (w.heap.size + 1) (by simp)))
  have UK := Lib.hid (fun w1 (hb : Below w.heap.size w w1) => unknown_any w1 (h.went hb) s.first (by unfold maxLen; omega))
  have RF := Lib.hid (fun (k : Int) w1 => refuse_any s.first k w1)
  obtain ⟨b1', n1, b2, p1, p2, S1, S2, D1, D2, hM⟩ := h
  have MK := Lib.hid (fun w1 (hb : Below w.heap.size w w1) => hM.keep hb.size fun k hk _ => hb.block k hk)
  have SB2 := Lib.hid hM.sb2
  have hbm : b2 ≠ w.heap.size := fun e => by have := hM.inn b2 hM.sb2; omega
  have ht2 := hM.t2
  have hb2l : b2 < w.heap.size := hM.inn b2 hM.sb2
  clear b1 hM hd0
  unfold sideM
  generalize hjs : joinedS left s = js at *
  clear hjs
  have KO := Lib.hid (key_of (s := js) hjl)
  cases ht : It.isIn st.texts js with
  | true =>
    clear hd hlen hl hf hs
    generalize s.syms.length = nn at *
    go_enter Tryz.func87, Tryz.ntmps87
    go_wp2_with (first
      | (go_at_call 111; refine JC.out.mono ?_; rintro e w1 ⟨rfl, hb⟩; have HB := Lib.hid (Gr.step B1.out hb); have M1 := Lib.hid (MK.out _ (Gr.step B1.out hb)); have m1 := M1.out.c1; obtain ⟨y0, y1, y2, y3, yf⟩ := (SD.out.went hb).four; have hs1 : w.heap.size + 1 < w1.heap.size := (SD.out.went hb).lt; clear hb)
      | (at_lookup; refine wpList_lookup_own_unit _ rfl _ _ 83 rfl 9 114 law Tryz.underlying83 (zero_unit _) b2 st.texts.length D2 rfl M1.out.map2 _ _ rfl KO.out ?_; rw [M1.out.k2 js, ht])
      | (go_at_call 85; refine (RF.out 8 _).mono ?_; rintro e w2 ⟨rfl, hb⟩; have HG := Lib.hid (Gr.step (Gr.step HB.out (Gr.boxed _ _)) hb); clear hb))
    exact ⟨rfl, rfl, Sep.Fr.of_below HG.out⟩
  | false =>
    simp only [Bool.false_eq_true, if_false]
    cases hu : unkB st.L1 lf s.first with
    | true =>
      rw [hu] at UK
      clear hd hlen hl hf hs hu
      generalize s.syms.length = nn at *
      go_enter Tryz.func87, Tryz.ntmps87
      go_wp2_with (first
      | (go_at_call 111; refine JC.out.mono ?_; rintro e w1 ⟨rfl, hb⟩; have HB := Lib.hid (Gr.step B1.out hb); have HBX := Lib.hid (Gr.step (Gr.step B1.out hb) (Gr.boxed w1 (.cells #[] 114))); have M1 := Lib.hid (MK.out _ (Gr.step B1.out hb)); have m1 := M1.out.c1; obtain ⟨y0, y1, y2, y3, yf⟩ := (SD.out.went hb).four; have SD1 := Lib.hid ((SD.out.went hb).went (Gr.boxed w1 (.cells #[] 114))); have hs1 : w.heap.size + 1 < w1.heap.size := (SD.out.went hb).lt; clear hb)
      | (at_lookup; refine wpList_lookup_own_unit _ rfl _ _ 83 rfl 9 114 law Tryz.underlying83 (zero_unit _) b2 st.texts.length D2 rfl M1.out.map2 _ _ rfl KO.out ?_; rw [M1.out.k2 js, ht])
      | (go_at_call 112; refine (UK.out _ HBX.out).mono ?_; rintro e w2 ⟨rfl, hb⟩; have HC := Lib.hid (Gr.step HBX.out hb); have M2 := Lib.hid (MK.out _ (Gr.step HBX.out hb)); have m2 := M2.out.c1; obtain ⟨q0, q1, q2, q3, qf⟩ := (SD1.out.went hb).four; have SD2 := Lib.hid (SD1.out.went hb); have hs2 : w.heap.size + 1 < w2.heap.size := (SD1.out.went hb).lt; clear hb)
      | (go_at_call 85; refine (RF.out 9 _).mono ?_; rintro e w3 ⟨rfl, hb⟩; have HG := Lib.hid (Gr.step HC.out hb); clear hb))
      exact ⟨rfl, rfl, Sep.Fr.of_below HG.out⟩
    | false =>
      rw [hu] at UK
      simp only [Bool.false_eq_true, if_false]
      clear hu
      by_cases h3 : st.texts.length = 300
      · rw [if_pos h3]
        clear hd hlen hl hf hs
        generalize s.syms.length = nn at *
        have h3b : ((st.texts.length : Int) == 300) = true := by rw [h3]; rfl
        clear h3
        go_enter Tryz.func87, Tryz.ntmps87
        go_wp2_with (first
      | (go_at_call 111; refine JC.out.mono ?_; rintro e w1 ⟨rfl, hb⟩; have HB := Lib.hid (Gr.step B1.out hb); have HBX := Lib.hid (Gr.step (Gr.step B1.out hb) (Gr.boxed w1 (.cells #[] 114))); have M1 := Lib.hid (MK.out _ (Gr.step B1.out hb)); have m1 := M1.out.c1; obtain ⟨y0, y1, y2, y3, yf⟩ := (SD.out.went hb).four; have SD1 := Lib.hid ((SD.out.went hb).went (Gr.boxed w1 (.cells #[] 114))); have hs1 : w.heap.size + 1 < w1.heap.size := (SD.out.went hb).lt; clear hb)
      | (at_lookup; refine wpList_lookup_own_unit _ rfl _ _ 83 rfl 9 114 law Tryz.underlying83 (zero_unit _) b2 st.texts.length D2 rfl M1.out.map2 _ _ rfl KO.out ?_; rw [M1.out.k2 js, ht])
      | (go_at_call 112; refine (UK.out _ HBX.out).mono ?_; rintro e w2 ⟨rfl, hb⟩; have HC := Lib.hid (Gr.step HBX.out hb); have M2 := Lib.hid (MK.out _ (Gr.step HBX.out hb)); have m2 := M2.out.c1; obtain ⟨q0, q1, q2, q3, qf⟩ := (SD1.out.went hb).four; have SD2 := Lib.hid (SD1.out.went hb); have hs2 : w.heap.size + 1 < w2.heap.size := (SD1.out.went hb).lt; clear hb)
      | (at_len; refine wpList_len_own _ rfl _ 83 rfl 9 114 Tryz.underlying83 RU b2 st.texts.length D2 rfl M2.out.map2 ?_; rw [M2.out.z2])
      | (go_at_call 85; refine (RF.out 7 _).mono ?_; rintro e w3 ⟨rfl, hb⟩; have HG := Lib.hid (Gr.step HC.out hb); clear hb))
        exact ⟨rfl, rfl, Sep.Fr.of_below HG.out⟩
      · rw [if_neg h3]
        have h3b : ((st.texts.length : Int) == 300) = false := by rw [beq_eq_false_iff_ne]; omega
        have T300 : st.texts.length < 300 := by omega
        obtain ⟨x, hx⟩ : ∃ x, symsM lf st.L1 s.syms 0 = x := ⟨_, rfl⟩
        rw [hx]
        have HX := Lib.hid hx
        have HD := Lib.hid hd
        have HS := Lib.hid hs
        have HNL := Lib.hid hlen
        have HT := Lib.hid ht
        clear hx hd hlen hl hf hs h3 ht2
        generalize hnn : s.syms.length = nn at *
        have HNN := Lib.hid hnn
        clear hnn
        go_enter Tryz.func87, Tryz.ntmps87
        go_wp2_with (first
      | (go_at_call 111; refine JC.out.mono ?_; rintro e w1 ⟨rfl, hb⟩; have HB := Lib.hid (Gr.step B1.out hb); have HBX := Lib.hid (Gr.step (Gr.step B1.out hb) (Gr.boxed w1 (.cells #[] 114))); have M1 := Lib.hid (MK.out _ (Gr.step B1.out hb)); have m1 := M1.out.c1; obtain ⟨y0, y1, y2, y3, yf⟩ := (SD.out.went hb).four; have SD1 := Lib.hid ((SD.out.went hb).went (Gr.boxed w1 (.cells #[] 114))); have hs1 : w.heap.size + 1 < w1.heap.size := (SD.out.went hb).lt; clear hb)
      | (at_lookup; refine wpList_lookup_own_unit _ rfl _ _ 83 rfl 9 114 law Tryz.underlying83 (zero_unit _) b2 st.texts.length D2 rfl M1.out.map2 _ _ rfl KO.out ?_; rw [M1.out.k2 js, ht])
      | (go_at_call 112; refine (UK.out _ HBX.out).mono ?_; rintro e w2 ⟨rfl, hb⟩; have HC := Lib.hid (Gr.step HBX.out hb); have M2 := Lib.hid (MK.out _ (Gr.step HBX.out hb)); have m2 := M2.out.c1; obtain ⟨q0, q1, q2, q3, qf⟩ := (SD1.out.went hb).four; have SD2 := Lib.hid (SD1.out.went hb); have hs2 : w.heap.size + 1 < w2.heap.size := (SD1.out.went hb).lt; clear hb)
      | (at_len; refine wpList_len_own _ rfl _ 83 rfl 9 114 Tryz.underlying83 RU b2 st.texts.length D2 rfl M2.out.map2 ?_; rw [M2.out.z2])
      | (at_mapUpdate; refine wpList_mapUpdate_own _ rfl _ _ _ 83 rfl 9 114 law Tryz.underlying83 RU b2 st.texts.length D2 rfl M2.out.map2 (by unfold maxLen; omega) _ _ _ rfl rfl KO.out _ [] unitElem_mk ?_; intro w3 hown3 hg3; have M3 := Lib.hid (M2.out.text js hjl HT.out T300 hown3 hg3); have F3 := Lib.hid ((Sep.Fr.of_below (S := S) HC.out).grown hg3 (fun k hk => .inl (by injection hk with hk; subst hk; exact SB2.out))); obtain ⟨r0, r1, r2, r3, rf⟩ := (SD2.out.grown hg3 (fun k hk => by injection hk with hk; omega)).four; have hs3 : w.heap.size + 1 < w3.heap.size := Nat.lt_of_lt_of_le hs2 hg3.size; clear hown3 hg3))
        go_wp2
        go_loopg [55] nn (fun g i wr => SyLoop m S lf { st with texts := st.texts ++ [js] } s.syms x w g i wr)
        case atStart => exact ⟨0, st.L1, S, by rw [HNN.out]; omega, rfl, HX.out, M3.out, F3.out, .refl _ _⟩
        case round =>
          clear HX M3 F3 M2 M1
          obtain ⟨j, L, T, hj, rfl, hX, hA, hF, hE⟩ := hrel
          rw [HNN.out] at hj
          have F := Lib.hid hF
          have E := Lib.hid hE
          have A := Lib.hid hA
          have X := Lib.hid hX
          clear hA hF hE hX
          by_cases hlt : j < nn
          · have hj2 : j < s.syms.length := by rw [HNN.out]; exact hlt
            obtain ⟨g, c', hv, k0, k1, k2⟩ := (HD.out _ F.out).get j hj2
            simp only [Value.slice.injEq] at hv
            have ha := hv.1
            clear hv
            subst ha
            have hst := HS.out _ (List.getElem_mem hj2)
            have hXX := X.out
            rw [List.drop_eq_getElem_cons hj2, symsM_cons] at hXX
            generalize s.syms[j] = t at k0 k1 k2 hst hXX
            have b1 := Gr.boxed wr (.cells #[.int .i64 t.k, .string t.s, .int .i64 (t.at_ : Int)] 75)
            have B1 := Lib.hid b1
            have hn9 := HNL.out
            have SC := Lib.hid (symbol_any _ (A.out.went b1) t j (by omega) (by unfold maxLen; omega))
            have N := Lib.hid (Bk.new wr #[.int .i64 t.k, .string t.s, .int .i64 (t.at_ : Int)] 75 _ rfl)
            have hg : g < wr.heap.size := World.block_lt_of_cell? wr ⟨g, j * 3, none⟩ k0
            clear b1 X
            dsimp only at SC
            cases hp : symM lf L t j with
            | ok L2 =>
              rw [hp] at SC hXX
              have X2 := Lib.hid (show symsM lf L2 (s.syms.drop (j + 1)) (j + 1) = x from hXX)
              clear hp hXX
              go_wp2_with (go_at_call 113; refine SC.out.mono ?_; rintro e w5 ⟨rfl, T2, g1, g2, g3⟩; have G1 := Lib.hid g1; have G2 := Lib.hid g2; have G3 := Lib.hid g3; clear g1 g2 g3)
              go_roundg (nn - (j + 1))
              case rel => exact ⟨j + 1, L2, T2, by rw [HNN.out]; omega, by go_num, X2.out, G1.out, (fr_then F.out B1.out).trans G2.out E.out, E.out.trans (G3.out.at B1.out.size) F.out.size⟩
              case measure => omega
            | no e1 q =>
              rw [hp] at SC hXX
              have X2 : Mo.no e1 q = x := hXX
              clear hp hXX
              subst X2
              go_wp2_with (go_at_call 113; refine SC.out.mono ?_; rintro e w5 ⟨rfl, g2⟩; have G2 := Lib.hid g2; clear g2)
              exact ⟨rfl, rfl, (fr_then F.out B1.out).trans G2.out E.out⟩
          · have hend : s.syms.drop j = [] := List.drop_eq_nil_of_le (by rw [HNN.out]; omega)
            have X2 := Lib.hid (show Mo.ok L = x by rw [← X.out, hend]; rfl)
            clear X hend
            go_wp2
            go_end0
            rw [← X2.out]
            exact ⟨rfl, T, A.out, F.out, E.out⟩

end Go.Proofs.YtimfiaphhomelaaGreat.Rd
