/-
  ArenaRoots, as given: all roots together have all leaves, each once.
-/
import Derived.Test.YtoohnkffclkmhaaArenaAwake
import Derived.Test.YtoohnkffclkmhaaArenaPlay
import Derived.Deep.OwnRows
namespace Go.Proofs.Ytoohnkffclkmhaa.Tr
open Go.RowKit Go.Maps
open Go.Proofs.Ytoohnkffclkmhaa.Sep
open Go.Proofs.Ytoohnkffclkmhaa.Rw (Bk)
open Go.Proofs.Ytoohnkffclkmhaa.Gr (Gram Sh gv GAt Fits cell_later boxed drawn Is bool_of int_of ivs iv Listed New info_int)
set_option linter.unusedVariables false
set_option linter.unusedSimpArgs false

/-- What stays while nodes are made: what was there ahead; a tree of the call's own. -/
structure Pl (W : World) (p : Nat) (T : List Nd) (w : World) : Prop where
  low : Below W.heap.size W w
  tr : ∃ S K, TrAt p S K T w ∧ ∀ x, S x → W.heap.size ≤ x
section
variable {W w w' : World} {p : Nat} {T T' : List Nd}
theorem Pl.went (h : Pl W p T w) (hb : Below w.heap.size w w') : Pl W p T w' := by
  obtain ⟨S, K, h1, h2⟩ := h.tr
  exact ⟨Gr.step h.low hb, S, K, h1.went hb, h2⟩
theorem Pl.made {S S' K' : Nat → Prop} (h : Pl W p T w) (hS : ∀ x, S x → W.heap.size ≤ x) (ht : TrAt p S' K' T' w') (he : Ext S' S w) (hf : Fr S w w') : Pl W p T' w' := by
  refine ⟨h.low.trans (hf.below hS h.low.size), S', K', ht, fun x hx => ?_⟩
  rcases he x hx with e | e
  · exact hS x e
  · exact Nat.le_trans h.low.size e
def MdP (W : World) (p : Nat) (r : Int) (T' : List Nd) (e : Ending) (w' : World) : Prop := e = .returned (.int .i64 r) ∧ Pl W p T' w'
theorem Pl.leaf (h : Pl W p T w) (hl : T.length < 1000) (s n : Int) : Calls Try.prog 6 #[.pointer (some ⟨p, 0, none⟩), .int .i64 s, .int .i64 n] w (MdP W p (T.length : Int) (leafT T s n)) := by
  obtain ⟨S, K, h1, h2⟩ := h.tr
  refine (leaf_any h1 hl s n).mono ?_
  rintro e w' ⟨rfl, S', K', k1, k2, k3, k4⟩
  exact ⟨rfl, h.made h2 k1 k2 k4⟩
theorem Pl.join (h : Pl W p T w) (hl : T.length < 1000) (x : OpD) (ka : Option Addr) (kc : Nat) (hx : OpI x ka kc W) (hk : x.kids.length ≤ 1000) :
    Calls Try.prog 7 #[.pointer (some ⟨p, 0, none⟩), .int .i64 x.sym, .int .i64 x.n, .slice ka x.kids.length kc] w (MdP W p (joinR T x.kids) (joinT T x.sym x.n x.kids)) := by
  obtain ⟨S, K, h1, h2⟩ := h.tr
  refine (join_any x.sym x.n x.kids ka kc h1 hl (hx.went h.low).reads (fun b o e hl hS => ?_) hk hx.cap).mono ?_
  · obtain ⟨b', o', e', hc⟩ := hx.reads 0 (by simpa [ivs] using hl)
    rw [e] at e'
    injection e' with e'
    injection e' with e1 _ _
    have := World.block_lt_of_cell? W ⟨b', o' + 0, none⟩ hc
    have := h2 b hS
    simp only at *
    omega
  · rintro e w' ⟨rfl, S', K', k1, k2, k3, k4⟩
    exact ⟨rfl, h.made h2 k1 k2 k4⟩
theorem Pl.new (W : World) : Calls Try.prog 5 #[] W fun e w' => e = .returned (.pointer (some ⟨W.heap.size, 0, none⟩)) ∧ Pl W W.heap.size [] w' := by
  refine (new_any W).mono ?_
  rintro e w' ⟨rfl, ht, hb⟩
  exact ⟨rfl, hb, _, _, ht, fun x e => by subst e; exact Nat.le_refl _⟩
end

theorem make_ints (n : Nat) (hn : n ≤ 100000) (w : World) :
    (Instr.makeSlice 25 (.int .i64 (n : Int)) (.int .i64 (n : Int))).run Try.prog w = .ok (.slice (some ⟨w.heap.size, 0, none⟩) n n) (w.alloc (.cells (madeCells #[.int .i64 0] n) 3)) := by
  obtain ⟨i0, hi, hz0, hz1, hz2⟩ := info_parts info_int
  have hr := run_make (P := Try.prog) w 25 3 i0 (.int .i64 0) Try.underlying25 hi hz0 .i64 .i64 (n : Int) (n : Int) (by omega) (Int.le_refl _) (by rw [hz2]; omega) (by omega)
  rw [show ((n : Int)).toNat = n by omega] at hr
  rw [hr, hz1, Nat.mul_one]
  rfl

theorem flat_take {α β : Type} (f : α → List β) (R : List α) {i : Nat} (hi : i < R.length) : (R.take (i + 1)).flatMap f = (R.take i).flatMap f ++ f R[i] := by
  rw [List.take_succ_eq_append_getElem hi, List.flatMap_append, List.flatMap_singleton]
theorem flat_part {α β : Type} (f : α → List β) (R : List α) {i : Nat} (hi : i < R.length) (j : Nat) : ((R.take i).flatMap f ++ (f R[i]).take j).length ≤ (R.flatMap f).length := by
  have e : R = R.take i ++ R[i] :: R.drop (i + 1) := by rw [List.getElem_cons_drop, List.take_append_drop]
  conv => rhs; rw [e, List.flatMap_append, List.flatMap_cons]
  rw [List.length_append, List.length_append, List.length_append, List.length_take]
  omega
theorem flat_mem {α β : Type} (f : α → List β) (R : List α) {i : Nat} (hi : i < R.length) {y : β} (hy : y ∈ f R[i]) : y ∈ R.flatMap f := List.mem_flatMap.2 ⟨R[i], List.getElem_mem hi, hy⟩

set_option maxHeartbeats 8000000 in
set_option maxRecDepth 100000 in
theorem roots_law (X : List OpD) (a : Option Addr) (c : Nat) (W : World) (h : OpsAt a X W) (hX : X.length ≤ 4398046511104) :
    Calls Try.prog 3 #[.slice a X.length c] W (Is (.bool true) W) := by
  have NW := Lib.hid (Pl.new W)
  have OP := Lib.hid (show ∀ k (hk : k < X.length), ∃ b o ka kc, a = some ⟨b, o, none⟩ ∧ OpI X[k] ka kc W ∧ ∀ w1, Below W.heap.size W w1 → w1.cell? ⟨b, o + k * 4, none⟩ = some (.bool X[k].leaf) ∧ w1.cell? ⟨b, o + k * 4 + 1, none⟩ = some (.int .i64 X[k].sym) ∧ w1.cell? ⟨b, o + k * 4 + 2, none⟩ = some (.int .i64 X[k].n) ∧ w1.cell? ⟨b, o + k * 4 + 3, none⟩ = some (.slice ka X[k].kids.length kc) from fun k hk => by
    obtain ⟨b, o, ka, kc, e, h0, h1, h2, h3, h4⟩ := h k hk
    exact ⟨b, o, ka, kc, e, h4, fun w1 hb => ⟨cell_later hb h0, cell_later hb h1, cell_later hb h2, cell_later hb h3⟩⟩)
  have PI := Lib.hid (fun k (hk : k ≤ X.length) => play_is X k hk)
  have mk := fun n (hn : n ≤ 100000) w => make_ints n hn w
  clear h
  go_enter Try.func3, Try.ntmps3
  go_wp2_with fail
  refine NW.out.mono ?_
  rintro e w1 ⟨rfl, pl1⟩
  generalize W.heap.size = p at pl1 ⊢
  have P1 := Lib.hid pl1
  clear pl1 NW
  go_wp2_with fail
  go_loopw [4, 5] (fun u v wr => ∃ k : Nat, v = .int .i64 (k : Int) ∧ u = .int .i64 ((stR X k).2 : Int) ∧ k ≤ X.length ∧ k ≤ 60 ∧ Pl W p (stR X k).1 wr) (fun u v _ => 60 - (intOf v).toNat)
  case atStart => exact ⟨0, rfl, by rw [stR_zero]; rfl, Nat.zero_le _, Nat.zero_le _, by rw [stR_zero]; exact P1.out⟩
  case round =>
    obtain ⟨k, rfl, rfl, hk, hk60, hpl⟩ := hrel
    have PL := Lib.hid hpl
    have PK := PI.out k hk
    have hfew := PK.few
    have hlen := PK.len
    clear hpl P1
    by_cases hgo : k < X.length ∧ k < 60
    · obtain ⟨hlt, hlt60⟩ := hgo
      have hltI : (k : Int) < (X.length : Int) := by omega
      have hltJ : (k : Int) < 60 := by omega
      obtain ⟨b, o, ka, kc, rfl, hI, hc⟩ := OP.out k hlt
      have CE := Lib.hid hc
      obtain ⟨c0, c1, c2, c3⟩ := hc wr PL.out.low
      have SU := Lib.hid (stR_succ hlt)
      have hfew2 := hI.few
      have hcap := hI.cap
      cases hleaf : X[k].leaf with
      | true =>
        rw [hleaf] at c0
        have LF := Lib.hid (PL.out.leaf (by omega) X[k].sym ((stR X k).2 : Int))
        have E1 := Lib.hid (show stR X (k + 1) = (leafT (stR X k).1 X[k].sym ((stR X k).2 : Int), (stR X k).2 + 1) by rw [SU.out]; unfold stepR; rw [if_pos hleaf])
        clear hc SU hI hleaf
        go_wp2_with (go_at_call 6; refine LF.out.mono ?_; rintro e w2 ⟨rfl, p2⟩; have P2 := Lib.hid p2; clear p2)
        go_roundw
        case rel => exact ⟨k + 1, by go_num, by rw [E1.out]; congr 1, by omega, by omega, by rw [E1.out]; exact P2.out⟩
        case measure => first | (simp [intOf]; omega) | omega
      | false =>
        rw [hleaf] at c0
        by_cases h20 : X[k].kids.length ≤ 20
        · have E1 := Lib.hid (show stR X (k + 1) = (joinT (stR X k).1 X[k].sym X[k].n X[k].kids, (stR X k).2) by rw [SU.out]; unfold stepR; rw [if_neg (by simp [hleaf]), if_pos h20])
          have h20I : (X[k].kids.length : Int) ≤ 20 := by omega
          have JN := Lib.hid (fun w2 (q : Pl W p (stR X k).1 w2) => q.join (by omega) X[k] ka kc hI (by omega))
          have HQ := Lib.hid (fun (w2 : World) (q : Below W.heap.size W w2) => (⟨(CE.out w2 q).2.1, (CE.out w2 q).2.2.1, (CE.out w2 q).2.2.2, q⟩ : w2.cell? ⟨b, o + k * 4 + 1, none⟩ = some (.int .i64 X[k].sym) ∧ w2.cell? ⟨b, o + k * 4 + 2, none⟩ = some (.int .i64 X[k].n) ∧ w2.cell? ⟨b, o + k * 4 + 3, none⟩ = some (.slice ka X[k].kids.length kc) ∧ Below W.heap.size W w2))
          clear hc SU hI hleaf CE
          go_wp2_with fail
          have PD := Lib.hid (PL.out.went (drawn wr))
          have hbd : Below W.heap.size W wr.drew := PD.out.low
          go_region_held3 (fun w' => w'.cell? ⟨b, o + k * 4 + 1, none⟩ = some (.int .i64 X[k].sym) ∧ w'.cell? ⟨b, o + k * 4 + 2, none⟩ = some (.int .i64 X[k].n) ∧ w'.cell? ⟨b, o + k * 4 + 3, none⟩ = some (.slice ka X[k].kids.length kc) ∧ Below W.heap.size W w')
            (exact HQ.out _ (by with_reducible assumption))
            (first
              | (go_at_call 7; refine (JN.out _ PD.out).mono ?_; rintro e wn ⟨rfl, p2⟩; have P2 := Lib.hid p2; have kB : Below W.heap.size W wn := p2.low; clear p2)
              | fail)
          go_wp2
          go_roundw
          case rel => exact ⟨k + 1, by go_num, by rw [E1.out], by omega, by omega, by rw [E1.out]; exact P2.out⟩
          case measure => first | (simp [intOf]; omega) | omega
        · have E1 := Lib.hid (show stR X (k + 1) = stR X k by rw [SU.out]; unfold stepR; rw [if_neg (by simp [hleaf]), if_neg h20])
          have h20I : ¬ (X[k].kids.length : Int) ≤ 20 := by omega
          clear hc SU hI hleaf
          go_wp2
          go_roundw
          case rel => exact ⟨k + 1, by go_num, by rw [E1.out], by omega, by omega, by rw [E1.out]; exact PL.out⟩
          case measure => first | (simp [intOf]; omega) | omega
    · have hstop : ¬ (k : Int) < (X.length : Int) ∨ ((k : Int) < (X.length : Int) ∧ ¬ (k : Int) < 60) := by
        by_cases h1 : k < X.length
        · exact .inr ⟨by omega, fun h2 => hgo ⟨h1, by omega⟩⟩
        · exact .inl (by omega)
      have RT := Lib.hid (fun (q : Nat) (hq : q < (stR X k).2) => all_count (X := X) hk hq)
      have RI := Lib.hid (fun y (hy : y ∈ allL (stR X k).1) => all_in (X := X) hk hy)
      have WF := Lib.hid PK.good
      have FW := Lib.hid hfew
      clear hgo PI OP PK
      have AL := Lib.hid (all_len (X := X) hk)
      generalize (stR X k).1 = T at *
      generalize (stR X k).2 = n at *
      have hmk := fun w => mk n (by omega) w
      -- what is there
      have BM := Lib.hid (show ∀ w2, w2 = wr.alloc (.cells (madeCells #[.int .i64 0] n) 3) → Pl W p T w2 ∧ w2.ownsRow 0 3 1 (.slice (some ⟨wr.heap.size, 0, none⟩) n n) n (cntV n []) ∧ w2.heap.size = wr.heap.size + 1 from fun w2 e => by
        subst e
        refine ⟨PL.out.went (boxed _ _), ?_, by simp⟩
        have := World.ownsRow_lit (base := 0) (e := 3) (size := 1) wr (madeCells #[.int .i64 0] n) n (Nat.zero_le _) (by unfold maxLen; omega) (by rw [size_madeCells, Nat.mul_one])
        rw [toList_madeCells_one] at this
        have e2 : cntV n [] = List.replicate n (.int .i64 0) := by
          unfold cntV
          refine List.ext_getElem (by simp) fun i h1 h2 => ?_
          simp
        rw [e2]
        exact this)
      have RO := Lib.hid (show ∀ w2, Pl W p T w2 → Calls Try.prog 8 #[.pointer (some ⟨p, 0, none⟩)] w2 (Listed (rootsP T) w2) from fun w2 q => by
        obtain ⟨S, K, h1, _⟩ := q.tr
        exact roots_t h1)
      have hmb : W.heap.size ≤ wr.heap.size := PL.out.low.size
      -- behind Roots: what stands while the counts are written
      have RB := Lib.hid (show ∀ w2 w3 aR, w2 = wr.alloc (.cells (madeCells #[.int .i64 0] n) 3) → Reads aR (ivs (rootsP T)) w3 → New aR w2 → Below w2.heap.size w2 w3 →
          w3.ownsRow 0 3 1 (.slice (some ⟨wr.heap.size, 0, none⟩) n n) n (cntV n []) ∧ ∀ w4, Fr (fun x => x = wr.heap.size) w3 w4 → Reads aR (ivs (rootsP T)) w4 ∧ Pl W p T w4 from fun w2 w3 aR e hr hn hb => by
        obtain ⟨q1, q2, q3⟩ := BM.out w2 e
        refine ⟨ownsRow_at q2 fun g hg => hb.block g (q2.lt g hg).2, fun w4 hf => ⟨reads_fr hr hf fun b o e2 _ hx => ?_, ?_⟩⟩
        · have := hn _ e2
          simp only at this
          omega
        · obtain ⟨S, K, h1, h2⟩ := PL.out.tr
          have hinn : Inn S wr ∧ Inn K wr := by
            obtain ⟨_, _, _, hm⟩ := h1
            exact ⟨hm.inn, hm.kin⟩
          have hb2 : Below wr.heap.size wr w2 := e ▸ boxed _ _
          have h3 := (h1.went hb2).went hb
          refine ⟨(Gr.step q1.low hb).trans (hf.below (fun x hx => by omega) (by have := q1.low.size; have := hb.size; omega)), S, K, h3.fr hf (fun x hx hs => ?_) (fun x hx hs => ?_), h2⟩
          · have := hinn.1 x hs
            omega
          · have := hinn.2 x hs
            omega)
      have LV := Lib.hid (show ∀ w4 (i : Nat) (hi : i < (rootsP T).length), Pl W p T w4 → Calls Try.prog 9 #[.pointer (some ⟨p, 0, none⟩), .int .i64 (rootsP T)[i]] w4 (Listed (lefL T (fun n => n.leaf) (rootsP T)[i]) w4) from fun w4 i hi q => by
        obtain ⟨S, K, h1, _⟩ := q.tr
        obtain ⟨r, hr, e⟩ : ∃ r : Nat, r < T.length ∧ (rootsP T)[i] = (r : Int) := by
          have := List.getElem_mem hi
          obtain ⟨r, hr, e⟩ := List.mem_map.1 this
          exact ⟨r, List.mem_range.1 (List.mem_filter.1 hr).1, e.symm⟩
        rw [e]
        have hv := vis_small WF.out r
        exact leaves_t h1 WF.out.wf (r : Int) ⟨by omega, by omega⟩ (by rw [visI_in]; omega))
      have FT := Lib.hid (fun (i : Nat) (hi : i < (rootsP T).length) => flat_take (lefL T (fun n => n.leaf)) (rootsP T) hi)
      have FP := Lib.hid (fun (i : Nat) (hi : i < (rootsP T).length) (j : Nat) => show ((rootsP T).take i |>.flatMap (lefL T (fun n => n.leaf)) |> (· ++ (lefL T (fun n => n.leaf) (rootsP T)[i]).take j)).length ≤ n from by rw [← AL.out]; exact flat_part (lefL T (fun n => n.leaf)) (rootsP T) hi j)
      have FM := Lib.hid (fun (i : Nat) (hi : i < (rootsP T).length) (y : Int) (hy : y ∈ lefL T (fun n => n.leaf) (rootsP T)[i]) => RI.out y (flat_mem (lefL T (fun n => n.leaf)) (rootsP T) hi hy))
      have CT := Lib.hid (show ∀ q, q < n → (((rootsP T).take (rootsP T).length).flatMap (lefL T (fun n => n.leaf))).count (q : Int) = 1 from fun q hq => by rw [List.take_length]; exact RT.out q hq)
      have AW := Lib.hid awake_any
      have hRl : (rootsP T).length ≤ 1000 := by
        unfold rootsP rootsN
        rw [List.length_map]
        have := List.length_filter_le (freeAt T) (List.range T.length)
        rw [List.length_range] at this
        omega
      have hLf : ∀ i (hi : i < (rootsP T).length), (lefL T (fun n => n.leaf) (rootsP T)[i]).length ≤ n := fun i hi => by
        have := FP.out i hi (lefL T (fun n => n.leaf) (rootsP T)[i]).length
        rw [List.take_length, List.length_append] at this
        omega
      have HLF := Lib.hid hLf
      clear mk RT RI AL hLf
      generalize lefL T (fun n => n.leaf) = f at *
      generalize rootsP T = R at *
      obtain ⟨mb, hmbe⟩ : ∃ mb, mb = wr.heap.size := ⟨_, rfl⟩
      rcases hstop with hs1 | ⟨hs1, hs2⟩
      all_goals
        go_wp2_with fail
        refine (RO.out _ (BM.out _ rfl).1).mono ?_
        rintro e w3 ⟨aR, cR, rfl, hr3, hn3, hb3⟩
        obtain ⟨row3, rb⟩ := RB.out _ w3 aR rfl hr3 hn3 hb3
        have ROW3 := Lib.hid row3
        have RB3 := Lib.hid rb
        have hm3 : wr.heap.size < w3.heap.size := by
          have := hb3.size
          rw [World.size_alloc] at this
          omega
        clear hr3 hn3 hb3 row3 rb
        rw [← hmbe] at ROW3 RB3 ⊢
        clear hmk BM RO RB PL hs1 hmb hmbe hm3
        try clear hs2
        go_wp2_with fail
        go_loopw [8] (fun v wr => ∃ i : Nat, v = .int .i64 (i : Int) ∧ i ≤ R.length ∧ Fr (fun x => x = mb) w3 wr ∧ wr.ownsRow 0 3 1 (.slice (some ⟨mb, 0, none⟩) n n) n (cntV n ((R.take i).flatMap f))) (fun v _ => R.length - (intOf v).toNat)
        case atStart => exact ⟨0, rfl, Nat.zero_le _, .refl _ _, by rw [List.take_zero]; exact ROW3.out⟩
        case round =>
          obtain ⟨i, rfl, hi, hf, hrow⟩ := hrel
          have ROW := Lib.hid hrow
          have FR := Lib.hid hf
          clear hrow
          by_cases hlt : i < R.length
          · obtain ⟨hRd, hpl⟩ := RB3.out wr hf
            obtain ⟨b1, o1, rfl, hc1⟩ := hRd i (by simpa [ivs] using hlt)
            simp only [ivs, iv, List.getElem_map] at hc1
            have LE := Lib.hid (LV.out wr i hlt hpl)
            have FTi := Lib.hid (FT.out i hlt)
            have FPi := Lib.hid (FP.out i hlt)
            have FMi := Lib.hid (FM.out i hlt)
            have hLi := HLF.out i hlt
            clear hRd hpl hf
            generalize f R[i] = Q at *
            generalize R[i] = ri at *
            generalize (R.take i).flatMap f = D at *
            go_wp2_with fail
            refine LE.out.mono ?_
            rintro e w4 ⟨aL, cL, rfl, hr4, hn4, hb4⟩
            have F4 := Lib.hid (Rw.fr_then FR.out hb4)
            have hmr := (ROW.out.lt mb rfl).2
            have L4 := Lib.hid (fun w5 (hf5 : Fr (fun x => x = mb) w4 w5) => reads_fr hr4 hf5 fun b o e2 _ hx => by
              have h1 := hn4 _ e2
              simp only at h1
              omega)
            have ROW4 := Lib.hid (ownsRow_at ROW.out fun g hg => hb4.block g (ROW.out.lt g hg).2)
            clear hr4 hn4 hb4 LE
            go_wp2_with fail
            go_loopw [10] (fun v wj => ∃ j : Nat, v = .int .i64 (j : Int) ∧ j ≤ Q.length ∧ Fr (fun x => x = mb) w4 wj ∧ wj.ownsRow 0 3 1 (.slice (some ⟨mb, 0, none⟩) n n) n (cntV n (D ++ Q.take j))) (fun v _ => Q.length - (intOf v).toNat)
            case atStart => exact ⟨0, rfl, Nat.zero_le _, .refl _ _, by rw [List.take_zero, List.append_nil]; exact ROW4.out⟩
            case round =>
              obtain ⟨j, rfl, hj, hfj, hrowj⟩ := hrel
              have FJ := Lib.hid hfj
              have ROWJ := Lib.hid hrowj
              by_cases hltj : j < Q.length
              · obtain ⟨b2, o2, rfl, hc2⟩ := L4.out _ hfj j (by simpa [ivs] using hltj)
                simp only [ivs, iv, List.getElem_map] at hc2
                obtain ⟨m, hm1, hm2⟩ := FMi.out _ (List.getElem_mem hltj)
                rw [hm1] at hc2
                have hcell : wr.cell? ⟨mb, m, none⟩ = some (.int .i64 (((D ++ Q.take j).count (m : Int) : Nat) : Int)) := by
                  rw [hrowj.cellAt m (by omega)]
                  exact cntV_get hm2
                have hfro := hrowj.frozenAt m
                have hst := (hrowj.stored m (.int .i64 ((((D ++ Q.take j).count (m : Int) : Nat) : Int) + 1))).1
                rw [cntV_set hm2] at hst
                have hD : D ++ Q.take j ++ [(m : Int)] = D ++ Q.take (j + 1) := by rw [take_snoc (List.getElem?_eq_getElem hltj), hm1, List.append_assoc]
                rw [hD] at hst
                have ST := Lib.hid hst
                have FS := Lib.hid (hfj.setCell ⟨mb, m, none⟩ rfl (.int .i64 ((((D ++ Q.take j).count (m : Int) : Nat) : Int) + 1)))
                have hcb : (D ++ Q.take j).count (m : Int) ≤ 1000 := by
                  have h1 := List.count_le_length (a := (m : Int)) (l := D ++ Q.take j)
                  have h2 := FPi.out j
                  omega
                have hmI : (m : Int) < (n : Int) := by omega
                clear hfj hrowj hst hD hm1
                generalize (D ++ Q.take j).count (m : Int) = cc at *
                go_wp2
                go_roundw
                case rel => exact ⟨j + 1, by go_num, by omega, FS.out, ST.out⟩
                case measure => first | (simp [intOf]; omega) | omega
              · obtain rfl : j = Q.length := by omega
                have E1 := Lib.hid (show wr.ownsRow 0 3 1 (.slice (some ⟨mb, 0, none⟩) n n) n (cntV n ((R.take (i + 1)).flatMap f)) by rw [FTi.out]; rw [List.take_length] at hrowj; exact hrowj)
                have F5 := Lib.hid (F4.out.trans hfj (.refl _ _))
                clear hfj hrowj
                go_wp2
                go_roundw
                case rel => exact ⟨i + 1, by go_num, by omega, F5.out, E1.out⟩
                case measure => first | (simp [intOf]; omega) | omega
          · obtain rfl : i = R.length := by omega
            have LO := Lib.hid (show Below W.heap.size W wr from (RB3.out wr hf).2.low)
            have CE := Lib.hid (show ∀ j, j < n → wr.cell? ⟨mb, j, none⟩ = some (.int .i64 1) from fun j hj => by
              rw [ROW.out.cellAt j (by omega), cntV_get hj, CT.out j hj]
              rfl)
            have AR := Lib.hid (AW.out wr)
            clear hf ROW FR RB3 ROW3 CT AW LV FT FP FM HLF
            generalize wr = w9 at *
            go_wp2_with fail
            go_loopw [11] (fun v wj => ∃ j : Nat, v = .int .i64 (j : Int) ∧ j ≤ n ∧ wj = w9) (fun v _ => n - (intOf v).toNat)
            case atStart => exact ⟨0, rfl, Nat.zero_le _, rfl⟩
            case round =>
              obtain ⟨j, rfl, hj, hwj⟩ := hrel
              subst hwj
              by_cases hltj : j < n
              · have hcell := CE.out j hltj
                go_wp2
                go_roundw
                case rel => exact ⟨j + 1, by go_num, by omega, by first | trivial | rfl⟩
                case measure => first | (simp [intOf]; omega) | omega
              · obtain rfl : j = n := by omega
                go_wp2_with fail
                refine AR.out.mono ?_
                rintro e w10 ⟨rfl, hb⟩
                have H10 := Lib.hid (Gr.step LO.out hb)
                clear hb
                go_wp2_with fail
                go_ret
                exact ⟨rfl, H10.out⟩

end Go.Proofs.Ytoohnkffclkmhaa.Tr
