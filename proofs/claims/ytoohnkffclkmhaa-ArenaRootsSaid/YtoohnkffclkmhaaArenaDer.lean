/-
  Package arena: Twin; one node derived, by slices.EqualFunc.
-/
import Derived.Test.YtoohnkffclkmhaaArenaTell
import Derived.Test.YtoohnkffclkmhaaGramRule
namespace Go.Proofs.Ytoohnkffclkmhaa.Tr
open Go.RowKit Go.Maps
open Go.Proofs.Ytoohnkffclkmhaa.Sep
open Go.Proofs.Ytoohnkffclkmhaa.Rw (Bk)
open Go.Proofs.Ytoohnkffclkmhaa.Gr (Gram Sh gv GAt termB term_any cell_later boxed drawn Is bool_of int_of ivs iv Listed New clone_any info_int Bx Box)
set_option linter.unusedVariables false
set_option linter.unusedSimpArgs false

/-! ### Twin -/

/-- Nodes copied into a row of their own. -/
def NodesGave (L : List Nv) (w : World) (e : Ending) (w' : World) : Prop :=
  ∃ v, e = .returned v ∧ w'.ownsRow 0 51 6 v L.length (L.flatMap ndc) ∧ (∀ b, v.ownBlock = some b → w.heap.size ≤ b) ∧ Below w.heap.size w w'

section
variable {pv : Value} {p : Nat} {S K : Nat → Prop} {L : List Nv} {T : List Nd} {v : Value} {w : World}

theorem cells_one (h : ∀ x ∈ L, KidA K x w) : ∀ u ∈ L.flatMap ndc, u.oneCell' = true := by
  intro u hu
  obtain ⟨x, hx, hu⟩ := List.mem_flatMap.1 hu
  obtain ⟨a, c, e, _⟩ := (h x hx).at_
  simp only [ndc, List.mem_cons, List.not_mem_nil, or_false] at hu
  rcases hu with rfl | rfl | rfl | rfl | rfl | rfl
  · rfl
  · rfl
  · rfl
  · rw [e]; rfl
  · rfl
  · rfl

theorem build_nodes (w : World) : (Instr.buildSlice 46 0 #[]).run Try.prog w = .ok (.slice (some ⟨w.heap.size, 0, none⟩) 0 0) (w.alloc (.cells #[] 51)) := by kernel_rfl

set_option maxHeartbeats 2000000 in
set_option maxRecDepth 100000 in
theorem nodes_clone (h : TrM p S K L v w) : Calls Try.prog 31 #[v] w (NodesGave L w) := by
  obtain ⟨i0, hi, hz0, hz1, hz2⟩ := info_parts info_node
  have hfew := h.few
  rcases h.row.2 with ⟨e, hL0⟩ | ⟨g, cap, cur, e, _⟩
  · subst e
    have hl : L = [] := List.eq_nil_of_length_eq_zero hL0
    subst hl
    have hn := Lib.run_eql_slice_nil (P := Try.prog)
    clear h
    go_enter Try.func31, Try.ntmps31
    go_wp2
    go_ret
    exact ⟨_, rfl, World.ownsRow_nil _ _ _ _, fun b e => by simp [Value.ownBlock] at e, .refl _ _⟩
  · subst e
    have ONE := Lib.hid (cells_one h.kids)
    have B1 := boxed w (.cells #[] 51)
    have RX := Lib.hid (h.went B1).row
    have ON := Lib.hid (World.ownsRow_made (base := w.heap.size) (e := 51) (size := 6) w #[] 0 (Nat.le_refl _) (by simp) (by simp))
    have FN := Lib.hid (show ∀ (v4 : Value) (w4 : World), w4.ownsRow w.heap.size 51 6 v4 L.length (L.flatMap ndc) → (w.alloc (.cells #[] 51)).grownBy w4 (Value.slice (some ⟨w.heap.size, 0, none⟩) 0 0).ownBlock → NodesGave L w (.returned v4) w4 from fun v4 w4 hown hg => by
      exact ⟨v4, rfl, Rw.row_mono hown (Nat.zero_le _), fun b e => (hown.lt b e).1, B1.grown hg (by simp) fun k hk => by simp only [Value.ownBlock, Option.map_some, Option.some.injEq] at hk; omega⟩)
    have hb2 : w.heap.size ≤ (w.alloc (.cells #[] 51)).heap.size := by rw [World.size_alloc]; omega
    clear h B1
    have hn := Lib.run_eql_slice_nil (P := Try.prog)
    have hb := build_nodes
    go_enter Try.func31, Try.ntmps31
    go_wp2_with (at_builtin; refine Rw.wpList_append_rows _ rfl _ _ 46 rfl w.heap.size 51 i0 (.agg #[.int .i64 0, .int .i64 0, .int .i64 0, .slice none 0 0, .bool false, .bool false]) 6 56 Try.underlying46 hi hz0 hz1 hz2 rfl (by decide) (.slice (some ⟨w.heap.size, 0, none⟩) 0 0) 0 [] rfl ON.out 0 (.slice (some ⟨g, 0, none⟩) L.length cap) L.length (L.flatMap ndc) rfl RX.out ONE.out (by unfold maxLen; omega) (by omega) hb2 ?_; intro v4 w4 hown4 hg4 hloc4; rw [Nat.zero_add, List.nil_append] at hown4; have R4 := Lib.hid (FN.out v4 w4 hown4 hg4); obtain ⟨a4, c4, rfl⟩ := Rw.row_shape hown4; clear hown4 hg4 hloc4)
    go_ret
    exact R4.out

/-- A copy. -/
def TwinGave (L : List Nv) (K : Nat → Prop) (w : World) (e : Ending) (w' : World) : Prop :=
  ∃ q S' v', e = .returned (.pointer (some ⟨q, 0, none⟩)) ∧ TrM q S' K L v' w' ∧ (∀ k, S' k → w.heap.size ≤ k) ∧ Below w.heap.size w w'

set_option maxHeartbeats 2000000 in
theorem twin_any (h : TrM p S K L v w) : Calls Try.prog 16 #[.pointer (some ⟨p, 0, none⟩)] w (TwinGave L K w) := by
  have N := Lib.hid (nodes_clone h)
  have H := Lib.hid h
  obtain ⟨a, c, rfl⟩ := h.shape
  have x := h.cell
  clear h
  go_enter Try.func16, Try.ntmps16
  go_wp2_with fail
  refine N.out.mono ?_
  rintro e w1 ⟨v1, rfl, hr1, hn1, hb1⟩
  obtain ⟨a1, c1, rfl⟩ := Rw.row_shape hr1
  have EN := Lib.hid (show TwinGave L K w (.returned (.pointer (some ⟨w1.heap.size, 0, none⟩))) (w1.alloc (.cells #[.slice a1 L.length c1] 48)) from by
    have b2 := boxed w1 (.cells #[.slice a1 L.length c1] 48)
    have hm := (H.out.went hb1).went b2
    refine ⟨w1.heap.size, fun k => k = w1.heap.size ∨ (Value.slice a1 L.length c1).ownBlock = some k, _, rfl, ⟨Bk.new w1 _ _ _ rfl, ownsRow_at hr1 fun g hg => b2.block g (hr1.lt g hg).2, fun b e => ⟨.inr e, fun e2 => ?_⟩, .inl rfl, ?_, hm.kin, ?_, hm.kids, hm.few⟩, ?_, Gr.step hb1 b2⟩
    · have := (hr1.lt b e).2
      omega
    · rintro k (rfl | e)
      · simp
      · have := (hr1.lt k e).2
        simp
        omega
    · rintro k (rfl | e) hk
      · have := H.out.kin _ hk
        have := hb1.size
        omega
      · have := H.out.kin _ hk
        have := hn1 k e
        omega
    · rintro k (rfl | e)
      · exact hb1.size
      · exact hn1 k e)
  clear hr1 hn1 hb1 N
  go_wp2_with fail
  go_ret
  exact EN.out
theorem twin_nil (w : World) : Calls Try.prog 16 #[.pointer none] w (Is (.pointer none) w) := by
  go_enter Try.func16, Try.ntmps16
  go_wp2
  go_ret
  exact ⟨rfl, .refl _ _⟩

/-! ### One node derived -/

/-- The closure of derived: does a child bear a symbol? -/
theorem der_clo (h : TrM p S K L v w) (q : Nat) (hq : w.cell? ⟨q, 0, none⟩ = some (.pointer (some ⟨p, 0, none⟩))) (s kid : Int) (hk : 0 ≤ kid ∧ kid < (L.length : Int)) :
    Calls Try.prog 43 #[.int .i64 s, .int .i64 kid, .pointer (some ⟨q, 0, none⟩)] w (Is (.bool (decide ((ndAt (L.map Prod.fst) kid.toNat).sym = s))) w) := by
  obtain ⟨j, rfl⟩ : ∃ j : Nat, kid = (j : Int) := ⟨kid.toNat, by omega⟩
  have hj : j < L.length := by omega
  rw [Int.toNat_natCast, ndAt_get (by simpa using hj), List.getElem_map]
  have x := h.cell
  have hn := h.few
  obtain ⟨g, c, rfl, x0, -, -, -, -, -, -⟩ := h.at hj
  have hj2 : (j : Int) < (L.length : Int) := by omega
  clear h hk
  generalize L[j].1.sym = y at *
  clear hj
  generalize L.length = N at *
  by_cases hs : y = s
  · have hd : decide (y = s) = true := decide_eq_true hs
    rw [hd]
    subst hs
    go_enter Try.func43, Try.ntmps43
    go_wp2
    go_ret
    exact ⟨bool_of (by go_light; simp), .refl _ _⟩
  · have hd : decide (y = s) = false := decide_eq_false hs
    rw [hd]
    go_enter Try.func43, Try.ntmps43
    go_wp2
    go_ret
    exact ⟨bool_of (by go_light; simp [hs]), .refl _ _⟩

def eqTo (T : List Nd) (R ks : List Int) (k : Nat) : Prop := ∀ j, j < k → ∀ (h1 : j < R.length) (h2 : j < ks.length), (ndAt T ks[j].toNat).sym = R[j]
theorem eq_full {T : List Nd} {R ks : List Int} (hl : R.length = ks.length) (h : eqTo T R ks ks.length) : R = ks.map fun k => (ndAt T k.toNat).sym := by
  refine List.ext_getElem (by simpa using hl) fun i h1 h2 => ?_
  rw [List.getElem_map]
  exact (h i (by simpa using h2) h1 (by simpa using h2)).symm

set_option maxHeartbeats 4000000 in
set_option maxRecDepth 100000 in
theorem eqf_any (h : TrM p S K L v w) (q : Nat) (hq : w.cell? ⟨q, 0, none⟩ = some (.pointer (some ⟨p, 0, none⟩))) (R ks : List Int) (aR aK : Option Addr) (cR cK : Nat) (hR : Reads aR (ivs R) w) (hK : Reads aK (ivs ks) w) (hin : ∀ k ∈ ks, 0 ≤ k ∧ k < (L.length : Int))
    (hlR : R.length ≤ 17592186044416) (hlK : ks.length ≤ 1000) :
    Calls Try.prog 42 #[.slice aR R.length cR, .slice aK ks.length cK, .func (.func 43) #[] #[.pointer (some ⟨q, 0, none⟩)]] w (Is (.bool (decide (R = ks.map fun k => (ndAt (L.map Prod.fst) k.toNat).sym))) w) := by
  by_cases hl : R.length = ks.length
  · have CL := Lib.hid (fun (s kid : Int) (hk : kid ∈ ks) w1 (hb : Below w.heap.size w w1) => der_clo (h.went hb) q (cell_later hb hq) s kid (hin kid hk))
    have RR := Lib.hid (fun w1 (hb : Below w.heap.size w w1) => hR.below hb (Nat.le_refl _))
    have RK := Lib.hid (fun w1 (hb : Below w.heap.size w w1) => hK.below hb (Nat.le_refl _))
    have ES := Lib.hid (fun h => eq_full (T := L.map Prod.fst) hl h)
    generalize L.map Prod.fst = T at *
    clear h hq hR hK hin
    rw [hl]
    have HL := Lib.hid hl
    clear hl
    go_enter Try.func42, Try.ntmps42
    go_wp2
    go_loopw [17] (fun x wr => ∃ k : Nat, x = .int .i64 (k : Int) ∧ k ≤ ks.length ∧ eqTo T R ks k ∧ Below w.heap.size w wr) (fun x _ => ks.length - (intOf x).toNat)
    case atStart => exact ⟨0, rfl, Nat.zero_le _, fun j hj => absurd hj (by omega), .refl _ _⟩
    case round =>
      obtain ⟨k, rfl, hk, he, hb⟩ := hrel
      have HB := Lib.hid hb
      have HE := Lib.hid he
      by_cases hlt : k < ks.length
      · have hltR : k < R.length := by rw [HL.out]; exact hlt
        obtain ⟨b1, o1, rfl, h1⟩ := RR.out _ hb k (by simpa [ivs] using hltR)
        obtain ⟨b2, o2, rfl, h2⟩ := RK.out _ hb k (by simpa [ivs] using hlt)
        simp only [ivs, iv, List.getElem_map] at h1 h2
        have CK := Lib.hid (CL.out R[k] ks[k] (List.getElem_mem hlt) _ hb)
        have ED := Lib.hid (show (ndAt T ks[k].toNat).sym = R[k] → eqTo T R ks (k + 1) from fun e j hj g1 g2 => by
          by_cases hjk : j = k
          · subst hjk
            exact e
          · exact HE.out j (by omega) g1 g2)
        have EN := Lib.hid (show ¬ (ndAt T ks[k].toNat).sym = R[k] → ¬ (R = ks.map fun k => (ndAt T k.toNat).sym) from fun hn e => hn (by
          have h3 := congrArg (fun l => l[k]?) e
          simp only [List.getElem?_map, List.getElem?_eq_getElem hlt, List.getElem?_eq_getElem hltR, Option.map_some, Option.some.injEq] at h3
          exact h3.symm))
        generalize (ndAt T ks[k].toNat).sym = y at *
        generalize R[k] = s at *
        generalize ks[k] = kid at *
        clear he hb hltR
        by_cases hy : y = s
        · have E2 := Lib.hid (ED.out hy)
          rw [decide_eq_true hy] at CK
          clear hy ED EN
          go_wp2_with (go_at_call 43; refine CK.out.mono ?_; rintro e w1 ⟨rfl, hb⟩; have H1 := Lib.hid (Gr.step HB.out hb); clear hb)
          go_roundw
          case rel => exact ⟨k + 1, by go_num, by omega, E2.out, H1.out⟩
          case measure => first | (simp [intOf]; omega) | omega
        · have E2 := Lib.hid (decide_eq_false (EN.out hy))
          rw [decide_eq_false hy] at CK
          clear hy ED EN
          go_wp2_with (go_at_call 43; refine CK.out.mono ?_; rintro e w1 ⟨rfl, hb⟩; have H1 := Lib.hid (Gr.step HB.out hb); clear hb)
          go_ret
          rw [E2.out]
          exact ⟨rfl, H1.out⟩
      · obtain rfl : k = ks.length := by omega
        have E2 := Lib.hid (decide_eq_true (ES.out he))
        clear he hb
        go_wp2
        go_ret
        rw [E2.out]
        exact ⟨rfl, HB.out⟩
  · have hd : decide (R = ks.map fun k => (ndAt (L.map Prod.fst) k.toNat).sym) = false := decide_eq_false fun e => hl (by have := congrArg List.length e; simpa using this)
    rw [hd]
    have hl2 : ¬ (R.length : Int) = (ks.length : Int) := by omega
    clear h hq hR hK hin hd hl
    generalize R.length = a at *
    generalize ks.length = b at *
    go_enter Try.func42, Try.ntmps42
    go_wp2
    go_ret
    exact ⟨rfl, .refl _ _⟩

set_option maxHeartbeats 8000000 in
set_option maxRecDepth 100000 in
theorem der_any (h : TrM p S K L v w) (hs : Sh) (G : Gram) (hG : GAt hs G w) (n : Nd) (a2 : Option Addr) (c2 : Nat) (hk : KidA K (n, .slice a2 n.kids.length c2) w) (hin : ∀ k ∈ n.kids, 0 ≤ k ∧ k < (L.length : Int)) :
    Calls Try.prog 25 #[.pointer (some ⟨p, 0, none⟩), gv hs G, ndv (n, .slice a2 n.kids.length c2)] w (Is (.bool (der1 (L.map Prod.fst) G n)) w) := by
  obtain ⟨wa, hwa⟩ : ∃ wa, w.alloc (.cells #[.pointer (some ⟨p, 0, none⟩)] 23) = wa := ⟨_, rfl⟩
  obtain ⟨wb, hwb⟩ : ∃ wb, wa.alloc (.cells #[.slice hs.a1 G.terms.length hs.c1, .slice hs.a2 G.nons.length hs.c2, .slice hs.a3 G.rules.length hs.c3, .int .i64 G.start] 43) = wb := ⟨_, rfl⟩
  obtain ⟨wc, hwc⟩ : ∃ wc, wb.alloc (.cells #[.int .i64 n.sym, .int .i64 n.leaf, .int .i64 n.rule, .slice a2 n.kids.length c2, .bool n.inner, .bool n.taken] 51) = wc := ⟨_, rfl⟩
  have sa : wa.heap.size = w.heap.size + 1 := by rw [← hwa]; simp
  have sb : wb.heap.size = w.heap.size + 1 + 1 := by rw [← hwb]; simp [sa]
  have Ba : Below w.heap.size w wa := hwa ▸ boxed _ _
  have Bb : Below w.heap.size w wb := Gr.step Ba (hwb ▸ boxed _ _)
  have Bc : Below w.heap.size w wc := Gr.step Bb (hwc ▸ boxed _ _)
  have qa : Bk w.heap.size #[.pointer (some ⟨p, 0, none⟩)] 23 wc := ((hwa ▸ Bk.new w _ _ _ rfl : Bk w.heap.size _ _ wa).went (hwb ▸ boxed _ _)).went (hwc ▸ boxed _ _)
  have qb : Bk (w.heap.size + 1) #[.slice hs.a1 G.terms.length hs.c1, .slice hs.a2 G.nons.length hs.c2, .slice hs.a3 G.rules.length hs.c3, .int .i64 G.start] 43 wc := (sa ▸ (hwb ▸ Bk.new wa _ _ _ rfl : Bk wa.heap.size _ _ wb)).went (hwc ▸ boxed _ _)
  have qc : Bk (w.heap.size + 1 + 1) #[.int .i64 n.sym, .int .i64 n.leaf, .int .i64 n.rule, .slice a2 n.kids.length c2, .bool n.inner, .bool n.taken] 51 wc := sb ▸ (hwc ▸ Bk.new wb _ _ _ rfl : Bk wb.heap.size _ _ wc)
  have HB := Lib.hid Bc
  have GC := Lib.hid (fun w1 (hb : Below wc.heap.size wc w1) => hG.went (Gr.step Bc hb))
  have TM := Lib.hid (fun w1 (hb : Below wc.heap.size wc w1) => h.went (Gr.step Bc hb))
  obtain ⟨y0, y1, y2, y3, -⟩ := qb.four
  have z0 := qc.cell (j := 0) rfl
  have z1 := qc.cell (j := 1) rfl
  have z2 := qc.cell (j := 2) rfl
  have z3 := qc.cell (j := 3) rfl
  have z4 := qc.cell (j := 4) rfl
  have z5 := qc.cell (j := 5) rfl
  have x0 := qa.cell (j := 0) rfl
  have hr := hG.r2
  have hkf := hk.few
  dsimp only at hkf
  obtain ⟨a', c', e', hKr, -⟩ := hk.at_
  simp only [Value.slice.injEq] at e'
  obtain ⟨rfl, _, rfl⟩ := e'
  have KR := Lib.hid (fun w1 (hb : Below wc.heap.size wc w1) => hKr.below (Gr.step Bc hb) (Nat.le_refl _))
  have KN := Lib.hid hin
  unfold der1 gv ndv
  dsimp only
  cases hni : n.inner with
  | false =>
    have TE := Lib.hid (term_any hs G n.sym wc (GC.out wc (.refl _ _)))
    unfold gv at TE
    rw [hni] at z4
    rw [hni] at hwc
    simp only [Bool.false_eq_true, if_false]
    clear Ba Bb Bc qa qb qc hG h hk hKr hin
    go_enter Try.func25, Try.ntmps25
    go_wp2_with (go_at_call 41; refine TE.out.mono ?_; rintro e w1 ⟨rfl, hb⟩; have H1 := Lib.hid (Gr.step HB.out hb); clear hb)
    go_ret
    exact ⟨rfl, H1.out⟩
  | true =>
    rw [hni] at z4
    rw [hni] at hwc
    simp only [if_true]
    by_cases hrr : 0 ≤ n.rule ∧ n.rule < (G.rules.length : Int)
    · obtain ⟨r, hre⟩ : ∃ r : Nat, n.rule = (r : Int) := ⟨n.rule.toNat, by omega⟩
      have hrl : r < G.rules.length := by omega
      have hrl2 : (r : Int) < (G.rules.length : Int) := by omega
      obtain ⟨gb, go, ra, rc, hga, r0, r1, hRr, hRl, hRl2⟩ := (GC.out wc (.refl _ _)).rules r hrl
      have hget : G.rules.getD r (0, []) = G.rules[r] := by rw [List.getD_eq_getElem?_getD, List.getElem?_eq_getElem hrl]; rfl
      rw [hre, Int.toNat_natCast, hget]
      rw [hre] at z2
      rw [hre] at hwc
      have hd0 : decide (0 ≤ (r : Int) ∧ (r : Int) < (G.rules.length : Int)) = true := decide_eq_true ⟨by omega, hrl2⟩
      rw [hd0, Bool.true_and]
      have R1 := Lib.hid (fun w1 (hb : Below wc.heap.size wc w1) => hRr.below hb (Nat.le_refl _))
      generalize G.rules[r] = rr at *
      obtain ⟨rl, rR⟩ := rr
      dsimp only at r0 r1 hRl hRl2 ⊢
      have B4 := boxed wc (.cells #[.int .i64 rl, .slice ra rR.length rc] 59)
      have EQ := Lib.hid (eqf_any (TM.out _ B4) w.heap.size (cell_later B4 x0) rR n.kids ra a2 rc c2 (R1.out _ B4) (KR.out _ B4) KN.out hRl2 hkf)
      have H4 := Lib.hid (Gr.step HB.out B4)
      have w0' := cell_later B4 z0
      have w3' := cell_later B4 z3
      have w4' := (Bk.new wc #[.int .i64 rl, .slice ra rR.length rc] 59 _ rfl).cell (j := 0) rfl
      have w5' := (Bk.new wc #[.int .i64 rl, .slice ra rR.length rc] 59 _ rfl).cell (j := 1) rfl
      rw [hga] at y2
      rw [hga] at hwb
      clear Ba Bb Bc qa qb qc hG h hk hKr hin hrr hrl hget hd0 B4 hRr
      generalize decide (rR = n.kids.map fun k => (ndAt (L.map Prod.fst) k.toNat).sym) = bb at *
      have hgo : ∀ x : Nat, x = x := fun _ => rfl
      by_cases hsy : rl = n.sym
      · rw [decide_eq_true hsy, Bool.true_and]
        subst hsy
        go_enter Try.func25, Try.ntmps25
        go_wp2_with (go_at_call 42; refine EQ.out.mono ?_; rintro e w1 ⟨rfl, hb⟩; have H1 := Lib.hid (Gr.step H4.out hb); clear hb)
        go_ret
        exact ⟨rfl, H1.out⟩
      · rw [decide_eq_false hsy, Bool.false_and]
        go_enter Try.func25, Try.ntmps25
        go_wp2
        go_ret
        exact ⟨rfl, H4.out⟩
    · rw [decide_eq_false hrr, Bool.false_and]
      clear Ba Bb Bc qa qb qc hG h hk hKr hin
      by_cases h0 : n.rule < 0
      · go_enter Try.func25, Try.ntmps25
        go_wp2
        go_ret
        exact ⟨rfl, HB.out⟩
      · have h1 : (G.rules.length : Int) ≤ n.rule := by omega
        go_enter Try.func25, Try.ntmps25
        go_wp2
        go_ret
        exact ⟨rfl, HB.out⟩
end
end Go.Proofs.Ytoohnkffclkmhaa.Tr
