/-
  The maker: the grammar. Condition: the source's parts are of at most 10000 each.
-/
import Derived.Test.YtimfiaphhomelaaGreatGreadGAt
namespace Go.Proofs.YtimfiaphhomelaaGreat.Rd
open Go.RowKit Go.Maps
open Go.Proofs.YtimfiaphhomelaaGreat.Tk (Tok tcs cells cells_length cells_snoc Just info_tok cells_three_new)
set_option linter.unusedVariables false
set_option linter.unusedSimpArgs false

/-- The beginning's number. -/
def startI (st : MSt) : Int := if isEmp st.start then (st.L1.length : Int) + 1 else numI st st.start

/-- The zero grammar's cells. -/
abbrev zg : Array Value := #[.slice none 0 0, .slice none 0 0, .slice none 0 0, .int .i64 0]

theorem below_set4 {q : Nat} {W X : World} (h : Below W.heap.size W X) (hq : W.heap.size ≤ q) (a b c d : Value) : Below W.heap.size W ((((X.setCell ⟨q, 0, none⟩ a).setCell ⟨q, 1, none⟩ b).setCell ⟨q, 2, none⟩ c).setCell ⟨q, 3, none⟩ d) :=
  h.trans ((fr_set4 X q a b c d).below (fun k hk => hk ▸ hq) h.size)

/-- A list of strings reads on while the cells of an answer's variable are written. -/
theorem reads_off {q : Nat} {a : Option Addr} {L : List ByteArray} {T : TypeId} {x y z : Value} {k : Int} {w w' : World} (h : Sep.Reads a (L.map .string) w) (hx : ∀ s, x ≠ .string s) (hy : ∀ s, y ≠ .string s) (hz : ∀ s, z ≠ .string s) (hQ : Bk q #[x, y, z, .int .i64 k] T w) (hF : Sep.Fr (fun k => k = q) w w') : Sep.Reads a (L.map .string) w' := fun i hi => by
  obtain ⟨b, o, e, hc⟩ := h i hi
  refine ⟨b, o, e, hF.cell hc fun hb => ?_⟩
  simp only at hb
  subst hb
  simp only [List.getElem_map] at hc
  unfold Bk at hQ
  simp only [World.cell?, hQ] at hc
  rcases ho : o + i with _ | _ | _ | _ | n
  all_goals
    rw [ho] at hc
    simp at hc
    try first | exact hx _ hc | exact hy _ hc | exact hz _ hc

/-- Behind the answer's variable. -/
def GMid0 (st : MSt) (w : World) (s5 : Value) (wx : World) : Prop := ∃ q a1 c1 a2 c2, s5 = .pointer (some ⟨q, 0, none⟩) ∧ w.heap.size ≤ q ∧
  Bk q #[.slice a1 st.L1.length c1, .slice a2 st.L2.length c2, .slice none 0 0, .int .i64 ((st.L1.length : Int) + 1)] 25 wx ∧ Below w.heap.size w wx ∧ Sep.Reads a1 (st.L1.map .string) wx ∧ Sep.Reads a2 (st.L2.map .string) wx ∧ st.L1.length ≤ c1

/-- The answer's variable, the rules so far. -/
def GAns (st : MSt) (q : Nat) (a1 a2 : Option Addr) (c1 c2 : Nat) (start : Int) (X : List (Int × List Int)) (WX wx : World) : Prop :=
  ∃ v, Bk q #[.slice a1 st.L1.length c1, .slice a2 st.L2.length c2, v, .int .i64 start] 25 wx ∧ GRules WX.heap.size X v wx ∧ Sep.Fr (fun k => k = q) WX wx

theorem GMid0.of {st : MSt} {q c1 c2 : Nat} {a1 a2 : Option Addr} {W X : World} (hq : W.heap.size ≤ q) (hZ : Bk q zg 25 X) (hB : Below W.heap.size W X) (h1 : Sep.Reads a1 (st.L1.map .string) X) (h2 : Sep.Reads a2 (st.L2.map .string) X) (hc : st.L1.length ≤ c1) :
    GMid0 st W (.pointer (some ⟨q, 0, none⟩)) ((((X.setCell ⟨q, 0, none⟩ (.slice a1 st.L1.length c1)).setCell ⟨q, 1, none⟩ (.slice a2 st.L2.length c2)).setCell ⟨q, 2, none⟩ (.slice none 0 0)).setCell ⟨q, 3, none⟩ (.int .i64 ((st.L1.length : Int) + 1))) :=
  have hF := fr_set4 X q (.slice a1 st.L1.length c1) (.slice a2 st.L2.length c2) (.slice none 0 0) (.int .i64 ((st.L1.length : Int) + 1))
  ⟨q, a1, c1, a2, c2, rfl, hq, (((hZ.set (j := 0) (by simp) _).set (j := 1) (by simp) _).set (j := 2) (by simp) _).set (j := 3) (by simp) _, hB.trans (hF.below (fun k hk => hk ▸ hq) hB.size),
    reads_off h1 (by simp) (by simp) (by simp) hZ hF, reads_off h2 (by simp) (by simp) (by simp) hZ hF, hc⟩

theorem GMid0.new {st : MSt} {c1 c2 : Nat} {a1 a2 : Option Addr} {W X : World} (hB : Below W.heap.size W X) (h1 : Sep.Reads a1 (st.L1.map .string) X) (h2 : Sep.Reads a2 (st.L2.map .string) X) (hc : st.L1.length ≤ c1) :
    GMid0 st W (.pointer (some ⟨X.heap.size, 0, none⟩)) (X.alloc (.cells #[.slice a1 st.L1.length c1, .slice a2 st.L2.length c2, .slice none 0 0, .int .i64 ((st.L1.length : Int) + 1)] 25)) :=
  ⟨_, a1, c1, a2, c2, rfl, hB.size, Bk.new _ _ _ _ rfl, Gr.step hB (Gr.boxed _ _), h1.below (Gr.boxed _ _) (Nat.le_refl _), h2.below (Gr.boxed _ _) (Nat.le_refl _), hc⟩

theorem numI_bounds {m : Nat} {S : Nat → Prop} {lf : List ByteArray} {st : MSt} {w : World} (h : MAt m S lf st w) (s : ByteArray) : 0 ≤ numI st s ∧ numI st s ≤ 10000 := by
  obtain ⟨b1, n1, b2, p1, p2, S1, S2, D1, D2, h⟩ := h
  have l1 := h.nm1.good.2
  have l2 := h.nm2.good.2
  have q1 := @It.num_le st.L1 s
  have q2 := place_bounds st.L2 s
  unfold numI
  split <;> omega

theorem rows_le (st : MSt) (rules : List Rul) (h : ∀ R ∈ rules, R.sides.length ≤ 10000) : (rules.flatMap (rowsI st)).length ≤ rules.length * 10000 := by
  induction rules with
  | nil => simp
  | cons R r ih =>
    rw [List.flatMap_cons, List.length_append, List.length_cons]
    have h1 := ih fun Q hQ => h Q (List.mem_cons_of_mem _ hQ)
    have h2 := h R (List.mem_cons_self ..)
    have h3 : (rowsI st R).length = R.sides.length := by simp [rowsI]
    omega

/-- It reads on where other blocks that were there before are written, blocks without strings. -/
def GKept (n : Nat) (sh : Gr.Sh) (G : Gr.Gram) (w' : World) : Prop := ∀ (Z : Nat → Prop) w'', (∀ q, Z q → q < n ∧ ∀ j s, w'.cell? ⟨q, j, none⟩ ≠ some (.string s)) → Sep.Fr Z w' w'' → Gr.GAt sh G w''

theorem reads_keep {Z : Nat → Prop} {a : Option Addr} {L : List ByteArray} {w w' : World} (h : Sep.Reads a (L.map .string) w) (hz : ∀ q, Z q → ∀ j s, w.cell? ⟨q, j, none⟩ ≠ some (.string s)) (hF : Sep.Fr Z w w') : Sep.Reads a (L.map .string) w' := fun i hi => by
  obtain ⟨b, o, e, hc⟩ := h i hi
  refine ⟨b, o, e, hF.cell hc fun hb => ?_⟩
  rw [List.getElem_map] at hc
  exact hz b hb _ _ hc

theorem bk_nostr {q : Nat} {T : TypeId} {x y z : Value} {k : Int} {w : World} (h : Bk q #[x, y, z, .int .i64 k] T w) (hx : ∀ s, x ≠ .string s) (hy : ∀ s, y ≠ .string s) (hz : ∀ s, z ≠ .string s) : ∀ j s, w.cell? ⟨q, j, none⟩ ≠ some (.string s) := fun j s hc => by
  unfold Bk at h
  simp only [World.cell?, h] at hc
  rcases j with _ | _ | _ | _ | n
  all_goals
    simp at hc
    try first | exact hx _ hc | exact hy _ hc | exact hz _ hc

theorem GRules.fr {base : Nat} {Z : Nat → Prop} {X : List (Int × List Int)} {v : Value} {w w' : World} (h : GRules base X v w) (hF : Sep.Fr Z w w') (hq : ∀ q, Z q → q < base) : GRules base X v w' := by
  obtain ⟨L, h1, h2, h3, h4⟩ := h
  exact ⟨L, h1, Sep.ownsRow_at h2 fun g hg => hF.block g (h2.lt g hg).2 (fun hz => by have := (h2.lt g hg).1; have := hq g hz; omega), fun x hx => (h3 x hx).at fun g hg => hF.block g (World.ownsRow.lt (h3 x hx) g hg).2 (fun hz => by have := (World.ownsRow.lt (h3 x hx) g hg).1; have := hq g hz; omega), h4⟩

theorem gram_rows (st : MSt) (src : Src) (hlen : src.rules.length ≤ 10000) (hok : ∀ R ∈ src.rules, RulOk R) : (src.rules.flatMap (rowsI st)).length ≤ 100000000 ∧ (∀ r ∈ src.rules.flatMap (rowsI st), r.2.length ≤ 10000) ∧ True := by
  refine ⟨?_, fun r hr => ?_, trivial⟩
  · have := rows_le st src.rules fun R hR => (hok R hR).2.1
    omega
  · obtain ⟨R, hR, hr⟩ := List.mem_flatMap.1 hr
    obtain ⟨s, hs, rfl⟩ := List.mem_map.1 hr
    simp only [List.length_map]
    exact ((hok R hR).2.2 s hs).1

theorem gok {m : Nat} {S : Nat → Prop} {lf : List ByteArray} {st : MSt} {w : World} (h : MAt m S lf st w) {X : List (Int × List Int)} {sI : Int} (hs : Gr.Fits sI) (hX : ∀ r ∈ X, ∃ (a : ByteArray) (L : List Tok), r = (numI st a, L.map fun t => numI st t.s)) : Gr.GOk ⟨st.L1, st.L2, X, sI⟩ := by
  have nb := fun s => numI_bounds h s
  obtain ⟨b1, n1, b2, p1, p2, S1, S2, D1, D2, h⟩ := h
  have g1 := h.nm1.good.1
  have g2 := h.nm2.good.1
  have fit : ∀ s, Gr.Fits (numI st s) := fun s => by have := nb s; unfold Gr.Fits; omega
  refine ⟨fun s hs => ?_, fun s hs => ?_, hs, fun r hr => ?_, fun r hr x hx => ?_⟩
  · have := g1.sizes s hs
    simp only [It.okLen, Bool.and_eq_true, decide_eq_true_eq] at this
    omega
  · have := g2.sizes s hs
    simp only [It.okLen, Bool.and_eq_true, decide_eq_true_eq] at this
    omega
  · obtain ⟨a, L, rfl⟩ := hX r hr
    exact fit _
  · obtain ⟨a, L, rfl⟩ := hX r hr
    obtain ⟨t, _, rfl⟩ := List.mem_map.1 hx
    exact fit _

theorem own_ne {v v4 : Value} {q n : Nat} (h : v.ownBlock ≠ some q) (hl : v4.ownBlock = v.ownBlock ∨ v4.ownBlock = some n) (hn : q ≠ n) : v4.ownBlock ≠ some q := fun e => by
  rcases hl with h1 | h1
  · exact h (h1.symm.trans e)
  · rw [h1] at e
    injection e with e
    exact hn e.symm

/-- The answer within a rule's loop: the rule's box too. -/
def GIn (st : MSt) (q : Nat) (a1 a2 : Option Addr) (c1 c2 : Nat) (start : Int) (X : List (Int × List Int)) (R : Rul) (sv : Value) (qr : Nat) (WX wx : World) : Prop :=
  ∃ v, Bk q #[.slice a1 st.L1.length c1, .slice a2 st.L2.length c2, v, .int .i64 start] 25 wx ∧ GRules WX.heap.size X v wx ∧ v.ownBlock ≠ some qr ∧ Sep.Fr (fun k => k = q) WX wx ∧
    Bk qr #[.int .i64 R.left.k, .string R.left.s, .int .i64 (R.left.at_ : Int), sv] 94 wx

/-- The loop over rules. -/
def GLoop1 (st : MSt) (q : Nat) (a1 a2 : Option Addr) (c1 c2 : Nat) (start : Int) (rules : List Rul) (WX : World) (g : Nat) (i : Value) (wr : World) : Prop :=
  ∃ j, j + g = rules.length ∧ i = .int .i64 (j : Int) ∧ GAns st q a1 a2 c1 c2 start ((rules.take j).flatMap (rowsI st)) WX wr

/-- A right side's row. -/
def rowI (st : MSt) (R : Rul) (s : Side) : Int × List Int := (numI st R.left.s, s.syms.map fun t => numI st t.s)

/-- The loop over right sides. -/
def GLoop2 (st : MSt) (q : Nat) (a1 a2 : Option Addr) (c1 c2 : Nat) (start : Int) (X0 : List (Int × List Int)) (R : Rul) (sv : Value) (qr : Nat) (WX : World) (g : Nat) (i : Value) (wr : World) : Prop :=
  ∃ k, k + g = R.sides.length ∧ i = .int .i64 (k : Int) ∧ GIn st q a1 a2 c1 c2 start (X0 ++ (R.sides.take k).map (rowI st R)) R sv qr WX wr

set_option maxRecDepth 100000 in
set_option maxHeartbeats 8000000 in
theorem gram_any {m base : Nat} {S : Nat → Prop} {lf : List ByteArray} {st : MSt} (w : World) (h : MAt m S lf st w) (src : Src) (dv rv : Value) (hv0 : ∃ a n c, dv = .slice a n c) (hd : RulesV base src.rules rv w) (hlen : src.rules.length ≤ 10000) (hok : ∀ R ∈ src.rules, RulOk R) (hst : st.start.size ≤ maxLen) :
    Calls Tryz.prog 55 #[.pointer (some ⟨m, 0, none⟩), srcV dv rv] w fun e w' => ∃ sh, e = .returned (Gr.gv sh (gramM st src)) ∧ Gr.GAt sh (gramM st src) w' ∧ Below w.heap.size w w' ∧ GKept w.heap.size sh (gramM st src) w' := by
  obtain ⟨a0, n0, c0, rfl⟩ := hv0
  obtain ⟨a, c, rfl⟩ := hd.len
  have H := Lib.hid h
  have b0 := Gr.step (Gr.boxed w (.cells #[.slice a0 n0 c0, .slice a src.rules.length c] 58)) (Gr.boxed _ (.cells #[.slice none 0 0, .slice none 0 0, .slice none 0 0, .int .i64 0] 25))
  have B0 := Lib.hid b0
  have BN := Lib.hid ((Bk.new w #[.slice a0 n0 c0, .slice a src.rules.length c] 58 _ rfl).went (Gr.boxed _ (.cells #[.slice none 0 0, .slice none 0 0, .slice none 0 0, .int .i64 0] 25)))
  have BR := Lib.hid (Bk.new (w.alloc (.cells #[.slice a0 n0 c0, .slice a src.rules.length c] 58)) #[.slice none 0 0, .slice none 0 0, .slice none 0 0, .int .i64 0] 25 (w.heap.size + 1) (by simp))
  obtain ⟨b1', n1, b2, p1, p2, S1, S2, D1, D2, hM⟩ := h
  have hm : m < w.heap.size := World.block_lt_of_cell? w ⟨m, 4, none⟩ hM.c4
  have l1 := hM.nm1.good.2
  have l2 := hM.nm2.good.2
  have AT := Lib.hid (fun w1 (hb : Below w.heap.size w w1) => It.all_any w1 (hM.nm1.went hb))
  have AN := Lib.hid (fun w1 (hb : Below w.heap.size w w1) => It.all_any w1 (hM.nm2.went hb))
  have LN := Lib.hid (fun w1 (hb : Below w.heap.size w w1) => It.len_any w1 (hM.nm1.went hb))
  have C2 := Lib.hid (fun w1 (hb : Below w.heap.size w w1) => (hM.keep hb.size fun k hk _ => hb.block k hk).c2)
  have C3 := Lib.hid (fun w1 (hb : Below w.heap.size w w1) => (hM.keep hb.size fun k hk _ => hb.block k hk).c3)
  have C4 := Lib.hid (fun w1 (hb : Below w.heap.size w w1) => (hM.keep hb.size fun k hk _ => hb.block k hk).c4)
  have q2 := C2.out _ b0
  have q3 := C3.out _ b0
  have HD := Lib.hid hd
  have OK := Lib.hid hok
  clear hM hd hok b0
  generalize hnn : src.rules.length = nn at *
  have HNN := Lib.hid hnn
  clear hnn
  obtain ⟨i0, hii, hz0, hz1, hz2⟩ := info_parts info_rule2
  have hwr : IntKind.i64.wrap ((st.L1.length : Int) + 1) = (st.L1.length : Int) + 1 := IntWalk.i64_in _ (by omega)
  go_enter Tryz.func55, Tryz.ntmps55
  go_wp2
  go_cut [5] (fun s5 wx => GMid0 st ((w.alloc (.cells #[.slice a0 n0 c0, .slice a nn c] 58)).alloc (.cells #[.slice none 0 0, .slice none 0 0, .slice none 0 0, .int .i64 0] 25)) s5 wx)
  case first =>
    clear BN BR HD OK HNN H
    generalize hW : ((w.alloc (.cells #[.slice a0 n0 c0, .slice a nn c] 58)).alloc (.cells #[.slice none 0 0, .slice none 0 0, .slice none 0 0, .int .i64 0] 25)) = W at *
    have hmW : m < W.heap.size := Nat.lt_of_lt_of_le hm B0.out.size
    clear hW
    have hbd := Gr.drawn W
    have HQ := Lib.hid (fun w' (hb : Below W.heap.size W w') => (And.intro (C2.out _ (Gr.step B0.out hb)) (And.intro (C3.out _ (Gr.step B0.out hb)) hb)))
    go_region_held3 (fun w' => w'.cell? ⟨m, 2, none⟩ = some (.pointer (some ⟨p1, 0, none⟩)) ∧ w'.cell? ⟨m, 3, none⟩ = some (.pointer (some ⟨p2, 0, none⟩)) ∧ Below W.heap.size W w')
      (exact HQ.out _ (by first | assumption | exact Gr.step (by assumption) (Gr.boxed _ _) | exact below_set4 (by first | assumption | exact Gr.step (by assumption) (Gr.boxed _ _)) (by first | exact Nat.le_refl _ | exact Below.size (by assumption)) _ _ _ _))
      (first
        | (go_at_call 88; ((with_reducible refine (AT.out _ (Gr.step B0.out (by first | assumption | exact Gr.step (by assumption) (Gr.boxed _ _)))).mono ?_)); rintro e wa ⟨a1, c1, rfl, ⟨hR1, hC1⟩, hb1⟩; have kA : Below W.heap.size W wa := Gr.step (by first | assumption | exact Gr.step (by assumption) (Gr.boxed _ _)) hb1; (try (have QA := Lib.hid ((Bk.new W.drew zg 25 W.heap.size rfl).went hb1))))
        | (go_at_call 88; ((with_reducible refine (AN.out _ (Gr.step B0.out (by first | assumption | exact Gr.step (by assumption) (Gr.boxed _ _)))).mono ?_)); rintro e wb ⟨a2, c2, rfl, ⟨hR2, _⟩, hb2⟩; have kB : Below W.heap.size W wb := Gr.step (by first | assumption | exact Gr.step (by assumption) (Gr.boxed _ _)) hb2; (first | (have QB := Lib.hid (QA.out.went hb2)) | (have QB := Lib.hid ((Bk.new _ zg 25 _ rfl).went hb2)) | skip); (try (obtain ⟨f0, f1, f2, f3, ff⟩ := QB.out.four)))
        | (go_at_call 89; refine (LN.out _ (Gr.step B0.out (by first | assumption | exact Gr.step (by assumption) (Gr.boxed _ _)))).mono ?_; rintro e wc ⟨rfl, rfl⟩; (try (obtain ⟨g0, g1, g2, g3, gf⟩ := (Bk.new wb zg 25 _ rfl).four)))
        | fail)
    all_goals
      go_wp2
      go_meet
      case rel =>
        first
          | exact GMid0.new kB (hR1.below hb2 (Nat.le_refl _)) hR2 hC1
          | exact GMid0.of (Nat.le_refl _) QB.out kB (hR1.below hb2 (Nat.le_refl _)) hR2 hC1
          | exact GMid0.of kA.size QB.out kB (hR1.below (Gr.step (Gr.boxed _ _) hb2) (Nat.le_refl _)) hR2 hC1
  case rest =>
    obtain ⟨q, a1, c1, a2, c2, rfl, hq, hQ, hWC, hR1, hR2, hC1⟩ := hcut
    have HC1 := Lib.hid hC1
    clear hC1
    have BC := Lib.hid (Gr.step B0.out hWC)
    have R1 := Lib.hid hR1
    have R2 := Lib.hid hR2
    have N1 := Lib.hid (BN.out.went hWC)
    have N2 := Lib.hid (BR.out.went hWC)
    have Q0 := Lib.hid hQ
    have hNC : w.heap.size + 1 < wc.heap.size := N2.out.lt
    have q4 := C4.out _ BC.out
    have SB := Lib.hid (numI_bounds H.out st.start)
    have hqx : q < wc.heap.size := Q0.out.lt
    have hqn : w.heap.size + 1 < q := by simp at hq; omega
    clear B0 BN BR q2 q3 AT AN LN C2 C3 hWC hR1 hR2 hQ hq
    have NS := Lib.hid (number_any _ (H.out.went BC.out) st.start hst)
    generalize hns : numI st st.start = ns at NS SB
    have HNS := Lib.hid hns
    clear hns
    obtain ⟨WX, hWX⟩ : ∃ X, X = wc := ⟨wc, rfl⟩
    subst hWX
    go_upto_if 31 with (fail)
    go_cut [] (fun wx => GAns st q a1 a2 c1 c2 (startI st) [] WX wx)
    case first =>
      cases he : isEmp st.start with
      | true =>
        have HE := Lib.hid (show startI st = (st.L1.length : Int) + 1 by unfold startI; rw [he]; rfl)
        have he2 := emp_true he
        have h1 : st.start.toList.isEmpty = true := by rw [he2, ByteArray.toList_eq]; rfl
        have h2 : st.start.toList = [] := by rw [he2, ByteArray.toList_eq]
        rw [h1]
        clear he he2 h1 h2
        go_wp2
        go_meet
        case rel => rw [HE.out]; exact ⟨.slice none 0 0, Q0.out, GRules.nil _ _, .refl _ _⟩
      | false =>
        have HE := Lib.hid (show startI st = ns by unfold startI; rw [he, HNS.out]; rfl)
        obtain ⟨h1, h2⟩ := It.not_empty (s := st.start) (by simpa [isEmp] using he)
        rw [h1]
        clear he h1 h2
        go_wp2_with (go_at_call 90; refine NS.out.mono ?_; rintro e w1 ⟨rfl, hb⟩; have Q1 := Lib.hid (Q0.out.went hb); obtain ⟨f0, f1, f2, f3, ff⟩ := (Q0.out.went hb).four; have hs1 : WX.heap.size ≤ w1.heap.size := hb.size; have K1 := Lib.hid hb; clear hb)
        go_meet
        case rel => rw [HE.out]; exact ⟨.slice none 0 0, Q1.out.set (j := 3) (by simp) _, GRules.nil _ _, (Sep.Fr.of_below (S := fun k => k = q) K1.out).setCell ⟨q, 3, none⟩ rfl _⟩
    case rest =>
      have BW := Lib.hid (fun w' (hF : Sep.Fr (fun k => k = q) WX w') => BC.out.trans (hF.below (m := w.heap.size) (fun k hk => by omega) BC.out.size))
      have SI := Lib.hid (show -1000000 ≤ startI st ∧ startI st ≤ 1000000 by unfold startI; split; omega; rw [HNS.out]; have := SB.out; omega)
      have RA := Lib.hid (fun w' (hF : Sep.Fr (fun k => k = q) WX w') => reads_off R1.out (by simp) (by simp) (by simp) Q0.out hF)
      have RB := Lib.hid (fun w' (hF : Sep.Fr (fun k => k = q) WX w') => reads_off R2.out (by simp) (by simp) (by simp) Q0.out hF)
      clear Q0 NS SB HNS hNC q4 BC R1 R2
      generalize hsI : startI st = sI at *
      have HSI := Lib.hid hsI
      clear hsI
      have hcut' := hcut
      obtain ⟨v0, hQ0, hG0, hF0⟩ := hcut'
      have HC := Lib.hid hcut
      clear hcut hG0 v0 hQ0
      obtain ⟨x0, x1, xf⟩ := (N1.out.fr hF0 (by omega)).two
      have hN := (N1.out.fr hF0 (by omega)).lt
      clear hF0
      go_wp2
      go_loopg [42] nn (fun g i wr => GLoop1 st q a1 a2 c1 c2 sI src.rules WX g i wr)
      case atStart => exact ⟨0, by rw [HNN.out]; omega, rfl, HC.out⟩
      case round =>
        clear HC x0 x1 xf hN
        obtain ⟨j, hj, rfl, hA⟩ := hrel
        rw [HNN.out] at hj
        by_cases hlt : j < nn
        · have hj2 : j < src.rules.length := by rw [HNN.out]; exact hlt
          obtain ⟨v, hQ, hG, hF⟩ := hA
          obtain ⟨g, c', u, lo, hi, hv, k0, k1, k2, k3, kl, kh, kS⟩ := HD.out.get j hj2
          obtain ⟨a3, c3, rfl⟩ := kS.sides.len
          simp only [Value.slice.injEq] at hv
          have ha := hv.1
          clear hv
          subst ha
          have bw := BW.out _ hF
          replace k0 := Gr.cell_later bw k0
          replace k1 := Gr.cell_later bw k1
          replace k2 := Gr.cell_later bw k2
          replace k3 := Gr.cell_later bw k3
          have TK := Lib.hid (List.take_succ_eq_append_getElem hj2)
          have OR := Lib.hid (OK.out _ (List.getElem_mem hj2))
          have X0L := Lib.hid (show ((src.rules.take j).flatMap (rowsI st)).length ≤ 100000000 from by
            have := rows_le st (src.rules.take j) fun R hR => (OK.out R (List.mem_of_mem_take hR)).2.1
            have h2 : (src.rules.take j).length ≤ 10000 := by rw [List.length_take]; omega
            omega)
          generalize src.rules[j] = R at k0 k1 k2 k3 TK OR kS
          generalize hX0 : (src.rules.take j).flatMap (rowsI st) = X0 at *
          have KS := Lib.hid kS
          have HX0 := Lib.hid hX0
          have hsl := OR.out.2.1
          have hg : g < wr.heap.size := World.block_lt_of_cell? wr ⟨g, j * 4, none⟩ k0
          have HI := Lib.hid (show GIn st q a1 a2 c1 c2 sI X0 R (.slice a3 R.sides.length c3) wr.heap.size WX (wr.alloc (.cells #[.int .i64 R.left.k, .string R.left.s, .int .i64 (R.left.at_ : Int), .slice a3 R.sides.length c3] 94)) from
            have b := Gr.boxed wr (.cells #[.int .i64 R.left.k, .string R.left.s, .int .i64 (R.left.at_ : Int), .slice a3 R.sides.length c3] 94)
            ⟨v, hQ.went b, hG.went b, (fun e => by obtain ⟨L, _, h2, _⟩ := hG; have := (h2.lt _ e).2; omega), hF.trans (Sep.Fr.of_below (S := fun k => k = q) b) (fun k hk => .inl hk), Bk.new _ _ _ _ rfl⟩)
          clear kS hX0 hQ hG hF bw
          generalize hn3 : R.sides.length = n3 at *
          have HN3 := Lib.hid hn3
          clear hn3
          go_wp2
          clear k0 k1 k2 k3 hg
          generalize hqr : wr.heap.size = qr at *
          clear hqr
          go_loopg [49] n3 (fun g i w2 => GLoop2 st q a1 a2 c1 c2 sI X0 R (.slice a3 n3 c3) qr WX g i w2)
          case atStart => exact ⟨0, by rw [HN3.out]; omega, rfl, by simpa using HI.out⟩
          case round =>
            clear HI
            obtain ⟨k, hk, rfl, v, hQ, hG, hvq, hF, hR⟩ := hrel
            rw [HN3.out] at hk
            by_cases hlk : k < n3
            · have hk2 : k < R.sides.length := by rw [HN3.out]; exact hlk
              have bw := BW.out _ hF
              obtain ⟨g2, c4, u, hv, m0, m1, m2, m3, mT⟩ := (KS.out.at (w' := wr) fun g _ hg hl => bw.block g hl).get k hk2
              simp only [Value.slice.injEq] at hv
              have ha := hv.1
              clear hv
              subst ha
              obtain ⟨o1, o2, o3⟩ := OR.out.2.2 _ (List.getElem_mem hk2)
              have TK2 := Lib.hid (List.take_succ_eq_append_getElem hk2)
              generalize R.sides[k] = s at m0 m1 m2 m3 mT o1 o2 o3 TK2
              obtain ⟨a5, c5, rfl⟩ := row_shape (mT wr fun _ _ _ _ => rfl)
              obtain ⟨L, hX, hO, hT, hA⟩ := hG
              obtain ⟨av, cv, rfl⟩ := row_shape hO
              have hLl : L.length ≤ 100010000 := by
                have := congrArg List.length hX
                rw [List.length_map, List.length_append, List.length_map, List.length_take] at this
                have := X0L.out
                omega
              obtain ⟨y0, y1, y2, y3, yf⟩ := hQ.four
              obtain ⟨z0, z1, z2, z3, zf⟩ := hR.four
              have hg2 : g2 < wr.heap.size := World.block_lt_of_cell? wr ⟨g2, k * 4, none⟩ m0
              have hqs : q < wr.heap.size := hQ.lt
              have hrs : qr < wr.heap.size := hR.lt
              have hqrq : qr ≠ q := by
                intro e
                have h1 : wr.cell? ⟨q, 0, none⟩ = some (.int .i64 R.left.k) := e ▸ z0
                rw [y0] at h1
                cases h1
              have bx := Gr.boxed wr (.cells #[.int .i64 s.first.k, .string s.first.s, .int .i64 (s.first.at_ : Int), .slice a5 s.syms.length c5] 122)
              have N := Lib.hid (Bk.new wr #[.int .i64 s.first.k, .string s.first.s, .int .i64 (s.first.at_ : Int), .slice a5 s.syms.length c5] 122 _ rfl)
              have QW := Lib.hid (hQ.went bx)
              have RW := Lib.hid (hR.went bx)
              have OW := Lib.hid (Sep.ownsRow_at hO fun g hg => bx.block g (hO.lt g hg).2)
              have TW := Lib.hid (fun x hx => (hT x hx).went bx)
              have AW := Lib.hid hA
              have FW := Lib.hid (fr_then hF bx)
              have BM := Lib.hid (Gr.step bw bx)
              have TS := Lib.hid (mT _ fun g h1 h2 h3 => bx.block g h3)
              have HXL := Lib.hid hX
              have HVQ := Lib.hid hvq
              clear hX hO hT hA hvq hF hR hQ mT bw bx
              go_wp2
              · clear y0 y1 y2 y3 yf z0 z1 z2 z3 zf m0 m1 m2 m3
                generalize hW : wr.alloc (.cells #[.int .i64 s.first.k, .string s.first.s, .int .i64 (s.first.at_ : Int), .slice a5 s.syms.length c5] 122) = W at *
                clear hW
                have hWXs : WX.heap.size ≤ W.heap.size := FW.out.size
                have hqW : q < W.heap.size := QW.out.lt
                have hrW : qr < W.heap.size := RW.out.lt
                have hsW : wr.heap.size < W.heap.size := N.out.lt
                obtain ⟨y0, y1, y2, y3, yf⟩ := QW.out.four
                obtain ⟨z0, z1, z2, z3, zf⟩ := RW.out.four
                obtain ⟨x0, x1, x2, x3, xf⟩ := N.out.four
                have NC := Lib.hid (fun w1 (hb : Below W.heap.size W w1) => number_any w1 (H.out.went (Gr.step BM.out hb)) R.left.s (by have := OR.out.1; unfold maxLen; omega))
                have NS := Lib.hid (fun w1 (hb : Below W.heap.size W w1) => numbers_any (base := lo) w1 (H.out.went (Gr.step BM.out hb)) s (.slice a5 s.syms.length c5) (TS.out.went hb) o1 o3)
                have HRI := Lib.hid (show rowI st R s = (numI st R.left.s, s.syms.map fun t => numI st t.s) from rfl)
                generalize numI st R.left.s = x at NC HRI
                generalize (s.syms.map fun t => numI st t.s) = X at NS HRI
                generalize s.syms.length = n5 at *
                have hbd := Gr.drawn W
                go_region_law (first
                  | (refine step_append_rows _ (by rfl) _ _ 23 (by rfl) WX.heap.size 40 i0 (.agg #[.int .i64 0, .slice none 0 0]) 2 32 Tryz.underlying23 hii hz0 hz1 hz2 rfl (by decide) (.slice av L.length cv) L.length (L.flatMap gc) (by rfl) (Sep.ownsRow_at OW.out fun g hg => (Gr.step kB (Gr.boxed _ _)).block g (OW.out.lt g hg).2) _ (.slice (some ⟨w3.heap.size, 0, none⟩) 1 1) 1 (gc ((x, X), .slice a6 X.length c6)) (by rfl) (rule2_one WX.heap.size w3.heap.size ((x, X), .slice a6 X.length c6) w3 rfl (by omega)) (by simp [gc, Value.oneCell']) (by unfold maxLen; omega) (by omega) (by simp; omega) ?_; intro v4 w4 hown4 hg4 hloc4; obtain ⟨a4, c4', rfl⟩ := row_shape hown4; have b4 := Gr.boxed w3 (.cells #[.int .i64 x, .slice a6 X.length c6] 40); have r4 : ∀ k, (Value.slice av L.length cv).ownBlock = some k → WX.heap.size ≤ k := fun k hk => (OW.out.lt k hk).1; have G4 := Lib.hid (GRules.snoc (d := (x, X)) OW.out TW.out AW.out kB I3.out (by omega) hown4 hg4 hloc4); have Q4 := Lib.hid (((QW.out.went kB).went b4).grown hg4 (fun k hk => by have := r4 k hk; omega)); have R4 := Lib.hid (((RW.out.went kB).went b4).grown hg4 (fun k hk e => HVQ.out (e ▸ hk))); have F4 := Lib.hid ((fr_then (fr_then FW.out kB) b4).grown hg4 (fun k hk => .inr (r4 k hk))); have V4 := Lib.hid (own_ne HVQ.out hloc4 (by simp; omega)); obtain ⟨y0, y1, y2, y3, yf⟩ := Q4.out.four; have hq4 : q < w4.heap.size := Q4.out.lt; clear hown4 hg4 hloc4 b4 r4)
                  | (go_simp; go_at_call 90; (with_reducible refine (NC.out _ (by assumption)).mono ?_); rintro e w3 ⟨rfl, hb⟩; have kB : Below W.heap.size W w3 := Gr.step (by assumption) hb; (try (have I3 := Lib.hid (I3.out.went hb))); obtain ⟨y0, y1, y2, y3, yf⟩ := (QW.out.went kB).four; obtain ⟨z0, z1, z2, z3, zf⟩ := (RW.out.went kB).four; obtain ⟨x0, x1, x2, x3, xf⟩ := (N.out.went kB).four; have hs3 : W.heap.size ≤ w3.heap.size := kB.size; have hq3 : q < w3.heap.size := (QW.out.went kB).lt; have hr3 : qr < w3.heap.size := (RW.out.went kB).lt; have hx3 : wr.heap.size < w3.heap.size := (N.out.went kB).lt; clear hb)
                  | (go_simp; go_at_call 91; (with_reducible refine (NS.out _ (by assumption)).mono ?_); rintro e w3 ⟨v3, rfl, hI, hb⟩; obtain ⟨a6, c6, rfl⟩ := row_shape hI; have kB : Below W.heap.size W w3 := Gr.step (by assumption) hb; have I3 := Lib.hid (show IntsV W.heap.size X (.slice a6 X.length c6) w3 from hI.mono (Below.size (by assumption))); obtain ⟨y0, y1, y2, y3, yf⟩ := (QW.out.went kB).four; obtain ⟨z0, z1, z2, z3, zf⟩ := (RW.out.went kB).four; obtain ⟨x0, x1, x2, x3, xf⟩ := (N.out.went kB).four; have hs3 : W.heap.size ≤ w3.heap.size := kB.size; have hq3 : q < w3.heap.size := (QW.out.went kB).lt; have hr3 : qr < w3.heap.size := (RW.out.went kB).lt; have hx3 : wr.heap.size < w3.heap.size := (N.out.went kB).lt; clear hb hI))
                all_goals
                  go_wp2
                  go_roundg (n3 - (k + 1))
                  case rel =>
                    have e : X0 ++ (R.sides.take (k + 1)).map (rowI st R) = L.map Prod.fst ++ [(x, X)] := by
                      rw [TK2.out, List.map_append, List.map_singleton, HRI.out, ← List.append_assoc, HXL.out]
                    refine ⟨k + 1, by rw [HN3.out]; omega, by go_num, ?_⟩
                    rw [e]
                    exact ⟨.slice a4 (L.length + 1) c4', Q4.out.set (j := 2) (by simp) _, G4.out.set _ _ hqx, V4.out, F4.out.setCell ⟨q, 2, none⟩ rfl _, R4.out.fr (Sep.Fr.setCell (S := fun k => k = q) (.refl _ _) ⟨q, 2, none⟩ rfl _) hqrq⟩
                  case measure => omega
            · have hfull : R.sides.take k = R.sides := List.take_of_length_le (by rw [HN3.out]; omega)
              rw [hfull] at hG
              have A2 := Lib.hid (show GAns st q a1 a2 c1 c2 sI (X0 ++ R.sides.map (rowI st R)) WX wr from ⟨v, hQ, hG, hF⟩)
              clear hfull hG hQ hF hR hvq
              go_wp2
              go_roundg (nn - (j + 1))
              case rel =>
                refine ⟨j + 1, by rw [HNN.out]; omega, by go_num, ?_⟩
                rw [TK.out, List.flatMap_append, HX0.out, List.flatMap_singleton]
                exact A2.out
              case measure => omega
        · have hfull : src.rules.take j = src.rules := List.take_of_length_le (by rw [HNN.out]; omega)
          rw [hfull] at hA
          obtain ⟨v, hQ, hG, hF⟩ := hA
          have hXF := gram_rows st src (by rw [HNN.out]; exact hlen) OK.out
          generalize hXe : src.rules.flatMap (rowsI st) = XF at *
          have HXF := Lib.hid hXF
          have HXE := Lib.hid hXe
          clear hXF hXe
          obtain ⟨av, cv, rfl, hcv⟩ := hG.len
          have b2 := N2.out.fr hF (by omega)
          obtain ⟨z0, z1, z2, z3, zf⟩ := b2.four
          obtain ⟨y0, y1, y2, y3, yf⟩ := hQ.four
          have hN2 := b2.lt
          have hqr := hQ.lt
          have ZB := Lib.hid b2
          have F := Lib.hid hF
          have G := Lib.hid hG
          clear hQ hG hF b2 hfull
          go_wp2
          have hF4 := fr_set4 wr (w.heap.size + 1) (.slice a1 st.L1.length c1) (.slice a2 st.L2.length c2) (.slice av XF.length cv) (.int .i64 sI)
          have eg : gramM st src = ⟨st.L1, st.L2, XF, sI⟩ := by
            unfold gramM
            rw [HXE.out]
            have := HSI.out
            unfold startI at this
            rw [this]
          rw [eg]
          refine bodyPost_ret (v := Gr.gv ⟨a1, c1, a2, c2, av, cv⟩ ⟨st.L1, st.L2, XF, sI⟩) (by simp [results, Tryz.results55, go_sem, zf, z0, z1, z2, z3, hN2]) rfl ?_
          have T1 := reads_off (RA.out _ F.out) (by simp) (by simp) (by simp) ZB.out hF4
          have T2 := reads_off (RB.out _ F.out) (by simp) (by simp) (by simp) ZB.out hF4
          have TG := G.out.fr hF4 (fun k hk => by omega)
          have t1 : st.L1.length ≤ 8796093022208 := by omega
          have t2 : st.L2.length ≤ 8796093022208 := by omega
          have t3 : XF.length ≤ 4398046511104 := by have := HXF.out.1; omega
          have KG : Gr.GOk ⟨st.L1, st.L2, XF, sI⟩ := gok H.out (by have := SI.out; unfold Gr.Fits; omega) (fun r hr => by
            rw [← HXE.out] at hr
            obtain ⟨R, _, hr⟩ := List.mem_flatMap.1 hr
            obtain ⟨s, _, rfl⟩ := List.mem_map.1 hr
            exact ⟨_, _, rfl⟩)
          have hwx : w.heap.size < WX.heap.size := by omega
          exact ⟨⟨a1, c1, a2, c2, av, cv⟩, rfl, ⟨T1, T2, GRules.at TG HXF.out.2.1, HC1.out, t1, t2, hcv, t3, KG⟩, below_set4 (BW.out _ F.out) (by omega) _ _ _ _, fun Z w'' hz hf =>
            ⟨reads_keep T1 (fun q h => (hz q h).2) hf, reads_keep T2 (fun q h => (hz q h).2) hf, GRules.at (TG.fr hf (fun k hk => by have := (hz k hk).1; omega)) HXF.out.2.1, HC1.out, t1, t2, hcv, t3, KG⟩⟩

end Go.Proofs.YtimfiaphhomelaaGreat.Rd
