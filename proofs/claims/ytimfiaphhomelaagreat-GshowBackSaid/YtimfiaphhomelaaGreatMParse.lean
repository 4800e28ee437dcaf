/-
  gread.Parse: what it answers, by the plain parser and maker. Conditions: the text is of at most 2^47 bytes; MaxLen's variable holds what the program's text lays there.
  The maker: made for a source; all declarations and rules; the grammar. Condition: the source's parts are of at most 10000 each.
  Parse's deferred closure: called while Parse returns, and while a refusal leaves it. No condition but that the error's number is not 0.
  What the plain parser makes of small tokens is small. No program in it.
-/
import Derived.Test.YtimfiaphhomelaaGreatGreadGram
import Derived.Test.YtimfiaphhomelaaGreatGreadMRule
import Derived.Defers
import Derived.Recover
import Derived.Test.YtimfiaphhomelaaGreatMPlain
namespace Go.Proofs.YtimfiaphhomelaaGreat.Rd
open Go.RowKit Go.Maps
open Go.Proofs.YtimfiaphhomelaaGreat.Tk (Tok tcs cells cells_length cells_snoc Just info_tok cells_three_new)
set_option linter.unusedVariables false
set_option linter.unusedSimpArgs false

/-- What a declaration must not outgrow; a %start has a name. -/
def DeclOk (d : Decl) : Prop := d.names.length ≤ 10000 ∧ (∀ t ∈ d.names, t.s.size ≤ maxLen) ∧ (d.mark.k = 8 → d.names ≠ [])
structure SrcOk (src : Src) : Prop where
  nd : src.decls.length ≤ 10000
  nr : src.rules.length ≤ 10000
  decls : ∀ d ∈ src.decls, DeclOk d
  rules : ∀ R ∈ src.rules, RulOk R

theorem Mo.bind_ok {α β : Type} {x : Mo α} {f : α → Mo β} {b : β} (h : x.bind f = .ok b) : ∃ a, x = .ok a ∧ f a = .ok b := by
  cases x with
  | ok a => exact ⟨a, rfl, h⟩
  | no e q => cases h

theorem declM_start {lf : List ByteArray} {st st' : MSt} {d : Decl} (h : declM lf st d = .ok st') (hs : st.start.size ≤ maxLen) (hd : DeclOk d) : st'.start.size ≤ maxLen := by
  obtain ⟨_, h1, h2⟩ := hd
  unfold declM at h
  split at h
  · rename_i hk
    split at h
    · cases h
    · split at h
      · cases h
      · injection h with h
        subst h
        have hne := h2 hk
        cases hq : d.names with
        | nil => exact absurd hq hne
        | cons t r => exact h1 t (by rw [hq]; exact List.mem_cons_self ..)
  · obtain ⟨L, _, h⟩ := Mo.bind_ok h
    injection h with h
    subst h
    exact hs

theorem sideM_start {lf : List ByteArray} {left : Tok} {st st' : MSt} {s : Side} (h : sideM lf left st s = .ok st') : st'.start = st.start := by
  unfold sideM at h
  split at h
  · cases h
  · split at h
    · cases h
    · split at h
      · cases h
      · obtain ⟨L, _, h⟩ := Mo.bind_ok h
        injection h with h
        subst h
        rfl

theorem sidesM_start {lf : List ByteArray} {left : Tok} {S : List Side} : ∀ {st st' : MSt}, sidesM lf left st S = .ok st' → st'.start = st.start := by
  induction S with
  | nil => intro st st' h; injection h with h; rw [h]
  | cons s r ih =>
    intro st st' h
    obtain ⟨st1, h1, h2⟩ := Mo.bind_ok (show (sideM lf left st s).bind (fun st' => sidesM lf left st' r) = _ from h)
    exact (ih h2).trans (sideM_start h1)

theorem ruleM_start {lf : List ByteArray} {st st' : MSt} {R : Rul} (h : ruleM lf st R = .ok st') : st'.start = st.start := by
  unfold ruleM at h
  split at h
  · cases h
  · obtain ⟨L, _, h⟩ := Mo.bind_ok h
    have := sidesM_start h
    exact this

theorem declsM_cons (lf : List ByteArray) (st : MSt) (d : Decl) (r : List Decl) : declsM lf st (d :: r) = (declM lf st d).bind fun st' => declsM lf st' r := rfl
theorem rulesM_cons (lf : List ByteArray) (st : MSt) (R : Rul) (r : List Rul) : rulesM lf st (R :: r) = (ruleM lf st R).bind fun st' => rulesM lf st' r := rfl

/-- What the maker answers of a source. -/
def MkGave (x : Mo Gr.Gram) (w : World) (e : Ending) (w' : World) : Prop := match x with
  | .ok G => ∃ sh, e = .returned (Gr.gv sh G) ∧ GKept w.heap.size sh G w' ∧ Below w.heap.size w w'
  | .no e1 q => e = .panicked (Ref e1 q) ∧ Below w.heap.size w w'

/-- The loop over declarations. -/
def DLoop (m : Nat) (T0 : Nat → Prop) (lf : List ByteArray) (src : Src) (x : Mo MSt) (W : World) (g : Nat) (i : Value) (wr : World) : Prop :=
  ∃ j st T, j + g = src.decls.length ∧ i = .int .i64 (j : Int) ∧ ((declsM lf st (src.decls.drop j)).bind fun st => rulesM lf st src.rules) = x ∧ MAt m T lf st wr ∧ Sep.Fr T0 W wr ∧ Sep.Ext T T0 W ∧ st.start.size ≤ maxLen

/-- The loop over rules. -/
def RLoop (m : Nat) (T0 : Nat → Prop) (lf : List ByteArray) (src : Src) (x : Mo MSt) (W : World) (g : Nat) (i : Value) (wr : World) : Prop :=
  ∃ j st T, j + g = src.rules.length ∧ i = .int .i64 (j : Int) ∧ rulesM lf st (src.rules.drop j) = x ∧ MAt m T lf st wr ∧ Sep.Fr T0 W wr ∧ Sep.Ext T T0 W ∧ st.start.size ≤ maxLen

/-- The maker, as it is made. -/
theorem made_at {lf : List ByteArray} {b1 n1 b2 p1 p2 m : Nat} {S1 S2 : Nat → Prop} {D1 : DataW Unit} {w1 w2 w3 w4 w5 : World} (hm1 : w1.ownsMap Tryz.prog 9 RU b1 n1 D1) (hk : KeysIn lf D1) (hb1 : b1 < w1.heap.size)
    (h2 : w2 = w1.alloc (.map #[] 0)) (hb2 : b2 = w1.heap.size)
    (h3 : Below w2.heap.size w2 w3) (hp1 : It.NmAt p1 S1 120 [] w3) (hs1 : ∀ k, S1 k → w2.heap.size ≤ k)
    (h4 : Below w3.heap.size w3 w4) (hp2 : It.NmAt p2 S2 120 [] w4) (hs2 : ∀ k, S2 k → w3.heap.size ≤ k)
    (hm : m = w4.heap.size) (h5 : w5 = w4.alloc (.cells #[.map (some b1), .map (some b2), .pointer (some ⟨p1, 0, none⟩), .pointer (some ⟨p2, 0, none⟩), .string ⟨#[]⟩] 88)) :
    MAt m (fun k => k = m ∨ k = b1 ∨ k = b2 ∨ S1 k ∨ S2 k) lf st0 w5 := by
  subst h2 hb2 hm h5
  have b34 := h4
  have bx := Gr.boxed w4 (.cells #[.map (some b1), .map (some w1.heap.size), .pointer (some ⟨p1, 0, none⟩), .pointer (some ⟨p2, 0, none⟩), .string ⟨#[]⟩] 88)
  have bk := Bk.new w4 #[.map (some b1), .map (some w1.heap.size), .pointer (some ⟨p1, 0, none⟩), .pointer (some ⟨p2, 0, none⟩), .string ⟨#[]⟩] 88 _ rfl
  have z2 : (w1.alloc (.map #[] 0)).heap.size = w1.heap.size + 1 := by simp
  have z3 := h3.size
  have z4 := h4.size
  have z5 := bx.size
  have e1 := Gr.step (Gr.step (Gr.boxed w1 (.map #[] 0)) h3) (Gr.step h4 bx)
  have e2 := Gr.step h3 (Gr.step h4 bx)
  have i1 : ∀ k, S1 k → k < w3.heap.size := hp1.inn
  have i2 : ∀ k, S2 k → k < w4.heap.size := hp2.inn
  have hs5 : w4.heap.size < (w4.alloc (.cells #[.map (some b1), .map (some w1.heap.size), .pointer (some ⟨p1, 0, none⟩), .pointer (some ⟨p2, 0, none⟩), .string ⟨#[]⟩] 88)).heap.size := bk.lt
  refine ⟨b1, n1, w1.heap.size, p1, p2, S1, S2, D1, .map [], ⟨bk.cell rfl, bk.cell rfl, bk.cell rfl, bk.cell rfl, bk.cell rfl, bk.free 4, Sep.ownsMap_at hm1 (e1.block _ hb1), Sep.ownsMap_at (World.ownsMap_made w1 Tryz.prog 9 RU) (e2.block _ (by omega)), hk, keys_none, rfl, by simp [st0],
    (hp1.went h4).went bx, hp2.went bx, .inl rfl, .inr (.inl rfl), .inr (.inr (.inl rfl)), (fun k hk => .inr (.inr (.inr (.inl hk)))), (fun k hk => .inr (.inr (.inr (.inr hk)))), ?_, ⟨by omega, by omega, by omega⟩, ⟨?_, ?_⟩, ⟨?_, ?_⟩, ⟨?_, ?_⟩, ?_⟩⟩
  · rintro k (h | h | h | h | h)
    · omega
    · omega
    · omega
    · have := i1 k h; omega
    · have := i2 k h; omega
  · intro h; have := i1 _ h; omega
  · intro h; have := i2 _ h; omega
  · intro h; have := hs1 _ h; omega
  · intro h; have := hs2 _ h; omega
  · intro h; have := hs1 _ h; omega
  · intro h; have := hs2 _ h; omega
  · intro k h1 h2; have := i1 _ h1; have := hs2 _ h2; omega

theorem made_low {b1 : Nat} {S1 S2 : Nat → Prop} {w0 w1 w3 w4 : World} (hb1 : w0.heap.size ≤ b1) (h1 : Below w0.heap.size w0 w1) (h3 : Below (w1.alloc (.map #[] 0)).heap.size (w1.alloc (.map #[] 0)) w3) (hs1 : ∀ k, S1 k → (w1.alloc (.map #[] 0)).heap.size ≤ k) (h4 : Below w3.heap.size w3 w4) (hs2 : ∀ k, S2 k → w3.heap.size ≤ k) :
    ∀ k, (k = w4.heap.size ∨ k = b1 ∨ k = w1.heap.size ∨ S1 k ∨ S2 k) → w0.heap.size ≤ k := by
  have z1 := h1.size
  have z2 : (w1.alloc (.map #[] 0)).heap.size = w1.heap.size + 1 := by simp
  have z3 := h3.size
  have z4 := h4.size
  rintro k (h | h | h | h | h)
  · omega
  · omega
  · omega
  · have := hs1 k h; omega
  · have := hs2 k h; omega

theorem makeM_no {src : Src} {e : Int} {q : Nat} (h : runM src = .no e q) : makeM src = .no e q := by
  unfold makeM
  rw [h]
  rfl
theorem makeM_ok {src : Src} {st : MSt} (h : runM src = .ok st) : makeM src = .ok (gramM st src) := by
  unfold makeM
  rw [h]
  rfl

set_option maxRecDepth 100000 in
set_option maxHeartbeats 8000000 in
theorem make_any {base : Nat} (w : World) (src : Src) (dv rv : Value) (hdv : DeclsV base src.decls dv w) (hrv : RulesV base src.rules rv w) (hok : SrcOk src) :
    Calls Tryz.prog 28 #[srcV dv rv] w (MkGave (makeM src) w) := by
  obtain ⟨a0, c0, rfl⟩ := hdv.len
  obtain ⟨a, c, rfl⟩ := hrv.len
  have hmm := @run_makeMap Tryz.prog
  have B0 := Lib.hid (Gr.step (Gr.boxed w (.cells #[.slice a0 src.decls.length c0, .slice a src.rules.length c] 58)) (Gr.boxed _ (.cells #[.slice none 0 0, .slice none 0 0, .slice none 0 0, .int .i64 0] 25)))
  have BN := Lib.hid ((Bk.new w #[.slice a0 src.decls.length c0, .slice a src.rules.length c] 58 _ rfl).went (Gr.boxed _ (.cells #[.slice none 0 0, .slice none 0 0, .slice none 0 0, .int .i64 0] 25)))
  have BR := Lib.hid (Bk.new (w.alloc (.cells #[.slice a0 src.decls.length c0, .slice a src.rules.length c] 58)) #[.slice none 0 0, .slice none 0 0, .slice none 0 0, .int .i64 0] 25 (w.heap.size + 1) (by simp))
  have LE := Lib.hid (fun w1 (hb : Below w.heap.size w w1) => lefts_any w1 src (.slice a0 src.decls.length c0) (.slice a src.rules.length c) ⟨_, _, _, rfl⟩ (hrv.went hb) hok.nr (fun R hR => by have := (hok.rules R hR).1; unfold maxLen; omega))
  have NW := Lib.hid (fun w1 => It.new_any 120 w1)
  have NW1 := Lib.hid (fun w1 : World => It.new_any 120 (w1.alloc (.map #[] 0)))
  have GM := Lib.hid (fun (m : Nat) (T : Nat → Prop) (st : MSt) w1 (hb : Below w.heap.size w w1) (h : MAt m T (leftsM src) st w1) (hs : st.start.size ≤ maxLen) => gram_any (base := base) w1 h src (.slice a0 src.decls.length c0) (.slice a src.rules.length c) ⟨_, _, _, rfl⟩ (hrv.went hb) hok.nr hok.rules hs)
  have hnd := hok.nd
  have hnr := hok.nr
  have DO := Lib.hid hok.decls
  have RO := Lib.hid hok.rules
  have DV := Lib.hid hdv
  have RV := Lib.hid hrv
  obtain ⟨x, hx⟩ : ∃ x, runM src = x := ⟨_, rfl⟩
  have HX := Lib.hid hx
  clear hx hdv hrv hok
  generalize hlf : leftsM src = lf at *
  have HLF := Lib.hid hlf
  generalize hdn : src.decls.length = dn at *
  have HDN := Lib.hid hdn
  generalize hrn : src.rules.length = rn at *
  have HRN := Lib.hid hrn
  clear hlf hdn hrn
  have hcap : It.cap 120 = 120 := by decide
  rw [hcap] at NW NW1
  obtain ⟨y, hy⟩ : ∃ y, makeM src = y := ⟨_, rfl⟩
  rw [hy]
  have Y1 := Lib.hid (fun e q (h : x = .no e q) => show y = .no e q from hy ▸ makeM_no (HX.out.trans h))
  have Y2 := Lib.hid (fun st (h : x = .ok st) => show y = .ok (gramM st src) from hy ▸ makeM_ok (HX.out.trans h))
  clear hy
  go_enter Tryz.func28, Tryz.ntmps28
  go_wp2_with (first
    | (go_at_call 51; refine (LE.out _ B0.out).mono ?_; rintro e w1 ⟨b1, n1, D1, rfl, hb1, hM1, hK1, hbl⟩; have HB1 := Lib.hid hb1; clear hb1; have M1 := Lib.hid hM1; have K1 := Lib.hid hK1; have L1 := Lib.hid hbl; clear hM1 hK1 hbl)
    | (go_at_call 52; ((with_reducible refine (NW1.out _).mono ?_)); rintro e w3 ⟨p1, S1, rfl, hq1, hS1, hN1, hbl⟩; have M2 := Lib.hid (And.intro hS1 (And.intro hN1 hbl)); clear hq1 hS1 hN1 hbl)
    | (go_at_call 52; refine (NW.out _).mono ?_; rintro e w4 ⟨p2, S2, rfl, hq2, hS2, hN2, hbl⟩; have M3 := Lib.hid (And.intro hS2 (And.intro hN2 hbl)); have k4 := Gr.step L1.out (Gr.step (Gr.boxed w1 (.map #[] 0)) (Gr.step M2.out.2.2 hbl)); have K4 := Lib.hid k4; obtain ⟨f0, f1, ff⟩ := (BN.out.went k4).two; have hN4 : w.heap.size < w4.heap.size := (BN.out.went k4).lt; clear hq2 hS2 hN2 hbl k4))
  obtain ⟨T0, hMA, hTB⟩ : ∃ T0 : Nat → Prop, MAt w4.heap.size T0 lf st0 (w4.alloc (.cells #[.map (some b1), .map (some w1.heap.size), .pointer (some ⟨p1, 0, none⟩), .pointer (some ⟨p2, 0, none⟩), .string ⟨#[]⟩] 88)) ∧ ∀ k, T0 k → w.heap.size + 2 ≤ k :=
    ⟨_, made_at M1.out K1.out M1.out.lt rfl rfl M2.out.2.2 M2.out.2.1 M2.out.1 M3.out.2.2 M3.out.2.1 M3.out.1 rfl rfl, fun k hk => by have := made_low HB1.out L1.out M2.out.2.2 M2.out.1 M3.out.2.2 M3.out.1 k hk; simpa using this⟩
  have b5 := Gr.boxed w4 (.cells #[.map (some b1), .map (some w1.heap.size), .pointer (some ⟨p1, 0, none⟩), .pointer (some ⟨p2, 0, none⟩), .string ⟨#[]⟩] 88)
  have BW5 := Lib.hid (Gr.step B0.out (Gr.step K4.out b5))
  have N5 := Lib.hid ((BN.out.went K4.out).went b5)
  have R5 := Lib.hid ((BR.out.went K4.out).went b5)
  have MA := Lib.hid hMA
  have TB := Lib.hid hTB
  clear hMA hTB b5 M1 K1 M2 M3 L1 K4 BN BR B0 LE NW NW1 f0 f1 ff HB1 hmm hcap
  generalize (w4.alloc (.cells #[.map (some b1), .map (some w1.heap.size), .pointer (some ⟨p1, 0, none⟩), .pointer (some ⟨p2, 0, none⟩), .string ⟨#[]⟩] 88)) = W5 at *
  generalize w4.heap.size = m at *
  have FW := Lib.hid (fun w' (hF : Sep.Fr T0 W5 w') => BW5.out.trans (hF.below (m := w.heap.size) (fun k hk => by have := TB.out k hk; omega) BW5.out.size))
  have TT := Lib.hid (fun (T : Nat → Prop) (hE : Sep.Ext T T0 W5) k (hk : T k) => show w.heap.size ≤ k from by
    rcases hE k hk with h | h
    · have := TB.out k h; omega
    · have := BW5.out.size; omega)
  have NT := Lib.hid (show ¬ T0 w.heap.size from fun h => by have := TB.out _ h; omega)
  have RT := Lib.hid (show ¬ T0 (w.heap.size + 1) from fun h => by have := TB.out _ h; omega)
  go_loopg [17] dn (fun g i wr => DLoop m T0 lf src x W5 g i wr)
  case atStart =>
    refine ⟨0, st0, T0, by rw [HDN.out]; omega, rfl, ?_, MA.out, .refl _ _, .refl _ _, Nat.zero_le _⟩
    have := HX.out
    unfold runM at this
    rw [HLF.out] at this
    exact this
  case round =>
    clear HX MA
    obtain ⟨j, st, T, hj, rfl, hX, hA, hF, hE, hS⟩ := hrel
    rw [HDN.out] at hj
    have F := Lib.hid hF
    have E := Lib.hid hE
    have A := Lib.hid hA
    have X := Lib.hid hX
    have bw := FW.out _ hF
    have tt := TT.out _ hE
    clear hA hF hE hX
    by_cases hlt : j < dn
    · have hj2 : j < src.decls.length := by rw [HDN.out]; exact hlt
      obtain ⟨g, c', u, hv, k0, k1, k2, k3, kT⟩ := DV.out.get j hj2
      obtain ⟨a3, c3, rfl⟩ := row_shape kT
      simp only [Value.slice.injEq] at hv
      have ha := hv.1
      clear hv
      subst ha
      replace k0 := Gr.cell_later bw k0
      replace k1 := Gr.cell_later bw k1
      replace k2 := Gr.cell_later bw k2
      replace k3 := Gr.cell_later bw k3
      have hdo := DO.out _ (List.getElem_mem hj2)
      have hXX := X.out
      rw [List.drop_eq_getElem_cons hj2, declsM_cons] at hXX
      generalize src.decls[j] = d at k0 k1 k2 k3 kT hdo hXX
      have b1' := Gr.boxed wr (.cells #[.int .i64 d.mark.k, .string d.mark.s, .int .i64 (d.mark.at_ : Int), .slice a3 d.names.length c3] 90)
      have B1 := Lib.hid b1'
      have DC := Lib.hid (mdecl_any (base := base) _ (A.out.went b1') d (.slice a3 d.names.length c3) (fun w' hF' => Toks.went kT ((Gr.step bw b1').trans (hF'.below tt (Gr.step bw b1').size))) hdo.2.2 hdo.1 hdo.2.1)
      have hg : g < wr.heap.size := World.block_lt_of_cell? wr ⟨g, j * 4, none⟩ k0
      have N := Lib.hid (Bk.new wr #[.int .i64 d.mark.k, .string d.mark.s, .int .i64 (d.mark.at_ : Int), .slice a3 d.names.length c3] 90 _ rfl)
      have HST := Lib.hid (fun st' (h : declM lf st d = .ok st') => declM_start h hS hdo)
      clear b1' X kT hdo bw tt
      generalize d.names.length = n3 at *
      cases hp : declM lf st d with
      | ok st2 =>
        have hs2 := HST.out _ hp
        rw [hp] at DC hXX
        have X2 := Lib.hid (show ((declsM lf st2 (src.decls.drop (j + 1))).bind fun st => rulesM lf st src.rules) = x from hXX)
        clear hp hXX
        go_wp2_with (go_at_call 53; refine DC.out.mono ?_; rintro e w5 ⟨rfl, T2, g1, g2, g3⟩; have G1 := Lib.hid g1; have G2 := Lib.hid g2; have G3 := Lib.hid g3; clear g1 g2 g3)
        go_roundg (dn - (j + 1))
        case rel => exact ⟨j + 1, st2, T2, by rw [HDN.out]; omega, by go_num, X2.out, G1.out, (fr_then F.out B1.out).trans G2.out E.out, E.out.trans (G3.out.at B1.out.size) F.out.size, hs2⟩
        case measure => omega
      | no e1 q =>
        rw [hp] at DC hXX
        have X2 := Y1.out e1 q (show x = Mo.no e1 q from hXX.symm)
        clear hp hXX
        subst X2
        go_wp2_with (go_at_call 53; refine DC.out.mono ?_; rintro e w5 ⟨rfl, g2⟩; have G2 := Lib.hid g2; clear g2)
        exact ⟨rfl, rfl, FW.out _ ((fr_then F.out B1.out).trans G2.out E.out)⟩
    · have hend : src.decls.drop j = [] := List.drop_eq_nil_of_le (by rw [HDN.out]; omega)
      have X2 := Lib.hid (show rulesM lf st src.rules = x by rw [← X.out, hend]; rfl)
      clear X hend bw tt
      obtain ⟨z0, z1, zf⟩ := (N5.out.fr F.out NT.out).two
      have hzl := (N5.out.fr F.out NT.out).lt
      go_wp2
      go_loopg [27] rn (fun g i wr => RLoop m T0 lf src x W5 g i wr)
      case atStart => exact ⟨0, st, T, by rw [HRN.out]; omega, rfl, X2.out, A.out, F.out, E.out, hS⟩
      case round =>
        clear X2 A F E hS z0 z1 zf hzl
        obtain ⟨j, st, T, hj, rfl, hX, hA, hF, hE, hS⟩ := hrel
        rw [HRN.out] at hj
        have F := Lib.hid hF
        have E := Lib.hid hE
        have A := Lib.hid hA
        have X := Lib.hid hX
        have bw := FW.out _ hF
        have tt := TT.out _ hE
        clear hA hF hE hX
        by_cases hlt : j < rn
        · have hj2 : j < src.rules.length := by rw [HRN.out]; exact hlt
          obtain ⟨g, c', u, lo, hi, hv, k0, k1, k2, k3, kl, kh, kS⟩ := RV.out.get j hj2
          obtain ⟨a3, c3, rfl⟩ := kS.sides.len
          simp only [Value.slice.injEq] at hv
          have ha := hv.1
          clear hv
          subst ha
          replace k0 := Gr.cell_later bw k0
          replace k1 := Gr.cell_later bw k1
          replace k2 := Gr.cell_later bw k2
          replace k3 := Gr.cell_later bw k3
          have hro := RO.out _ (List.getElem_mem hj2)
          have hXX := X.out
          rw [List.drop_eq_getElem_cons hj2, rulesM_cons] at hXX
          generalize src.rules[j] = R at k0 k1 k2 k3 kS hro hXX
          have b1' := Gr.boxed wr (.cells #[.int .i64 R.left.k, .string R.left.s, .int .i64 (R.left.at_ : Int), .slice a3 R.sides.length c3] 94)
          have B1 := Lib.hid b1'
          have bw1 := Gr.step bw b1'
          have RC := Lib.hid (mrule_any _ (A.out.went b1') R (.slice a3 R.sides.length c3) (kS.at fun g _ _ hl => bw1.block g hl) (fun k hk => by have := tt k hk; omega) (by have := bw1.size; omega) hro)
          have hg : g < wr.heap.size := World.block_lt_of_cell? wr ⟨g, j * 4, none⟩ k0
          have N := Lib.hid (Bk.new wr #[.int .i64 R.left.k, .string R.left.s, .int .i64 (R.left.at_ : Int), .slice a3 R.sides.length c3] 94 _ rfl)
          have HST := Lib.hid (fun st' (h : ruleM lf st R = .ok st') => show st'.start.size ≤ maxLen from by rw [ruleM_start h]; exact hS)
          clear b1' X kS hro bw tt bw1
          generalize R.sides.length = n3 at *
          cases hp : ruleM lf st R with
          | ok st2 =>
            have hs2 := HST.out _ hp
            rw [hp] at RC hXX
            have X2 := Lib.hid (show rulesM lf st2 (src.rules.drop (j + 1)) = x from hXX)
            clear hp hXX
            go_wp2_with (go_at_call 54; refine RC.out.mono ?_; rintro e w5 ⟨rfl, T2, g1, g2, g3⟩; have G1 := Lib.hid g1; have G2 := Lib.hid g2; have G3 := Lib.hid g3; clear g1 g2 g3)
            go_roundg (rn - (j + 1))
            case rel => exact ⟨j + 1, st2, T2, by rw [HRN.out]; omega, by go_num, X2.out, G1.out, (fr_then F.out B1.out).trans G2.out E.out, E.out.trans (G3.out.at B1.out.size) F.out.size, hs2⟩
            case measure => omega
          | no e1 q =>
            rw [hp] at RC hXX
            have X2 := Y1.out e1 q (show x = Mo.no e1 q from hXX.symm)
            clear hp hXX
            subst X2
            go_wp2_with (go_at_call 54; refine RC.out.mono ?_; rintro e w5 ⟨rfl, g2⟩; have G2 := Lib.hid g2; clear g2)
            exact ⟨rfl, rfl, FW.out _ ((fr_then F.out B1.out).trans G2.out E.out)⟩
        · have hend : src.rules.drop j = [] := List.drop_eq_nil_of_le (by rw [HRN.out]; omega)
          have X2 := Y2.out st (show x = .ok st by rw [← X.out, hend]; rfl)
          subst X2
          have GC := Lib.hid (GM.out m T st wr bw A.out hS)
          have n5 := N5.out.fr F.out NT.out
          have r5 := R5.out.fr F.out RT.out
          obtain ⟨z0, z1, zf⟩ := n5.two
          have hzl := r5.lt
          have RR := Lib.hid r5
          have BB := Lib.hid bw
          clear X hend bw tt n5 r5 GM
          generalize gramM st src = G at *
          go_wp2_with (go_at_call 55; refine GC.out.mono ?_; rintro e w5 ⟨⟨s1, s2, s3, s4, s5, s6⟩, rfl, hG, hb, hK⟩; have KG := Lib.hid hK; have r6 := RR.out.went hb; have R6 := Lib.hid r6; obtain ⟨y0, y1, y2, y3, yf⟩ := r6.four; have hyl := r6.lt; have BB2 := Lib.hid (Gr.step BB.out hb); have hs5 : wr.heap.size ≤ w5.heap.size := hb.size; clear hG hK hb r6)
          refine bodyPost_ret (v := Gr.gv ⟨s1, s2, s3, s4, s5, s6⟩ G) (by simp [results, Tryz.results28, go_sem, yf, y0, y1, y2, y3, hyl]) rfl ?_
          have hF4 := fr_set4 w5 (w.heap.size + 1) (.slice s1 G.terms.length s2) (.slice s3 G.nons.length s4) (.slice s5 G.rules.length s6) (.int .i64 G.start)
          refine ⟨⟨s1, s2, s3, s4, s5, s6⟩, rfl, fun Z w'' hz hf => KG.out (fun k => k = w.heap.size + 1 ∨ Z k) w'' (fun q hq => ?_) ?_, below_set4 BB2.out (by omega) _ _ _ _⟩
          · rcases hq with rfl | hq
            · exact ⟨hzl, bk_nostr R6.out (by simp) (by simp) (by simp)⟩
            · obtain ⟨h1, h2⟩ := hz q hq
              exact ⟨by omega, fun j s hc => h2 j s (hF4.cell hc (by simp; omega))⟩
          · exact (hF4.mono (T := fun k => k = w.heap.size + 1 ∨ Z k) fun k hk => .inl hk).trans (hf.mono (T := fun k => k = w.heap.size + 1 ∨ Z k) fun k hk => .inr hk) fun k hk => .inl hk

end Go.Proofs.YtimfiaphhomelaaGreat.Rd

namespace Go.Proofs.YtimfiaphhomelaaGreat.Rd
open Go.RowKit Go.Maps
set_option linter.unusedVariables false

set_option maxRecDepth 100000 in
theorem newf_any (e at_ : Int) (w : World) (hne : ¬ e = 0) : Calls Tryz.prog 27 #[.int .i64 e, .int .i64 at_] w fun x w' => x = .returned (.iface 82 (.agg #[.int .i64 e, .int .i64 at_])) ∧ w = w' := by
  go_enter Tryz.func27, Tryz.ntmps27
  go_wp2
  go_ret
  exact ⟨rfl, rfl⟩

set_option maxRecDepth 100000 in
theorem idle1 (p : Addr) (w : World) :
    CallsD Tryz.prog 26 #[.pointer (some p)] .returning w fun e u' w' => e = .returned (.tuple #[]) ∧ u' = .returning ∧ w' = w := by
  refine callsD_of_wpS Tryz.func26 rfl fun c₀ cs hu => ?_
  apply wpS_seq
  apply wpS_region
  simp [wpOpsS, go_sem, recoverD, hu, Tryz.ntmps26, Exit.thenS]
  refine wpS_of_wp ?_
  go_wp2
  cases c₀
  simp_all [bodyPostS, results, Tryz.results26]

set_option maxRecDepth 100000 in
set_option maxHeartbeats 2000000 in
theorem caught (p : Addr) (v0 : Value) (e : Int) (at_ : Nat) (w : World) (hc : w.cell? p = some v0) (hz : w.frozen? p = false) (hne : ¬ e = 0) :
    CallsD Tryz.prog 26 #[.pointer (some p)] (.panicking (Ref e at_)) w fun x u' w' =>
      x = .returned (.tuple #[]) ∧ u' = .panicking [{ v := .iface 50 (.agg #[.int .i64 e, .int .i64 (at_ : Int)]), recovered := true }] ∧ ∃ o, w' = (w.alloc o).setCell p (.iface 82 (.agg #[.int .i64 e, .int .i64 (at_ : Int)])) := by
  have hpl := World.block_lt_of_cell? w p hc
  refine callsD_of_wpS Tryz.func26 rfl fun c₀ cs hu => ?_
  apply wpS_seq
  apply wpS_region
  simp [wpOpsS, go_sem, recoverD, hu, Tryz.ntmps26, Exit.thenS]
  refine wpS_of_wp ?_
  have hz1 : (w.alloc (.cells #[.int .i64 e, .int .i64 (at_ : Int)] 50)).frozen? p = false := by rw [World.frozen?_of_block (Below.heap_alloc w _ p.block hpl)]; exact hz
  have hta : ∀ w : World, (Instr.typeAssert (.iface 50 (.agg #[.int .i64 e, .int .i64 (at_ : Int)])) 20 50 true).run Tryz.prog w = .ok (.tuple #[.agg #[.int .i64 e, .int .i64 (at_ : Int)], .bool true]) w := fun _ => by kernel_rfl
  go_wp2_with (go_at_call 27; refine (newf_any e _ _ hne).mono ?_; rintro x w1 ⟨rfl, rfl⟩)
  cases c₀
  simp_all [bodyPostS, results, Tryz.results26]
  exact ⟨_, rfl⟩
end Go.Proofs.YtimfiaphhomelaaGreat.Rd

namespace Go.Proofs.YtimfiaphhomelaaGreat.Rd
open Go.RowKit Go.Maps
open Go.Proofs.YtimfiaphhomelaaGreat.Tk (Tok)
set_option linter.unusedVariables false
set_option linter.unusedSimpArgs false

/-- All tokens are small. -/
def Small (l : List Tok) : Prop := ∀ t ∈ l, t.s.size ≤ 10000

theorem Pr.bind_ok {α β : Type} {x : Pr α} {f : α → List Tok → Pr β} {b : β} {r : List Tok} (h : x.bind f = .ok b r) : ∃ a r1, x = .ok a r1 ∧ f a r1 = .ok b r := by
  cases x with
  | ok a r1 => exact ⟨a, r1, rfl, h⟩
  | no e q => cases h
  | out => cases h

theorem takeP_small {ks : List Int} {l r : List Tok} {t : Tok} (h : takeP ks l = .ok t r) (hs : Small l) : t.s.size ≤ 10000 ∧ Small r ∧ l.length = r.length + 1 ∧ ks.contains t.k = true := by
  cases l with
  | nil => cases h
  | cons x l =>
    have h : (if ks.contains x.k then Pr.ok x l else Pr.no (if x.k = 0 then 4 else 3) x.at_) = Pr.ok t r := h
    split at h
    · rename_i hk
      injection h with h1 h2
      subst h1 h2
      exact ⟨hs x (List.mem_cons_self ..), fun y hy => hs y (List.mem_cons_of_mem _ hy), rfl, hk⟩
    · cases h

theorem syms_small {l : List Tok} (hs : Small l) : Small (symsL l) ∧ Small (restL l) ∧ (symsL l).length ≤ l.length ∧ (restL l).length ≤ l.length :=
  ⟨fun t h => hs t ((List.takeWhile_sublist _).subset h), fun t h => hs t ((List.dropWhile_sublist _).subset h), (List.takeWhile_sublist _).length_le, (List.dropWhile_sublist _).length_le⟩
theorem head_small {l : List Tok} (hs : Small l) : (headT l).s.size ≤ 10000 := by
  cases l with
  | nil => exact Nat.zero_le _
  | cons t r => exact hs t (List.mem_cons_self ..)

theorem declP_small {l r : List Tok} {d : Decl} (h : declP l = .ok d r) (hs : Small l) (hl : l.length ≤ 10000) : DeclOk d ∧ Small r ∧ r.length < l.length := by
  obtain ⟨m, r1, h1, h2⟩ := Pr.bind_ok (show (takeP [7, 8] l).bind _ = _ from h)
  obtain ⟨_, s1, e1, _⟩ := takeP_small h1 hs
  split at h2
  · obtain ⟨n, r2, h3, h4⟩ := Pr.bind_ok h2
    obtain ⟨k1, s2, e2, _⟩ := takeP_small h3 s1
    injection h4 with h5 h6
    subst h5 h6
    refine ⟨⟨by simp, fun t ht => ?_, fun _ => by simp⟩, s2, by omega⟩
    simp only [List.mem_singleton] at ht
    subst ht
    unfold maxLen
    omega
  · obtain ⟨n, r2, h3, h4⟩ := Pr.bind_ok h2
    obtain ⟨k1, s2, e2, _⟩ := takeP_small h3 s1
    obtain ⟨q1, q2, q3, q4⟩ := syms_small s2
    injection h4 with h5 h6
    subst h5 h6
    refine ⟨⟨by simp; omega, fun t ht => ?_, fun _ => by simp⟩, q2, by omega⟩
    rcases List.mem_cons.1 ht with rfl | ht
    · unfold maxLen; omega
    · have := q1 t ht
      unfold maxLen
      omega

theorem sidesP_small : ∀ (f : Nat) (l : List Tok) (acc S : List Side) (r : List Tok), sidesP f l acc = .ok S r → Small l → l.length + acc.length ≤ 10000 → (∀ s ∈ acc, SideOk s) → (∀ s ∈ S, SideOk s) ∧ S.length ≤ 10000 ∧ Small r ∧ r.length < l.length := by
  intro f
  induction f with
  | zero => intro l acc S r h; cases h
  | succ f ih =>
    intro l acc S r h hs hl ha
    obtain ⟨t, r1, h1, h2⟩ := Pr.bind_ok (show (takeP [4, 5] (restL l)).bind _ = _ from h)
    obtain ⟨q1, q2, q3, q4⟩ := syms_small hs
    obtain ⟨_, s1, e1, _⟩ := takeP_small h1 q2
    have hnew : ∀ s ∈ acc ++ [(⟨headT l, symsL l⟩ : Side)], SideOk s := fun s hm => by
      rcases List.mem_append.1 hm with hm | hm
      · exact ha s hm
      · rw [List.mem_singleton] at hm
        subst hm
        exact ⟨by simp only; omega, head_small hs, q1⟩
    split at h2
    · injection h2 with h5 h6
      subst h5 h6
      exact ⟨hnew, by simp; omega, s1, by omega⟩
    · obtain ⟨a, b, c, d⟩ := ih _ _ _ _ h2 s1 (by simp; omega) hnew
      exact ⟨a, b, c, by omega⟩

theorem ruleP_small {f : Nat} {l r : List Tok} {R : Rul} (h : ruleP f l = .ok R r) (hs : Small l) (hl : l.length ≤ 10000) : RulOk R ∧ Small r ∧ r.length < l.length := by
  obtain ⟨left, r1, h1, h2⟩ := Pr.bind_ok (show (takeP [1] l).bind _ = _ from h)
  obtain ⟨k1, s1, e1, _⟩ := takeP_small h1 hs
  obtain ⟨c, r2, h3, h4⟩ := Pr.bind_ok h2
  obtain ⟨_, s2, e2, _⟩ := takeP_small h3 s1
  obtain ⟨S, r3, h5, h6⟩ := Pr.bind_ok h4
  obtain ⟨a, b, c3, d⟩ := sidesP_small f r2 [] S r3 h5 s2 (by simp; omega) (fun s hm => by cases hm)
  injection h6 with h7 h8
  subst h7 h8
  exact ⟨⟨k1, b, a⟩, c3, by omega⟩

theorem declsP_small : ∀ (f : Nat) (l : List Tok) (acc D : List Decl) (r : List Tok), declsP f l acc = .ok D r → Small l → l.length + acc.length ≤ 10000 → (∀ d ∈ acc, DeclOk d) → (∀ d ∈ D, DeclOk d) ∧ D.length ≤ 10000 ∧ Small r ∧ r.length ≤ l.length := by
  intro f
  induction f with
  | zero => intro l acc S r h; cases h
  | succ f ih =>
    intro l acc D r h hs hl ha
    unfold declsP at h
    split at h
    · injection h with h5 h6
      subst h5 h6
      exact ⟨ha, by omega, hs, Nat.le_refl _⟩
    · obtain ⟨d, r1, h1, h2⟩ := Pr.bind_ok h
      obtain ⟨k1, s1, e1⟩ := declP_small h1 hs (by omega)
      obtain ⟨a, b, c, e⟩ := ih _ _ _ _ h2 s1 (by simp; omega) (fun x hm => by
        rcases List.mem_append.1 hm with hm | hm
        · exact ha x hm
        · rw [List.mem_singleton] at hm
          subst hm
          exact k1)
      exact ⟨a, b, c, by omega⟩

theorem rulesP_small : ∀ (f : Nat) (l : List Tok) (acc D : List Rul) (r : List Tok), rulesP f l acc = .ok D r → Small l → l.length + acc.length ≤ 10000 → (∀ d ∈ acc, RulOk d) → (∀ d ∈ D, RulOk d) ∧ D.length ≤ 10000 := by
  intro f
  induction f with
  | zero => intro l acc S r h; cases h
  | succ f ih =>
    intro l acc D r h hs hl ha
    unfold rulesP at h
    split at h
    · injection h with h5 h6
      subst h5 h6
      exact ⟨ha, by omega⟩
    · obtain ⟨d, r1, h1, h2⟩ := Pr.bind_ok h
      obtain ⟨k1, s1, e1⟩ := ruleP_small h1 hs (by omega)
      exact ih _ _ _ _ h2 s1 (by simp; omega) (fun x hm => by
        rcases List.mem_append.1 hm with hm | hm
        · exact ha x hm
        · rw [List.mem_singleton] at hm
          subst hm
          exact k1)

theorem sourceP_small {f : Nat} {l r : List Tok} {src : Src} (h : sourceP f l = .ok src r) (hs : Small l) (hl : l.length ≤ 9000) : SrcOk src := by
  obtain ⟨D, r1, h1, h2⟩ := Pr.bind_ok h
  obtain ⟨d1, d2, s1, e1⟩ := declsP_small f l [] D r1 h1 hs (by simp; omega) (fun d hm => by cases hm)
  obtain ⟨m, r2, h3, h4⟩ := Pr.bind_ok h2
  obtain ⟨_, s2, e2, _⟩ := takeP_small h3 s1
  obtain ⟨R, r3, h5, h6⟩ := Pr.bind_ok h4
  obtain ⟨k1, s3, e3⟩ := ruleP_small h5 s2 (by omega)
  obtain ⟨Rs, r4, h7, h8⟩ := Pr.bind_ok h6
  obtain ⟨k2, k3⟩ := rulesP_small f r3 [R] Rs r4 h7 s3 (by simp; omega) (fun x hm => by
    rw [List.mem_singleton] at hm
    subst hm
    exact k1)
  injection h8 with h9 h10
  subst h9
  exact ⟨d2, k3, d1, k2⟩

end Go.Proofs.YtimfiaphhomelaaGreat.Rd

namespace Go.Proofs.YtimfiaphhomelaaGreat.Rd
open Go.RowKit Go.Maps
open Go.Proofs.YtimfiaphhomelaaGreat.Tk (Tok tcs cells cells_length cells_snoc Just info_tok cells_three_new AllIs Lexes MaxLen)
set_option linter.unusedVariables false
set_option linter.unusedSimpArgs false

/-- What Parse answers. -/
def ParseGave (y : Mo Gr.Gram) (w : World) (e : Ending) (w' : World) : Prop := match y with
  | .ok G => ∃ sh, e = .returned (.tuple #[Gr.gv sh G, .nilIface]) ∧ Gr.GAt sh G w' ∧ Below w.heap.size w w'
  | .no n p => e = .returned (.tuple #[.agg zg, .iface 82 (.agg #[.int .i64 n, .int .i64 (p : Int)])]) ∧ Below w.heap.size w w'

/-- A text's grammar, or its first error. -/
def ParseIs (l : List UInt8) (y : Mo Gr.Gram) : Prop := ∃ r, Lexes l r ∧ match r with
  | .bad n p => y = .no n p
  | .ok T => ∃ x, Is (fun f => sourceP f T) x ∧ match x with
    | .no n p => y = .no n p
    | .ok src _ => y = makeM src
    | .out => False

/-- The parser's variable, as it is made. -/
theorem pat_of {base : Nat} {T : List Tok} {v : Value} {w : World} (h : w.ownsRow base 75 3 v T.length (cells T)) (hT : T ≠ []) : PAt w.heap.size T (w.alloc (.cells #[v] 53)) := by
  rcases h.2 with ⟨_, h0⟩ | ⟨g, cap, cur, rfl, h2, h3, h4, h5, _⟩
  · exact absurd (List.eq_nil_of_length_eq_zero h0) hT
  · have hc := World.ownsRow.cells h (g := g) rfl
    have hg : g < w.heap.size := (Array.getElem?_eq_some_iff.1 h3).1
    refine ⟨g, 0, cap, by simp, by simp, fun i hi => ?_, hg, h4, h5⟩
    have := hc i _ (List.getElem?_eq_getElem hi)
    rw [WideShapes.add_plain] at this
    rw [World.cell?_alloc_lt _ _ ⟨g, 0 + i, none⟩ hg]
    exact this

set_option maxRecDepth 100000 in
set_option maxHeartbeats 4000000 in
theorem parse_bad (s : ByteArray) (n : Int) (p : Nat) (w : World) (AA : Hid (∀ w1, Below w.heap.size w w1 → Calls Tryz.prog 25 #[.string s] w1 (AllIs (.bad n p) w1))) :
    Calls Tryz.prog 10 #[.string s] w (ParseGave (.no n p) w) := by
  have hmf : ∀ (fn : Fn) (first cap : Array Value) (w : World), (Instr.makeFunc fn first cap).run Tryz.prog w = .ok (.func fn first cap) w := fun _ _ _ _ => rfl
  have B0 := Lib.hid (Gr.step (Gr.boxed w (.cells zg 25)) (Gr.boxed _ (.cells #[.nilIface] 33)))
  have Z0 := Lib.hid ((Bk.new w zg 25 _ rfl).went (Gr.boxed _ (.cells #[.nilIface] 33)))
  have E0 := Lib.hid (Bk.new (w.alloc (.cells zg 25)) #[.nilIface] 33 (w.heap.size + 1) (by simp))
  go_enter_defers Tryz.func10, Tryz.ntmps10
  go_wp2_with (go_at_call 25; refine (AA.out _ B0.out).mono ?_; rintro e w1 ⟨rfl, hb⟩; have B1 := Lib.hid (Gr.step B0.out hb); have Z1 := Lib.hid (Z0.out.went hb); have E1 := Lib.hid (E0.out.went hb); obtain ⟨z0, z1, z2, z3, zf⟩ := (Z0.out.went hb).four; have e0 : w1.cell? ⟨w.heap.size + 1, 0, none⟩ = some .nilIface := (E0.out.went hb).cell rfl; have ef := (E0.out.went hb).free; have hel := (E0.out.went hb).lt; clear hb)
  go_region
  all_goals
    go_wp2
    have hF := (((((((B1.out.setCell (p := ⟨w.heap.size + 1, 0, none⟩) (Nat.le_succ _) (.iface 82 (.agg #[.int .i64 n, .int .i64 (p : Int)]))).setCell (p := ⟨w.heap.size, 0, none⟩) (Nat.le_refl _) (.slice none 0 0)).setCell (p := ⟨w.heap.size, 1, none⟩) (Nat.le_refl _) (.slice none 0 0)).setCell (p := ⟨w.heap.size, 2, none⟩) (Nat.le_refl _) (.slice none 0 0)).setCell (p := ⟨w.heap.size, 3, none⟩) (Nat.le_refl _) (.int .i64 0)).setCell (p := ⟨w.heap.size + 1, 0, none⟩) (Nat.le_succ _) (.iface 82 (.agg #[.int .i64 n, .int .i64 (p : Int)])))).drew
    have hwl : w.heap.size < w1.heap.size := by omega
    simp [bodyPostD, Leaves, results, Tryz.results10, go_sem, ParseGave, hF, z0, z1, z2, z3, zf, e0, ef, hel, hwl]

/-- Behind gtok.All: its tokens in memory; the results' variables. -/
theorem after_all {T : List Tok} {a1 : Option Addr} {c1 : Nat} {w w1 : World} (hR : w1.ownsRow ((w.alloc (.cells zg 25)).alloc (.cells #[.nilIface] 33)).heap.size 75 3 (.slice a1 T.length c1) T.length (cells T))
    (hb : Below ((w.alloc (.cells zg 25)).alloc (.cells #[.nilIface] 33)).heap.size ((w.alloc (.cells zg 25)).alloc (.cells #[.nilIface] 33)) w1) :
    (w1.setCell ⟨w.heap.size + 1, 0, none⟩ .nilIface).ownsRow (w.heap.size + 1 + 1) 75 3 (.slice a1 T.length c1) T.length (cells T) ∧ Below w.heap.size w (w1.setCell ⟨w.heap.size + 1, 0, none⟩ .nilIface) ∧
    Bk w.heap.size zg 25 (w1.setCell ⟨w.heap.size + 1, 0, none⟩ .nilIface) ∧ Bk (w.heap.size + 1) #[.nilIface] 33 (w1.setCell ⟨w.heap.size + 1, 0, none⟩ .nilIface) ∧
    w1.cell? ⟨w.heap.size + 1, 0, none⟩ = some .nilIface ∧ w1.frozen? ⟨w.heap.size + 1, 0, none⟩ = false ∧ w.heap.size + 1 < w1.heap.size := by
  have hW : ((w.alloc (.cells zg 25)).alloc (.cells #[.nilIface] 33)).heap.size = w.heap.size + 1 + 1 := by simp
  have b0 := Gr.step (Gr.boxed w (.cells zg 25)) (Gr.boxed _ (.cells #[.nilIface] 33))
  have z1 := ((Bk.new w zg 25 _ rfl).went (Gr.boxed _ (.cells #[.nilIface] 33))).went hb
  have e1 := (Bk.new (w.alloc (.cells zg 25)) #[.nilIface] 33 (w.heap.size + 1) (by simp)).went hb
  refine ⟨?_, (Gr.step b0 hb).setCell (p := ⟨w.heap.size + 1, 0, none⟩) (Nat.le_succ _) _, z1.fr (Sep.Fr.setCell (S := fun k => k = w.heap.size + 1) (.refl _ w1) ⟨w.heap.size + 1, 0, none⟩ rfl .nilIface) (by omega), e1.set (j := 0) (by simp) .nilIface, e1.cell rfl, e1.free 0, e1.lt⟩
  rw [hW] at hR
  exact Sep.ownsRow_at hR fun g hg => Below.heap_setCell w1 ⟨w.heap.size + 1, 0, none⟩ .nilIface g (by have := (World.ownsRow.lt hR g hg).1; simp only; omega)

set_option maxRecDepth 100000 in
set_option maxHeartbeats 400000 in
theorem parse_no1 (s : ByteArray) (n : Int) (q : Nat) (T : List Tok) (w : World) (AA : Hid (∀ w1, Below w.heap.size w w1 → Calls Tryz.prog 25 #[.string s] w1 (AllIs (.ok T) w1))) (hl : EndT T) (hlen : T.length ≤ 10000) (hx : Is (fun f => sourceP f T) (.no n q)) (hn : ¬ n = 0) :
    Calls Tryz.prog 10 #[.string s] w (ParseGave (.no n q) w) := by
  have hmf : ∀ (fn : Fn) (first cap : Array Value) (w : World), (Instr.makeFunc fn first cap).run Tryz.prog w = .ok (.func fn first cap) w := fun _ _ _ _ => rfl
  have B0 := Lib.hid (Gr.step (Gr.boxed w (.cells zg 25)) (Gr.boxed _ (.cells #[.nilIface] 33)))
  have SO := Lib.hid (fun p w1 (hP : PAt p T w1) => source_any p T _ w1 hx hP hl hlen)
  have HT := Lib.hid (endT_ne hl)
  clear hl hlen hx
  go_enter_defers Tryz.func10, Tryz.ntmps10
  go_upto_region 4 with (go_at_call 25; refine (AA.out _ B0.out).mono ?_; rintro e w1 ⟨v1, rfl, hR, hb⟩; obtain ⟨a1, c1, rfl⟩ := row_shape hR; obtain ⟨r1, r2, r3, r4, e0, ef, hel⟩ := after_all hR hb; have R1 := Lib.hid r1; have B1 := Lib.hid r2; have Z1 := Lib.hid r3; have E1 := Lib.hid r4; clear hb hR r1 r2 r3 r4)
  generalize w1.setCell ⟨w.heap.size + 1, 0, none⟩ .nilIface = W2 at *
  clear e0 ef hel
  go_wp2_with (go_at_call 29; ((with_reducible refine (SO.out _ _ (pat_of R1.out HT.out)).mono ?_)); rintro e w2 ⟨rfl, hF⟩; have F2 := Lib.hid hF; clear hF)
  have b := Gr.boxed W2 (.cells #[.slice a1 T.length c1] 53)
  have hz := Z1.out.lt
  have he := E1.out.lt
  have z2 := (Z1.out.went b).fr F2.out (by omega)
  have e2 := (E1.out.went b).fr F2.out (by omega)
  have b2 := (Gr.step B1.out b).trans (F2.out.below (m := w.heap.size) (fun k hk => by omega) (Gr.step B1.out b).size)
  clear Z1 E1 B1 F2 R1 SO HT AA B0 b
  refine leaves_cons (f := 26) (args := #[.pointer (some ⟨w.heap.size + 1, 0, none⟩)]) (by simp) (by simp [go_sem]) ?_
  refine (caught ⟨w.heap.size + 1, 0, none⟩ .nilIface n q w2 (e2.cell rfl) (e2.free 0) hn).mono ?_
  rintro x u' w'' ⟨rfl, rfl, o, rfl⟩
  have bo := Gr.boxed w2 o
  have hF := (Gr.step b2 bo).setCell (p := ⟨w.heap.size + 1, 0, none⟩) (Nat.le_succ _) (.iface 82 (.agg #[.int .i64 n, .int .i64 (q : Int)]))
  have e3 := (e2.went bo).set (j := 0) (by simp) (.iface 82 (.agg #[.int .i64 n, .int .i64 (q : Int)]))
  have z3 := (z2.went bo).fr (Sep.Fr.setCell (S := fun k => k = w.heap.size + 1) (.refl _ _) ⟨w.heap.size + 1, 0, none⟩ rfl (.iface 82 (.agg #[.int .i64 n, .int .i64 (q : Int)]))) (by omega)
  have e0 : ((w2.alloc o).setCell ⟨w.heap.size + 1, 0, none⟩ (.iface 82 (.agg #[.int .i64 n, .int .i64 (q : Int)]))).cell? ⟨w.heap.size + 1, 0, none⟩ = some (.iface 82 (.agg #[.int .i64 n, .int .i64 (q : Int)])) := e3.cell rfl
  obtain ⟨y0, y1, y2, y3, yf⟩ := z3.four
  generalize (w2.alloc o).setCell ⟨w.heap.size + 1, 0, none⟩ (.iface 82 (.agg #[.int .i64 n, .int .i64 (q : Int)])) = W3 at *
  simp [Leaves, settle, results, Tryz.results10, go_sem, ParseGave, hF, y0, y1, y2, y3, e0]

set_option maxRecDepth 100000 in
set_option maxHeartbeats 400000 in
theorem parse_no2 (s : ByteArray) (n : Int) (q : Nat) (T : List Tok) (w : World) (AA : Hid (∀ w1, Below w.heap.size w w1 → Calls Tryz.prog 25 #[.string s] w1 (AllIs (.ok T) w1))) (hl : EndT T) (hlen : T.length ≤ 10000) (src : Src) (rest : List Tok) (hx : Is (fun f => sourceP f T) (.ok src rest)) (hok : SrcOk src) (hm : makeM src = .no n q) (hn : ¬ n = 0) :
    Calls Tryz.prog 10 #[.string s] w (ParseGave (.no n q) w) := by
  have hmf : ∀ (fn : Fn) (first cap : Array Value) (w : World), (Instr.makeFunc fn first cap).run Tryz.prog w = .ok (.func fn first cap) w := fun _ _ _ _ => rfl
  have B0 := Lib.hid (Gr.step (Gr.boxed w (.cells zg 25)) (Gr.boxed _ (.cells #[.nilIface] 33)))
  have SO := Lib.hid (fun p w1 (hP : PAt p T w1) => source_any p T _ w1 hx hP hl hlen)
  have HT := Lib.hid (endT_ne hl)
  have MK := Lib.hid (fun (b : Nat) w2 dv rv (hD : DeclsV b src.decls dv w2) (hR : RulesV b src.rules rv w2) => show Calls Tryz.prog 28 #[srcV dv rv] w2 (MkGave (.no n q) w2) from hm ▸ make_any w2 src dv rv hD hR hok)
  clear hl hlen hx hok hm
  go_enter_defers Tryz.func10, Tryz.ntmps10
  go_upto_region 4 with (go_at_call 25; refine (AA.out _ B0.out).mono ?_; rintro e w1 ⟨v1, rfl, hR, hb⟩; obtain ⟨a1, c1, rfl⟩ := row_shape hR; obtain ⟨r1, r2, r3, r4, e0, ef, hel⟩ := after_all hR hb; have R1 := Lib.hid r1; have B1 := Lib.hid r2; have Z1 := Lib.hid r3; have E1 := Lib.hid r4; clear hb hR r1 r2 r3 r4)
  generalize w1.setCell ⟨w.heap.size + 1, 0, none⟩ .nilIface = W2 at *
  clear e0 ef hel
  go_wp2_with (first
    | (go_at_call 29; ((with_reducible refine (SO.out _ _ (pat_of R1.out HT.out)).mono ?_)); rintro e w2 ⟨v2, rfl, ⟨dv, rv, rfl, hD, hR⟩, hP, hF⟩; have F2 := Lib.hid hF; have DV := Lib.hid hD; have RV := Lib.hid hR; clear hF hD hR hP)
    | (go_at_call 28; refine (MK.out _ _ _ _ DV.out RV.out).mono ?_; rintro e w3 ⟨rfl, hb⟩; have B3 := Lib.hid hb; clear hb))
  have b := Gr.boxed W2 (.cells #[.slice a1 T.length c1] 53)
  have hz := Z1.out.lt
  have he := E1.out.lt
  have z2 := ((Z1.out.went b).fr F2.out (by omega)).went B3.out
  have e2 := ((E1.out.went b).fr F2.out (by omega)).went B3.out
  have b2 := Gr.step ((Gr.step B1.out b).trans (F2.out.below (m := w.heap.size) (fun k hk => by omega) (Gr.step B1.out b).size)) B3.out
  clear Z1 E1 B1 F2 R1 SO HT AA B0 b B3 DV RV MK
  refine leaves_cons (f := 26) (args := #[.pointer (some ⟨w.heap.size + 1, 0, none⟩)]) (by simp) (by simp [go_sem]) ?_
  refine (caught ⟨w.heap.size + 1, 0, none⟩ .nilIface n q w3 (e2.cell rfl) (e2.free 0) hn).mono ?_
  rintro x u' w'' ⟨rfl, rfl, o, rfl⟩
  have bo := Gr.boxed w3 o
  have hF := (Gr.step b2 bo).setCell (p := ⟨w.heap.size + 1, 0, none⟩) (Nat.le_succ _) (.iface 82 (.agg #[.int .i64 n, .int .i64 (q : Int)]))
  have e3 := (e2.went bo).set (j := 0) (by simp) (.iface 82 (.agg #[.int .i64 n, .int .i64 (q : Int)]))
  have z3 := (z2.went bo).fr (Sep.Fr.setCell (S := fun k => k = w.heap.size + 1) (.refl _ _) ⟨w.heap.size + 1, 0, none⟩ rfl (.iface 82 (.agg #[.int .i64 n, .int .i64 (q : Int)]))) (by omega)
  have e0 : ((w3.alloc o).setCell ⟨w.heap.size + 1, 0, none⟩ (.iface 82 (.agg #[.int .i64 n, .int .i64 (q : Int)]))).cell? ⟨w.heap.size + 1, 0, none⟩ = some (.iface 82 (.agg #[.int .i64 n, .int .i64 (q : Int)])) := e3.cell rfl
  obtain ⟨y0, y1, y2, y3, yf⟩ := z3.four
  generalize (w3.alloc o).setCell ⟨w.heap.size + 1, 0, none⟩ (.iface 82 (.agg #[.int .i64 n, .int .i64 (q : Int)])) = W3 at *
  simp [Leaves, settle, results, Tryz.results10, go_sem, ParseGave, hF, y0, y1, y2, y3, e0]

theorem ok_after {v : Value} {w W2 w2 w3 : World} (z1 : Bk w.heap.size zg 25 W2) (e1 : Bk (w.heap.size + 1) #[.nilIface] 33 W2) (b1 : Below w.heap.size w W2) (hF : Sep.Fr (fun k => k = W2.heap.size) (W2.alloc (.cells #[v] 53)) w2) (hb : Below w2.heap.size w2 w3) :
    Bk w.heap.size zg 25 w3 ∧ Bk (w.heap.size + 1) #[.nilIface] 33 w3 ∧ Below w.heap.size w w3 ∧ w.heap.size < w2.heap.size ∧ w.heap.size + 1 < w2.heap.size := by
  have b := Gr.boxed W2 (.cells #[v] 53)
  have hz := z1.lt
  have he := e1.lt
  have z2 := (z1.went b).fr hF (by omega)
  have e2 := (e1.went b).fr hF (by omega)
  exact ⟨z2.went hb, e2.went hb, Gr.step ((Gr.step b1 b).trans (hF.below (m := w.heap.size) (fun k hk => by omega) (Gr.step b1 b).size)) hb, z2.lt, e2.lt⟩

set_option maxRecDepth 100000 in
set_option maxHeartbeats 400000 in
theorem parse_ok (s : ByteArray) (G : Gr.Gram) (T : List Tok) (w : World) (AA : Hid (∀ w1, Below w.heap.size w w1 → Calls Tryz.prog 25 #[.string s] w1 (AllIs (.ok T) w1))) (hl : EndT T) (hlen : T.length ≤ 10000) (src : Src) (rest : List Tok) (hx : Is (fun f => sourceP f T) (.ok src rest)) (hok : SrcOk src) (hm : makeM src = .ok G) :
    Calls Tryz.prog 10 #[.string s] w (ParseGave (.ok G) w) := by
  have hmf : ∀ (fn : Fn) (first cap : Array Value) (w : World), (Instr.makeFunc fn first cap).run Tryz.prog w = .ok (.func fn first cap) w := fun _ _ _ _ => rfl
  have B0 := Lib.hid (Gr.step (Gr.boxed w (.cells zg 25)) (Gr.boxed _ (.cells #[.nilIface] 33)))
  have SO := Lib.hid (fun p w1 (hP : PAt p T w1) => source_any p T _ w1 hx hP hl hlen)
  have HT := Lib.hid (endT_ne hl)
  have MK := Lib.hid (fun (b : Nat) w2 dv rv (hD : DeclsV b src.decls dv w2) (hR : RulesV b src.rules rv w2) => show Calls Tryz.prog 28 #[srcV dv rv] w2 (MkGave (.ok G) w2) from hm ▸ make_any w2 src dv rv hD hR hok)
  clear hl hlen hx hok hm
  go_enter_defers Tryz.func10, Tryz.ntmps10
  go_upto_region 4 with (go_at_call 25; refine (AA.out _ B0.out).mono ?_; rintro e w1 ⟨v1, rfl, hR, hb⟩; obtain ⟨a1, c1, rfl⟩ := row_shape hR; obtain ⟨r1, r2, r3, r4, e0, ef, hel⟩ := after_all hR hb; have R1 := Lib.hid r1; have B1 := Lib.hid r2; have Z1 := Lib.hid r3; have E1 := Lib.hid r4; clear hb hR r1 r2 r3 r4)
  generalize w1.setCell ⟨w.heap.size + 1, 0, none⟩ .nilIface = W2 at *
  clear e0 ef hel
  go_wp2_with (first
    | (go_at_call 29; ((with_reducible refine (SO.out _ _ (pat_of R1.out HT.out)).mono ?_)); rintro e w2 ⟨v2, rfl, ⟨dv, rv, rfl, hD, hR⟩, hP, hF⟩; have F2 := Lib.hid hF; have DV := Lib.hid hD; have RV := Lib.hid hR; clear hF hD hR hP)
    | (go_at_call 28; refine (MK.out _ _ _ _ DV.out RV.out).mono ?_; rintro e w3 ⟨⟨s1, s2, s3, s4, s5, s6⟩, rfl, hK, hb⟩; have K3 := Lib.hid hK; obtain ⟨z3, e3, b3, hz, hq⟩ := ok_after Z1.out E1.out B1.out F2.out hb; have ZZ := Lib.hid z3; have EE := Lib.hid e3; have BB := Lib.hid b3; have HZ := Lib.hid hq; obtain ⟨y0, y1, y2, y3, yf⟩ := z3.four; have x0 : w3.cell? ⟨w.heap.size + 1, 0, none⟩ = some .nilIface := e3.cell rfl; have xf := e3.free; have hel := e3.lt; have hwl : w.heap.size < w3.heap.size := z3.lt; clear hb hK z3 e3 b3 hz hq))
  have hf4 := fr_set4 w3 w.heap.size (.slice s1 G.terms.length s2) (.slice s3 G.nons.length s4) (.slice s5 G.rules.length s6) (.int .i64 G.start)
  have hf5 := Sep.Fr.setCell (S := fun k => k = w.heap.size + 1) (.refl _ ((((w3.setCell ⟨w.heap.size, 0, none⟩ (.slice s1 G.terms.length s2)).setCell ⟨w.heap.size, 1, none⟩ (.slice s3 G.nons.length s4)).setCell ⟨w.heap.size, 2, none⟩ (.slice s5 G.rules.length s6)).setCell ⟨w.heap.size, 3, none⟩ (.int .i64 G.start))) ⟨w.heap.size + 1, 0, none⟩ rfl .nilIface
  have qz := ((((ZZ.out.set (j := 0) (by simp) (.slice s1 G.terms.length s2)).set (j := 1) (by simp) (.slice s3 G.nons.length s4)).set (j := 2) (by simp) (.slice s5 G.rules.length s6)).set (j := 3) (by simp) (.int .i64 G.start)).fr hf5 (by omega)
  have qe := (EE.out.fr hf4 (by omega)).set (j := 0) (by simp) .nilIface
  have hB := ((BB.out.trans (hf4.below (m := w.heap.size) (fun k hk => by omega) BB.out.size))).setCell (p := ⟨w.heap.size + 1, 0, none⟩) (Nat.le_succ _) .nilIface
  have hG := K3.out (fun k => k = w.heap.size ∨ k = w.heap.size + 1) _ (fun k hk => by
      rcases hk with rfl | rfl
      · exact ⟨by have := HZ.out; omega, bk_nostr ZZ.out (by simp) (by simp) (by simp)⟩
      · refine ⟨HZ.out, fun j s hc => ?_⟩
        have h2 := EE.out
        unfold Bk at h2
        simp only [World.cell?, h2] at hc
        rcases j with _ | j <;> simp at hc) ((hf4.mono (T := fun k => k = w.heap.size ∨ k = w.heap.size + 1) fun k hk => .inl hk).trans (hf5.mono (T := fun k => k = w.heap.size ∨ k = w.heap.size + 1) fun k hk => .inr hk) fun k hk => .inl hk)
  have u0 := qe.cell (j := 0) (v := .nilIface) rfl
  obtain ⟨t0, t1, t2, t3, tf⟩ := (show Bk w.heap.size #[.slice s1 G.terms.length s2, .slice s3 G.nons.length s4, .slice s5 G.rules.length s6, .int .i64 G.start] 25 _ from qz).four
  clear qz qe hf4 hf5
  generalize (((((w3.setCell ⟨w.heap.size, 0, none⟩ (.slice s1 G.terms.length s2)).setCell ⟨w.heap.size, 1, none⟩ (.slice s3 G.nons.length s4)).setCell ⟨w.heap.size, 2, none⟩ (.slice s5 G.rules.length s6)).setCell ⟨w.heap.size, 3, none⟩ (.int .i64 G.start)).setCell ⟨w.heap.size + 1, 0, none⟩ .nilIface) = W4 at *
  refine leaves_cons (f := 26) (args := #[.pointer (some ⟨w.heap.size + 1, 0, none⟩)]) (by simp) (by simp [go_sem]) ?_
  refine (idle1 ⟨w.heap.size + 1, 0, none⟩ _).mono ?_
  rintro x u' w'' ⟨rfl, rfl, rfl⟩
  have hR : ParseGave (.ok G) w (.returned (.tuple #[Gr.gv ⟨s1, s2, s3, s4, s5, s6⟩ G, .nilIface])) w'' := ⟨⟨s1, s2, s3, s4, s5, s6⟩, rfl, hG, hB⟩
  simp [Leaves, settle, results, Tryz.results10, go_sem, t0, t1, t2, t3, u0]
  exact hR


/-- What Parse answers of a text. -/
theorem parse_any (s : ByteArray) (y : Mo Gr.Gram) (w : World) (h : ParseIs s.data.toList y) (hs : s.size ≤ 140737488355328) (hm : MaxLen w) : Calls Tryz.prog 10 #[.string s] w (ParseGave y w) := by
  obtain ⟨r, hr, hy⟩ := h
  have AA := Lib.hid (fun w1 (hb : Below w.heap.size w w1) => Tk.all_any s r w1 hr hs (hm.keep hb))
  cases r with
  | bad n p =>
    simp only at hy
    subst hy
    exact parse_bad s n p w AA
  | ok T =>
    obtain ⟨x, hx, hy⟩ := hy
    obtain ⟨t1, t2, t3⟩ := lexes_ok hr
    obtain ⟨f, hf, hne⟩ := hx
    cases x with
    | out => exact absurd rfl hne
    | no n q =>
      simp only at hy
      subst hy
      exact parse_no1 s n q T w AA t1 (by omega) ⟨f, hf, hne⟩ (sourceP_nz f T n q hf)
    | ok src rest =>
      simp only at hy
      have hok := sourceP_small hf (fun t ht => by have := t3 t ht; omega) (by omega)
      cases hmk : makeM src with
      | ok G =>
        rw [hmk] at hy
        subst hy
        exact parse_ok s G T w AA t1 (by omega) src rest ⟨f, hf, hne⟩ hok hmk
      | no n q =>
        rw [hmk] at hy
        subst hy
        exact parse_no2 s n q T w AA t1 (by omega) src rest ⟨f, hf, hne⟩ hok hmk (makeM_nz src n q hmk)

end Go.Proofs.YtimfiaphhomelaaGreat.Rd
