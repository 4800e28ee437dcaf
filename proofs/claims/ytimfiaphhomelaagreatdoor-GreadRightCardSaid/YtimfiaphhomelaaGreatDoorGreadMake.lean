/-
  The maker: made for a source; all declarations and rules; the grammar. Condition: the source's parts are of at most 10000 each.
-/
import Derived.Test.YtimfiaphhomelaaGreatDoorGreadGram
namespace Go.Proofs.YtimfiaphhomelaaGreatDoor.Rd
open Go.RowKit Go.Maps
open Go.Proofs.YtimfiaphhomelaaGreatDoor.Tk (Tok tcs cells cells_length cells_snoc Just info_tok cells_three_new)
set_option linter.unusedVariables false
set_option linter.unusedSimpArgs false

/-- What a declaration must not outgrow; a %start has a name. -/
def DeclOk (d : Decl) : Prop := d.names.length ≤ 10000 ∧ (∀ t ∈ d.names, t.s.size ≤ maxLen) ∧ (d.mark.k = 8 → d.names ≠ [])
structure SrcOk (src : Src) : Prop where
  nd : src.decls.length ≤ 10000
  nr : src.rules.length ≤ 10000
  decls : ∀ d ∈ src.decls, DeclOk d
  rules : ∀ R ∈ src.rules, RulOk R

theorem Mo.bind_ok {α β : Type} {x : Mo α} {f : α → Mo β} {b : β} (h : x.bind f = .ok b) : ∃ a, x = .ok a ∧ f a = .ok b := by
  cases x with
  | ok a => exact ⟨a, rfl, h⟩
  | no e q => cases h

theorem declM_start {lf : List ByteArray} {st st' : MSt} {d : Decl} (h : declM lf st d = .ok st') (hs : st.start.size ≤ maxLen) (hd : DeclOk d) : st'.start.size ≤ maxLen := by
  obtain ⟨_, h1, h2⟩ := hd
  unfold declM at h
  split at h
  · rename_i hk
    split at h
    · cases h
    · split at h
      · cases h
      · injection h with h
        subst h
        have hne := h2 hk
        cases hq : d.names with
        | nil => exact absurd hq hne
        | cons t r => exact h1 t (by rw [hq]; exact List.mem_cons_self ..)
  · obtain ⟨L, _, h⟩ := Mo.bind_ok h
    injection h with h
    subst h
    exact hs

theorem sideM_start {lf : List ByteArray} {left : Tok} {st st' : MSt} {s : Side} (h : sideM lf left st s = .ok st') : st'.start = st.start := by
  unfold sideM at h
  split at h
  · cases h
  · split at h
    · cases h
    · split at h
      · cases h
      · obtain ⟨L, _, h⟩ := Mo.bind_ok h
        injection h with h
        subst h
        rfl

theorem sidesM_start {lf : List ByteArray} {left : Tok} {S : List Side} : ∀ {st st' : MSt}, sidesM lf left st S = .ok st' → st'.start = st.start := by
  induction S with
  | nil => intro st st' h; injection h with h; rw [h]
  | cons s r ih =>
    intro st st' h
    obtain ⟨st1, h1, h2⟩ := Mo.bind_ok (show (sideM lf left st s).bind (fun st' => sidesM lf left st' r) = _ from h)
    exact (ih h2).trans (sideM_start h1)

theorem ruleM_start {lf : List ByteArray} {st st' : MSt} {R : Rul} (h : ruleM lf st R = .ok st') : st'.start = st.start := by
  unfold ruleM at h
  split at h
  · cases h
  · obtain ⟨L, _, h⟩ := Mo.bind_ok h
    have := sidesM_start h
    exact this

theorem declsM_cons (lf : List ByteArray) (st : MSt) (d : Decl) (r : List Decl) : declsM lf st (d :: r) = (declM lf st d).bind fun st' => declsM lf st' r := rfl
theorem rulesM_cons (lf : List ByteArray) (st : MSt) (R : Rul) (r : List Rul) : rulesM lf st (R :: r) = (ruleM lf st R).bind fun st' => rulesM lf st' r := rfl

/-- What the maker answers of a source. -/
def MkGave (x : Mo Gr.Gram) (w : World) (e : Ending) (w' : World) : Prop := match x with
  | .ok G => ∃ sh, e = .returned (Gr.gv sh G) ∧ GKept w.heap.size sh G w' ∧ Below w.heap.size w w'
  | .no e1 q => e = .panicked (Ref e1 q) ∧ Below w.heap.size w w'

/-- The loop over declarations. -/
def DLoop (m : Nat) (T0 : Nat → Prop) (lf : List ByteArray) (src : Src) (x : Mo MSt) (W : World) (g : Nat) (i : Value) (wr : World) : Prop :=
  ∃ j st T, j + g = src.decls.length ∧ i = .int .i64 (j : Int) ∧ ((declsM lf st (src.decls.drop j)).bind fun st => rulesM lf st src.rules) = x ∧ MAt m T lf st wr ∧ Sep.Fr T0 W wr ∧ Sep.Ext T T0 W ∧ st.start.size ≤ maxLen

/-- The loop over rules. -/
def RLoop (m : Nat) (T0 : Nat → Prop) (lf : List ByteArray) (src : Src) (x : Mo MSt) (W : World) (g : Nat) (i : Value) (wr : World) : Prop :=
  ∃ j st T, j + g = src.rules.length ∧ i = .int .i64 (j : Int) ∧ rulesM lf st (src.rules.drop j) = x ∧ MAt m T lf st wr ∧ Sep.Fr T0 W wr ∧ Sep.Ext T T0 W ∧ st.start.size ≤ maxLen

/-- The maker, as it is made. -/
theorem made_at {lf : List ByteArray} {b1 n1 b2 p1 p2 m : Nat} {S1 S2 : Nat → Prop} {D1 : DataW Unit} {w1 w2 w3 w4 w5 : World} (hm1 : w1.ownsMap Tryz.prog 9 RU b1 n1 D1) (hk : KeysIn lf D1) (hb1 : b1 < w1.heap.size)
    (h2 : w2 = w1.alloc (.map #[] 0)) (hb2 : b2 = w1.heap.size)
    (h3 : Below w2.heap.size w2 w3) (hp1 : It.NmAt p1 S1 120 [] w3) (hs1 : ∀ k, S1 k → w2.heap.size ≤ k)
    (h4 : Below w3.heap.size w3 w4) (hp2 : It.NmAt p2 S2 120 [] w4) (hs2 : ∀ k, S2 k → w3.heap.size ≤ k)
    (hm : m = w4.heap.size) (h5 : w5 = w4.alloc (.cells #[.map (some b1), .map (some b2), .pointer (some ⟨p1, 0, none⟩), .pointer (some ⟨p2, 0, none⟩), .string ⟨#[]⟩] 84)) :
    MAt m (fun k => k = m ∨ k = b1 ∨ k = b2 ∨ S1 k ∨ S2 k) lf st0 w5 := by
  subst h2 hb2 hm h5
  have b34 := h4
  have bx := Gr.boxed w4 (.cells #[.map (some b1), .map (some w1.heap.size), .pointer (some ⟨p1, 0, none⟩), .pointer (some ⟨p2, 0, none⟩), .string ⟨#[]⟩] 84)
  have bk := Bk.new w4 #[.map (some b1), .map (some w1.heap.size), .pointer (some ⟨p1, 0, none⟩), .pointer (some ⟨p2, 0, none⟩), .string ⟨#[]⟩] 84 _ rfl
  have z2 : (w1.alloc (.map #[] 0)).heap.size = w1.heap.size + 1 := by simp
  have z3 := h3.size
  have z4 := h4.size
  have z5 := bx.size
  have e1 := Gr.step (Gr.step (Gr.boxed w1 (.map #[] 0)) h3) (Gr.step h4 bx)
  have e2 := Gr.step h3 (Gr.step h4 bx)
  have i1 : ∀ k, S1 k → k < w3.heap.size := hp1.inn
  have i2 : ∀ k, S2 k → k < w4.heap.size := hp2.inn
  have hs5 : w4.heap.size < (w4.alloc (.cells #[.map (some b1), .map (some w1.heap.size), .pointer (some ⟨p1, 0, none⟩), .pointer (some ⟨p2, 0, none⟩), .string ⟨#[]⟩] 84)).heap.size := bk.lt
  refine ⟨b1, n1, w1.heap.size, p1, p2, S1, S2, D1, .map [], ⟨bk.cell rfl, bk.cell rfl, bk.cell rfl, bk.cell rfl, bk.cell rfl, bk.free 4, Sep.ownsMap_at hm1 (e1.block _ hb1), Sep.ownsMap_at (World.ownsMap_made w1 Tryz.prog 9 RU) (e2.block _ (by omega)), hk, keys_none, rfl, by simp [st0],
    (hp1.went h4).went bx, hp2.went bx, .inl rfl, .inr (.inl rfl), .inr (.inr (.inl rfl)), (fun k hk => .inr (.inr (.inr (.inl hk)))), (fun k hk => .inr (.inr (.inr (.inr hk)))), ?_, ⟨by omega, by omega, by omega⟩, ⟨?_, ?_⟩, ⟨?_, ?_⟩, ⟨?_, ?_⟩, ?_⟩⟩
  · rintro k (h | h | h | h | h)
    · omega
    · omega
    · omega
    · have := i1 k h; omega
    · have := i2 k h; omega
  · intro h; have := i1 _ h; omega
  · intro h; have := i2 _ h; omega
  · intro h; have := hs1 _ h; omega
  · intro h; have := hs2 _ h; omega
  · intro h; have := hs1 _ h; omega
  · intro h; have := hs2 _ h; omega
  · intro k h1 h2; have := i1 _ h1; have := hs2 _ h2; omega

theorem made_low {b1 : Nat} {S1 S2 : Nat → Prop} {w0 w1 w3 w4 : World} (hb1 : w0.heap.size ≤ b1) (h1 : Below w0.heap.size w0 w1) (h3 : Below (w1.alloc (.map #[] 0)).heap.size (w1.alloc (.map #[] 0)) w3) (hs1 : ∀ k, S1 k → (w1.alloc (.map #[] 0)).heap.size ≤ k) (h4 : Below w3.heap.size w3 w4) (hs2 : ∀ k, S2 k → w3.heap.size ≤ k) :
    ∀ k, (k = w4.heap.size ∨ k = b1 ∨ k = w1.heap.size ∨ S1 k ∨ S2 k) → w0.heap.size ≤ k := by
  have z1 := h1.size
  have z2 : (w1.alloc (.map #[] 0)).heap.size = w1.heap.size + 1 := by simp
  have z3 := h3.size
  have z4 := h4.size
  rintro k (h | h | h | h | h)
  · omega
  · omega
  · omega
  · have := hs1 k h; omega
  · have := hs2 k h; omega

theorem makeM_no {src : Src} {e : Int} {q : Nat} (h : runM src = .no e q) : makeM src = .no e q := by
  unfold makeM
  rw [h]
  rfl
theorem makeM_ok {src : Src} {st : MSt} (h : runM src = .ok st) : makeM src = .ok (gramM st src) := by
  unfold makeM
  rw [h]
  rfl

set_option maxRecDepth 100000 in
set_option maxHeartbeats 8000000 in
theorem make_any {base : Nat} (w : World) (src : Src) (dv rv : Value) (hdv : DeclsV base src.decls dv w) (hrv : RulesV base src.rules rv w) (hok : SrcOk src) :
    Calls Tryz.prog 18 #[srcV dv rv] w (MkGave (makeM src) w) := by
  obtain ⟨a0, c0, rfl⟩ := hdv.len
  obtain ⟨a, c, rfl⟩ := hrv.len
  have hmm := @run_makeMap Tryz.prog
  have B0 := Lib.hid (Gr.step (Gr.boxed w (.cells #[.slice a0 src.decls.length c0, .slice a src.rules.length c] 61)) (Gr.boxed _ (.cells #[.slice none 0 0, .slice none 0 0, .slice none 0 0, .int .i64 0] 26)))
  have BN := Lib.hid ((Bk.new w #[.slice a0 src.decls.length c0, .slice a src.rules.length c] 61 _ rfl).went (Gr.boxed _ (.cells #[.slice none 0 0, .slice none 0 0, .slice none 0 0, .int .i64 0] 26)))
  have BR := Lib.hid (Bk.new (w.alloc (.cells #[.slice a0 src.decls.length c0, .slice a src.rules.length c] 61)) #[.slice none 0 0, .slice none 0 0, .slice none 0 0, .int .i64 0] 26 (w.heap.size + 1) (by simp))
  have LE := Lib.hid (fun w1 (hb : Below w.heap.size w w1) => lefts_any w1 src (.slice a0 src.decls.length c0) (.slice a src.rules.length c) ⟨_, _, _, rfl⟩ (hrv.went hb) hok.nr (fun R hR => by have := (hok.rules R hR).1; unfold maxLen; omega))
  have NW := Lib.hid (fun w1 => It.new_any 120 w1)
  have NW1 := Lib.hid (fun w1 : World => It.new_any 120 (w1.alloc (.map #[] 0)))
  have GM := Lib.hid (fun (m : Nat) (T : Nat → Prop) (st : MSt) w1 (hb : Below w.heap.size w w1) (h : MAt m T (leftsM src) st w1) (hs : st.start.size ≤ maxLen) => gram_any (base := base) w1 h src (.slice a0 src.decls.length c0) (.slice a src.rules.length c) ⟨_, _, _, rfl⟩ (hrv.went hb) hok.nr hok.rules hs)
  have hnd := hok.nd
  have hnr := hok.nr
  have DO := Lib.hid hok.decls
  have RO := Lib.hid hok.rules
  have DV := Lib.hid hdv
  have RV := Lib.hid hrv
  obtain ⟨x, hx⟩ : ∃ x, runM src = x := ⟨_, rfl⟩
  have HX := Lib.hid hx
  clear hx hdv hrv hok
  generalize hlf : leftsM src = lf at *
  have HLF := Lib.hid hlf
  generalize hdn : src.decls.length = dn at *
  have HDN := Lib.hid hdn
  generalize hrn : src.rules.length = rn at *
  have HRN := Lib.hid hrn
  clear hlf hdn hrn
  have hcap : It.cap 120 = 120 := by decide
  rw [hcap] at NW NW1
  obtain ⟨y, hy⟩ : ∃ y, makeM src = y := ⟨_, rfl⟩
  rw [hy]
  have Y1 := Lib.hid (fun e q (h : x = .no e q) => show y = .no e q from hy ▸ makeM_no (HX.out.trans h))
  have Y2 := Lib.hid (fun st (h : x = .ok st) => show y = .ok (gramM st src) from hy ▸ makeM_ok (HX.out.trans h))
  clear hy
  go_enter Tryz.func18, Tryz.ntmps18
  go_wp2_with (first
    | (go_at_call 33; refine (LE.out _ B0.out).mono ?_; rintro e w1 ⟨b1, n1, D1, rfl, hb1, hM1, hK1, hbl⟩; have HB1 := Lib.hid hb1; clear hb1; have M1 := Lib.hid hM1; have K1 := Lib.hid hK1; have L1 := Lib.hid hbl; clear hM1 hK1 hbl)
    | (go_at_call 34; ((with_reducible refine (NW1.out _).mono ?_)); rintro e w3 ⟨p1, S1, rfl, hq1, hS1, hN1, hbl⟩; have M2 := Lib.hid (And.intro hS1 (And.intro hN1 hbl)); clear hq1 hS1 hN1 hbl)
    | (go_at_call 34; refine (NW.out _).mono ?_; rintro e w4 ⟨p2, S2, rfl, hq2, hS2, hN2, hbl⟩; have M3 := Lib.hid (And.intro hS2 (And.intro hN2 hbl)); have k4 := Gr.step L1.out (Gr.step (Gr.boxed w1 (.map #[] 0)) (Gr.step M2.out.2.2 hbl)); have K4 := Lib.hid k4; obtain ⟨f0, f1, ff⟩ := (BN.out.went k4).two; have hN4 : w.heap.size < w4.heap.size := (BN.out.went k4).lt; clear hq2 hS2 hN2 hbl k4))
  obtain ⟨T0, hMA, hTB⟩ : ∃ T0 : Nat → Prop, MAt w4.heap.size T0 lf st0 (w4.alloc (.cells #[.map (some b1), .map (some w1.heap.size), .pointer (some ⟨p1, 0, none⟩), .pointer (some ⟨p2, 0, none⟩), .string ⟨#[]⟩] 84)) ∧ ∀ k, T0 k → w.heap.size + 2 ≤ k :=
    ⟨_, made_at M1.out K1.out M1.out.lt rfl rfl M2.out.2.2 M2.out.2.1 M2.out.1 M3.out.2.2 M3.out.2.1 M3.out.1 rfl rfl, fun k hk => by have := made_low HB1.out L1.out M2.out.2.2 M2.out.1 M3.out.2.2 M3.out.1 k hk; simpa using this⟩
  have b5 := Gr.boxed w4 (.cells #[.map (some b1), .map (some w1.heap.size), .pointer (some ⟨p1, 0, none⟩), .pointer (some ⟨p2, 0, none⟩), .string ⟨#[]⟩] 84)
  have BW5 := Lib.hid (Gr.step B0.out (Gr.step K4.out b5))
  have N5 := Lib.hid ((BN.out.went K4.out).went b5)
  have R5 := Lib.hid ((BR.out.went K4.out).went b5)
  have MA := Lib.hid hMA
  have TB := Lib.hid hTB
  clear hMA hTB b5 M1 K1 M2 M3 L1 K4 BN BR B0 LE NW NW1 f0 f1 ff HB1 hmm hcap
  generalize (w4.alloc (.cells #[.map (some b1), .map (some w1.heap.size), .pointer (some ⟨p1, 0, none⟩), .pointer (some ⟨p2, 0, none⟩), .string ⟨#[]⟩] 84)) = W5 at *
  generalize w4.heap.size = m at *
  have FW := Lib.hid (fun w' (hF : Sep.Fr T0 W5 w') => BW5.out.trans (hF.below (m := w.heap.size) (fun k hk => by have := TB.out k hk; omega) BW5.out.size))
  have TT := Lib.hid (fun (T : Nat → Prop) (hE : Sep.Ext T T0 W5) k (hk : T k) => show w.heap.size ≤ k from by
    rcases hE k hk with h | h
    · have := TB.out k h; omega
    · have := BW5.out.size; omega)
  have NT := Lib.hid (show ¬ T0 w.heap.size from fun h => by have := TB.out _ h; omega)
  have RT := Lib.hid (show ¬ T0 (w.heap.size + 1) from fun h => by have := TB.out _ h; omega)
  go_loopg [17] dn (fun g i wr => DLoop m T0 lf src x W5 g i wr)
  case atStart =>
    refine ⟨0, st0, T0, by rw [HDN.out]; omega, rfl, ?_, MA.out, .refl _ _, .refl _ _, Nat.zero_le _⟩
    have := HX.out
    unfold runM at this
    rw [HLF.out] at this
    exact this
  case round =>
    clear HX MA
    obtain ⟨j, st, T, hj, rfl, hX, hA, hF, hE, hS⟩ := hrel
    rw [HDN.out] at hj
    have F := Lib.hid hF
    have E := Lib.hid hE
    have A := Lib.hid hA
    have X := Lib.hid hX
    have bw := FW.out _ hF
    have tt := TT.out _ hE
    clear hA hF hE hX
    by_cases hlt : j < dn
    · have hj2 : j < src.decls.length := by rw [HDN.out]; exact hlt
      obtain ⟨g, c', u, hv, k0, k1, k2, k3, kT⟩ := DV.out.get j hj2
      obtain ⟨a3, c3, rfl⟩ := row_shape kT
      simp only [Value.slice.injEq] at hv
      have ha := hv.1
      clear hv
      subst ha
      replace k0 := Gr.cell_later bw k0
      replace k1 := Gr.cell_later bw k1
      replace k2 := Gr.cell_later bw k2
      replace k3 := Gr.cell_later bw k3
      have hdo := DO.out _ (List.getElem_mem hj2)
      have hXX := X.out
      rw [List.drop_eq_getElem_cons hj2, declsM_cons] at hXX
      generalize src.decls[j] = d at k0 k1 k2 k3 kT hdo hXX
      have b1' := Gr.boxed wr (.cells #[.int .i64 d.mark.k, .string d.mark.s, .int .i64 (d.mark.at_ : Int), .slice a3 d.names.length c3] 86)
      have B1 := Lib.hid b1'
      have DC := Lib.hid (mdecl_any (base := base) _ (A.out.went b1') d (.slice a3 d.names.length c3) (fun w' hF' => Toks.went kT ((Gr.step bw b1').trans (hF'.below tt (Gr.step bw b1').size))) hdo.2.2 hdo.1 hdo.2.1)
      have hg : g < wr.heap.size := World.block_lt_of_cell? wr ⟨g, j * 4, none⟩ k0
      have N := Lib.hid (Bk.new wr #[.int .i64 d.mark.k, .string d.mark.s, .int .i64 (d.mark.at_ : Int), .slice a3 d.names.length c3] 86 _ rfl)
      have HST := Lib.hid (fun st' (h : declM lf st d = .ok st') => declM_start h hS hdo)
      clear b1' X kT hdo bw tt
      generalize d.names.length = n3 at *
      cases hp : declM lf st d with
      | ok st2 =>
        have hs2 := HST.out _ hp
        rw [hp] at DC hXX
        have X2 := Lib.hid (show ((declsM lf st2 (src.decls.drop (j + 1))).bind fun st => rulesM lf st src.rules) = x from hXX)
        clear hp hXX
        go_wp2_with (go_at_call 35; refine DC.out.mono ?_; rintro e w5 ⟨rfl, T2, g1, g2, g3⟩; have G1 := Lib.hid g1; have G2 := Lib.hid g2; have G3 := Lib.hid g3; clear g1 g2 g3)
        go_roundg (dn - (j + 1))
        case rel => exact ⟨j + 1, st2, T2, by rw [HDN.out]; omega, by go_num, X2.out, G1.out, (fr_then F.out B1.out).trans G2.out E.out, E.out.trans (G3.out.at B1.out.size) F.out.size, hs2⟩
        case measure => omega
      | no e1 q =>
        rw [hp] at DC hXX
        have X2 := Y1.out e1 q (show x = Mo.no e1 q from hXX.symm)
        clear hp hXX
        subst X2
        go_wp2_with (go_at_call 35; refine DC.out.mono ?_; rintro e w5 ⟨rfl, g2⟩; have G2 := Lib.hid g2; clear g2)
        exact ⟨rfl, rfl, FW.out _ ((fr_then F.out B1.out).trans G2.out E.out)⟩
    · have hend : src.decls.drop j = [] := List.drop_eq_nil_of_le (by rw [HDN.out]; omega)
      have X2 := Lib.hid (show rulesM lf st src.rules = x by rw [← X.out, hend]; rfl)
      clear X hend bw tt
      obtain ⟨z0, z1, zf⟩ := (N5.out.fr F.out NT.out).two
      have hzl := (N5.out.fr F.out NT.out).lt
      go_wp2
      go_loopg [27] rn (fun g i wr => RLoop m T0 lf src x W5 g i wr)
      case atStart => exact ⟨0, st, T, by rw [HRN.out]; omega, rfl, X2.out, A.out, F.out, E.out, hS⟩
      case round =>
        clear X2 A F E hS z0 z1 zf hzl
        obtain ⟨j, st, T, hj, rfl, hX, hA, hF, hE, hS⟩ := hrel
        rw [HRN.out] at hj
        have F := Lib.hid hF
        have E := Lib.hid hE
        have A := Lib.hid hA
        have X := Lib.hid hX
        have bw := FW.out _ hF
        have tt := TT.out _ hE
        clear hA hF hE hX
        by_cases hlt : j < rn
        · have hj2 : j < src.rules.length := by rw [HRN.out]; exact hlt
          obtain ⟨g, c', u, lo, hi, hv, k0, k1, k2, k3, kl, kh, kS⟩ := RV.out.get j hj2
          obtain ⟨a3, c3, rfl⟩ := kS.sides.len
          simp only [Value.slice.injEq] at hv
          have ha := hv.1
          clear hv
          subst ha
          replace k0 := Gr.cell_later bw k0
          replace k1 := Gr.cell_later bw k1
          replace k2 := Gr.cell_later bw k2
          replace k3 := Gr.cell_later bw k3
          have hro := RO.out _ (List.getElem_mem hj2)
          have hXX := X.out
          rw [List.drop_eq_getElem_cons hj2, rulesM_cons] at hXX
          generalize src.rules[j] = R at k0 k1 k2 k3 kS hro hXX
          have b1' := Gr.boxed wr (.cells #[.int .i64 R.left.k, .string R.left.s, .int .i64 (R.left.at_ : Int), .slice a3 R.sides.length c3] 90)
          have B1 := Lib.hid b1'
          have bw1 := Gr.step bw b1'
          have RC := Lib.hid (mrule_any _ (A.out.went b1') R (.slice a3 R.sides.length c3) (kS.at fun g _ _ hl => bw1.block g hl) (fun k hk => by have := tt k hk; omega) (by have := bw1.size; omega) hro)
          have hg : g < wr.heap.size := World.block_lt_of_cell? wr ⟨g, j * 4, none⟩ k0
          have N := Lib.hid (Bk.new wr #[.int .i64 R.left.k, .string R.left.s, .int .i64 (R.left.at_ : Int), .slice a3 R.sides.length c3] 90 _ rfl)
          have HST := Lib.hid (fun st' (h : ruleM lf st R = .ok st') => show st'.start.size ≤ maxLen from by rw [ruleM_start h]; exact hS)
          clear b1' X kS hro bw tt bw1
          generalize R.sides.length = n3 at *
          cases hp : ruleM lf st R with
          | ok st2 =>
            have hs2 := HST.out _ hp
            rw [hp] at RC hXX
            have X2 := Lib.hid (show rulesM lf st2 (src.rules.drop (j + 1)) = x from hXX)
            clear hp hXX
            go_wp2_with (go_at_call 36; refine RC.out.mono ?_; rintro e w5 ⟨rfl, T2, g1, g2, g3⟩; have G1 := Lib.hid g1; have G2 := Lib.hid g2; have G3 := Lib.hid g3; clear g1 g2 g3)
            go_roundg (rn - (j + 1))
            case rel => exact ⟨j + 1, st2, T2, by rw [HRN.out]; omega, by go_num, X2.out, G1.out, (fr_then F.out B1.out).trans G2.out E.out, E.out.trans (G3.out.at B1.out.size) F.out.size, hs2⟩
            case measure => omega
          | no e1 q =>
            rw [hp] at RC hXX
            have X2 := Y1.out e1 q (show x = Mo.no e1 q from hXX.symm)
            clear hp hXX
            subst X2
            go_wp2_with (go_at_call 36; refine RC.out.mono ?_; rintro e w5 ⟨rfl, g2⟩; have G2 := Lib.hid g2; clear g2)
            exact ⟨rfl, rfl, FW.out _ ((fr_then F.out B1.out).trans G2.out E.out)⟩
        · have hend : src.rules.drop j = [] := List.drop_eq_nil_of_le (by rw [HRN.out]; omega)
          have X2 := Y2.out st (show x = .ok st by rw [← X.out, hend]; rfl)
          subst X2
          have GC := Lib.hid (GM.out m T st wr bw A.out hS)
          have n5 := N5.out.fr F.out NT.out
          have r5 := R5.out.fr F.out RT.out
          obtain ⟨z0, z1, zf⟩ := n5.two
          have hzl := r5.lt
          have RR := Lib.hid r5
          have BB := Lib.hid bw
          clear X hend bw tt n5 r5 GM
          generalize gramM st src = G at *
          go_wp2_with (go_at_call 37; refine GC.out.mono ?_; rintro e w5 ⟨⟨s1, s2, s3, s4, s5, s6⟩, rfl, hG, hb, hK⟩; have KG := Lib.hid hK; have r6 := RR.out.went hb; have R6 := Lib.hid r6; obtain ⟨y0, y1, y2, y3, yf⟩ := r6.four; have hyl := r6.lt; have BB2 := Lib.hid (Gr.step BB.out hb); have hs5 : wr.heap.size ≤ w5.heap.size := hb.size; clear hG hK hb r6)
          refine bodyPost_ret (v := Gr.gv ⟨s1, s2, s3, s4, s5, s6⟩ G) (by simp [results, Tryz.results18, go_sem, yf, y0, y1, y2, y3, hyl]) rfl ?_
          have hF4 := fr_set4 w5 (w.heap.size + 1) (.slice s1 G.terms.length s2) (.slice s3 G.nons.length s4) (.slice s5 G.rules.length s6) (.int .i64 G.start)
          refine ⟨⟨s1, s2, s3, s4, s5, s6⟩, rfl, fun Z w'' hz hf => KG.out (fun k => k = w.heap.size + 1 ∨ Z k) w'' (fun q hq => ?_) ?_, below_set4 BB2.out (by omega) _ _ _ _⟩
          · rcases hq with rfl | hq
            · exact ⟨hzl, bk_nostr R6.out (by simp) (by simp) (by simp)⟩
            · obtain ⟨h1, h2⟩ := hz q hq
              exact ⟨by omega, fun j s hc => h2 j s (hF4.cell hc (by simp; omega))⟩
          · exact (hF4.mono (T := fun k => k = w.heap.size + 1 ∨ Z k) fun k hk => .inl hk).trans (hf.mono (T := fun k => k = w.heap.size + 1 ∨ Z k) fun k hk => .inr hk) fun k hk => .inl hk

end Go.Proofs.YtimfiaphhomelaaGreatDoor.Rd
