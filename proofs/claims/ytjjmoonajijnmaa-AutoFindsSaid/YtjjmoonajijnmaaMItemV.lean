/-
  Package item: spread: the search, by induction on how many items are missing.
  Package item: valid: the right items of a list, as a set.
-/
import Derived.Test.YtjjmoonajijnmaaMCheck
import Derived.Test.YtjjmoonajijnmaaItemLeaf
import Derived.Test.YtjjmoonajijnmaaItemDfs
namespace Go.Proofs.Ytjjmoonajijnmaa.Im
open Go.RowKit Go.Maps
open Go.Proofs.Ytjjmoonajijnmaa.Gr (Gram Sh gv GAt Bx step boxed drawn checkN check_any cell_new cell_old cell_later free_new free_old bool_of int_of)
set_option linter.unusedVariables false

theorem bx_fr {W w w' : World} {h : Sh} {G : Gram} {S : Nat → Prop} (k : Bx W h G w) (f : Sep.Fr S w w') (hS : ∀ i, S i → W.heap.size + 1 ≤ i) : Bx W h G w' := by
  have hn : ¬ S W.heap.size := fun h => by have := hS _ h; omega
  exact ⟨k.below.trans (f.below (fun i hi => by have := hS i hi; omega) k.below.size), ⟨f.cell k.box.x0 hn, f.cell k.box.x1 hn, f.cell k.box.x2 hn, f.cell k.box.x3 hn⟩⟩

/-- The right items of the first j. -/
def VTo (G : Gram) (L : List Itm) (j : Nat) (x : Itm) : Prop := ∃ q, ∃ h : q < L.length, q < j ∧ x = L[q] ∧ rightB G L[q] = true
theorem vto_zero {G : Gram} {L : List Itm} {x : Itm} : VTo G L 0 x ↔ False := ⟨fun ⟨_, _, h, _⟩ => by omega, False.elim⟩
theorem vto_hit {G : Gram} {L : List Itm} {j : Nat} (hj : j < L.length) (hr : rightB G L[j] = true) (x : Itm) : VTo G L j x ∨ x = L[j] ↔ VTo G L (j + 1) x := by
  constructor
  · rintro (⟨q, h1, h2, h3⟩ | e)
    · exact ⟨q, h1, by omega, h3⟩
    · exact ⟨j, hj, by omega, e, hr⟩
  · rintro ⟨q, h1, h2, h3, h4⟩
    by_cases e : q = j
    · subst e
      exact .inr h3
    · exact .inl ⟨q, h1, by omega, h3, h4⟩
theorem vto_miss {G : Gram} {L : List Itm} {j : Nat} (hj : j < L.length) (hr : ¬ rightB G L[j] = true) (x : Itm) : VTo G L j x ↔ VTo G L (j + 1) x := by
  constructor
  · rintro ⟨q, h1, h2, h3⟩
    exact ⟨q, h1, by omega, h3⟩
  · rintro ⟨q, h1, h2, h3, h4⟩
    by_cases e : q = j
    · subst e
      exact absurd h4 hr
    · exact ⟨q, h1, by omega, h3, h4⟩
theorem vto_all {G : Gram} {L : List Itm} (x : Itm) : VTo G L L.length x ↔ x ∈ L ∧ rightB G x = true := by
  constructor
  · rintro ⟨q, h1, _, h3, h4⟩
    subst h3
    exact ⟨List.getElem_mem h1, h4⟩
  · rintro ⟨h1, h2⟩
    obtain ⟨q, hq, rfl⟩ := List.getElem_of_mem h1
    exact ⟨q, hq, hq, rfl, h2⟩

/-- The right items of a list, of a grammar that may be. -/
def VSet (G : Gram) (L : List Itm) (x : Itm) : Prop := checkN G = 0 ∧ x ∈ L ∧ rightB G x = true
/-- A new set comes back. -/
def SetOf (X : Itm → Prop) (m : Nat) (w : World) (e : Ending) (w' : World) : Prop :=
  ∃ b n, e = .returned (.map (some b)) ∧ w.heap.size ≤ b ∧ n ≤ m ∧ MS b n X w' ∧ Below w.heap.size w w'

set_option maxRecDepth 100000 in
set_option maxHeartbeats 2000000 in
theorem valid_any (h : Sh) (G : Gram) (L : List Itm) (a : Option Addr) (c : Nat) (w : World) (k : GAt h G w) (kl : ItsA a L w) (hw : ∀ x ∈ L, W64 x) (hL : L.length ≤ 8796093022208) :
    Calls Try.prog 62 #[gv h G, .slice a L.length c] w (SetOf (VSet G L) L.length w) := by
  have X := Lib.hid (Bx.start h G w 36)
  have C := Lib.hid (fun w1 (b : Below w.heap.size w w1) => check_any h G w1 (k.went b))
  have F := Lib.hid (fun (x : Itm) w1 (b : Below w.heap.size w w1) => fits_any h G x w1 (k.went b))
  have KL := Lib.hid (fun w1 (b : Below w.heap.size w w1) => kl.went b)
  have HW := Lib.hid hw
  have M0 := Lib.hid (MSet.made (H := Nat) (w.alloc (.cells #[.slice h.a1 G.terms.length h.c1, .slice h.a2 G.nons.length h.c2, .slice h.a3 G.rules.length h.c3, .int .i64 G.start] 36)) Try.prog 51 unitElem (.agg []))
  have X1 := Lib.hid (X.out.alloc (.map #[] 0))
  have hs1 : (w.alloc (.cells #[.slice h.a1 G.terms.length h.c1, .slice h.a2 G.nons.length h.c2, .slice h.a3 G.rules.length h.c3, .int .i64 G.start] 36)).heap.size = w.heap.size + 1 := by simp
  rw [hs1] at M0
  clear k kl hw X hs1
  by_cases hc : checkN G = 0
  · rw [hc] at C
    unfold gv at C F ⊢
    have hmm := @run_makeMap Try.prog
    go_enter Try.func62, Try.ntmps62
    go_wp2_with (go_at_call 24; refine (C.out _ X1.out.below).mono ?_; rintro e w1 ⟨rfl, hb⟩; have X := Lib.hid (X1.out.went hb); have M := Lib.hid (M0.out.went hb); clear hb X1 M0)
    go_loopw [15] (fun i wr => ∃ j : Nat, j ≤ L.length ∧ i = .int .i64 j ∧ Bx w h G wr ∧ ∃ n ≤ j, MS (w.heap.size + 1) n (VTo G L j) wr) (fun i _ => L.length - (intOf i).toNat)
    case atStart => exact ⟨0, Nat.zero_le _, rfl, X.out, 0, Nat.le_refl _, M.out.iff fun x _ => vto_zero.symm⟩
    case round =>
      obtain ⟨j, hj, rfl, hX, n, hn, hM⟩ := hrel
      clear X M
      have X := Lib.hid hX
      have M := Lib.hid hM
      clear hX hM
      by_cases hlt : j < L.length
      · obtain ⟨b, o, rfl, c0, c1⟩ := (KL.out wr X.out.below).at j hlt
        have hx := HW.out _ (List.getElem_mem hlt)
        have HH := Lib.hid (fun q => vto_hit (G := G) (L := L) (j := j) hlt q)
        have HM := Lib.hid (fun q => vto_miss (G := G) (L := L) (j := j) hlt q)
        have e1 : ((L[j].1, L[j].2) : Itm) = L[j] := rfl
        generalize L[j] = x at *
        obtain ⟨x0, x1⟩ := x
        dsimp only at c0 c1
        have FX := Lib.hid (F.out (x0, x1) _ (X.out.alloc (.cells #[.int .i64 x0, .int .i64 x1] 51)).below)
        have XA := Lib.hid (X.out.alloc (.cells #[.int .i64 x0, .int .i64 x1] 51))
        have y0 : (wr.alloc (.cells #[.int .i64 x0, .int .i64 x1] 51)).cell? ⟨wr.heap.size, 0, none⟩ = some (.int .i64 x0) := cell_new rfl rfl
        have y1 : (wr.alloc (.cells #[.int .i64 x0, .int .i64 x1] 51)).cell? ⟨wr.heap.size, 1, none⟩ = some (.int .i64 x1) := cell_new rfl rfl
        have MA := Lib.hid (M.out.went (boxed wr (.cells #[.int .i64 x0, .int .i64 x1] 51)))
        have e2 : (VTo G L j (x0, x1)) = VTo G L j (x0, x1) := rfl
        obtain ⟨g0, g1, g2, g3⟩ := XA.out.box
        clear X M e1 e2
        by_cases hr : rightB G (x0, x1) = true
        · rw [hr] at FX
          unfold iv at FX
          go_wp2_with (first
            | (go_at_call 74; refine FX.out.mono ?_; rintro e w2 ⟨rfl, hb⟩; have X := Lib.hid (XA.out.went hb); have M := Lib.hid (MA.out.went hb); have z0 := cell_later hb y0; have z1 := cell_later hb y1; have PA := Lib.hid (put_any (x0, x1) hx (w.heap.size + 1) n (VTo G L j) w2 M.out (by unfold maxLen; omega)); clear hb)
            | (go_at_call 75; refine PA.out.mono ?_; rintro e w3 ⟨ok, _, rfl, hm, hf⟩; have MB := Lib.hid hm; have XB := Lib.hid (bx_fr X.out hf fun i hi => by omega); clear hm hf))
          go_roundw
          case rel => exact ⟨j + 1, by omega, by go_num, XB.out, n + 1, by omega, MB.out.iff fun x _ => HH.out hr x⟩
          case measure => simp [intOf]; omega
        · have hr' : rightB G (x0, x1) = false := by simpa using hr
          rw [hr'] at FX
          unfold iv at FX
          go_wp2_with (go_at_call 74; refine FX.out.mono ?_; rintro e w2 ⟨rfl, hb⟩; have X := Lib.hid (XA.out.went hb); have M := Lib.hid (MA.out.went hb); clear hb)
          go_roundw
          case rel => exact ⟨j + 1, by omega, by go_num, X.out, n, by omega, M.out.iff fun x _ => HM.out hr x⟩
          case measure => simp [intOf]; omega
      · have hE : j = L.length := by omega
        subst hE
        go_wp2
        go_ret
        refine ⟨_, n, rfl, by omega, hn, M.out.iff fun x _ => ?_, X.out.below⟩
        rw [vto_all]
        exact ⟨fun h => ⟨hc, h⟩, fun h => h.2⟩
  · have hb : (checkN G == 0) = false := by simpa using hc
    unfold gv at C ⊢
    have hmm := @run_makeMap Try.prog
    go_enter Try.func62, Try.ntmps62
    go_wp2_with (go_at_call 24; refine (C.out _ X1.out.below).mono ?_; rintro e w1 ⟨rfl, hb⟩; have X := Lib.hid (X1.out.went hb); have M := Lib.hid (M0.out.went hb); clear hb X1 M0)
    go_ret
    exact ⟨_, 0, rfl, by omega, Nat.zero_le _, M.out.iff fun x _ => ⟨False.elim, fun h => hc h.1⟩, X.out.below⟩

end Go.Proofs.Ytjjmoonajijnmaa.Im

namespace Go.Proofs.Ytjjmoonajijnmaa.Im
open Go.RowKit Go.Maps
open Go.Proofs.Ytjjmoonajijnmaa.Gr (Gram Sh gv GAt Bx Box step boxed drawn checkN ofN ofL of_any ivs cell_new cell_old cell_later free_new free_old bool_of int_of)
set_option linter.unusedVariables false

theorem reads_fr {a : Option Addr} {xs : List Value} {S : Nat → Prop} {w w' : World} (h : Sep.Reads a xs w) (f : Sep.Fr S w w') (hn : ∀ b o, a = some ⟨b, o, none⟩ → ¬ S b) : Sep.Reads a xs w' := fun i hi => by
  obtain ⟨b, o, e, hc⟩ := h i hi
  exact ⟨b, o, e, f.cell hc (hn b o e)⟩

/-- Behind the boxes of a grammar and of an item; of what was there nothing is written but block d. -/
structure Bo (W : World) (h : Sh) (G : Gram) (x : Itm) (d : Nat) (w : World) : Prop where
  fr : Sep.Fr (· = d) W w
  box : Box W.heap.size h G w
  i0 : w.cell? ⟨W.heap.size + 1, 0, none⟩ = some (.int .i64 x.1)
  i1 : w.cell? ⟨W.heap.size + 1, 1, none⟩ = some (.int .i64 x.2)
theorem Bo.start (h : Sh) (G : Gram) (x : Itm) (d : Nat) (w : World) (T U : TypeId) : Bo w h G x d ((w.alloc (.cells #[.slice h.a1 G.terms.length h.c1, .slice h.a2 G.nons.length h.c2, .slice h.a3 G.rules.length h.c3, .int .i64 G.start] T)).alloc (.cells #[.int .i64 x.1, .int .i64 x.2] U)) := by
  have k := Bi.start h G x w T U
  exact ⟨.of_below k.below, k.bx.box, k.i0, k.i1⟩
theorem Bo.later {W : World} {h : Sh} {G : Gram} {x : Itm} {d : Nat} {w w' : World} (k : Bo W h G x d w) (hd : d < W.heap.size) (f : Sep.Fr (· = d) w w') : Bo W h G x d w' := by
  have h0 : ¬ W.heap.size = d := by omega
  have h1 : ¬ W.heap.size + 1 = d := by omega
  exact ⟨k.fr.trans f (.refl _ _), ⟨f.cell k.box.x0 h0, f.cell k.box.x1 h0, f.cell k.box.x2 h0, f.cell k.box.x3 h0⟩, f.cell k.i0 h1, f.cell k.i1 h1⟩
theorem Bo.went {W : World} {h : Sh} {G : Gram} {x : Itm} {d : Nat} {w w' : World} (k : Bo W h G x d w) (hd : d < W.heap.size) (hb : Below w.heap.size w w') : Bo W h G x d w' := k.later hd (.of_below hb)

theorem mem_ofN_lt {G : Gram} {s : Int} {i : Nat} (h : i ∈ ofN G s) : i < G.rules.length := (Gr.mem_ofN.1 h).1
/-- What put leaves, with no more entries than there are right items. -/
theorem put_tight {G : Gram} {d n : Nat} {X : Itm → Prop} {x : Itm} {w : World} (hX : ∀ y, X y → rightB G y = true) (hx : rightB G x = true) (h : MS d n (fun y => X y ∨ y = x) w) : MS d (allI G).length (fun y => X y ∨ y = x) w :=
  h.tight ktI (allI G) fun y _ hy => mem_all (hy.elim (hX y) fun e => e ▸ hx)

set_option maxRecDepth 100000 in
set_option maxHeartbeats 2000000 in
/-- An item that is there. -/
theorem spread_met (h : Sh) (G : Gram) (hv : checkN G = 0) (d : Nat) (x : Itm) (X : Itm → Prop) (w : World) (hx : rightB G x = true) (hX : ∀ y, X y → rightB G y = true) (hXx : X x) (hs : MS d (allI G).length X w) :
    Calls Try.prog 63 #[.map (some d), gv h G, iv x] w fun e w' => e = .returned (.tuple #[]) ∧ ∃ Y, Sprd G X x Y ∧ MS d (allI G).length Y w' ∧ Sep.Fr (· = d) w w' := by
  have ha := all_small hv
  have hd := hs.lt
  have B := Lib.hid (Bo.start h G x d w 36 51)
  have P := Lib.hid (put_any x (right_w64 hv hx) d (allI G).length X _ (hs.went (Bi.start h G x w 36 51).below) (by unfold maxLen; omega))
  obtain ⟨x0, x1⟩ := x
  unfold gv iv at *
  dsimp only at B P ⊢
  go_enter Try.func63, Try.ntmps63
  go_wp2_with (go_at_call 75; refine P.out.mono ?_; rintro e w1 ⟨ok, hok, rfl, hm, hf⟩; obtain rfl : ok = false := (by cases ok with | false => rfl | true => exact absurd hXx (hok.1 rfl)); have PM := Lib.hid hm; have PF := Lib.hid hf; clear hm hf hok)
  refine bodyPost_ret (v := .tuple #[]) (by simp [results, Try.results63, go_sem]) rfl ?_
  exact ⟨rfl, _, .none hXx fun y => .rfl, put_tight hX hx PM.out, B.out.fr.trans PF.out (.refl _ _)⟩

set_option maxRecDepth 100000 in
set_option maxHeartbeats 4000000 in
theorem spread_any (h : Sh) (G : Gram) (hv : checkN G = 0) (W0 : World) (k : GAt h G W0) (d : Nat) (hd : W0.heap.size ≤ d) : ∀ (N : Nat) (M : List Itm) (x : Itm) (X : Itm → Prop) (w : World), M.length ≤ N → rightB G x = true → (∀ y, X y → rightB G y = true) → (∀ y, rightB G y = true → ¬ X y → y ∈ M) →
    Below W0.heap.size W0 w → MS d (allI G).length X w →
    Calls Try.prog 63 #[.map (some d), gv h G, iv x] w fun e w' => e = .returned (.tuple #[]) ∧ ∃ Y, Sprd G X x Y ∧ MS d (allI G).length Y w' ∧ Sep.Fr (· = d) w w' := by
  have ha := all_small hv
  have hr3 := (many_len (Gr.check_ok hv).1).1
  intro N
  induction N with
  | zero =>
    intro M x X w hM hx hX hm hb hs
    have hMe : M = [] := by cases M with | nil => rfl | cons _ _ => simp at hM
    subst hMe
    have hXx : X x := by
      rcases Classical.em (X x) with q | q
      · exact q
      · have := hm x hx q
        cases this
    exact spread_met h G hv d x X w hx hX hXx hs
  | succ N ih =>
    intro M x X w hM hx hX hm hb hs
    rcases Classical.em (X x) with hXx | hXx
    · exact spread_met h G hv d x X w hx hX hXx hs
    have hMx := hm x hx hXx
    have hM' : (M.erase x).length ≤ N := by
      rw [List.length_erase_of_mem hMx]
      omega
    have hdw := hs.lt
    have B := Lib.hid (Bo.start h G x d w 36 51)
    have P := Lib.hid (put_any x (right_w64 hv hx) d (allI G).length X _ (hs.went (Bi.start h G x w 36 51).below) (by unfold maxLen; omega))
    have HB := Lib.hid (fun w1 (f : Sep.Fr (· = d) w w1) => show Below W0.heap.size W0 w1 from hb.trans (f.below (fun i hi => by omega) hb.size))
    have HN := Lib.hid (fun w1 (b : Below W0.heap.size W0 w1) => behind_any h G x w1 (k.went b))
    have HO := Lib.hid (fun w1 (b : Below W0.heap.size W0 w1) => of_any h G (behV G x) w1 (k.went b) (by omega))
    have IH := Lib.hid (fun (r : Int) (Z : Itm → Prop) w1 (b : Below W0.heap.size W0 w1) (hr : rightB G (r, 0) = true) (hZ : ∀ y, Z y → rightB G y = true) (hZX : ∀ y, X y → Z y) (hZx : Z x) (hz : MS d (allI G).length Z w1) => ih (M.erase x) (r, 0) Z w1 hM' hr hZ (fun y hy hn => (List.mem_erase_of_ne (fun e => hn (by rw [e]; exact hZx))).2 (hm y hy fun q => hn (hZX y q))) b hz)
    obtain ⟨e1, e2⟩ := next_of hx
    rw [e1, e2] at HN
    clear e1 e2 ih k hs hm hM hM' hMx
    generalize hnb : behB G x = nb at HN
    obtain ⟨x0, x1⟩ := x
    unfold gv iv at *
    dsimp only at B P ⊢
    go_enter Try.func63, Try.ntmps63
    go_wp2_with (first
      | (go_at_call 75; refine P.out.mono ?_; rintro e w1 ⟨ok, hok, rfl, hm, hf⟩; obtain rfl : ok = true := hok.2 hXx; have PM := Lib.hid (put_tight hX hx hm); have PB := Lib.hid (B.out.later hdw hf); obtain ⟨⟨g0, g1, g2, g3⟩, y0, y1⟩ := (⟨PB.out.box, PB.out.i0, PB.out.i1⟩ : _ ∧ _ ∧ _); clear hm hf hok B P)
      | (go_at_call 76; refine (HN.out _ (HB.out _ PB.out.fr)).mono ?_; rintro e w2 ⟨rfl, hb2⟩; have QM := Lib.hid (PM.out.went hb2); have QB := Lib.hid (PB.out.went hdw hb2); obtain ⟨⟨g0, g1, g2, g3⟩, y0, y1⟩ := (⟨QB.out.box, QB.out.i0, QB.out.i1⟩ : _ ∧ _ ∧ _); clear hb2 PM PB)
      | (go_at_call 53; refine (HO.out _ (HB.out _ QB.out.fr)).mono ?_; rintro e w3 ⟨a3, c3, rfl, hr, hn, hb3⟩; have RM := Lib.hid (QM.out.went hb3); have RB := Lib.hid (QB.out.went hdw hb3); have RL := Lib.hid hr; have RN := Lib.hid (show ∀ b o, a3 = some ⟨b, o, none⟩ → ¬ b = d from fun b o e => by have := hn _ e; have := QB.out.fr.size; dsimp only at *; omega); clear hr hn hb3 QM QB))
    clear HN HO
    have PS := Lib.hid (Part.start (K := ofN G (behV G (x0, x1))) hx (fun y => (Iff.rfl : (X y ∨ y = (x0, x1)) ↔ _)))
    have HK := Lib.hid (fun j (hj : j < (ofN G (behV G (x0, x1))).length) => show (ofL G (behV G (x0, x1)))[j]'(by rw [Gr.ofL_length]; exact hj) = (((ofN G (behV G (x0, x1)))[j] : Nat) : Int) by simp [ofL, Gr.ofI, ofN])
    have hkl := Gr.ofL_length G (behV G (x0, x1))
    have hsm : (ofN G (behV G (x0, x1))).length ≤ 300 := by
      have := Gr.ofI_le G.rules (behV G (x0, x1)) G.rules.length
      rw [← hkl]
      exact Nat.le_trans this hr3
    rw [hkl]
    go_loopw [24] (fun i wr => ∃ j : Nat, j ≤ (ofN G (behV G (x0, x1))).length ∧ i = .int .i64 j ∧ Bo w h G (x0, x1) d wr ∧ Sep.Reads a3 (ivs (ofL G (behV G (x0, x1)))) wr ∧ ∃ Z, Part G X (x0, x1) (ofN G (behV G (x0, x1))) j Z ∧ MS d (allI G).length Z wr) (fun i _ => (ofN G (behV G (x0, x1))).length - (intOf i).toNat)
    case atStart => exact ⟨0, Nat.zero_le _, rfl, RB.out, RL.out, _, PS.out, RM.out⟩
    case round =>
      obtain ⟨j, hj, rfl, hB, hL, Z, hP, hZ⟩ := hrel
      clear RB RL RM PS
      obtain ⟨⟨g0, g1, g2, g3⟩, y0, y1⟩ := (⟨hB.box, hB.i0, hB.i1⟩ : _ ∧ _ ∧ _)
      have B := Lib.hid hB
      have L := Lib.hid hL
      have PZ := Lib.hid hP
      have MZ := Lib.hid hZ
      by_cases hlt : j < (ofN G (behV G (x0, x1))).length
      · obtain ⟨b, o, rfl, hc⟩ := hL j (by simp [ivs]; omega)
        have hk : (ivs (ofL G (behV G (x0, x1))))[j]'(by simp [ivs]; omega) = .int .i64 (((ofN G (behV G (x0, x1)))[j] : Nat) : Int) := by
          simp only [ivs, List.getElem_map, Gr.iv]
          rw [HK.out j hlt]
        rw [hk] at hc
        have PST := Lib.hid (fun (Y : Itm → Prop) => Part.step (Y := Y) hv hx hP hlt)
        have hkr : rightB G ((((ofN G (behV G (x0, x1)))[j] : Nat) : Int), 0) = true := right_open (Nat.le_of_lt (mem_ofN_lt (List.getElem_mem hlt)))
        have C := Lib.hid (IH.out _ Z wr (HB.out _ hB.fr) hkr (hP.right hX) hP.old hP.own hZ)
        clear hk hL hP hZ hB hkr
        generalize (ofN G (behV G (x0, x1)))[j] = r at *
        go_wp2_with (go_at_call 63; refine C.out.mono ?_; rintro e w4 ⟨rfl, Y, hs, hm, hf⟩; have MY := Lib.hid hm; have PY := Lib.hid (PST.out Y hs); have BY := Lib.hid (B.out.later hdw hf); have LY := Lib.hid (reads_fr L.out hf RN.out); clear hs hm hf)
        go_roundw
        case rel => exact ⟨j + 1, by omega, by go_num, BY.out, LY.out, Y, PY.out, MY.out⟩
        case measure => simp [intOf]; omega
      · have hE : j = (ofN G (behV G (x0, x1))).length := by omega
        subst hE
        go_wp2
        go_end0
        exact ⟨rfl, Z, PZ.out.done, MZ.out, B.out.fr⟩

end Go.Proofs.Ytjjmoonajijnmaa.Im
