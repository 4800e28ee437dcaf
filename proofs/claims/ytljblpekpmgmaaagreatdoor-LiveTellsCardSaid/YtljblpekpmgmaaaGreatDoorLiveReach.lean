/-
  Package live: reach, which calls itself, findReached. Condition: the grammar's sizes are within bounds and its numbers are symbols.
-/
import Derived.Test.YtljblpekpmgmaaaGreatDoorLiveFind
namespace Go.Proofs.YtljblpekpmgmaaaGreatDoor.Lv
open Go.RowKit Go.Maps
open Go.Proofs.YtljblpekpmgmaaaGreatDoor.Gr
open Go.Proofs.YtljblpekpmgmaaaGreatDoor.Bt (SetAt SetV has Keeps putR putI Upto)
set_option linter.unusedVariables false

/-! ### What a set holds behind a call -/

/-- All that x leads to is in the set. -/
def Cl (G : Gram) (C : Nat → Bool) (x : Int) : Prop := ∀ r ∈ G.rules, r.1 = x → ∀ y ∈ r.2, has C y = true
structure Grew (G : Gram) (B C : Nat → Bool) (s : Int) : Prop where
  mono : ∀ x, has B x = true → has C x = true
  here : has C s = true
  sound : Rch G s → Sound (Rch G) B → Sound (Rch G) C
  closed : ∀ x, has C x = true → has B x = true ∨ Cl G C x
structure Mid (G : Gram) (B C : Nat → Bool) (s : Int) : Prop where
  mono : ∀ x, has B x = true ∨ x = s → has C x = true
  sound : Rch G s → Sound (Rch G) B → Sound (Rch G) C
  closed : ∀ x, has C x = true → has B x = true ∨ x = s ∨ Cl G C x
theorem Cl.mono {G : Gram} {C D : Nat → Bool} {x : Int} (h : Cl G C x) (k : ∀ x, has C x = true → has D x = true) : Cl G D x := fun r hr e y hy => k y (h r hr e y hy)
theorem Grew.same {G : Gram} {B : Nat → Bool} {s : Int} (h : has B s = true) : Grew G B B s := ⟨fun _ h => h, h, fun _ h => h, fun _ h => .inl h⟩
theorem Mid.start {G : Gram} {B : Nat → Bool} {s : Nat} : Mid G B (Bt.put B s) (s : Int) :=
  ⟨fun x hx => has_put.2 hx, fun hr hs => sound_put hs hr, fun x hx => by
    rcases has_put.1 hx with h | h
    · exact .inl h
    · exact .inr (.inl h)⟩
theorem Mid.step {G : Gram} {B C D : Nat → Bool} {s y : Int} (h : Mid G B C s) {r : Int × List Int} (hr : r ∈ G.rules) (e : r.1 = s) (hy : y ∈ r.2) (g : Grew G C D y) : Mid G B D s :=
  ⟨fun x hx => g.mono x (h.mono x hx), fun hs hS => g.sound (.step r hr (e ▸ hs) y hy) (h.sound hs hS), fun x hx => by
    rcases g.closed x hx with h1 | h1
    · rcases h.closed x h1 with h2 | h2 | h2
      · exact .inl h2
      · exact .inr (.inl h2)
      · exact .inr (.inr (h2.mono g.mono))
    · exact .inr (.inr h1)⟩
theorem Mid.end {G : Gram} {B C : Nat → Bool} {s : Int} (h : Mid G B C s) (hc : Cl G C s) : Grew G B C s :=
  ⟨fun x hx => h.mono x (.inl hx), h.mono s (.inr rfl), h.sound, fun x hx => by
    rcases h.closed x hx with h1 | rfl | h1
    · exact .inl h1
    · exact .inr hc
    · exact .inr h1⟩
/-- The first j rules of a list lead into the set. -/
def DoneR (G : Gram) (L : List Int) (C : Nat → Bool) (j : Nat) : Prop := ∀ i (h : i < L.length), i < j → ∀ y ∈ rightOf G L[i], has C y = true
def DoneS (R : List Int) (C : Nat → Bool) (m : Nat) : Prop := ∀ i (h : i < R.length), i < m → has C R[i] = true
theorem doneR_zero (G : Gram) (L : List Int) (C : Nat → Bool) : DoneR G L C 0 := fun _ _ h => absurd h (by omega)
theorem doneS_zero (R : List Int) (C : Nat → Bool) : DoneS R C 0 := fun _ _ h => absurd h (by omega)
theorem DoneR.mono {G : Gram} {L : List Int} {C D : Nat → Bool} {j : Nat} (h : DoneR G L C j) (k : ∀ x, has C x = true → has D x = true) : DoneR G L D j := fun i hi hj y hy => k y (h i hi hj y hy)
theorem DoneS.step {R : List Int} {C D : Nat → Bool} {m : Nat} (h : DoneS R C m) (hm : m < R.length) (k : ∀ x, has C x = true → has D x = true) (e : has D R[m] = true) : DoneS R D (m + 1) := fun i hi hl => by
  by_cases he : i = m
  · subst he
    exact e
  · exact k _ (h i hi (by omega))
theorem DoneR.step {G : Gram} {L : List Int} {C : Nat → Bool} {j : Nat} (h : DoneR G L C j) (hj : j < L.length) (k : DoneS (rightOf G L[j]) C (rightOf G L[j]).length) : DoneR G L C (j + 1) := fun i hi hl y hy => by
  by_cases he : i = j
  · subst he
    obtain ⟨m, hm, e⟩ := List.getElem_of_mem hy
    subst e
    exact k m hm hm
  · exact h i hi (by omega) y hy
theorem doneR_all {G : Gram} {C : Nat → Bool} {s : Int} (h : DoneR G (ofL G s) C (ofL G s).length) : Cl G C s := fun r hr e y hy => by
  obtain ⟨j, hj, e2⟩ := List.getElem_of_mem hr
  subst e2
  have hm : (j : Int) ∈ ofL G s := by
    unfold ofL ofI
    exact List.mem_map.2 ⟨j, mem_ofTo.2 ⟨hj, by rw [leftOf_get hj]; exact e⟩, rfl⟩
  obtain ⟨i, hi, e3⟩ := List.getElem_of_mem hm
  refine h i hi hi y ?_
  rw [e3, rightOf_get hj]
  exact hy
theorem miss_mono {n : Nat} {B C : Nat → Bool} (h : ∀ x, has B x = true → has C x = true) : miss n C ≤ miss n B := by
  induction n with
  | zero => exact Nat.le_refl _
  | succ n ih =>
    unfold miss
    have h1 : B n = true → C n = true := fun hb => by
      have := h (n : Int) (by rw [Bt.has_nat]; exact hb)
      rwa [Bt.has_nat] at this
    cases hb : B n with
    | true => rw [h1 hb]; simpa using ih
    | false =>
      simp only [Bool.false_eq_true, if_false]
      split <;> omega
theorem rch_full {G : Gram} {C : Nat → Bool} (h : Grew G (fun _ => false) C G.start) : Full (Rch G) C := fun s =>
  ⟨h.sound .start (sound_empty _) s, fun hs => rch_closed (P := fun x => has C x = true) h.here (fun r hr hl y hy => by
    rcases h.closed r.1 hl with h1 | h1
    · obtain ⟨_, _, h1⟩ := has_int.1 h1
      cases h1
    · exact h1 r hr rfl y hy) hs⟩

/-! ### The walk -/

theorem listed_own' {G : Gram} {s : Int} {i : Nat} (hi : i < (ofL G s).length) : ∃ j : Nat, (ofL G s)[i] = (j : Int) ∧ ∃ hj : j < G.rules.length, G.rules[j].1 = s := by
  have hm : (ofL G s)[i] ∈ ofL G s := List.getElem_mem hi
  unfold ofL ofI at hm
  obtain ⟨k, hk, e⟩ := List.mem_map.1 hm
  obtain ⟨h1, h2⟩ := mem_ofTo.1 hk
  exact ⟨k, e.symm, h1, by rw [← leftOf_get h1]; exact h2⟩

theorem keeps_of {d : Nat} {w w' : World} (h : Below w.heap.size w w') : Keeps d w w' := ⟨h.os, h.tape, h.output, h.size, fun k hk _ => h.block k hk⟩

/-- Behind the box of a grammar; the set has grown. -/
structure Rs (W : World) (h : Sh) (G : Gram) (p d n : Nat) (C : Nat → Bool) (w : World) : Prop where
  box : Box W.heap.size h G w
  keep : Keeps d W w
  set : SetAt p d n C w
theorem Rs.went {W : World} {h : Sh} {G : Gram} {p d n : Nat} {C : Nat → Bool} {w w' : World} (k : Rs W h G p d n C w) (hb : Below w.heap.size w w') : Rs W h G p d n C w' :=
  ⟨k.box.later hb, k.keep.trans (keeps_of hb), set_went k.set hb⟩
theorem Rs.wrote {W : World} {h : Sh} {G : Gram} {p d n : Nat} {C D : Nat → Bool} {w w' : World} (k : Rs W h G p d n C w) (hd : d < W.heap.size) (hs : SetAt p d n D w') (hk : Keeps d w w') : Rs W h G p d n D w' := by
  have e : w'.heap[W.heap.size]? = w.heap[W.heap.size]? := hk.block _ (World.block_lt_of_cell? w ⟨W.heap.size, 0, none⟩ k.box.x0) (fun e => by omega)
  exact ⟨⟨(World.cell?_of_block (a := ⟨W.heap.size, 0, none⟩) e).trans k.box.x0, (World.cell?_of_block (a := ⟨W.heap.size, 1, none⟩) e).trans k.box.x1,
    (World.cell?_of_block (a := ⟨W.heap.size, 2, none⟩) e).trans k.box.x2, (World.cell?_of_block (a := ⟨W.heap.size, 3, none⟩) e).trans k.box.x3⟩, k.keep.trans hk, hs⟩

/-- The set has grown; all else that was there is as it was. -/
def Went (G : Gram) (B : Nat → Bool) (s : Int) (p d n : Nat) (w : World) (e : Ending) (w' : World) : Prop :=
  ∃ C, e = .returned (.tuple #[]) ∧ SetAt p d n C w' ∧ Keeps d w w' ∧ Grew G B C s

def RLoop (W W3 : World) (h : Sh) (G : Gram) (B : Nat → Bool) (s : Int) (p d n : Nat) (L : List Int) (i : Value) (w : World) : Prop :=
  ∃ (j : Nat) (C : Nat → Bool), j ≤ L.length ∧ i = .int .i64 j ∧ Rs W h G p d n C w ∧ Keeps d W3 w ∧ Mid G B C s ∧ DoneR G L C j
def RLoop2 (W W3 : World) (h : Sh) (G : Gram) (B : Nat → Bool) (s : Int) (p d n : Nat) (L R : List Int) (j : Nat) (i : Value) (w : World) : Prop :=
  ∃ (m : Nat) (C : Nat → Bool), m ≤ R.length ∧ i = .int .i64 m ∧ Rs W h G p d n C w ∧ Keeps d W3 w ∧ Mid G B C s ∧ DoneR G L C j ∧ DoneS R C m
theorem reads_keeps {a : Option Addr} {xs : List Value} {d : Nat} {w w' : World} (h : Sep.Reads a xs w) (hk : Keeps d w w') (hd : ∀ x, a = some x → d < x.block) : Sep.Reads a xs w' := fun i hi => by
  obtain ⟨b, o, e, hc⟩ := h i hi
  have := hd _ e
  have hb := World.block_lt_of_cell? w ⟨b, o + i, none⟩ hc
  exact ⟨b, o, e, (World.cell?_of_block (a := ⟨b, o + i, none⟩) (hk.block b hb (by simp at this; omega))).trans hc⟩

set_option maxRecDepth 100000 in
set_option maxHeartbeats 8000000 in
theorem reach_any (h : Sh) (G : Gram) (W0 : World) (k : GAt h G W0) (hs : Sml G) (p d : Nat) (hd : W0.heap.size ≤ d) (N : Nat) :
    ∀ (B : Nat → Bool) (s : Int) (w : World), miss (top G + 1) B = N → 1 ≤ s → s ≤ (top G : Int) → Below W0.heap.size W0 w → SetAt p d (top G + 1) B w →
    Calls Tryz.prog 43 #[gv h G, .int .i64 s, .pointer (some ⟨p, 0, none⟩)] w (Went G B s p d (top G + 1) w) := by
  obtain ⟨a1, c1, a2, c2, a3, c3⟩ := h
  induction N using Nat.strongRecOn with
  | _ N ih =>
    intro B s w hN hs1 hs2 hb0 hS
    have IH := Lib.hid ih
    have HN := Lib.hid hN
    have htop : top G ≤ 240 := by have := hs.t; have := hs.n; unfold top; omega
    have hrl := hs.r
    have hr1 := k.r1
    have hdw : d < w.heap.size := hS.ind
    have BW := Lib.hid (fun w1 (kk : Keeps d w w1) => hb0.trans (kk.below hd hb0.size))
    have K := Lib.hid (fun w1 (kk : Keeps d w w1) => k.went (hb0.trans (kk.below hd hb0.size)))
    have RU := Lib.hid k.rules
    have KN := Lib.hid hs.known
    have R0 := Lib.hid (show Rs w ⟨a1, c1, a2, c2, a3, c3⟩ G p d (top G + 1) B (w.alloc (.cells #[.slice a1 G.terms.length c1, .slice a2 G.nons.length c2, .slice a3 G.rules.length c3, .int .i64 G.start] 25)) from
      ⟨Box.mk' ⟨a1, c1, a2, c2, a3, c3⟩ G w _, keeps_of (boxed _ _), set_went hS (boxed _ _)⟩)
    have P := Lib.hid (fun w1 (hS : SetAt p d (top G + 1) B w1) => Bt.put_any w1 hS s (by omega))
    obtain ⟨x0, x1, x2, x3⟩ := R0.out.box
    try dsimp only at x0 x1 x2 x3
    clear ih hN hb0 hS k hs
    cases hh : has B s with
    | true =>
      have GR := Lib.hid (Grew.same (G := G) hh)
      obtain ⟨e1, e2⟩ := put_hit (n := top G + 1) hh
      rw [e1, e2] at P
      clear hh e1 e2 x0 x1 x2 x3
      unfold gv
      dsimp only
      go_enter Tryz.func43, Tryz.ntmps43
      go_wp2_with (go_at_call 45; refine (P.out _ R0.out.set).mono ?_; rintro e w2 ⟨rfl, hS, hk⟩; have R1 := Lib.hid (R0.out.wrote hdw hS hk); clear hS hk)
      exact bodyPost_ret (v := .tuple #[]) (by simp [results, Tryz.results43, go_sem]) rfl ⟨B, rfl, R1.out.set, R1.out.keep, GR.out⟩
    | false =>
      obtain ⟨sn, rfl⟩ : ∃ sn : Nat, s = (sn : Int) := ⟨s.toNat, by omega⟩
      obtain ⟨e1, e2, e3⟩ := put_miss (n := top G + 1) hh (by omega) (by omega)
      rw [e1, e2] at P
      simp only [Int.toNat_natCast] at e3 P
      have hms := miss_put (n := top G + 1) (by omega) e3
      have MD := Lib.hid (Mid.start (G := G) (B := B) (s := sn))
      rw [HN.out] at hms
      have O := Lib.hid (fun w1 (kk : Keeps d w w1) => of_any ⟨a1, c1, a2, c2, a3, c3⟩ G (sn : Int) w1 (K.out w1 kk) (by omega))
      have OWN := Lib.hid (fun i hi => listed_own' (G := G) (s := (sn : Int)) (i := i) hi)
      have ALL := Lib.hid (fun C => doneR_all (G := G) (C := C) (s := (sn : Int)))
      have hlo : (ofL G (sn : Int)).length ≤ 300 := Nat.le_trans (ofI_le _ _ _) hrl
      have MS := Lib.hid (fun C (hm : Mid G B C (sn : Int)) => show miss (top G + 1) C < N from Nat.lt_of_le_of_lt (miss_mono fun x hx => hm.mono x (has_put.1 hx)) hms)
      generalize ofL G (sn : Int) = L at O OWN ALL hlo
      clear hh e1 e2 e3 HN hms
      generalize Bt.put B sn = B1 at *
      unfold gv
      dsimp only
      go_enter Tryz.func43, Tryz.ntmps43
      go_wp2_with (first
        | (go_at_call 45; refine (P.out _ R0.out.set).mono ?_; rintro e w2 ⟨rfl, hS, hk⟩; have R1 := Lib.hid (R0.out.wrote hdw hS hk); clear x0 x1 x2 x3; obtain ⟨x0, x1, x2, x3⟩ := R1.out.box; clear hS hk)
        | (go_at_call 72; refine (O.out _ R1.out.keep).mono ?_; rintro e w3 ⟨a, c, rfl, ha, hn, hb⟩; have R2 := Lib.hid (R1.out.went hb); have HA := Lib.hid ha; have HD := Lib.hid (show ∀ x, a = some x → d < x.block from fun x hx => by have := hn x hx; have := R1.out.keep.size; omega); clear hb ha hn))
      clear x0 x1 x2 x3
      go_loopw [18] (fun i wr => RLoop w w3 ⟨a1, c1, a2, c2, a3, c3⟩ G B (sn : Int) p d (top G + 1) L i wr) (fun i _ => L.length - (intOf i).toNat)
      case atStart => exact ⟨0, B1, Nat.zero_le _, rfl, R2.out, .refl _ _, MD.out, doneR_zero _ _ _⟩
      case round =>
        clear R0 R1 R2 P O MD
        obtain ⟨j, C, hj, rfl, hR, hK, hM, hD⟩ := hrel
        have R := Lib.hid hR
        have M := Lib.hid hM
        have DR := Lib.hid hD
        have K3 := Lib.hid hK
        obtain ⟨x0, x1, x2, x3⟩ := R.out.box
        try dsimp only at x0 x1 x2 x3
        clear hR hM hD
        by_cases hlt : j < L.length
        · obtain ⟨b1, o1, rfl, hc⟩ := int_at (reads_keeps HA.out hK HD.out) hlt
          obtain ⟨jj, ej, hjj, el⟩ := OWN.out j hlt
          have DST := Lib.hid (fun D (hD : DoneR G L D j) hS => hD.step hlt hS)
          rw [ej, rightOf_get hjj] at DST
          rw [ej] at hc
          obtain ⟨b, o, ra, rc, e, h1, h2, h3, h4, h5⟩ := RU.out jj hjj
          try dsimp only at e
          subst e
          have bw := BW.out _ R.out.keep
          replace h2 := cell_later bw h2
          have RR := Lib.hid (fun w1 kk => Sep.Reads.below h3 (BW.out w1 kk) (Nat.le_refl _))
          have MST := Lib.hid (fun D y (hy : y ∈ G.rules[jj].2) C (hm : Mid G B C (sn : Int)) (g : Grew G C D y) => hm.step (List.getElem_mem hjj) el hy g)
          have KR := Lib.hid (rule_known KN.out (List.getElem_mem hjj)).2
          generalize G.rules[jj].2 = rr at h2 h3 h4 h5 RR DST MST KR
          have hrr : rr.length ≤ 17592186044416 := by omega
          clear h1 h3 hK ej el
          go_wp2
          have HLT := Lib.hid hlt
          clear x0 x1 x2 x3 h2 hc hlt
          go_loopw [29] (fun i wr => RLoop2 w w3 ⟨a1, c1, a2, c2, some ⟨b, o, none⟩, c3⟩ G B (sn : Int) p d (top G + 1) L rr j i wr) (fun i _ => rr.length - (intOf i).toNat)
          case atStart => exact ⟨0, C, Nat.zero_le _, rfl, R.out, K3.out, M.out, DR.out, doneS_zero _ _⟩
          case round =>
            clear R M DR K3
            obtain ⟨m, C, hm, rfl, hR, hK, hM, hD, hE⟩ := hrel
            have R := Lib.hid hR
            have M := Lib.hid hM
            have DR := Lib.hid hD
            have DS := Lib.hid hE
            have K3 := Lib.hid hK
            obtain ⟨x0, x1, x2, x3⟩ := R.out.box
            try dsimp only at x0 x1 x2 x3
            clear hR hM hD hK hE
            by_cases hlm : m < rr.length
            · obtain ⟨b2, o2, rfl, hc⟩ := int_at (RR.out _ R.out.keep) hlm
              have hy := KR.out _ (List.getElem_mem hlm)
              have MS1 := Lib.hid (fun D (g : Grew G C D rr[m]) => MST.out D _ (List.getElem_mem hlm) C M.out g)
              have DS1 := Lib.hid (fun D (g : Grew G C D rr[m]) => DS.out.step hlm g.mono g.here)
              generalize rr[m] = y at hc hy MS1 DS1
              have CL := Lib.hid (IH.out _ (MS.out C M.out) C y wr rfl hy.1 hy.2 (BW.out _ R.out.keep) R.out.set)
              clear hy
              go_wp2_with (go_at_call 43; refine CL.out.mono ?_; rintro e w5 ⟨D, rfl, hS, hk, hg⟩; have R5 := Lib.hid (R.out.wrote hdw hS hk); have K5 := Lib.hid (K3.out.trans hk); have M5 := Lib.hid (MS1.out D hg); have D5 := Lib.hid (DR.out.mono hg.mono); have S5 := Lib.hid (DS1.out D hg); clear hS hk hg)
              go_roundw
              case rel => exact ⟨m + 1, D, by omega, by go_num, R5.out, K5.out, M5.out, D5.out, S5.out⟩
              case measure => simp [intOf]; omega
            · have hE : m = rr.length := by omega
              subst hE
              have DR2 := Lib.hid (DST.out C DR.out DS.out)
              go_wp2
              go_roundw
              case rel => exact ⟨j + 1, C, by have := HLT.out; omega, by go_num, R.out, K3.out, M.out, DR2.out⟩
              case measure => have := HLT.out; simp [intOf]; omega
        · have hE : j = L.length := by omega
          subst hE
          have GR := Lib.hid (M.out.end (ALL.out C DR.out))
          clear hK
          go_wp2
          go_end0
          exact ⟨C, rfl, R.out.set, R.out.keep, GR.out⟩

set_option maxHeartbeats 4000000 in
theorem findReached_any (h : Sh) (G : Gram) (w : World) (k : GAt h G w) (hs : Sml G) :
    Calls Tryz.prog 17 #[gv h G] w (Found (top G + 1) (Rch G) w) := by
  have X := Lib.hid (Bx.start h G w 25)
  obtain ⟨x0, x1, x2, x3⟩ := X.out.box
  have T := Lib.hid (fun w1 (b : Below w.heap.size w w1) => top_any h G w1 (k.went b))
  have htop : top G ≤ 240 := by have := hs.t; have := hs.n; unfold top; omega
  have hcap : Bt.cap ((top G : Int) + 1) = top G + 1 := by unfold Bt.cap; omega
  have hst := non_in (start_known hs.known)
  have R := Lib.hid (fun p d hd w1 hb hS => reach_any h G w k hs p d hd _ (fun _ => false) G.start w1 rfl hst.1 hst.2 hb hS)
  have N := Lib.hid (fun w1 => Bt.new_any ((top G : Int) + 1) w1)
  rw [hcap] at N
  clear k hs hcap hst
  generalize top G = tp at *
  unfold gv
  go_enter Tryz.func17, Tryz.ntmps17
  go_wp2_with (first
    | (go_at_call 19; refine (T.out _ X.out.below).mono ?_; rintro e w1 ⟨rfl, hb⟩; have X := Lib.hid (X.out.went hb); clear hb)
    | (go_at_call 42; refine (N.out _).mono ?_; rintro e w2 ⟨p, d, rfl, hp, hd, hS, hb, _⟩; have X2 := Lib.hid (X.out.went hb); have hsz := X.out.size; have hp2 : w.heap.size < p := by omega
       have hd2 : w.heap.size < d := by omega
       have S := Lib.hid hS; have CL := Lib.hid (R.out p d (by omega) w2 X2.out.below hS); clear hb hS hp hd hsz x0 x1 x2 x3; obtain ⟨x0, x1, x2, x3⟩ := X2.out.box)
    | (go_at_call 43; refine CL.out.mono ?_; rintro e w3 ⟨C, rfl, hS, hk, hg⟩; have S3 := Lib.hid hS; have B3 := Lib.hid (X2.out.below.trans (hk.below (by omega) X2.out.below.size)); have F := Lib.hid (rch_full hg); clear hS hk hg))
  go_ret
  exact ⟨p, d, C, rfl, by omega, by omega, S3.out, F.out, B3.out⟩

end Go.Proofs.YtljblpekpmgmaaaGreatDoor.Lv
