/-
  The walk of the statement on any names, one by one.
-/
import Derived.Test.YtbnfnkjjjpdncaaInternAwake
import Derived.Test.YtbnfnkjjjpdncaaInternRefAny
namespace Go.Proofs.Ytbnfnkjjjpdncaa.It
open Go.RowKit Go.Maps

/-- Both collections, behind a beginning. -/
structure Two (W : World) (p : Nat) (S : Nat → Prop) (q : Nat) (T : Nat → Prop) (n : Nat) (L M : List ByteArray) (w : World) : Prop where
  own : Own W p S n L w
  mine : ∀ k, T k → W.heap.size ≤ k
  ref : RNmAt q T n M w
  off : Sep.Off S T

theorem Two.put {W : World} {p q n : Nat} {S T U : Nat → Prop} {L M L' : List ByteArray} {w w' : World} (h : Two W p S q T n L M w) (ha : NmAt p U n L' w') (hf : Sep.Fr S w w') (hx : Sep.Ext U S w) : Two W p U q T n L' M w' :=
  ⟨h.own.wrote ha hf hx, h.mine, h.ref.off hf h.off.symm, h.off.ext hx h.ref.inn⟩
theorem Two.rput {W : World} {p q n : Nat} {S T U : Nat → Prop} {L M M' : List ByteArray} {w w' : World} (h : Two W p S q T n L M w) (ha : RNmAt q U n M' w') (hf : Sep.Fr T w w') (hx : Sep.Ext U T w) : Two W p S q U n L M' w' :=
  ⟨⟨h.own.own, h.own.at_.off hf h.off, h.own.below.trans (hf.below h.mine h.own.below.size)⟩, hx.from h.mine h.own.below.size, ha, (h.off.symm.ext hx h.own.at_.inn).symm⟩
theorem Two.went {W : World} {p q n : Nat} {S T : Nat → Prop} {L M : List ByteArray} {w w' : World} (h : Two W p S q T n L M w) (hb : Below w.heap.size w w') : Two W p S q T n L M w' :=
  ⟨h.own.went hb, h.mine, h.ref.went hb, h.off⟩
theorem Two.drewN {W : World} {p q n : Nat} {S T : Nat → Prop} {L M : List ByteArray} {w : World} (h : Two W p S q T n L M w) (m : Nat) : Two W p S q T n L M (w.drewN m) :=
  h.went ⟨rfl, rfl, rfl, Nat.le_refl _, fun _ _ => rfl⟩

theorem flip {P : Program} {f : FuncId} {args : Array Value} {w : World} {v : Value} (h : Calls P f args w fun e w' => e = .returned v ∧ w = w') : Calls P f args w fun e w' => e = .returned v ∧ w' = w :=
  h.mono fun _ _ ⟨h1, h2⟩ => ⟨h1, h2.symm⟩

/-- What a round asks, wherever it stands. -/
theorem round_asks {W : World} {p q n : Nat} {S T : Nat → Prop} {L : List ByteArray} {w : World} (h : Two W p S q T n L L w) :
    ∃ a c, w.cell? ⟨q, 0, none⟩ = some (.slice a L.length c) ∧ L.length ≤ 4096 ∧
      (∀ m, Calls Try.prog 11 #[.pointer (some ⟨p, 0, none⟩)] (w.drewN m) fun e w' => e = .returned (.int .i64 L.length) ∧ w' = w.drewN m) ∧
      (∀ s m, s.size ≤ maxLen → Calls Try.prog 12 #[.pointer (some ⟨p, 0, none⟩), .string s] (w.drewN m) fun e w' => e = .returned (.int .i64 (place L s)) ∧ w' = w.drewN m) ∧
      (∀ s m, Calls Try.prog 13 #[.slice a L.length c, .string s] (w.drewN m) fun e w' => e = .returned (.int .i64 (place L s)) ∧ w' = w.drewN m) := by
  obtain ⟨a, c, hr⟩ := h.ref
  have hl : L.length ≤ 4096 := Nat.le_trans hr.full hr.top
  exact ⟨a, c, hr.texts, hl, fun m => flip (len_any _ (h.drewN m).own.at_), fun s m hs => flip (find_any _ (h.drewN m).own.at_ s hs), fun s m => flip (place_any L s a c _ (.of_row (show (w.drewN m).ownsRow _ _ _ _ _ _ from hr.row)) hl)⟩

set_option maxRecDepth 100000 in
set_option maxHeartbeats 8000000 in
theorem puts_main (most : Int) (s : ByteArray) (i : Int) (a : Option Addr) (c : Nat) (M : List ByteArray) (W : World) (hg : Sep.Reads a (M.map .string) W) (hM : M.length ≤ 60) (hs : s.size ≤ 1000) :
    Calls Try.prog 3 #[.int .i64 most, .slice a M.length c, .string s, .int .i64 i] W (Yes W) := by
  have HA := Lib.hid awake_any
  have HG := Lib.hid hg
  have HN := Lib.hid (new_any most W)
  have HR := Lib.hid (rnew_any most)
  generalize cap most = n at HN HR
  clear hg
  go_enter Try.func3, Try.ntmps3
  go_wp2_with fail
  refine HN.out.mono ?_
  rintro e w1 ⟨p, S, rfl, _, hS, hat, hb⟩
  have HO := Lib.hid (Own.mk hS hat hb)
  clear hS hat hb HN
  go_wp2_with fail
  refine (HR.out w1).mono ?_
  rintro e w2 ⟨q, T, rfl, hT, hat, hb⟩
  have H2 := Lib.hid (show Two W p S q T n [] [] w2 from ⟨HO.out.went hb, fun k hk => Nat.le_trans HO.out.below.size (hT k hk), hat, (Sep.Off.of hT HO.out.at_.inn).symm⟩)
  clear hT hat hb HR HO
  go_wp2_with fail
  go_loopw [11] (fun i wr => ∃ k : Nat, k ≤ M.length ∧ i = .int .i64 k ∧ ∃ S T L, Two W p S q T n L L wr) (fun i _ => M.length - (intOf i).toNat)
  case atStart => exact ⟨0, Nat.zero_le _, rfl, S, T, [], H2.out⟩
  case round =>
    obtain ⟨k, hk, rfl, S, T, L, hO⟩ := hrel
    have HO := Lib.hid hO
    clear hO H2
    by_cases hlt : k < M.length
    · obtain ⟨b, o, rfl, hc⟩ := HG.out k (by simpa using hlt)
      simp only [List.getElem_map] at hc
      generalize M[k] = x at hc
      have HC := Lib.hid hc
      have k1 := cell_later HO.out.own.below hc
      clear hc
      by_cases hbig : x.size ≤ 1000
      · go_wp2_with fail
        have HP := Lib.hid (put_any wr HO.out.own.at_ x (by unfold maxLen; omega))
        have HP2 := Lib.hid (fun wz (h : RNmAt q T n L wz) => rput_any wz h x)
        generalize putN n L x = b1 at *
        generalize putE n L x = b2 at *
        generalize putL n L x = L2 at *
        refine HP.out.mono ?_
        rintro e w3 ⟨rfl, U, hat, hf, hx⟩
        have HO3 := Lib.hid (HO.out.put hat hf hx)
        clear hat hf hx HP HO k1
        have k1 := cell_later HO3.out.own.below HC.out
        go_wp2_with fail
        refine (HP2.out w3 HO3.out.ref).mono ?_
        rintro e w4 ⟨rfl, V, hat, hf, hx⟩
        have HO4 := Lib.hid (HO3.out.rput hat hf hx)
        clear hat hf hx HP2 HO3 k1
        have k1 := cell_later HO4.out.own.below HC.out
        obtain ⟨a2, c2, k2, hl2, hLen, hFind, hPlace⟩ := round_asks HO4.out
        have HLen := Lib.hid hLen
        have HF1 := Lib.hid (fun t m (ht : t.size ≤ 1000) => hFind t m (by unfold maxLen; omega))
        have HQ1 := Lib.hid hPlace
        clear hLen hFind hPlace
        go_wp2_with fail
        go_quiet (first
          | (go_at_call 11; exact Calls.quiet_of_same (HLen.out _))
          | (go_at_call 12; exact Calls.quiet_of_same (HF1.out _ _ (by omega)))
          | (go_at_call 13; exact Calls.quiet_of_same (HQ1.out _ _)))
        go_wp2
        go_roundw
        case rel => exact ⟨k + 1, by omega, by go_num, U, V, L2, HO4.out.drewN _⟩
        case measure => simp [intOf]; omega
      · go_wp2_with (go_at_call 6; refine (HA.out _).mono ?_; rintro e w1 ⟨rfl, hb⟩; have HB := Lib.hid hb; clear hb)
        go_ret
        exact ⟨rfl, HO.out.own.below.trans (HB.out.mono HO.out.own.below.size)⟩
    · obtain ⟨a2, c2, hr⟩ := HO.out.ref
      have hl2 : L.length ≤ 4096 := Nat.le_trans hr.full hr.top
      have c0 := hr.texts
      have HRd := Lib.hid (Sep.Reads.of_row hr.row)
      have HQ := Lib.hid (show ∀ w', Below wr.heap.size wr w' → w'.cell? ⟨q, 0, none⟩ = some (.slice a2 L.length c2) ∧ Below wr.heap.size wr w' from fun w' hb => ⟨cell_later hb c0, hb⟩)
      have HX := Lib.hid (text_any wr HO.out.own.at_ i)
      have HD := Lib.hid (HO.out.drewN 1).own.at_
      have hbd : Below wr.heap.size wr wr.drew := (Below.refl _ _).drew
      change Hid (NmAt p S n L wr.drew) at HD
      clear hr
      by_cases h0 : 0 ≤ i
      · obtain ⟨j, rfl⟩ : ∃ j : Nat, i = (j : Int) := ⟨i.toNat, by omega⟩
        by_cases h1 : j < L.length
        · have e1 : textB L (j : Int) = true := by simp [textB, h1]
          have e2 : textS L (j : Int) = L[j] := by simp [textS, e1, h1]
          rw [e1, e2] at HX
          obtain ⟨b, o, rfl, hc⟩ := HRd.out j (by simpa using h1)
          simp only [List.getElem_map] at hc
          clear e1 e2
          generalize L[j] = y at hc HX
          go_wp2_with (go_at_call 14; refine HX.out.mono ?_; rintro e w' ⟨rfl, rfl⟩)
          go_region_held3 (fun w' => w'.cell? ⟨q, 0, none⟩ = some (.slice (some ⟨b, o, none⟩) L.length c2) ∧ Below wr.heap.size wr w')
            (exact HQ.out _ (by assumption))
            (first
              | (go_at_call 16; refine (all_any _ HD.out).mono ?_; rintro e wn ⟨a3, c3, rfl, hr, hb⟩; have HR3 := Lib.hid hr; have kB : Below wr.heap.size wr wn := hbd.trans hb; clear hr hb)
              | (go_at_call 15; refine (same_any L _ _ _ _ _ HR3.out (HRd.out.below kB (Nat.le_refl _)) hl2).mono ?_; rintro e wm ⟨rfl, hb⟩; have kC : Below wr.heap.size wr wm := kB.trans (hb.mono kB.size); clear hb)
              | (go_at_call 6; refine (HA.out _).mono ?_; rintro e wo ⟨rfl, hb⟩; have kD : Below wr.heap.size wr wo := kC.trans (hb.mono kC.size); clear hb)
              | fail)
          go_wp2
          go_ret
          exact ⟨rfl, HO.out.own.below.trans (kD.mono HO.out.own.below.size)⟩
        · have e1 : textB L (j : Int) = false := by simp [textB]; omega
          rw [textS_out e1, e1] at HX
          clear e1
          go_wp2_with (go_at_call 14; refine HX.out.mono ?_; rintro e w' ⟨rfl, rfl⟩)
          go_region_held3 (fun w' => w'.cell? ⟨q, 0, none⟩ = some (.slice a2 L.length c2) ∧ Below wr.heap.size wr w')
            (exact HQ.out _ (by assumption))
            (first
              | (go_at_call 16; refine (all_any _ HD.out).mono ?_; rintro e wn ⟨a3, c3, rfl, hr, hb⟩; have HR3 := Lib.hid hr; have kB : Below wr.heap.size wr wn := hbd.trans hb; clear hr hb)
              | (go_at_call 15; refine (same_any L _ _ _ _ _ HR3.out (HRd.out.below kB (Nat.le_refl _)) hl2).mono ?_; rintro e wm ⟨rfl, hb⟩; have kC : Below wr.heap.size wr wm := kB.trans (hb.mono kB.size); clear hb)
              | (go_at_call 6; refine (HA.out _).mono ?_; rintro e wo ⟨rfl, hb⟩; have kD : Below wr.heap.size wr wo := kC.trans (hb.mono kC.size); clear hb)
              | fail)
          go_wp2
          go_ret
          exact ⟨rfl, HO.out.own.below.trans (kD.mono HO.out.own.below.size)⟩
      · have e1 : textB L i = false := by simp [textB, h0]
        rw [textS_out e1, e1] at HX
        have h2 : i < 0 := by omega
        clear e1 h0
        go_wp2_with (go_at_call 14; refine HX.out.mono ?_; rintro e w' ⟨rfl, rfl⟩)
        go_region_held3 (fun w' => w'.cell? ⟨q, 0, none⟩ = some (.slice a2 L.length c2) ∧ Below wr.heap.size wr w')
          (exact HQ.out _ (by assumption))
          (first
            | (go_at_call 16; refine (all_any _ HD.out).mono ?_; rintro e wn ⟨a3, c3, rfl, hr, hb⟩; have HR3 := Lib.hid hr; have kB : Below wr.heap.size wr wn := hbd.trans hb; clear hr hb)
            | (go_at_call 15; refine (same_any L _ _ _ _ _ HR3.out (HRd.out.below kB (Nat.le_refl _)) hl2).mono ?_; rintro e wm ⟨rfl, hb⟩; have kC : Below wr.heap.size wr wm := kB.trans (hb.mono kB.size); clear hb)
            | (go_at_call 6; refine (HA.out _).mono ?_; rintro e wo ⟨rfl, hb⟩; have kD : Below wr.heap.size wr wo := kC.trans (hb.mono kC.size); clear hb)
            | fail)
        go_wp2
        go_ret
        exact ⟨rfl, HO.out.own.below.trans (kD.mono HO.out.own.below.size)⟩

set_option maxRecDepth 100000 in
set_option maxHeartbeats 4000000 in
theorem puts_law (most : Int) (s : ByteArray) (i : Int) (a : Option Addr) (len c : Nat) (W : World) (hg : len ≤ 60 → ∃ M : List ByteArray, M.length = len ∧ Sep.Reads a (M.map .string) W) :
    Calls Try.prog 3 #[.int .i64 most, .slice a len c, .string s, .int .i64 i] W (Yes W) := by
  have HA := Lib.hid awake_any
  by_cases h60 : len ≤ 60
  · by_cases hs : 1000 < s.size
    · clear hg
      go_enter Try.func3, Try.ntmps3
      go_wp2_with (go_at_call 6; refine (HA.out _).mono ?_; rintro e w1 ⟨rfl, hb⟩; have HB := Lib.hid hb; clear hb)
      go_ret
      exact ⟨rfl, HB.out⟩
    · obtain ⟨M, rfl, hM⟩ := hg h60
      exact puts_main most s i a c M W hM h60 (by omega)
  · clear hg
    go_enter Try.func3, Try.ntmps3
    go_wp2_with (go_at_call 6; refine (HA.out _).mono ?_; rintro e w1 ⟨rfl, hb⟩; have HB := Lib.hid hb; clear hb)
    go_ret
    exact ⟨rfl, HB.out⟩

end Go.Proofs.Ytbnfnkjjjpdncaa.It
