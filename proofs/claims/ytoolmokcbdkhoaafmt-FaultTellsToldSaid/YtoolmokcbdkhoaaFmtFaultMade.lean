/-
  The walk of the statements' own function made, where an error is made: it comes back within the names and wraps, with what it is made of. Conditions: what stands in fmt's place tells fmt's text; the strings fit a machine's memory; at most 30 names.
-/
import Derived.Test.YtoolmokcbdkhoaaFmtFaultMade0
namespace Go.Proofs.YtoolmokcbdkhoaaFmt.Fa
open Go.RowKit Go.Extern.Stop Go.Stop Go.Extern Go.Kit Go.Lib

set_option maxHeartbeats 8000000 in
set_option maxRecDepth 100000 in
theorem made_chain (F : Interp) (hT : Tells F) (e at_ : Int) (ot : Bool) (a : Nat) (off len cap : Nat) (ss : Nat → ByteArray) (w : World) (hF : F.answers w.tape) (hlen : len ≤ 30)
    (hcell : ∀ i, i < len → w.cell? ⟨a, off + i, none⟩ = some (.string (ss i))) (hs : ∀ i, i < len → (ss i).size ≤ 140737488355328) (hne : ot = false → ¬ e = 0) :
    Calls Tryf.prog 6 #[.int .i64 e, .int .i64 at_, .bool ot, .slice (some ⟨a, off, none⟩) len cap] w (Made e at_ ot w) := by
  obtain ⟨i0, hi0, hz0, hz1, hz2⟩ := info_parts info_str
  have HCELL := Lib.hid hcell
  have HSS := Lib.hid hs
  have HNE := Lib.hid hne
  have HT := Lib.hid hT
  have HF := Lib.hid hF
  clear hcell hs hne hT hF
  go_enter Tryf.func6, Tryf.ntmps6
  go_upto_if 20 with (go_at_call 15; go_loud (refine (new_any e at_ _).mono ?_; rintro x w' ⟨rfl, rfl⟩))
  go_cut [11] (fun s11 wx => Ch wx [] (baseOf ot e at_) s11 ∧ Below (two e at_ ot w).heap.size (two e at_ ot w) wx)
  case first =>
    obtain h | h : ot = true ∨ ot = false := by cases ot <;> simp
    · subst h
      go_wp2_with (go_at_call 19; go_loud (refine (other_new _).mono ?_; rintro x wn ⟨v, rfl, hc, hb⟩; have HX := Lib.hid (And.intro hc hb); clear hc hb))
      go_meet
      case rel => exact HX.out
    · subst h
      have hv : newV e at_ = .iface 47 (.agg #[.int .i64 e, .int .i64 at_]) := by rw [newV, if_neg (HNE.out rfl)]
      go_wp2
      go_meet
      case rel => exact ⟨.fault e at_, Below.refl _ _⟩
  case rest =>
    obtain ⟨hc0, hb0⟩ := hcut
    have HC0 := Lib.hid hc0
    have HB0 := Lib.hid hb0
    clear hc0 hb0
    go_wp2
    go_loopg [11, 12] len (fun k v i wr => Inv len e at_ ot w k v i wr)
    case atStart =>
      exact ⟨0, [], .slice Option.none 0 0, Nat.zero_le _, rfl, rfl, rfl, start_kept _ _ _ _ _ _ _ HC0.out HB0.out, HB0.out.mono (by simp [two])⟩
    case round =>
      obtain ⟨j, L, sl, hj, hk, rfl, hL, hkept, hb⟩ := hrel
      obtain ⟨T, x, rfl⟩ := hkept.1.iface
      have HK := Lib.hid hk
      have HKP := Lib.hid hkept
      have HL := Lib.hid hL
      have HB := Lib.hid hb
      have hw2 : Below w.heap.size w (two e at_ ot w) := ((Below.refl _ _).alloc (Nat.le_refl _) _).alloc (by simp) _
      have HBW := Lib.hid (hw2.trans (hb.mono (Nat.le_succ _)))
      clear hk hkept hL hb hw2
      by_cases hlt : j < len
      · have hlt' : decide ((j : Int) < (len : Int)) = true := by simp; omega
        have h0j : (0 : Int) ≤ (j : Int) := by omega
        have h1j : (j : Int) < (len : Int) := by omega
        have hcj : wr.cell? ⟨a, off + j, none⟩ = some (.string (ss j)) := (HBW.out.cell (p := ⟨a, off + j, none⟩) (lt_of_cell (HCELL.out j hlt))).trans (HCELL.out j hlt)
        have hla := lt_of_cell (HCELL.out j hlt)
        by_cases hsp : ((ss j).toList == [32]) = true
        · have hb1 : Below wr.heap.size wr (wr.alloc (.cells #[.iface T x] 20)) := (Below.refl _ _).alloc (Nat.le_refl _) _
          have HC1 := Lib.hid (HKP.out.1.keep hb1)
          have HKP1 := Lib.hid (HKP.out.below hb1)
          have HF1 := Lib.hid (tape_below F (step HBW.out hb1) HF.out)
          have HB1 := Lib.hid hb1
          have HL40 := Lib.hid (show L.length ≤ 40 by have := HL.out; omega)
          clear hb1
          go_wp2_with (go_at_call 17; go_loud (refine (errorf_more F HT.out L _ _ wr.heap.size _ HF1.out HL40.out (by simp) HC1.out).mono ?_; rintro y wn ⟨u, rfl, hc, hb⟩; have HC2 := Lib.hid hc; have HX := Lib.hid hb; clear hc hb))
          go_roundg (len - (j + 1))
          case measure => rw [HK.out]; omega
          case rel => exact ⟨j + 1, .wrap :: L, sl, by omega, rfl, by go_num, by have := HL.out; simp; omega, (HKP1.out.below HX.out).wrap HC2.out, (HB.out.trans (HB1.out.mono (by have := lt_of_cell HKP.out.2.1; omega))).trans (HX.out.mono (by have := lt_of_cell HKP1.out.2.1; omega))⟩
        · have hsp' : ((ss j).toList == [32]) = false := by simpa using hsp
          clear hsp
          go_wp2_with (go_at_call 16; go_loud (refine (in_chain (ss j) L _ _ _ (HSS.out j hlt) HKP.out.1).mono ?_; rintro y wn ⟨v2, rfl, hc, hb⟩; have HC2 := Lib.hid hc; have HKP2 := Lib.hid (HKP.out.below hb); have HB2 := Lib.hid hb; have hcj2 : wn.cell? ⟨a, off + j, none⟩ = some (.string (ss j)) := (hb.cell (p := ⟨a, off + j, none⟩) (lt_of_cell hcj)).trans hcj; clear hc hb))
          have c2 := HKP2.out.2.2.2.1
          have f2 := HKP2.out.2.2.2.2.2.1 2
          have hl1 := lt_of_cell HKP2.out.2.1
          have hl2 : w.heap.size + 1 < wn.heap.size + 1 := by omega
          have hl3 : w.heap.size + 1 < wn.heap.size + 1 + 1 := by omega
          have ha1 := lt_of_cell hcj2
          have ha2 : a < wn.heap.size + 1 := by omega
          have ha3 : a < wn.heap.size + 1 + 1 := by omega
          by_cases hnil : sl = .slice Option.none 0 0
          · subst hnil
            go_region_law (first
            | (refine step_append_lies _ (by rfl) (.tmp 49) (.tmp 54) 23 (by rfl) (w.heap.size + 1 + 1) 9 i0 _ 1 16 Tryf.underlying23 hi0 hz0 hz1 hz2 rfl (by omega) (.slice (some ⟨wn.heap.size, 0, none⟩) 0 0) 0 [] (by rfl)
                (owns_mk (by omega) (heap_old (heap_new _ _ _ _ rfl))) ⟨wn.heap.size + 1, 0, none⟩ 1 1 [.string (ss j)] (by rfl) (by rfl)
                (World.news_of_block (cs := #[.string (ss j)]) (t := 9) (fr := (0, 0)) (heap_new _ _ _ _ (by simp))) (by simp [Value.oneCell']) (by omega) (by unfold maxLen; omega) (by omega) (by simp; omega) _ rfl ?_
               intro g cp w1 hown hgrow hat hlt
               have hB : Below wn.heap.size wn w1 := Below.grown ((((Below.refl _ _).alloc (Nat.le_refl _) _).alloc (by simp) _).drew) hgrow (by simp; omega) (by intro k hk; cases hk; first | exact Nat.le_refl _ | exact Nat.le_succ _)
               have k2 := (hB.cell (p := ⟨w.heap.size + 1, 2, none⟩) hl1).trans c2
               have kf := (hB.frozen (p := ⟨w.heap.size + 1, 2, none⟩) hl1).trans f2
               have HW := Lib.hid (And.intro hown hB)
               clear hown hgrow hat hlt hB)
            | (refine step_append_lies _ (by rfl) (.tmp 49) (.tmp 54) 23 (by rfl) (w.heap.size + 1 + 1) 9 i0 _ 1 16 Tryf.underlying23 hi0 hz0 hz1 hz2 rfl (by omega) (.slice (some ⟨wn.heap.size + 1, 0, none⟩) 0 0) 0 [] (by rfl)
                (owns_mk (by omega) (heap_new _ _ _ _ (by simp))) ⟨wn.heap.size, 0, none⟩ 1 1 [.string (ss j)] (by rfl) (by rfl)
                (World.news_of_block (cs := #[.string (ss j)]) (t := 9) (fr := (0, 0)) (heap_old (heap_new _ _ _ _ rfl))) (by simp [Value.oneCell']) (by omega) (by unfold maxLen; omega) (by omega) (by simp; omega) _ rfl ?_
               intro g cp w1 hown hgrow hat hlt
               have hB : Below wn.heap.size wn w1 := Below.grown ((((Below.refl _ _).alloc (Nat.le_refl _) _).alloc (by simp) _).drew) hgrow (by simp; omega) (by intro k hk; cases hk; first | exact Nat.le_refl _ | exact Nat.le_succ _)
               have k2 := (hB.cell (p := ⟨w.heap.size + 1, 2, none⟩) hl1).trans c2
               have kf := (hB.frozen (p := ⟨w.heap.size + 1, 2, none⟩) hl1).trans f2
               have HW := Lib.hid (And.intro hown hB)
               clear hown hgrow hat hlt hB)
            | fail)
            all_goals
              go_wp2
              go_roundg (len - (j + 1))
              case measure => rw [HK.out]; omega
              case rel =>
                exact ⟨j + 1, .named (ss j) :: L, _, by omega, rfl, by go_num, by have := HL.out; simp; omega, HKP2.out.next HC2.out HW.out.2 (m := 0) (xs := []) HW.out.1 (by simp) (Nat.zero_le _),
                  ((HB.out.trans (HB2.out.mono (by have := lt_of_cell HKP.out.2.1; omega))).trans (HW.out.2.mono (by omega))).setCell (Nat.le_refl _) _⟩
          · obtain ⟨_, _, _, _, _, _, m, xs, hox, hxs, _, hmL, hmz⟩ := HKP2.out
            have hm0 : 0 < m := by
              rcases Nat.eq_zero_or_pos m with h | h
              · exact absurd (hmz h) hnil
              · exact h
            have hm30 : m ≤ 30 := by have := HL.out; omega
            obtain ⟨g0, cap0, rfl, hxl, hg0, hsrc⟩ := src_of_owns hox hm0
            have HXS := Lib.hid hxs
            have HML := Lib.hid hmL
            have HXL := Lib.hid hxl
            have HSRC := Lib.hid hsrc
            have HONE := Lib.hid (show ∀ u ∈ xs, u.oneCell' = true from fun u hu => by obtain ⟨s, rfl⟩ := hxs u hu; rfl)
            clear hnil hox hxs hmL hmz hxl hsrc
            go_region_law (first
            | (refine step_append_lies _ (by rfl) (.tmp 46) (.tmp 48) 23 (by rfl) (w.heap.size + 1 + 1) 9 i0 _ 1 16 Tryf.underlying23 hi0 hz0 hz1 hz2 rfl (by omega) (.slice (some ⟨wn.heap.size, 0, none⟩) 0 0) 0 [] (by rfl)
                (owns_mk (by omega) (heap_old (heap_new _ _ _ _ rfl))) ⟨g0, 0, none⟩ m cap0 xs (by rfl) (by rw [HXL.out, Nat.mul_one]) (HSRC.out _ ((((Below.refl _ _).alloc (Nat.le_refl _) _).alloc (by simp) _).drew)) HONE.out (by omega) (by unfold maxLen; omega) (by omega) (by first | omega | (simp <;> omega)) _ rfl ?_
               intro g1 cp1 w1 hown1 hgrow1 hat1 hlt1
               have hB1 : Below wn.heap.size wn w1 := Below.grown (((((Below.refl _ _).alloc (Nat.le_refl _) _).alloc (by simp) _).drew)) hgrow1 (by first | omega | (simp <;> omega)) (by intro k hk; cases hk; first | exact Nat.le_refl _ | exact Nat.le_succ _)
               have hg1 : wn.heap.size ≤ g1 := by rcases hat1 with h | h <;> simp [Value.ownBlock] at h <;> omega
               have q1 := (hB1.cell (p := ⟨a, off + j, none⟩) ha1).trans hcj2
               have c21 := (hB1.cell (p := ⟨w.heap.size + 1, 2, none⟩) hl1).trans c2
               have f21 := (hB1.frozen (p := ⟨w.heap.size + 1, 2, none⟩) hl1).trans f2
               have hs1 := hB1.size
               have hl1' : w.heap.size + 1 < w1.heap.size := by omega
               have ha1' : a < w1.heap.size := by omega
               have HW1 := Lib.hid (And.intro hown1 (And.intro hB1 hg1))
               have HS := Lib.hid (show w1.heap[wn.heap.size + 1]? = some (.cells #[.string (ss j)] 9 (0, 0)) from (hgrow1.block _ (by simp <;> omega) (by simp [Value.ownBlock])).trans (heap_new _ _ _ _ (by simp)))
               clear hown1 hgrow1 hat1 hlt1 hB1 hg1)
            | (refine step_append_lies _ (by rfl) (.tmp 46) (.tmp 48) 23 (by rfl) (w.heap.size + 1 + 1) 9 i0 _ 1 16 Tryf.underlying23 hi0 hz0 hz1 hz2 rfl (by omega) (.slice (some ⟨wn.heap.size + 1, 0, none⟩) 0 0) 0 [] (by rfl)
                (owns_mk (by omega) (heap_new _ _ _ _ (by simp))) ⟨g0, 0, none⟩ m cap0 xs (by rfl) (by rw [HXL.out, Nat.mul_one]) (HSRC.out _ ((((Below.refl _ _).alloc (Nat.le_refl _) _).alloc (by simp) _).drew)) HONE.out (by omega) (by unfold maxLen; omega) (by omega) (by first | omega | (simp <;> omega)) _ rfl ?_
               intro g1 cp1 w1 hown1 hgrow1 hat1 hlt1
               have hB1 : Below wn.heap.size wn w1 := Below.grown (((((Below.refl _ _).alloc (Nat.le_refl _) _).alloc (by simp) _).drew)) hgrow1 (by first | omega | (simp <;> omega)) (by intro k hk; cases hk; first | exact Nat.le_refl _ | exact Nat.le_succ _)
               have hg1 : wn.heap.size ≤ g1 := by rcases hat1 with h | h <;> simp [Value.ownBlock] at h <;> omega
               have q1 := (hB1.cell (p := ⟨a, off + j, none⟩) ha1).trans hcj2
               have c21 := (hB1.cell (p := ⟨w.heap.size + 1, 2, none⟩) hl1).trans c2
               have f21 := (hB1.frozen (p := ⟨w.heap.size + 1, 2, none⟩) hl1).trans f2
               have hs1 := hB1.size
               have hl1' : w.heap.size + 1 < w1.heap.size := by omega
               have ha1' : a < w1.heap.size := by omega
               have HW1 := Lib.hid (And.intro hown1 (And.intro hB1 hg1))
               have HS := Lib.hid (show w1.heap[wn.heap.size]? = some (.cells #[.string (ss j)] 9 (0, 0)) from (hgrow1.block _ (by simp <;> omega) (by simp [Value.ownBlock])).trans (heap_old (heap_new _ _ _ _ rfl)))
               clear hown1 hgrow1 hat1 hlt1 hB1 hg1)
            | (refine step_append_lies _ (by rfl) (.tmp 46) (.tmp 48) 23 (by rfl) (w.heap.size + 1 + 1) 9 i0 _ 1 16 Tryf.underlying23 hi0 hz0 hz1 hz2 rfl (by omega) (.slice (some ⟨wn.heap.size, 0, none⟩) 0 0) 0 [] (by rfl)
                (owns_mk (by omega) (heap_new _ _ _ _ rfl)) ⟨g0, 0, none⟩ m cap0 xs (by rfl) (by rw [HXL.out, Nat.mul_one]) (HSRC.out _ (((Below.refl _ _).alloc (Nat.le_refl _) _).drew)) HONE.out (by omega) (by unfold maxLen; omega) (by omega) (by first | omega | (simp <;> omega)) _ rfl ?_
               intro g1 cp1 w1 hown1 hgrow1 hat1 hlt1
               have hB1 : Below wn.heap.size wn w1 := Below.grown ((((Below.refl _ _).alloc (Nat.le_refl _) _).drew)) hgrow1 (by first | omega | (simp <;> omega)) (by intro k hk; cases hk; first | exact Nat.le_refl _ | exact Nat.le_succ _)
               have hg1 : wn.heap.size ≤ g1 := by rcases hat1 with h | h <;> simp [Value.ownBlock] at h <;> omega
               have q1 := (hB1.cell (p := ⟨a, off + j, none⟩) ha1).trans hcj2
               have c21 := (hB1.cell (p := ⟨w.heap.size + 1, 2, none⟩) hl1).trans c2
               have f21 := (hB1.frozen (p := ⟨w.heap.size + 1, 2, none⟩) hl1).trans f2
               have hs1 := hB1.size
               have hl1' : w.heap.size + 1 < w1.heap.size := by omega
               have ha1' : a < w1.heap.size := by omega
               have HW1 := Lib.hid (And.intro hown1 (And.intro hB1 hg1))
               have HS := Lib.hid (trivial)
               clear hown1 hgrow1 hat1 hlt1 hB1 hg1)
            | (refine step_append_lies _ (by rfl) (.tmp 49) (.tmp 54) 23 (by rfl) (w.heap.size + 1 + 1) 9 i0 _ 1 16 Tryf.underlying23 hi0 hz0 hz1 hz2 rfl (by omega) (.slice (some ⟨g1, 0, none⟩) m cp1) m xs (by rfl)
                (by have := HW1.out.1; simpa using this) ⟨wn.heap.size + 1, 0, none⟩ 1 1 [.string (ss j)] (by rfl) (by rfl)
                (World.news_of_block (cs := #[.string (ss j)]) (t := 9) (fr := (0, 0)) (HS.out)) (by simp [Value.oneCell']) (by omega) (by unfold maxLen; omega) (by omega) (by first | omega | (simp <;> omega)) _ rfl ?_
               intro g cp w2 hown hgrow hat hlt
               have hB : Below wn.heap.size wn w2 := Below.grown (HW1.out.2.1) hgrow (by first | omega | (simp <;> omega)) (by intro k hk; cases hk; exact HW1.out.2.2)
               have k2 := (hB.cell (p := ⟨w.heap.size + 1, 2, none⟩) hl1).trans c2
               have kf := (hB.frozen (p := ⟨w.heap.size + 1, 2, none⟩) hl1).trans f2
               have HW := Lib.hid (And.intro hown hB)
               clear hown hgrow hat hlt hB)
            | (refine step_append_lies _ (by rfl) (.tmp 49) (.tmp 54) 23 (by rfl) (w.heap.size + 1 + 1) 9 i0 _ 1 16 Tryf.underlying23 hi0 hz0 hz1 hz2 rfl (by omega) (.slice (some ⟨g1, 0, none⟩) m cp1) m xs (by rfl)
                (by have := HW1.out.1; simpa using this) ⟨wn.heap.size, 0, none⟩ 1 1 [.string (ss j)] (by rfl) (by rfl)
                (World.news_of_block (cs := #[.string (ss j)]) (t := 9) (fr := (0, 0)) (HS.out)) (by simp [Value.oneCell']) (by omega) (by unfold maxLen; omega) (by omega) (by first | omega | (simp <;> omega)) _ rfl ?_
               intro g cp w2 hown hgrow hat hlt
               have hB : Below wn.heap.size wn w2 := Below.grown (HW1.out.2.1) hgrow (by first | omega | (simp <;> omega)) (by intro k hk; cases hk; exact HW1.out.2.2)
               have k2 := (hB.cell (p := ⟨w.heap.size + 1, 2, none⟩) hl1).trans c2
               have kf := (hB.frozen (p := ⟨w.heap.size + 1, 2, none⟩) hl1).trans f2
               have HW := Lib.hid (And.intro hown hB)
               clear hown hgrow hat hlt hB)
            | (refine step_append_lies _ (by rfl) (.tmp 49) (.tmp 54) 23 (by rfl) (w.heap.size + 1 + 1) 9 i0 _ 1 16 Tryf.underlying23 hi0 hz0 hz1 hz2 rfl (by omega) (.slice (some ⟨g1, 0, none⟩) m cp1) m xs (by rfl)
                (ownsRow_below (w := w1) (by have := HW1.out.1; simpa using this) ((Below.refl _ _).alloc (Nat.le_refl _) _)) ⟨w1.heap.size, 0, none⟩ 1 1 [.string (ss j)] (by rfl) (by rfl)
                (World.news_of_block (cs := #[.string (ss j)]) (t := 9) (fr := (0, 0)) (heap_new _ _ _ _ rfl)) (by simp [Value.oneCell']) (by omega) (by unfold maxLen; omega) (by omega) (by first | omega | (simp <;> omega)) _ rfl ?_
               intro g cp w2 hown hgrow hat hlt
               have hB : Below wn.heap.size wn w2 := Below.grown ((HW1.out.2.1).alloc (HW1.out.2.1).size _) hgrow (by first | omega | (simp <;> omega)) (by intro k hk; cases hk; exact HW1.out.2.2)
               have k2 := (hB.cell (p := ⟨w.heap.size + 1, 2, none⟩) hl1).trans c2
               have kf := (hB.frozen (p := ⟨w.heap.size + 1, 2, none⟩) hl1).trans f2
               have HW := Lib.hid (And.intro hown hB)
               clear hown hgrow hat hlt hB)
            | fail)
            all_goals
              go_wp2
              go_roundg (len - (j + 1))
              case measure => rw [HK.out]; omega
              case rel =>
                exact ⟨j + 1, .named (ss j) :: L, _, by omega, rfl, by go_num, by have := HL.out; simp; omega, HKP2.out.next HC2.out HW.out.2 HW.out.1 HXS.out HML.out,
                  ((HB.out.trans (HB2.out.mono (by have := lt_of_cell HKP.out.2.1; omega))).trans (HW.out.2.mono (by omega))).setCell (Nat.le_refl _) _⟩
      · have hlt' : decide ((j : Int) < (len : Int)) = false := by simp; omega
        obtain ⟨hch, c0, c1, c2, c3, _, m, xs, ho, hxs, hlast, hmL, _⟩ := HKP.out
        have z0 : wr.cell? ⟨w.heap.size, 0, none⟩ = some (.int .i64 0) := (HB.out.cell (p := ⟨w.heap.size, 0, none⟩) (Nat.lt_succ_self _)).trans (by simp [two])
        have z1 : wr.cell? ⟨w.heap.size, 1, none⟩ = some (.int .i64 0) := (HB.out.cell (p := ⟨w.heap.size, 1, none⟩) (Nat.lt_succ_self _)).trans (by simp [two])
        have z2 : wr.cell? ⟨w.heap.size, 2, none⟩ = some (.slice Option.none 0 0) := (HB.out.cell (p := ⟨w.heap.size, 2, none⟩) (Nat.lt_succ_self _)).trans (by simp [two])
        have z3 : wr.cell? ⟨w.heap.size, 3, none⟩ = some (.bool false) := (HB.out.cell (p := ⟨w.heap.size, 3, none⟩) (Nat.lt_succ_self _)).trans (by simp [two])
        have y0 : wr.frozen? ⟨w.heap.size, 0, none⟩ = false := (HB.out.frozen (p := ⟨w.heap.size, 0, none⟩) (Nat.lt_succ_self _)).trans (by simp [two])
        have y1 : wr.frozen? ⟨w.heap.size, 1, none⟩ = false := (HB.out.frozen (p := ⟨w.heap.size, 1, none⟩) (Nat.lt_succ_self _)).trans (by simp [two])
        have y2 : wr.frozen? ⟨w.heap.size, 2, none⟩ = false := (HB.out.frozen (p := ⟨w.heap.size, 2, none⟩) (Nat.lt_succ_self _)).trans (by simp [two])
        have y3 : wr.frozen? ⟨w.heap.size, 3, none⟩ = false := (HB.out.frozen (p := ⟨w.heap.size, 3, none⟩) (Nat.lt_succ_self _)).trans (by simp [two])
        obtain ⟨pp, nn, cc, rfl⟩ : ∃ p n c, sl = .slice p n c := by
          rcases ho.2 with ⟨h, _⟩ | ⟨g, cp, _, h, _⟩
          · exact ⟨_, _, _, h⟩
          · exact ⟨_, _, _, h⟩
        have HE := Lib.hid (And.intro hch (And.intro ho (And.intro hxs (And.intro hlast hmL))))
        have HZ := Lib.hid z0
        clear hch ho hxs hlast hmL
        go_wp2_with fail
        go_region
        go_wp2
        obtain ⟨r0, r1, r2, r3⟩ := four_cells z0 z1 z2 z3 (.int .i64 e) (.int .i64 at_) (.slice pp nn cc) (.bool ot)
        have hfin := four_rest z0 HE.out.1 HE.out.2.1 e (.int .i64 at_) (.slice pp nn cc) (.bool ot) (by omega)
        have hbel := ((((HBW.out).setCell (p := ⟨w.heap.size, 0, none⟩) (Nat.le_refl _) (.int .i64 e)).setCell (p := ⟨w.heap.size, 1, none⟩) (Nat.le_refl _) (.int .i64 at_)).setCell (p := ⟨w.heap.size, 2, none⟩) (Nat.le_refl _) (.slice pp nn cc)).setCell (p := ⟨w.heap.size, 3, none⟩) (Nat.le_refl _) (.bool ot)
        generalize hwf : (((wr.setCell ⟨w.heap.size, 0, none⟩ (.int .i64 e)).setCell ⟨w.heap.size, 1, none⟩ (.int .i64 at_)).setCell ⟨w.heap.size, 2, none⟩ (.slice pp nn cc)).setCell ⟨w.heap.size, 3, none⟩ (.bool ot) = wf at r0 r1 r2 r3 hfin hbel ⊢
        clear hwf
        have HFIN := Lib.hid hfin
        have HBEL := Lib.hid hbel
        clear hfin hbel
        refine bodyPost_ret (v := .tuple #[.iface T x, .agg #[.int .i64 e, .int .i64 at_, .slice pp nn cc, .bool ot]]) ?_ rfl ?_
        · simp [results, Tryf.results6, go_sem, r0, r1, r2, r3]
        · exact ⟨_, L, _, m, xs, rfl, (HFIN.out.1).keep (Below.refl _ _).drew, ownsRow_below HFIN.out.2 (Below.refl _ _).drew, HE.out.2.2.1, HE.out.2.2.2.1, by have := HE.out.2.2.2.2; have := HL.out; omega, HBEL.out.drew⟩


end Go.Proofs.YtoolmokcbdkhoaaFmt.Fa
