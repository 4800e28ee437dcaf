/-
  The walk of the statement on any grammar, any symbol, any rule's number, any name.
-/
import Derived.Test.YtflljgakdakfdaaGramLawSame
namespace Go.Proofs.Ytflljgakdakfdaa.Gr
open Go.RowKit Go.Maps
set_option linter.unusedVariables false

theorem ruleR_len {h : Sh} {G : Gram} {w : World} (k : GAt h G w) (i : Int) : (ruleR G i).2.length ≤ 17592186044416 := by
  unfold ruleR
  split
  · simp
  · split
    · simp
    · by_cases hi : i.toNat < G.rules.length
      · obtain ⟨b, o, ra, rc, e, h1, h2, h3, h4, h5⟩ := k.rules i.toNat hi
        simp only [List.getD_eq_getElem?_getD, List.getElem?_eq_getElem hi, Option.getD_some]
        omega
      · simp [List.getD_eq_getElem?_getD, List.getElem?_eq_none (show G.rules.length ≤ i.toNat by omega)]

theorem sameI_self (L : List Int) : sameI L L = true := by simp [sameI]
theorem sameR_self (r : Int × List Int) : sameR r r = true := sameR_iff.2 rfl

set_option maxHeartbeats 16000000 in
set_option maxRecDepth 100000 in
theorem checks_law (h : Sh) (G : Gram) (s i : Int) (name : ByteArray) (w : World) (k : GAt h G w) (hs : name.size ≤ maxLen) :
    Calls Try.prog 3 #[gv h G, .int .i64 s, .int .i64 i, .string name] w (Is (.bool true) w) := by
  unfold maxLen at hs
  have X := Lib.hid (Bx.start h G w 25)
  have MU := Lib.hid (fun w1 (b : Below w.heap.size w w1) => much_any h G w1 (k.went b))
  have RL := Lib.hid (fun w1 (b : Below w.heap.size w w1) => rule_any h G i w1 (k.went b))
  have RR := Lib.hid (fun w1 (b : Below w.heap.size w w1) => rrule_any h G i w1 (k.went b))
  have hrl := ruleR_len k i
  have AW := Lib.hid awake_any
  have KG := Lib.hid k
  clear k
  unfold gv
  go_enter Try.func3, Try.ntmps3
  go_wp2_with fail
  refine (MU.out _ X.out.below).mono ?_
  rintro e w1 ⟨n, rfl, hn, hb⟩
  have X := Lib.hid (X.out.went hb)
  obtain ⟨x0, x1, x2, x3⟩ := X.out.box
  clear hb MU
  by_cases hn9 : 900 < n
  · clear hn
    go_wp2_with (go_at_call 7; refine (AW.out _).mono ?_; rintro e w2 ⟨rfl, hb⟩; have HB := Lib.hid (step X.out.below hb); clear hb)
    go_ret
    exact ⟨rfl, HB.out⟩
  by_cases hnm : 1000 < name.size
  · clear hn
    go_wp2_with (go_at_call 7; refine (AW.out _).mono ?_; rintro e w2 ⟨rfl, hb⟩; have HB := Lib.hid (step X.out.below hb); clear hb)
    go_ret
    exact ⟨rfl, HB.out⟩
  have ht : G.terms.length + G.nons.length ≤ 65536 := by omega
  have hr : G.rules.length ≤ 65536 := by omega
  clear hn hs
  have CK := Lib.hid (fun w1 (b : Below w.heap.size w w1) => check_any h G w1 (KG.out.went b))
  have RCK := Lib.hid (fun w1 (b : Below w.heap.size w w1) => rcheck_any h G w1 (KG.out.went b))
  have TP := Lib.hid (fun w1 (b : Below w.heap.size w w1) => top_any h G w1 (KG.out.went b))
  have RTP := Lib.hid (fun w1 (b : Below w.heap.size w w1) => rtop_any h G w1 (KG.out.went b))
  have TM := Lib.hid (fun w1 (b : Below w.heap.size w w1) => term_any h G s w1 (KG.out.went b))
  have RTM := Lib.hid (fun w1 (b : Below w.heap.size w w1) => rterm_any h G s w1 (KG.out.went b))
  have NN := Lib.hid (fun w1 (b : Below w.heap.size w w1) => non_any h G s w1 (KG.out.went b))
  have RNN := Lib.hid (fun w1 (b : Below w.heap.size w w1) => rnon_any h G s w1 (KG.out.went b))
  have NM := Lib.hid (fun w1 (b : Below w.heap.size w w1) => name_any h G s w1 (KG.out.went b))
  have RNM := Lib.hid (fun w1 (b : Below w.heap.size w w1) => rname_any h G s w1 (KG.out.went b) ht)
  have FI := Lib.hid (fun w1 (b : Below w.heap.size w w1) => find_any h G name w1 (KG.out.went b))
  have RFI := Lib.hid (fun w1 (b : Below w.heap.size w w1) => rfind_any h G name w1 (KG.out.went b) ht)
  have OF := Lib.hid (fun w1 (b : Below w.heap.size w w1) => of_any h G s w1 (KG.out.went b) hr)
  have ROF := Lib.hid (fun w1 (b : Below w.heap.size w w1) => rof_any h G s w1 (KG.out.went b) hr)
  have OD := Lib.hid (fun w1 (b : Below w.heap.size w w1) => ordered_any h G w1 (KG.out.went b))
  have ROD := Lib.hid (fun w1 (b : Below w.heap.size w w1) => rordered_any h G w1 (KG.out.went b) hr)
  have hL : (ofL G s).length ≤ 65536 := Nat.le_trans (ofI_le _ _ _) hr
  generalize checkN G = ck at *
  generalize ruleR G i = r at *
  generalize ruleB G i = rok at *
  generalize termB G s = tb at *
  generalize nonB G s = nb at *
  generalize nameS G s = nm at *
  generalize findI G name = fi at *
  generalize ofL G s = L at *
  generalize ordB G = ob at *
  generalize hT : (top G : Int) = tp at *
  clear hT KG ht hr
  go_wp2_with fail
  refine (RL.out _ X.out.below).mono ?_
  rintro e w2 ⟨ra, rc, rfl, hRa, hb⟩
  have X := Lib.hid (X.out.went hb)
  have RA := Lib.hid hRa
  clear x0 x1 x2 x3 hb hRa RL
  obtain ⟨x0, x1, x2, x3⟩ := X.out.box
  have hsz : w.heap.size < w2.heap.size := X.out.size
  go_wp2_with fail
  refine (RR.out _ (X.out.alloc _).below).mono ?_
  rintro e w3 ⟨rb, rd, rfl, hRb, hb⟩
  have X := Lib.hid ((X.out.alloc _).went hb)
  have RA := Lib.hid (RA.out.below (step (boxed _ _) hb) (Nat.le_refl _))
  have RB := Lib.hid hRb
  have r0 : w3.cell? ⟨w2.heap.size, 0, none⟩ = some (.int .i64 r.1) := cell_later hb (cell_new rfl rfl)
  have r1 : w3.cell? ⟨w2.heap.size, 1, none⟩ = some (.slice ra r.2.length rc) := cell_later hb (cell_new rfl rfl)
  clear x0 x1 x2 x3 hb hRb RR hsz
  obtain ⟨x0, x1, x2, x3⟩ := X.out.box
  go_wp2
  obtain ⟨wq, hwq⟩ : ∃ wq, w3.alloc (.cells #[.int .i64 r.1, .slice rb r.2.length rd] 30) = wq := ⟨_, rfl⟩
  have QB := Lib.hid (show Below w3.heap.size w3 wq by rw [← hwq]; exact boxed _ _)
  have HQ := Lib.hid (show Eight wq ⟨w.heap.size, 0, none⟩ ⟨w.heap.size, 1, none⟩ ⟨w.heap.size, 2, none⟩ ⟨w.heap.size, 3, none⟩ ⟨w2.heap.size, 0, none⟩ ⟨w2.heap.size, 1, none⟩ ⟨w3.heap.size, 0, none⟩ ⟨w3.heap.size, 1, none⟩ (.slice h.a1 G.terms.length h.c1) (.slice h.a2 G.nons.length h.c2) (.slice h.a3 G.rules.length h.c3) (.int .i64 G.start) (.int .i64 r.1) (.slice ra r.2.length rc) (.int .i64 r.1) (.slice rb r.2.length rd) by
    rw [← hwq]; exact eight (cell_old x0) (cell_old x1) (cell_old x2) (cell_old x3) (cell_old r0) (cell_old r1) (cell_new rfl rfl) (cell_new rfl rfl))
  have X := Lib.hid (X.out.went QB.out)
  have RA := Lib.hid (RA.out.below QB.out (Nat.le_refl _))
  have RB := Lib.hid (RB.out.below QB.out (Nat.le_refl _))
  have SR := Lib.hid (fun w1 (b : Below wq.heap.size wq w1) => show Calls _ _ _ w1 (Is (.bool true) w1) from by have := rsamer_any r r ra rb rc rd w1 (RA.out.below b (Nat.le_refl _)) (RB.out.below b (Nat.le_refl _)) hrl hrl; rw [sameR_self] at this; exact this)
  rw [hwq]
  have hbd := drawn wq
  clear hwq x0 x1 x2 x3 r0 r1 RA RB QB
  go_region_held3 (fun w' => w'.cell? ⟨w.heap.size, 0, none⟩ = some (.slice h.a1 G.terms.length h.c1) ∧ w'.cell? ⟨w.heap.size, 1, none⟩ = some (.slice h.a2 G.nons.length h.c2) ∧ w'.cell? ⟨w.heap.size, 2, none⟩ = some (.slice h.a3 G.rules.length h.c3) ∧ w'.cell? ⟨w.heap.size, 3, none⟩ = some (.int .i64 G.start) ∧
      w'.cell? ⟨w2.heap.size, 0, none⟩ = some (.int .i64 r.1) ∧ w'.cell? ⟨w2.heap.size, 1, none⟩ = some (.slice ra r.2.length rc) ∧ w'.cell? ⟨w3.heap.size, 0, none⟩ = some (.int .i64 r.1) ∧ w'.cell? ⟨w3.heap.size, 1, none⟩ = some (.slice rb r.2.length rd) ∧ Below wq.heap.size wq w')
    (exact HQ.out _ (by assumption))
    (first
      | (go_at_call 10; refine (CK.out _ (step X.out.below hbd)).mono ?_; rintro e u1 ⟨rfl, hb⟩; have k1 : Below wq.heap.size wq u1 := step hbd hb; clear hb)
      | (go_at_call 11; refine (RCK.out _ (step X.out.below k1)).mono ?_; rintro e u2 ⟨rfl, hb⟩; have k2 : Below wq.heap.size wq u2 := step k1 hb; clear hb)
      | (go_at_call 12; refine (TP.out _ (step X.out.below k2)).mono ?_; rintro e u3 ⟨rfl, hb⟩; have k3 : Below wq.heap.size wq u3 := step k2 hb; clear hb)
      | (go_at_call 13; refine (RTP.out _ (step X.out.below k3)).mono ?_; rintro e u4 ⟨rfl, hb⟩; have k4 : Below wq.heap.size wq u4 := step k3 hb; clear hb)
      | (go_at_call 14; refine (TM.out _ (step X.out.below k4)).mono ?_; rintro e u5 ⟨rfl, hb⟩; have k5 : Below wq.heap.size wq u5 := step k4 hb; clear hb)
      | (go_at_call 15; refine (RTM.out _ (step X.out.below k5)).mono ?_; rintro e u6 ⟨rfl, hb⟩; have k6 : Below wq.heap.size wq u6 := step k5 hb; clear hb)
      | (go_at_call 16; refine (NN.out _ (step X.out.below k6)).mono ?_; rintro e u7 ⟨rfl, hb⟩; have k7 : Below wq.heap.size wq u7 := step k6 hb; clear hb)
      | (go_at_call 17; refine (RNN.out _ (step X.out.below k7)).mono ?_; rintro e u8 ⟨rfl, hb⟩; have k8 : Below wq.heap.size wq u8 := step k7 hb; clear hb)
      | (go_at_call 18; refine (SR.out _ k8).mono ?_; rintro e u9 ⟨rfl, hb⟩; have k9 : Below wq.heap.size wq u9 := step k8 hb; clear hb)
      | fail)
  have HQ := Lib.hid (four (w := u9) (HQ.out _ k9).1 (HQ.out _ k9).2.1 (HQ.out _ k9).2.2.1 (HQ.out _ k9).2.2.2.1)
  have X := Lib.hid (X.out.went k9)
  clear hbd k1 k2 k3 k4 k5 k6 k7 k8 k9 CK RCK TP RTP TM RTM NN RNN SR
  have hbd := drawn u9
  have SI := Lib.hid (sameI_self L)
  go_wp2
  go_region_held3 (fun w' => w'.cell? ⟨w.heap.size, 0, none⟩ = some (.slice h.a1 G.terms.length h.c1) ∧ w'.cell? ⟨w.heap.size, 1, none⟩ = some (.slice h.a2 G.nons.length h.c2) ∧ w'.cell? ⟨w.heap.size, 2, none⟩ = some (.slice h.a3 G.rules.length h.c3) ∧ w'.cell? ⟨w.heap.size, 3, none⟩ = some (.int .i64 G.start) ∧ Below u9.heap.size u9 w')
    (exact HQ.out _ (by assumption))
    (first
      | (go_at_call 19; refine (NM.out _ (step X.out.below hbd)).mono ?_; rintro e v1 ⟨rfl, hb⟩; have l1 : Below u9.heap.size u9 v1 := step hbd hb; clear hb)
      | (go_at_call 20; refine (RNM.out _ (step X.out.below l1)).mono ?_; rintro e v2 ⟨rfl, hb⟩; have l2 : Below u9.heap.size u9 v2 := step l1 hb; clear hb)
      | (go_at_call 21; refine (FI.out _ (step X.out.below l2)).mono ?_; rintro e v3 ⟨rfl, hb⟩; have l3 : Below u9.heap.size u9 v3 := step l2 hb; clear hb)
      | (go_at_call 22; refine (RFI.out _ (step X.out.below l3)).mono ?_; rintro e v4 ⟨rfl, hb⟩; have l4 : Below u9.heap.size u9 v4 := step l3 hb; clear hb)
      | (go_at_call 24; refine (OF.out _ (step X.out.below l4)).mono ?_; rintro e v5 ⟨a', c', rfl, hR, hnew, hb⟩; have l5 : Below u9.heap.size u9 v5 := step l4 hb; have HR1 := Lib.hid hR; clear hb hR hnew)
      | (go_at_call 25; refine (ROF.out _ (step X.out.below l5)).mono ?_; rintro e v6 ⟨b', d', rfl, hR, hnew, hb⟩; have l6 : Below u9.heap.size u9 v6 := step l5 hb; have HR2 := Lib.hid hR; have HR3 := Lib.hid (HR1.out.below hb (Nat.le_refl _)); clear hb hR hnew)
      | (go_at_call 23; refine (reqi_any L L _ _ _ _ _ HR3.out HR2.out (by omega) (by omega)).mono ?_; rw [SI.out]; rintro e v7 ⟨rfl, hb⟩; have l7 : Below u9.heap.size u9 v7 := step l6 hb; clear hb)
      | (go_at_call 26; refine (OD.out _ (step X.out.below l7)).mono ?_; rintro e v8 ⟨rfl, hb⟩; have l8 : Below u9.heap.size u9 v8 := step l7 hb; clear hb)
      | (go_at_call 27; refine (ROD.out _ (step X.out.below l8)).mono ?_; rintro e v9 ⟨rfl, hb⟩; have l9 : Below u9.heap.size u9 v9 := step l8 hb; clear hb)
      | (go_at_call 7; refine (AW.out _).mono ?_; rintro e v10 ⟨rfl, hb⟩; have l10 : Below u9.heap.size u9 v10 := step l9 hb; clear hb)
      | fail)
  go_wp2
  go_ret
  exact ⟨rfl, step X.out.below l10⟩

end Go.Proofs.Ytflljgakdakfdaa.Gr
