/-
  The walk of the statement on any grammar: each symbol's least word, and how long it is; the words of any symbols. Condition: the list of symbols is within a machine's reach.
-/
import Derived.Test.YtpfokebbpbigdaaLeastROf
import Derived.Test.YtpfokebbpbigdaaLeastAwake
import Derived.Test.YtpfokebbpbigdaaLeastInts
namespace Go.Proofs.Ytpfokebbpbigdaa.Le
open Go.RowKit Go.Maps
open Go.Proofs.Ytpfokebbpbigdaa.Gr
open Go.Proofs.Ytpfokebbpbigdaa.Rw (Bk)
set_option linter.unusedVariables false

theorem both_nil {nl : Bool} {v1 v2 : Value} {T : Int → Ans} {w : World} (h1 : VAt nl v1 T w) (h2 : RVAt nl v2 T w) :
    (v1 = .pointer none ∧ v2 = .pointer none) ∨ (∃ p p2, v1 = .pointer (some ⟨p, 0, none⟩) ∧ v2 = .pointer (some ⟨p2, 0, none⟩)) := by
  rcases h1 with ⟨a1, b1, _⟩ | ⟨a1, p, q, n, b1, _⟩
  · rcases h2 with ⟨a2, b2, _⟩ | ⟨a2, _⟩
    · exact .inl ⟨b1, b2⟩
    · rw [a1] at a2
      cases a2
  · rcases h2 with ⟨a2, _⟩ | ⟨a2, p2, _, _, _, _, _, _, b2, _⟩
    · rw [a1] at a2
      cases a2
    · exact .inr ⟨p, p2, b1, b2⟩
theorem bnd_line {nl : Bool} {v : Value} {T : Int → Ans} {w : World} (h : VAt nl v T w) (l : List Int) : (wordA (lineA nl T l)).length ≤ 4096 := by
  refine wordA_le ?_
  unfold lineA
  split
  · exact bd_none
  · exact bd_join _ _

def TRel (W W5 : World) (h : Sh) (G : Gram) (i : Value) (w : World) : Prop :=
  ∃ s : Int, -1 ≤ s ∧ s ≤ (top G : Int) + 2 ∧ i = .int .i64 s ∧ Bx W h G w ∧ Below W5.heap.size W5 w

set_option maxHeartbeats 16000000 in
set_option maxRecDepth 100000 in
theorem tells_law (h : Sh) (G : Gram) (l : List Int) (a : Option Addr) (c : Nat) (w : World) (k : GAt h G w) (hR : Sep.Reads a (ivs l) w) (hl : l.length ≤ 17592186044416) :
    Calls Try.prog 3 #[gv h G, .slice a l.length c] w (Is (.bool true) w) := by
  have X := Lib.hid (Bx.start h G w 25)
  have MU := Lib.hid (fun w1 (b : Below w.heap.size w w1) => much_any h G w1 (k.went b))
  have O1 := Lib.hid (fun w1 (b : Below w.heap.size w w1) => of_any h G w1 (k.went b))
  have O2 := Lib.hid (fun w1 (b : Below w.heap.size w w1) => rof_any h G w1 (k.went b))
  have TO := Lib.hid (fun w1 (b : Below w.heap.size w w1) => rtop_any h G w1 (k.went b))
  have RR := Lib.hid (fun w1 (b : Below w.heap.size w w1) => Sep.Reads.below hR b (Nat.le_refl _))
  have AW := Lib.hid (fun w1 (b : Below w.heap.size w w1) => awake_any w1)
  clear k hR
  obtain ⟨x0, x1, x2, x3⟩ := X.out.box
  unfold gv
  go_enter Try.func3, Try.ntmps3
  go_wp2_with fail
  refine (MU.out _ X.out.below).mono ?_
  rintro e w1 ⟨n, rfl, hn, hb⟩
  have X1 := Lib.hid (X.out.went hb)
  clear hb MU x0 x1 x2 x3 X
  by_cases hn9 : 200 < n
  · clear hn
    go_wp2_with (go_at_call 7; refine (AW.out _ X1.out.below).mono ?_; rintro e w2 ⟨rfl, hb⟩; have HB := Lib.hid (Gr.step X1.out.below hb); clear hb)
    go_ret
    exact ⟨rfl, HB.out⟩
  have htop : top G ≤ 200 := by unfold top; omega
  clear hn
  by_cases hl5 : 50 < l.length
  · have d5 : decide ((50 : Int) < (l.length : Int)) = true := decide_eq_true (by omega)
    clear hl5
    go_wp2_with (go_at_call 7; refine (AW.out _ X1.out.below).mono ?_; rintro e w2 ⟨rfl, hb⟩; have HB := Lib.hid (Gr.step X1.out.below hb); clear hb)
    go_ret
    exact ⟨rfl, HB.out⟩
  have d5 : decide ((50 : Int) < (l.length : Int)) = false := decide_eq_false (by omega)
  clear hl5
  unfold OfEnd at O1
  generalize nilB G = nl at *
  generalize ansT G = T at *
  have HQ := Lib.hid (show ∀ w', Below w1.heap.size w1 w' → w'.cell? ⟨w.heap.size, 0, none⟩ = some (.slice h.a1 G.terms.length h.c1) ∧ w'.cell? ⟨w.heap.size, 1, none⟩ = some (.slice h.a2 G.nons.length h.c2) ∧ w'.cell? ⟨w.heap.size, 2, none⟩ = some (.slice h.a3 G.rules.length h.c3) ∧ w'.cell? ⟨w.heap.size, 3, none⟩ = some (.int .i64 G.start) ∧ Below w1.heap.size w1 w' from fun w' hb => by
    obtain ⟨x0, x1, x2, x3⟩ := (X1.out.went hb).box
    exact ⟨x0, x1, x2, x3, hb⟩)
  have hbd := drawn w1
  go_wp2
  go_region_held3 (fun w' => w'.cell? ⟨w.heap.size, 0, none⟩ = some (.slice h.a1 G.terms.length h.c1) ∧ w'.cell? ⟨w.heap.size, 1, none⟩ = some (.slice h.a2 G.nons.length h.c2) ∧ w'.cell? ⟨w.heap.size, 2, none⟩ = some (.slice h.a3 G.rules.length h.c3) ∧ w'.cell? ⟨w.heap.size, 3, none⟩ = some (.int .i64 G.start) ∧ Below w1.heap.size w1 w')
    (exact HQ.out _ (by assumption))
    (first
      | (go_at_call 8; refine (O1.out _ (Gr.step X1.out.below hbd)).mono ?_; rintro e w2 ⟨v1, rfl, hv1, hb⟩; have l1 : Below w1.heap.size w1 w2 := Gr.step hbd hb; clear hb)
      | (go_at_call 9; refine (O2.out w2 (Gr.step X1.out.below l1)).mono ?_; rintro e w3 ⟨v2, rfl, hv2, hb⟩; have l2 : Below w1.heap.size w1 w3 := Gr.step l1 hb; have hv3 := hv1.went hb; clear hb hv1)
      | fail)
  have X3 := Lib.hid (X1.out.went l2)
  have BN := Lib.hid (bnd_line hv3)
  have LO := Lib.hid (line_one hv3)
  have WD := Lib.hid (fun s w4 (b : Below w3.heap.size w3 w4) => word_any nl v1 T s w4 (hv3.went b))
  have LE := Lib.hid (fun s w4 (b : Below w3.heap.size w3 w4) => length_any nl v1 T s w4 (hv3.went b))
  have RE := Lib.hid (fun s w4 (b : Below w3.heap.size w3 w4) => rlength_any nl v2 T s w4 (hv2.went b))
  have LN := Lib.hid (fun w4 (b : Below w3.heap.size w3 w4) => line_any nl v1 T l a c w4 (hv3.went b) (RR.out _ (Gr.step X3.out.below b)) hl)
  have RN := Lib.hid (fun w4 (b : Below w3.heap.size w3 w4) => rline_any nl v2 T l a c w4 (hv2.went b) (RR.out _ (Gr.step X3.out.below b)) hl)
  have RO := Lib.hid (fun s w4 (b : Below w3.heap.size w3 w4) => show Calls Try.prog 12 #[v2, .slice (some ⟨w4.heap.size, 0, none⟩) 1 1] (w4.alloc (.cells #[.int .i64 s] 3)) (Lined (T s) (w4.alloc (.cells #[.int .i64 s] 3))) from by
    have := rline_any nl v2 T [s] (some ⟨w4.heap.size, 0, none⟩) 1 (w4.alloc (.cells #[.int .i64 s] 3)) ((hv2.went b).went (boxed _ _)) (reads_one w4 s) (by simp)
    rw [LO.out s] at this
    exact this)
  have PT := Lib.hid (both_nil hv3 hv2)
  clear hv2 hv3 hbd l1 l2 HQ O1 O2 X1 d5 RR
  have hlb := BN.out l
  generalize lineA nl T l = la at *
  rcases PT.out with ⟨rfl, rfl⟩ | ⟨p1, p2, rfl, rfl⟩
  all_goals
    clear PT
    go_wp2
    go_loopw [7] (fun i wr => TRel w w3 h G i wr) (fun i _ => ((top G : Int) + 2 - intOf i).toNat)
    case atStart => exact ⟨-1, by omega, by omega, rfl, X3.out, .refl _ _⟩
    case round =>
      clear X3
      obtain ⟨s, hs1, hs2, rfl, hX, hB⟩ := hrel
      have X := Lib.hid hX
      have B := Lib.hid hB
      clear hX hB
      obtain ⟨x0, x1, x2, x3⟩ := X.out.box
      by_cases hlt : s ≤ (top G : Int) + 1
      · have WC := Lib.hid (fun w4 b => WD.out s w4 b)
        have LC := Lib.hid (fun w4 b => LE.out s w4 b)
        have RC := Lib.hid (fun w4 b => RE.out s w4 b)
        have OC := Lib.hid (fun w4 b => RO.out s w4 b)
        have hTl : (wordA (T s)).length ≤ 4096 := by rw [← LO.out s]; exact BN.out [s]
        clear WD LE RE RO BN LO
        generalize T s = t at *
        go_wp2_with fail
        refine (TO.out _ X.out.below).mono ?_
        rintro e w4 ⟨rfl, hb⟩
        have X4 := Lib.hid (X.out.went hb)
        have B4 := Lib.hid (Gr.step B.out hb)
        clear hb x0 x1 x2 x3 X B
        go_wp2_with fail
        refine (WC.out _ B4.out).mono ?_
        rintro e w5 ⟨ad, ac, rfl, hR, hb⟩
        have X5 := Lib.hid (X4.out.went hb)
        have B5 := Lib.hid (Gr.step B4.out hb)
        have R5 := Lib.hid hR
        clear hb hR X4 B4
        go_wp2_with fail
        refine (OC.out _ B5.out).mono ?_
        rintro e w6 ⟨bd, bc, rfl, hR, hb⟩
        have hb2 := Gr.step (boxed w5 (.cells #[.int .i64 s] 3)) hb
        have X6 := Lib.hid (X5.out.went hb2)
        have B6 := Lib.hid (Gr.step B5.out hb2)
        have R6 := Lib.hid (R5.out.below hb2 (Nat.le_refl _))
        have Q6 := Lib.hid hR
        clear hb hb2 hR X5 B5 R5
        go_wp2_with fail
        refine (LC.out _ B6.out).mono ?_
        rintro e w7 ⟨rfl, hb⟩
        have X7 := Lib.hid (X6.out.went hb)
        have B7 := Lib.hid (Gr.step B6.out hb)
        have R7 := Lib.hid (R6.out.below hb (Nat.le_refl _))
        have Q7 := Lib.hid (Q6.out.below hb (Nat.le_refl _))
        clear hb X6 B6 R6 Q6
        go_wp2_with fail
        refine (RC.out _ B7.out).mono ?_
        rintro e w8 ⟨rfl, hb⟩
        have X8 := Lib.hid (X7.out.went hb)
        have B8 := Lib.hid (Gr.step B7.out hb)
        have IC := Lib.hid (ints_any (wordA t) (wordA t) ad bd ac bc w8 (R7.out.below hb (Nat.le_refl _)) (Q7.out.below hb (Nat.le_refl _)) (by omega) (by omega))
        rw [decide_eq_true (rfl : wordA t = wordA t)] at IC
        clear hb X7 B7 R7 Q7 WC LC RC OC
        generalize telA t = tt at *
        generalize isA t = it at *
        go_wp2_with fail
        refine IC.out.mono ?_
        rintro e w9 ⟨rfl, hb⟩
        have X9 := Lib.hid (X8.out.went hb)
        have B9 := Lib.hid (Gr.step B8.out hb)
        clear hb X8 B8 IC
        go_wp2
        go_roundw
        case rel => exact ⟨s + 1, by omega, by omega, rfl, X9.out, B9.out⟩
        case measure => simp [intOf]; omega
      · clear WD LE RE RO BN LO
        go_wp2_with fail
        refine (TO.out _ X.out.below).mono ?_
        rintro e w4 ⟨rfl, hb⟩
        have X4 := Lib.hid (X.out.went hb)
        have B4 := Lib.hid (Gr.step B.out hb)
        clear hb x0 x1 x2 x3 X B
        go_wp2_with fail
        refine (LN.out _ B4.out).mono ?_
        rintro e w5 ⟨ad, ac, rfl, hR, hb⟩
        have X5 := Lib.hid (X4.out.went hb)
        have B5 := Lib.hid (Gr.step B4.out hb)
        have R5 := Lib.hid hR
        clear hb hR X4 B4 LN
        go_wp2_with fail
        refine (RN.out _ B5.out).mono ?_
        rintro e w6 ⟨bd, bc, rfl, hR, hb⟩
        have X6 := Lib.hid (X5.out.went hb)
        have IC := Lib.hid (ints_any (wordA la) (wordA la) ad bd ac bc w6 (R5.out.below hb (Nat.le_refl _)) hR (by omega) (by omega))
        rw [decide_eq_true (rfl : wordA la = wordA la)] at IC
        clear hb hR X5 B5 R5 RN
        generalize isA la = it at *
        go_wp2_with fail
        refine IC.out.mono ?_
        rintro e w7 ⟨rfl, hb⟩
        have X7 := Lib.hid (X6.out.went hb)
        clear hb X6 IC
        go_wp2_with fail
        refine (AW.out _ X7.out.below).mono ?_
        rintro e w8 ⟨rfl, hb⟩
        have B8 := Lib.hid (Gr.step X7.out.below hb)
        clear hb X7
        go_wp2
        go_ret
        exact ⟨rfl, B8.out⟩

end Go.Proofs.Ytpfokebbpbigdaa.Le
