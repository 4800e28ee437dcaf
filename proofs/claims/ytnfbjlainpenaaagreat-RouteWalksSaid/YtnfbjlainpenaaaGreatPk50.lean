/- A part of the proof. -/
import Derived.Test.YtnfbjlainpenaaaGreatPk44
import Derived.Test.YtnfbjlainpenaaaGreatPk49
set_option maxHeartbeats 4000000
set_option maxRecDepth 100000
set_option linter.unusedVariables false
namespace Go.Proofs.YtnfbjlainpenaaaGreat
open Go.RowKit Go.Maps
namespace Au
open Gr (Gram Sh gv GAt Bx checkN zAz top)
open Im
theorem zMg {Y : List Itm} {a : Option Addr} {c : Nat} {w w' : World} {S : Nat -> Prop} (h : ItsV 108 w.heap.size Y (.slice a Y.length c) w') (hS : ∀ k, S k -> k < w.heap.size) : LAt S Y (.slice a Y.length c) w' := by
 obtain ⟨a', c', e, hc⟩ := h.shape
 simp only [Value.slice.injEq] at e
 obtain ⟨rfl, _, rfl⟩ := e
 exact ⟨a, c, rfl, hc, h.reads, fun _ b o e q => by
  have := (World.ownsRow.lt h b (by rw [e]; rfl)).1
  have := hS b q
  omega⟩
theorem zLQ {G : Gram} {Y : List Itm} (hv : checkN G = 0) (h : Y = [((G.rules.length : Int), 0)]) : Fit3 Y := fun x hx => by
 rw [h, List.mem_singleton] at hx
 subst hx
 exact zB8 hv (zBl (Nat.le_refl _))
theorem zJo {w : World} {p : Nat} {T : Nat -> Prop} {h : Sh} {G : Gram} {Y : List Itm} {X : Itm -> Option Int} {n : Nat} {w' : World} (e : Y = [((G.rules.length : Int), 0)]) (k : BAt w p T h G (zEn [] Y) X n w') : BAt w p T h G [[((G.rules.length : Int), 0)]] X n w' := by
 subst e
 exact k
theorem zHl (h : Sh) (G : Gram) (w : World) (k : GAt h G w) (ht : checkN G = 0 -> top G <= 1000) :
  Calls Tryz.prog 21 #[gv h G] w (zEM G w) := by
 have C := zNR (fun w1 (b : Below w.heap.size w w1) => zAz h G w1 (k.went b))
 have X := zNR (Bx.start h G w 25)
 by_cases hc : checkN G = 0
 ·have BG := zNR (fun w1 (b : Below w.heap.size w w1) => zHh h G w1 (k.went b))
  have KG := zNR k
  replace ht := ht hc
  rw [hc] at C
  have hmm := @run_makeMap Tryz.prog
  clear k
  unfold gv at C BG ⊢
  go_enter Tryz.func21, Tryz.ntmps21
  go_wp2_with (first
   | (go_at_call 37; refine (C.out _ X.out.below).mono ?_; rintro e w1 ⟨rfl, hb⟩; have X1 := zNR (X.out.went hb); obtain ⟨g0, g1, g2, g3⟩ := X1.out.box; have hq : w.heap.size < w1.heap.size := World.block_lt_of_cell? w1 ⟨w.heap.size, 0, none⟩ g0; have hq2 : w.heap.size < w1.heap.size + 1 := (by omega); have hq3 : w.heap.size < w1.heap.size + 1 + 1 := (by omega); have B0 := zNR (fresh h G w w1 X1.out.below 87); have X2 := zNR (((X1.out.alloc (.map #[] 0)).alloc (.map #[] 0)).alloc (.cells #[.slice h.a1 G.terms.length h.c1, .slice h.a2 G.nons.length h.c2, .slice h.a3 G.rules.length h.c3, .int .i64 G.start, .slice none 0 0, .map (some w1.heap.size), .map (some (w1.heap.size + 1))] 87)); clear hb)
   | (go_at_call 39; refine (BG.out _ X2.out.below).mono ?_; rintro e w3 ⟨Y, a3, c3, rfl, y1, y2, y3⟩; have HY := zNR (show Y = [((G.rules.length : Int), 0)] from (y1.iff (Q := fun x => x = ((G.rules.length : Int), 0)) fun x => ⟨fun q => q.2, fun q => ⟨hc, q⟩⟩).uniq ⟨zCO _, fun x => List.mem_singleton⟩); have U3 := zNR (zMg y2 B0.out.inn); have B3 := zNR (B0.out.went y3); have X3 := zNR (X2.out.went y3); clear y1 y2 y3)
   | (go_at_call 38; refine (zDY _ B3.out Y a3 c3 U3.out (zLQ hc HY.out) (fun x hx => by cases hx) List.nodup_nil (Nat.zero_le _) (by rw [HY.out]; simp)).mono ?_; rintro e w4 ⟨rfl, T4, b4, f4, x4, _⟩; have R0 := zNR (BdR.start (zJo HY.out b4)); clear b4 f4 x4))
  clear C BG X hmm
  go_loopw [6] (fun i wr => ∃ m : Nat, i = .int .i64 m /\ m <= 2000 /\ BdR w (w1.heap.size + 1 + 1) h G m wr) (fun i _ => 2001 - (intOf i).toNat)
  case atStart => exact ⟨0, rfl, Nat.zero_le _, R0.out⟩
  case round =>
   obtain ⟨m, rfl, hm, hR⟩ := hrel
   have R := zNR hR
   clear hR R0
   obtain ⟨⟨T, n, hB, hn⟩, hg, hfew⟩ := R.out
   have hgl := hg.len
   by_cases hlt : m < (runs G (top G) m).1.length
   ·have LV := zIX (W := w) wr hB KG.out hc ht (zCN G (top G) m) (by omega) (by omega) (by omega)
    rw [hgl] at LV
    have LVh := zNR LV
    have NX := zNR (fun (hs : ¬ 2000 < (runs G (top G) (m + 1)).1.length) => (show zC6 G (m + 1) /\ (runs G (top G) (m + 1)).1.length <= 2000 from ⟨hg.next (R.out.not hlt), by omega⟩))
    have MY := zNR (R.out.many hlt)
    obtain ⟨a0, c0, bt, bn, us, k0⟩ := hB
    have q4 := k0.items
    clear k0 LV
    go_wp2_with (go_at_call 40; refine LVh.out.mono ?_; rintro e w5 ⟨rfl, T5, n5, b5, l5, f5, x5⟩; obtain ⟨a5, c5, bt5, bn5, us5, k5⟩ := b5; have K5 := zNR k5; have q5 : w5.cell? ⟨w1.heap.size + 1 + 1, 4, none⟩ = some (.slice a5 (runs G (top G) (m + 1)).1.length c5) := k5.items; clear k5 f5 x5)
    ·go_ret2
     exact ⟨[], 7, none, 0, rfl, .many hc (MY.out (by omega)) (by omega), .nil _ _, Nat.le_refl _, K5.out.below⟩
    ·obtain ⟨n1, n2⟩ := NX.out (by omega)
     refine ⟨⟨m + 1, by go_num, by omega, ⟨⟨T5, n5, ⟨a5, c5, bt5, bn5, us5, K5.out⟩, by omega⟩, n1, n2⟩⟩, ?_⟩
     simp [intOf]
     omega
   ·obtain ⟨d1, d2⟩ := R.out.done hlt
    have SA := zNR (zHQ (W := w) wr hB KG.out ht (by omega))
    have DN := zNR (d1.done d2)
    have AO := zNR (zHf DN.out)
    obtain ⟨a0, c0, bt, bn, us, k0⟩ := hB
    have q4 := k0.items
    have HW := zNR k0.below
    clear k0
    go_wp2_with (go_at_call 41; refine SA.out.mono ?_; rintro e w5 ⟨a5, c5, rfl, s1, s2, s3⟩; have S1 := zNR s1; have S2 := zNR s2; have S3 := zNR (Gr.step HW.out s3); clear s1 s2 s3)
    go_ret2
    exact ⟨_, 0, a5, c5, rfl, AO.out ▸ .all hc d1 d2, S1.out, S2.out, S3.out⟩
 ·have hcb : (checkN G != 0) = true := by simpa using hc
  clear k
  unfold gv at C ⊢
  go_enter Tryz.func21, Tryz.ntmps21
  go_wp2_with (go_at_call 37; refine (C.out _ X.out.below).mono ?_; rintro e w1 ⟨rfl, hb⟩; have X1 := zNR (X.out.went hb); clear hb)
  go_ret2
  exact ⟨[], checkN G, none, 0, rfl, .bad hc, .nil _ _, Nat.le_refl _, X1.out.below⟩
end Au
namespace Ro
open Gr (Gram Sh GAt gv Bx checkN top cell_later zAB boxed drawn)
open Le (VAt ansT nilB zD9 zAK isA zLI)
open Im
open Au
theorem zHo {G : Gram} {er : Int} {X : List Sta} (h : Built G er X) : (er ≠ 0 /\ X = [] /\ Built G er []) \/ (er = 0 /\ checkN G = 0 /\ ∃ q, X = states q /\ Done G q /\ q.1.length <= 2000 /\ Built G 0 (states q)) := by
 cases h with
 | bad h1 => exact .inl ⟨h1, rfl, .bad h1⟩
 | many h1 h2 h3 => exact .inl ⟨by decide, rfl, .many h1 h2 h3⟩
 | all h1 h2 h3 => exact .inr ⟨rfl, h1, _, rfl, h2.done h3, by omega, .all h1 h2 h3⟩
def zMb (G : Gram) (w : World) (e : Ending) (w' : World) : Prop :=
 (∃ er : Int, er ≠ 0 /\ Built G er [] /\ e = .returned (.tuple #[.pointer none, .int .i64 er]) /\ Below w.heap.size w w') \/
 ∃ (q : Whole) (p bE : Nat) (E : Nat -> Nat × Int) (v : Value), checkN G = 0 /\ Done G q /\ q.1.length <= 2000 /\ Built G 0 (states q) /\ e = .returned (.tuple #[.pointer (some ⟨p, 0, none⟩), .int .i64 0]) /\ RtAt G q p bE E v w' /\ Below w.heap.size w w'
theorem zLF {G : Gram} {q : Whole} {bE : Nat} {E : Nat -> Nat × Int} {v : Value} {w : World} (hF : Fil bE 73 (q.1.length * 2) (stV E) w) (hE : Ends (top G) q E) (hV : VAt (nilB G) v (ansT G) w) :
  RtAt G q w.heap.size bE E v (w.alloc (.cells #[.slice (some ⟨bE, 0, none⟩) q.1.length q.1.length, .int .i64 (G.terms.length : Int), v] 65)) :=
 ⟨zAB rfl rfl, zAB rfl rfl, zAB rfl rfl, hF.went (boxed _ _), hE, hV.went (boxed _ _)⟩
theorem zCW (h : Sh) (G : Gram) (w : World) (k : GAt h G w) :
  Calls Tryz.prog 8 #[gv h G] w (zMb G w) := by
 have X0 := zNR (Bx.start h G w 25)
 have BU := zNR (fun w1 (b : Below w.heap.size w w1) => zHl h G w1 (k.went b) (fun hv => Nat.le_trans (zBK hv) (by omega)))
 have LO := zNR (fun w1 (b : Below w.heap.size w w1) => Le.zCW h G w1 (k.went b))
 clear k
 obtain ⟨x0, x1, x2, x3⟩ := X0.out.box
 unfold gv at *
 go_enter Tryz.func8, Tryz.ntmps8
 go_wp2_with fail
 refine (BU.out _ X0.out.below).mono ?_
 rintro e w1 ⟨X, er, aX, cX, rfl, hB, hS, hle, hb1⟩
 have X1 := zNR (X0.out.went hb1)
 clear x0 x1 x2 x3 X0 hb1 BU
 obtain ⟨x0, x1, x2, x3⟩ := X1.out.box
 rcases zHo hB with ⟨h0, rfl, hB'⟩ | ⟨rfl, hv, q, rfl, D, hlen, hB'⟩
 ·have hne : (er != 0) = true := by simpa using h0
  go_wp2
  exact bodyPost_ret (v := .tuple #[.pointer none, .int .i64 er]) (by simp [results, Tryz.results8, go_sem]) rfl (.inl ⟨er, h0, hB', rfl, X1.out.below⟩)
 ·have hsl : (states q).length = q.1.length := zAp D.all
  rw [hsl]
  have SE := zNR (fun w2 (b : Below w1.heap.size w1 w2) => zHO G q D hlen (zBK hv) aX cX w2 (hS.went b))
  have hnb : nilB G = false := by
   unfold nilB
   rw [decide_eq_true hv]
   rfl
  have LQ := zNR (fun w2 (b : Below w1.heap.size w1 w2) => (show Calls Tryz.prog 23 #[.agg #[.slice h.a1 G.terms.length h.c1, .slice h.a2 G.nons.length h.c2, .slice h.a3 G.rules.length h.c3, .int .i64 G.start]] w2 (fun e w' => ∃ pw : Nat, e = .returned (.pointer (some ⟨pw, 0, none⟩)) /\ VAt (nilB G) (.pointer (some ⟨pw, 0, none⟩)) (ansT G) w' /\ Below w2.heap.size w2 w') from
   (LO.out w2 (Gr.step X1.out.below b)).mono fun e w' ⟨v, h1, h2, h3⟩ => by
    rcases h2 with ⟨h4, _, _⟩ | ⟨h4, pw, qw, n, rfl, h5⟩
    ·rw [hnb] at h4
     cases h4
    ·exact ⟨pw, h1, .inr ⟨h4, pw, qw, n, rfl, h5⟩, h3⟩))
  have HQ := zNR (fun w' (b : Below w1.heap.size w1 w') => (show w'.cell? ⟨w.heap.size, 0, none⟩ = some (.slice h.a1 G.terms.length h.c1) /\ w'.cell? ⟨w.heap.size, 1, none⟩ = some (.slice h.a2 G.nons.length h.c2) /\ w'.cell? ⟨w.heap.size, 2, none⟩ = some (.slice h.a3 G.rules.length h.c3) /\ w'.cell? ⟨w.heap.size, 3, none⟩ = some (.int .i64 G.start) from ⟨cell_later b x0, cell_later b x1, cell_later b x2, cell_later b x3⟩))
  have RG := zNR (fun (p bE : Nat) (E : Nat -> Nat × Int) (v : Value) (w' : World) (r : RtAt G q p bE E v w') (b : Below w1.heap.size w1 w') => (show zMb G w (.returned (.tuple #[.pointer (some ⟨p, 0, none⟩), .int .i64 0])) w' from .inr ⟨q, p, bE, E, v, hv, D, hlen, hB', rfl, r, Gr.step X1.out.below b⟩))
  have kA := drawn w1
  clear hB hS hle hB' LO x0 x1 x2 x3 hsl
  obtain ⟨x0, x1, x2, x3⟩ := HQ.out w1 (.refl _ _)
  go_wp2_with fail
  go_region_held3 (fun w' => w'.cell? ⟨w.heap.size, 0, none⟩ = some (.slice h.a1 G.terms.length h.c1) /\ w'.cell? ⟨w.heap.size, 1, none⟩ = some (.slice h.a2 G.nons.length h.c2) /\ w'.cell? ⟨w.heap.size, 2, none⟩ = some (.slice h.a3 G.rules.length h.c3) /\ w'.cell? ⟨w.heap.size, 3, none⟩ = some (.int .i64 G.start))
   (first | exact HQ.out _ (by assumption) | exact HQ.out _ (Gr.step (by assumption) (boxed _ _)))
   (first
    | (go_at_call 22; (with_reducible refine (SE.out _ (by assumption)).mono ?_); rintro e w5 ⟨bE, E, rfl, hbE, hF, hEn, hb5⟩; have kS : Below w1.heap.size w1 w5 := Gr.step (by assumption) hb5; have FF := zNR hF; have EN := zNR hEn; have H5 := zNR hb5; clear hbE hF hEn hb5)
    | (go_at_call 23; (with_reducible refine (LQ.out _ (by assumption)).mono ?_); rintro e w6 ⟨pw, rfl, hV, hb6⟩; have kL : Below w1.heap.size w1 w6 := Gr.step (by assumption) hb6; have VV := zNR hV; have H6 := zNR hb6; clear hV hb6)
    | fail)
  all_goals
   first
    | (have R := zNR (RG.out _ _ _ _ _ (zLF (FF.out.went H6.out) EN.out VV.out) (Gr.step kL (boxed _ _))); go_wp2; exact bodyPost_ret (v := .tuple #[.pointer (some ⟨w6.heap.size, 0, none⟩), .int .i64 0]) (by simp [results, Tryz.results8, go_sem]) rfl R.out)
    | (have R := zNR (RG.out _ _ _ _ _ (zLF FF.out EN.out (VV.out.went H5.out)) (Gr.step kS (boxed _ _))); go_wp2; exact bodyPost_ret (v := .tuple #[.pointer (some ⟨w5.heap.size, 0, none⟩), .int .i64 0]) (by simp [results, Tryz.results8, go_sem]) rfl R.out)
def zFo (G : Gram) (q : Whole) (i : Int) (w : World) (e : Ending) (w' : World) : Prop :=
 (¬ (0 <= i /\ i < (q.1.length : Int)) /\ e = .returned (.tuple #[.slice none 0 0, .bool false]) /\ Below w.heap.size w w') \/
 ∃ (n : Nat) (W : List Int), i = (n : Int) /\ n < q.1.length /\ zDo (top G) q W n /\ zLI (zD9 (nilB G) (ansT G) W) w e w'
theorem zKv (G : Gram) (q : Whole) (hl : q.1.length <= 2000) (p bE : Nat) (E : Nat -> Nat × Int) (v : Value) (i : Int) (w : World) (h : RtAt G q p bE E v w) :
  Calls Tryz.prog 14 #[.pointer (some ⟨p, 0, none⟩), .int .i64 i] w (zFo G q i w) := by
 have WA := zNR (zFk G q hl p bE E v i w h)
 have HH := zNR (fun w1 (b : Below w.heap.size w w1) => h.went b)
 clear h
 go_enter Tryz.func14, Tryz.ntmps14
 go_wp2_with fail
 refine WA.out.mono ?_
 rintro e w1 hw
 rcases hw with ⟨hn, rfl, hb⟩ | ⟨n, W, a, c, rfl, hn, hL, rfl, hr, hwl, hb⟩
 ·have HB := zNR hb
  have HN := zNR hn
  clear hb hn
  go_wp2
  exact bodyPost_ret (v := .tuple #[.slice none 0 0, .bool false]) (by simp [results, Tryz.results14, go_sem]) rfl (.inl ⟨HN.out, rfl, HB.out⟩)
 ·have R1 := HH.out w1 hb
  have c2 := R1.c2
  have LI := zNR (Le.zKF (nilB G) v (ansT G) W a c w1 R1.words hr (by omega))
  have HL := zNR hL
  have HB := zNR hb
  clear R1 hr hL hb
  go_wp2_with fail
  refine LI.out.mono ?_
  rintro e w2 ⟨ad, c2', rfl, hr2, hb2⟩
  have GV := zNR (show zFo G q (n : Int) w (.returned (.tuple #[.slice ad (zAK (zD9 (nilB G) (ansT G) W)).length c2', .bool (isA (zD9 (nilB G) (ansT G) W))])) w2 from .inr ⟨n, W, rfl, hn, HL.out, ad, c2', rfl, hr2, Gr.step HB.out hb2⟩)
  clear hr2 hb2
  generalize zD9 (nilB G) (ansT G) W = A at *
  generalize (zAK A).length = m at *
  generalize isA A = bo at *
  go_wp2
  exact bodyPost_ret (v := .tuple #[.slice ad m c2', .bool bo]) (by simp [results, Tryz.results14, go_sem]) rfl GV.out
end Ro
namespace Ro
open Gr (gv Is top zAB boxed ivs)
open Le (ansT nilB zD9 GA aw ah zFq zMf zM5 zLH zFz)
open Au
theorem zHR {q r : Whole} (hq : q.2.length = q.1.length) (hr : r.2.length = r.1.length) (h : states q = states r) : q = r := by
 have h1 : q.1 = r.1 := by
  have := congrArg (List.map Prod.fst) h
  unfold states at this
  rwa [List.map_fst_zip (by omega), List.map_fst_zip (by omega)] at this
 have h2 : q.2 = r.2 := by
  have := congrArg (List.map Prod.snd) h
  unfold states at this
  rwa [List.map_snd_zip (by omega), List.map_snd_zip (by omega)] at this
 exact Prod.ext h1 h2
def qR : Whole := ([k0, k1, k2, k3, k4], [t0, t1, [], [], []])
theorem zLg {q : Whole} (h : Built GA 0 (states q)) (D : Done GA q) : q = qR := by
 have hb : Built GA 0 XB := zHn
 exact zHR D.all rfl ((h.uniq hb).2.trans rfl)
def lR : Nat -> List Int
 | 0 => []
 | 1 => [1]
 | 2 => [2]
 | 3 => [3]
 | _ => [1, 3]
theorem zMs : ∀ i, i < 5 -> WayTo qR (lR i) i := fun i hi => by
 have w0 : WayTo qR [] 0 := .nil
 have w1 : WayTo qR [1] 1 := WayTo.snoc (v := []) (s := 1) w0 (by decide)
 have : i = 0 \/ i = 1 \/ i = 2 \/ i = 3 \/ i = 4 := by omega
 rcases this with rfl | rfl | rfl | rfl | rfl
 ·exact w0
 ·exact w1
 ·exact WayTo.snoc (v := []) (s := 2) w0 (by decide)
 ·exact WayTo.snoc (v := []) (s := 3) w0 (by decide)
 ·exact WayTo.snoc (v := [1]) (s := 3) w1 (by decide)
theorem zLv : ∀ i s (j : Nat), i < 5 -> (s, (j : Int)) ∈ qR.2.getD i [] -> rank 3 (lR j) <= rank 3 (lR i ++ [s]) := fun i s j hi hm => by
 have : i = 0 \/ i = 1 \/ i = 2 \/ i = 3 \/ i = 4 := by omega
 rcases this with rfl | rfl | rfl | rfl | rfl
 ·have hm : (s, (j : Int)) ∈ [((1 : Int), (1 : Int)), (2, 2), (3, 3)] := hm
  simp only [List.mem_cons, Prod.mk.injEq, List.not_mem_nil, or_false] at hm
  rcases hm with ⟨rfl, h⟩ | ⟨rfl, h⟩ | ⟨rfl, h⟩
  ·obtain rfl : j = 1 := by omega
   decide
  ·obtain rfl : j = 2 := by omega
   decide
  ·obtain rfl : j = 3 := by omega
   decide
 ·have hm : (s, (j : Int)) ∈ [((1 : Int), (1 : Int)), (2, 2), (3, 4)] := hm
  simp only [List.mem_cons, Prod.mk.injEq, List.not_mem_nil, or_false] at hm
  rcases hm with ⟨rfl, h⟩ | ⟨rfl, h⟩ | ⟨rfl, h⟩
  ·obtain rfl : j = 1 := by omega
   decide
  ·obtain rfl : j = 2 := by omega
   decide
  ·obtain rfl : j = 4 := by omega
   decide
 ·cases hm
 ·cases hm
 ·cases hm
theorem zF8 (D : Done GA qR) : zDo (top GA) qR [1, 3] 4 := zF5 (B := 3) lR (zDw D) (by decide) rfl zMs zLv 4 (by decide)
theorem zLw : zD9 (nilB GA) (ansT GA) [1, 3] = .is [1, 2] := by
 rw [zLH, zM5]
 rfl
def GotR (w : World) (e : Ending) (w' : World) : Prop := ∃ (p bE : Nat) (E : Nat -> Nat × Int) (v : Value), e = .returned (.tuple #[.pointer (some ⟨p, 0, none⟩), .int .i64 0]) /\ RtAt GA qR p bE E v w' /\ Done GA qR /\ Below w.heap.size w w'
theorem zLU (W : World) : Calls Tryz.prog 8 #[gv (ah W) GA] (aw W) (GotR (aw W)) :=
 (zCW (ah W) GA (aw W) (zMf W)).mono fun e w' h => by
  rcases h with ⟨er, h0, h1, _, _⟩ | ⟨q, p, bE, E, v, h0, h1, h2, h3, h4, h5, h6⟩
  ·have hb : Built GA 0 XB := zHn
   exact absurd (h1.uniq hb).1 h0
  ·obtain rfl := zLg h3 h1
   exact ⟨p, bE, E, v, h4, h5, h1, h6⟩
theorem zNG {p bE : Nat} {E : Nat -> Nat × Int} {v : Value} {w : World} (h : RtAt GA qR p bE E v w) (D : Done GA qR) : Calls Tryz.prog 12 #[.pointer (some ⟨p, 0, none⟩), .int .i64 4] w fun e w' => ∃ a c, e = .returned (.tuple #[.slice a 2 c, .bool true]) /\ Sep.Reads a (ivs [1, 3]) w' /\ Below w.heap.size w w' :=
 (zFk GA qR (by decide) p bE E v 4 w h).mono fun e w' hw => by
  rcases hw with ⟨h1, _, _⟩ | ⟨n, W, a, c, h1, h2, h3, h4, h5, h6, h7⟩
  ·exact absurd (show (0 : Int) <= 4 /\ (4 : Int) < (qR.1.length : Int) by decide) h1
  ·obtain rfl : n = 4 := by omega
   obtain rfl := h3.uniq (zBD D) (zF8 D)
   exact ⟨a, c, h4, h5, h7⟩
theorem zMh {p bE : Nat} {E : Nat -> Nat × Int} {v : Value} {w : World} (h : RtAt GA qR p bE E v w) (D : Done GA qR) : Calls Tryz.prog 14 #[.pointer (some ⟨p, 0, none⟩), .int .i64 4] w fun e w' => ∃ a c, e = .returned (.tuple #[.slice a 2 c, .bool true]) /\ Sep.Reads a (ivs [1, 2]) w' /\ Below w.heap.size w w' :=
 (zKv GA qR (by decide) p bE E v 4 w h).mono fun e w' hw => by
  rcases hw with ⟨h1, _, _⟩ | ⟨n, W, h1, h2, h3, a, c, h4, h5, h6⟩
  ·exact absurd (show (0 : Int) <= 4 /\ (4 : Int) < (qR.1.length : Int) by decide) h1
  ·obtain rfl : n = 4 := by omega
   obtain rfl := h3.uniq (zBD D) (zF8 D)
   rw [zLw] at h4 h5
   exact ⟨a, c, h4, h5, h6⟩
theorem zMU (x y : Int) (w : World) : Sep.Reads (some ⟨w.heap.size, 0, none⟩) (ivs [x, y]) (w.alloc (.cells #[.int .i64 x, .int .i64 y] 3)) := fun i hi => by
 have h2 : i < 2 := hi
 refine ⟨w.heap.size, 0, rfl, ?_⟩
 have : i = 0 \/ i = 1 := by omega
 rcases this with rfl | rfl <;> exact zAB rfl rfl
theorem zLA (x y : Int) (a : Option Addr) (c : Nat) (w : World) (h : Sep.Reads a (ivs [x, y]) w) : Calls Tryz.prog 16 #[.slice a 2 c, .slice (some ⟨w.heap.size, 0, none⟩) 2 2] (w.alloc (.cells #[.int .i64 x, .int .i64 y] 3)) (Is (.bool true) (w.alloc (.cells #[.int .i64 x, .int .i64 y] 3))) := by
 have h := zFz [x, y] [x, y] a (some ⟨w.heap.size, 0, none⟩) c 2 (w.alloc (.cells #[.int .i64 x, .int .i64 y] 3)) (h.below (boxed _ _) (Nat.le_refl _)) (zMU x y w) (by simp) (by simp)
 rw [decide_eq_true rfl] at h
 exact h
theorem zHg (W : World) : Calls Tryz.prog 7 #[] W (Is (.bool true) W) := by
 have A := zNR (zFq W)
 have C := zNR (zLU W)
 go_enter Tryz.func7, Tryz.ntmps7
 go_wp2_with fail
 refine C.out.mono ?_
 rintro e w1 ⟨p, bE, E, v, rfl, hr, D, hb⟩
 have R1 := zNR hr
 have B1 := zNR (Gr.step A.out hb)
 have DD := zNR D
 clear hr hb A C D
 have CW := zNR (zNG R1.out DD.out)
 go_wp2_with fail
 refine CW.out.mono ?_
 rintro e w2 ⟨a, c, rfl, hR, hb⟩
 have R2 := zNR (R1.out.went hb)
 have B2 := zNR (Gr.step B1.out hb)
 have RW := zNR hR
 clear hR hb CW R1 B1
 have CT := zNR (zMh R2.out DD.out)
 go_wp2_with fail
 refine CT.out.mono ?_
 rintro e w3 ⟨a2, c2, rfl, hR, hb⟩
 have R3 := zNR (R2.out.went hb)
 have B3 := zNR (Gr.step B2.out hb)
 have RV := zNR (RW.out.below hb (Nat.le_refl _))
 have RT := zNR hR
 clear hR hb CT R2 B2 RW
 have I1 := zNR (zLA 1 3 a c w3 RV.out)
 go_wp2_with fail
 refine I1.out.mono ?_
 rintro e w4 ⟨rfl, hb⟩
 have b4 := Gr.step (boxed w3 (.cells #[.int .i64 1, .int .i64 3] 3)) hb
 have R4 := zNR (R3.out.went b4)
 have B4 := zNR (Gr.step B3.out b4)
 have RT4 := zNR (RT.out.below b4 (Nat.le_refl _))
 clear hb b4 I1 R3 B3 RT RV
 have I2 := zNR (zLA 1 2 a2 c2 w4 RT4.out)
 go_wp2_with fail
 refine I2.out.mono ?_
 rintro e w5 ⟨rfl, hb⟩
 have b5 := Gr.step (boxed w4 (.cells #[.int .i64 1, .int .i64 2] 3)) hb
 have R5 := zNR (R4.out.went b5)
 have B5 := zNR (Gr.step B4.out b5)
 clear hb b5 I2 R4 B4 RT4
 have LN := zNR (show Calls Tryz.prog 10 #[.pointer (some ⟨p, 0, none⟩)] w5 (Is (.int .i64 5) w5) from zFO GA qR p bE E v w5 R5.out)
 go_wp2_with fail
 refine LN.out.mono ?_
 rintro e w6 ⟨rfl, hb⟩
 have B6 := zNR (Gr.step B5.out hb)
 clear hb
 go_wp2
 go_ret
 exact ⟨rfl, B6.out⟩
