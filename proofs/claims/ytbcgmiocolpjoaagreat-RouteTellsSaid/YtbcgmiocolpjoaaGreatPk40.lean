/- A part of the proof. -/
import Derived.Test.YtbcgmiocolpjoaaGreatPk35
import Derived.Test.YtbcgmiocolpjoaaGreatPk39
set_option maxHeartbeats 4000000
set_option maxRecDepth 100000
set_option linter.unusedVariables false
namespace Go.Proofs.YtbcgmiocolpjoaaGreat
open Go.RowKit Go.Maps
namespace Au
open Gr (Gram Sh gv GAt Bx checkN zBC top)
open Im
theorem zOG {Y : List Itm} {a : Option Addr} {c : Nat} {w w' : World} {S : Nat -> Prop} (h : ItsV 108 w.heap.size Y (.slice a Y.length c) w') (hS : ∀ k, S k -> k < w.heap.size) : LAt S Y (.slice a Y.length c) w' := by
 obtain ⟨a', c', e, hc⟩ := h.shape
 simp only [Value.slice.injEq] at e
 obtain ⟨rfl, _, rfl⟩ := e
 exact ⟨a, c, rfl, hc, h.reads, fun _ b o e q => by
  have := (World.ownsRow.lt h b (by rw [e]; rfl)).1
  have := hS b q
  omega⟩
theorem zMp {G : Gram} {Y : List Itm} (hv : checkN G = 0) (h : Y = [((G.rules.length : Int), 0)]) : Fit3 Y := fun x hx => by
 rw [h, List.mem_singleton] at hx
 subst hx
 exact zCS hv (zB0 (Nat.le_refl _))
theorem zK2 {w : World} {p : Nat} {T : Nat -> Prop} {h : Sh} {G : Gram} {Y : List Itm} {X : Itm -> Option Int} {n : Nat} {w' : World} (e : Y = [((G.rules.length : Int), 0)]) (k : BAt w p T h G (zFf [] Y) X n w') : BAt w p T h G [[((G.rules.length : Int), 0)]] X n w' := by
 subst e
 exact k
theorem zIj (h : Sh) (G : Gram) (w : World) (k : GAt h G w) (ht : checkN G = 0 -> top G <= 1000) :
  Calls Tryz.prog 21 #[gv h G] w (zFA G w) := by
 have C := zPB (fun w1 (b : Below w.heap.size w w1) => zBC h G w1 (k.went b))
 have X := zPB (Bx.start h G w 25)
 by_cases hc : checkN G = 0
 ·have BG := zPB (fun w1 (b : Below w.heap.size w w1) => zIf h G w1 (k.went b))
  have KG := zPB k
  replace ht := ht hc
  rw [hc] at C
  have hmm := @run_makeMap Tryz.prog
  clear k
  unfold gv at C BG ⊢
  go_enter Tryz.func21, Tryz.ntmps21
  go_wp2_with (first
   | (go_at_call 37; refine (C.out _ X.out.below).mono ?_; rintro e w1 ⟨rfl, hb⟩; have X1 := zPB (X.out.went hb); obtain ⟨g0, g1, g2, g3⟩ := X1.out.box; have hq : w.heap.size < w1.heap.size := World.block_lt_of_cell? w1 ⟨w.heap.size, 0, none⟩ g0; have hq2 : w.heap.size < w1.heap.size + 1 := (by omega); have hq3 : w.heap.size < w1.heap.size + 1 + 1 := (by omega); have B0 := zPB (fresh h G w w1 X1.out.below 87); have X2 := zPB (((X1.out.alloc (.map #[] 0)).alloc (.map #[] 0)).alloc (.cells #[.slice h.a1 G.terms.length h.c1, .slice h.a2 G.nons.length h.c2, .slice h.a3 G.rules.length h.c3, .int .i64 G.start, .slice none 0 0, .map (some w1.heap.size), .map (some (w1.heap.size + 1))] 87)); clear hb)
   | (go_at_call 39; refine (BG.out _ X2.out.below).mono ?_; rintro e w3 ⟨Y, a3, c3, rfl, y1, y2, y3⟩; have HY := zPB (show Y = [((G.rules.length : Int), 0)] from (y1.iff (Q := fun x => x = ((G.rules.length : Int), 0)) fun x => ⟨fun q => q.2, fun q => ⟨hc, q⟩⟩).uniq ⟨zCo _, fun x => List.mem_singleton⟩); have U3 := zPB (zOG y2 B0.out.inn); have B3 := zPB (B0.out.went y3); have X3 := zPB (X2.out.went y3); clear y1 y2 y3)
   | (go_at_call 38; refine (zEB _ B3.out Y a3 c3 U3.out (zMp hc HY.out) (fun x hx => by cases hx) List.nodup_nil (Nat.zero_le _) (by rw [HY.out]; simp)).mono ?_; rintro e w4 ⟨rfl, T4, b4, f4, x4, _⟩; have R0 := zPB (BdR.start (zK2 HY.out b4)); clear b4 f4 x4))
  clear C BG X hmm
  go_loopw [6] (fun i wr => ∃ m : Nat, i = .int .i64 m /\ m <= 2000 /\ BdR w (w1.heap.size + 1 + 1) h G m wr) (fun i _ => 2001 - (intOf i).toNat)
  case atStart => exact ⟨0, rfl, Nat.zero_le _, R0.out⟩
  case round =>
   obtain ⟨m, rfl, hm, hR⟩ := hrel
   have R := zPB hR
   clear hR R0
   obtain ⟨⟨T, n, hB, hn⟩, hg, hfew⟩ := R.out
   have hgl := hg.len
   by_cases hlt : m < (runs G (top G) m).1.length
   ·have LV := zJa (W := w) wr hB KG.out hc ht (zCn G (top G) m) (by omega) (by omega) (by omega)
    rw [hgl] at LV
    have LVh := zPB LV
    have NX := zPB (fun (hs : ¬ 2000 < (runs G (top G) (m + 1)).1.length) => (show zDe G (m + 1) /\ (runs G (top G) (m + 1)).1.length <= 2000 from ⟨hg.next (R.out.not hlt), by omega⟩))
    have MY := zPB (R.out.many hlt)
    obtain ⟨a0, c0, bt, bn, us, k0⟩ := hB
    have q4 := k0.items
    clear k0 LV
    go_wp2_with (go_at_call 40; refine LVh.out.mono ?_; rintro e w5 ⟨rfl, T5, n5, b5, l5, f5, x5⟩; obtain ⟨a5, c5, bt5, bn5, us5, k5⟩ := b5; have K5 := zPB k5; have q5 : w5.cell? ⟨w1.heap.size + 1 + 1, 4, none⟩ = some (.slice a5 (runs G (top G) (m + 1)).1.length c5) := k5.items; clear k5 f5 x5)
    ·go_ret2
     exact ⟨[], 7, none, 0, rfl, .many hc (MY.out (by omega)) (by omega), .nil _ _, Nat.le_refl _, K5.out.below⟩
    ·obtain ⟨n1, n2⟩ := NX.out (by omega)
     refine ⟨⟨m + 1, by go_num, by omega, ⟨⟨T5, n5, ⟨a5, c5, bt5, bn5, us5, K5.out⟩, by omega⟩, n1, n2⟩⟩, ?_⟩
     simp [intOf]
     omega
   ·obtain ⟨d1, d2⟩ := R.out.done hlt
    have SA := zPB (zIP (W := w) wr hB KG.out ht (by omega))
    have DN := zPB (d1.done d2)
    have AO := zPB (zIe DN.out)
    obtain ⟨a0, c0, bt, bn, us, k0⟩ := hB
    have q4 := k0.items
    have HW := zPB k0.below
    clear k0
    go_wp2_with (go_at_call 41; refine SA.out.mono ?_; rintro e w5 ⟨a5, c5, rfl, s1, s2, s3⟩; have S1 := zPB s1; have S2 := zPB s2; have S3 := zPB (Gr.step HW.out s3); clear s1 s2 s3)
    go_ret2
    exact ⟨_, 0, a5, c5, rfl, AO.out ▸ .all hc d1 d2, S1.out, S2.out, S3.out⟩
 ·have hcb : (checkN G != 0) = true := by simpa using hc
  clear k
  unfold gv at C ⊢
  go_enter Tryz.func21, Tryz.ntmps21
  go_wp2_with (go_at_call 37; refine (C.out _ X.out.below).mono ?_; rintro e w1 ⟨rfl, hb⟩; have X1 := zPB (X.out.went hb); clear hb)
  go_ret2
  exact ⟨[], checkN G, none, 0, rfl, .bad hc, .nil _ _, Nat.le_refl _, X1.out.below⟩
end Au
namespace Ro
open Gr (Gram Sh GAt gv Bx checkN top cell_later zAB boxed drawn)
open Le (VAt ansT nilB zA3 zAC isA zKu)
open Im
open Au
theorem zFF {G : Gram} {er : Int} {X : List Sta} (h : Built G er X) : (er ≠ 0 /\ X = [] /\ Built G er []) \/ (er = 0 /\ checkN G = 0 /\ ∃ q, X = states q /\ Done G q /\ q.1.length <= 2000 /\ Built G 0 (states q)) := by
 cases h with
 | bad h1 => exact .inl ⟨h1, rfl, .bad h1⟩
 | many h1 h2 h3 => exact .inl ⟨by decide, rfl, .many h1 h2 h3⟩
 | all h1 h2 h3 => exact .inr ⟨rfl, h1, _, rfl, h2.done h3, by omega, .all h1 h2 h3⟩
def zN9 (G : Gram) (w : World) (e : Ending) (w' : World) : Prop :=
 (∃ er : Int, er ≠ 0 /\ Built G er [] /\ e = .returned (.tuple #[.pointer none, .int .i64 er]) /\ Below w.heap.size w w') \/
 ∃ (q : Whole) (p bE : Nat) (E : Nat -> Nat × Int) (v : Value), checkN G = 0 /\ Done G q /\ q.1.length <= 2000 /\ Built G 0 (states q) /\ e = .returned (.tuple #[.pointer (some ⟨p, 0, none⟩), .int .i64 0]) /\ RtAt G q p bE E v w' /\ Below w.heap.size w w'
theorem zMb {G : Gram} {q : Whole} {bE : Nat} {E : Nat -> Nat × Int} {v : Value} {w : World} (hF : Fil bE 73 (q.1.length * 2) (stV E) w) (hE : Ends (top G) q E) (hV : VAt (nilB G) v (ansT G) w) :
  RtAt G q w.heap.size bE E v (w.alloc (.cells #[.slice (some ⟨bE, 0, none⟩) q.1.length q.1.length, v] 65)) :=
 ⟨zAB rfl rfl, zAB rfl rfl, hF.went (boxed _ _), hE, hV.went (boxed _ _)⟩
theorem zCP (h : Sh) (G : Gram) (w : World) (k : GAt h G w) :
  Calls Tryz.prog 8 #[gv h G] w (zN9 G w) := by
 have X0 := zPB (Bx.start h G w 25)
 have BU := zPB (fun w1 (b : Below w.heap.size w w1) => zIj h G w1 (k.went b) (fun hv => Nat.le_trans (zBK hv) (by omega)))
 have LO := zPB (fun w1 (b : Below w.heap.size w w1) => Le.zCP h G w1 (k.went b))
 clear k
 obtain ⟨x0, x1, x2, x3⟩ := X0.out.box
 unfold gv at *
 go_enter Tryz.func8, Tryz.ntmps8
 go_wp2_with fail
 refine (BU.out _ X0.out.below).mono ?_
 rintro e w1 ⟨X, er, aX, cX, rfl, hB, hS, hle, hb1⟩
 have X1 := zPB (X0.out.went hb1)
 clear x0 x1 x2 x3 X0 hb1 BU
 obtain ⟨x0, x1, x2, x3⟩ := X1.out.box
 rcases zFF hB with ⟨h0, rfl, hB'⟩ | ⟨rfl, hv, q, rfl, D, hlen, hB'⟩
 ·have hne : (er != 0) = true := by simpa using h0
  go_wp2
  exact bodyPost_ret (v := .tuple #[.pointer none, .int .i64 er]) (by simp [results, Tryz.results8, go_sem]) rfl (.inl ⟨er, h0, hB', rfl, X1.out.below⟩)
 ·have hsl : (states q).length = q.1.length := zAg D.all
  rw [hsl]
  have SE := zPB (fun w2 (b : Below w1.heap.size w1 w2) => zIN G q D hlen (zBK hv) aX cX w2 (hS.went b))
  have hnb : nilB G = false := by
   unfold nilB
   rw [decide_eq_true hv]
   rfl
  have LQ := zPB (fun w2 (b : Below w1.heap.size w1 w2) => (show Calls Tryz.prog 23 #[.agg #[.slice h.a1 G.terms.length h.c1, .slice h.a2 G.nons.length h.c2, .slice h.a3 G.rules.length h.c3, .int .i64 G.start]] w2 (fun e w' => ∃ pw : Nat, e = .returned (.pointer (some ⟨pw, 0, none⟩)) /\ VAt (nilB G) (.pointer (some ⟨pw, 0, none⟩)) (ansT G) w' /\ Below w2.heap.size w2 w') from
   (LO.out w2 (Gr.step X1.out.below b)).mono fun e w' ⟨v, h1, h2, h3⟩ => by
    rcases h2 with ⟨h4, _, _⟩ | ⟨h4, pw, qw, n, rfl, h5⟩
    ·rw [hnb] at h4
     cases h4
    ·exact ⟨pw, h1, .inr ⟨h4, pw, qw, n, rfl, h5⟩, h3⟩))
  have HQ := zPB (fun w' (b : Below w1.heap.size w1 w') => (show w'.cell? ⟨w.heap.size, 0, none⟩ = some (.slice h.a1 G.terms.length h.c1) /\ w'.cell? ⟨w.heap.size, 1, none⟩ = some (.slice h.a2 G.nons.length h.c2) /\ w'.cell? ⟨w.heap.size, 2, none⟩ = some (.slice h.a3 G.rules.length h.c3) /\ w'.cell? ⟨w.heap.size, 3, none⟩ = some (.int .i64 G.start) from ⟨cell_later b x0, cell_later b x1, cell_later b x2, cell_later b x3⟩))
  have RG := zPB (fun (p bE : Nat) (E : Nat -> Nat × Int) (v : Value) (w' : World) (r : RtAt G q p bE E v w') (b : Below w1.heap.size w1 w') => (show zN9 G w (.returned (.tuple #[.pointer (some ⟨p, 0, none⟩), .int .i64 0])) w' from .inr ⟨q, p, bE, E, v, hv, D, hlen, hB', rfl, r, Gr.step X1.out.below b⟩))
  have kA := drawn w1
  clear hB hS hle hB' LO x0 x1 x2 x3 hsl
  obtain ⟨x0, x1, x2, x3⟩ := HQ.out w1 (.refl _ _)
  go_wp2_with fail
  go_region_held3 (fun w' => w'.cell? ⟨w.heap.size, 0, none⟩ = some (.slice h.a1 G.terms.length h.c1) /\ w'.cell? ⟨w.heap.size, 1, none⟩ = some (.slice h.a2 G.nons.length h.c2) /\ w'.cell? ⟨w.heap.size, 2, none⟩ = some (.slice h.a3 G.rules.length h.c3) /\ w'.cell? ⟨w.heap.size, 3, none⟩ = some (.int .i64 G.start))
   (first | exact HQ.out _ (by assumption) | exact HQ.out _ (Gr.step (by assumption) (boxed _ _)))
   (first
    | (go_at_call 22; (with_reducible refine (SE.out _ (by assumption)).mono ?_); rintro e w5 ⟨bE, E, rfl, hbE, hF, hEn, hb5⟩; have kS : Below w1.heap.size w1 w5 := Gr.step (by assumption) hb5; have FF := zPB hF; have EN := zPB hEn; have H5 := zPB hb5; clear hbE hF hEn hb5)
    | (go_at_call 23; (with_reducible refine (LQ.out _ (by assumption)).mono ?_); rintro e w6 ⟨pw, rfl, hV, hb6⟩; have kL : Below w1.heap.size w1 w6 := Gr.step (by assumption) hb6; have VV := zPB hV; have H6 := zPB hb6; clear hV hb6)
    | fail)
  all_goals
   first
    | (have R := zPB (RG.out _ _ _ _ _ (zMb (FF.out.went H6.out) EN.out VV.out) (Gr.step kL (boxed _ _))); go_wp2; exact bodyPost_ret (v := .tuple #[.pointer (some ⟨w6.heap.size, 0, none⟩), .int .i64 0]) (by simp [results, Tryz.results8, go_sem]) rfl R.out)
    | (have R := zPB (RG.out _ _ _ _ _ (zMb FF.out EN.out (VV.out.went H5.out)) (Gr.step kS (boxed _ _))); go_wp2; exact bodyPost_ret (v := .tuple #[.pointer (some ⟨w5.heap.size, 0, none⟩), .int .i64 0]) (by simp [results, Tryz.results8, go_sem]) rfl R.out)
def zGf (G : Gram) (q : Whole) (i : Int) (w : World) (e : Ending) (w' : World) : Prop :=
 (¬ (0 <= i /\ i < (q.1.length : Int)) /\ e = .returned (.tuple #[.slice none 0 0, .bool false]) /\ Below w.heap.size w w') \/
 ∃ (n : Nat) (W : List Int), i = (n : Int) /\ n < q.1.length /\ zCC (top G) q W n /\ zKu (zA3 (nilB G) (ansT G) W) w e w'
theorem zHT (G : Gram) (q : Whole) (hl : q.1.length <= 2000) (p bE : Nat) (E : Nat -> Nat × Int) (v : Value) (i : Int) (w : World) (h : RtAt G q p bE E v w) :
  Calls Tryz.prog 14 #[.pointer (some ⟨p, 0, none⟩), .int .i64 i] w (zGf G q i w) := by
 have WA := zPB (zE7 G q hl p bE E v i w h)
 have HH := zPB (fun w1 (b : Below w.heap.size w w1) => h.went b)
 clear h
 go_enter Tryz.func14, Tryz.ntmps14
 go_wp2_with fail
 refine WA.out.mono ?_
 rintro e w1 hw
 rcases hw with ⟨hn, rfl, hb⟩ | ⟨n, W, a, c, rfl, hn, hL, rfl, hr, hwl, hb⟩
 ·have HB := zPB hb
  have HN := zPB hn
  clear hb hn
  go_wp2
  exact bodyPost_ret (v := .tuple #[.slice none 0 0, .bool false]) (by simp [results, Tryz.results14, go_sem]) rfl (.inl ⟨HN.out, rfl, HB.out⟩)
 ·have R1 := HH.out w1 hb
  have c1 := R1.c1
  have LI := zPB (Le.zLV (nilB G) v (ansT G) W a c w1 R1.words hr (by omega))
  have HL := zPB hL
  have HB := zPB hb
  clear R1 hr hL hb
  go_wp2_with fail
  refine LI.out.mono ?_
  rintro e w2 ⟨ad, c2', rfl, hr2, hb2⟩
  have GV := zPB (show zGf G q (n : Int) w (.returned (.tuple #[.slice ad (zAC (zA3 (nilB G) (ansT G) W)).length c2', .bool (isA (zA3 (nilB G) (ansT G) W))])) w2 from .inr ⟨n, W, rfl, hn, HL.out, ad, c2', rfl, hr2, Gr.step HB.out hb2⟩)
  clear hr2 hb2
  generalize zA3 (nilB G) (ansT G) W = A at *
  generalize (zAC A).length = m at *
  generalize isA A = bo at *
  go_wp2
  exact bodyPost_ret (v := .tuple #[.slice ad m c2', .bool bo]) (by simp [results, Tryz.results14, go_sem]) rfl GV.out
