/- A part of the proof. -/
import Derived.Test.YtbajcecncgdpmaaGreatDoorPk46
set_option maxHeartbeats 8000000
set_option maxRecDepth 100000
set_option linter.unusedVariables false
namespace Go.Proofs.YtbajcecncgdpmaaGreatDoor
open Go.RowKit Go.Maps
namespace Lk
open Gr (Gram Sh gv boxed drawn zAA cell_later ivs)
open Im
open Au
theorem zDd {W : World} {h : Sh} {G : Gram} {q : Whole} {aL : Option Addr} {cL n : Nat} {vF : Value} {Y : Nat -> List Itm} {M : Nat -> Nat} {D : Nat -> Nat -> Nat} {p q1 q2 k1 k2 : Nat} {H : Tb} (B : Base W h G q aL vF n Y) (w : World) (k : LkAt W h G aL cL n vF Y M D p q1 q2 k1 k2 H w)
    (i : Nat) (hi : i < n) (x : Itm) (t : Int) (ht : 0 <= t /\ t < ((G.terms.length + 1 : Nat) : Int)) :
    Calls Tryz.prog 50 #[.pointer (some ⟨p, 0, none⟩), .int .i64 i, iv x, .int .i64 t] w (PutR W h G aL cL n vF Y M D p q1 q2 k1 k2 H (outL G q i x t) w) := by
  have S0 := zUB (Sp.start k x)
  have hgl : G.terms.length <= 1000 := by
    have := (Fi.zAs B.ok).t
    omega
  have BH := zUB (fun w1 (b : Below W.heap.size W w1) => zIY h G x w1 (B.gram.went b))
  have GO := zUB (fun (s : Int) w1 (b : Below W.heap.size W w1) => (show Calls Tryz.prog 82 #[.slice aL n cL, .int .i64 (i : Int), .int .i64 s] w1 (Gr.Is (.int .i64 (leads (q.2.getD i []) s)) w1) from by
    have := zLA (Au.states q) aL cL (i : Int) s w1 (B.sts.went b) B.small
    rw [← B.len, B.goto hi] at this
    exact this))
  have PU := zUB (fun (l : List En) (wb : World) (c : Int) (y0 y1 : Int) (u : Int) (hu : 0 <= u /\ u < ((G.terms.length + 1 : Nat) : Int)) (w1 : World) (s : Sp W h G aL cL n vF Y M D p q1 q2 k1 k2 H wb x l w1) => zBd w1 s.lk B.lists B.cap hgl c (y0, y1) u hu)
  have NO := zUB (fun (s : Int) w1 (b : Below W.heap.size W w1) => Gr.zF9 h G s w1 (B.gram.went b))
  have RU := zUB (fun w1 (b : Below W.heap.size W w1) => Gr.zKq h G x.1 w1 (B.gram.went b))
  have OF := zUB (fun (s : Int) w1 (b : Below W.heap.size W w1) => Gr.zDY h G s w1 (B.gram.went b) (by have := (Fi.zAs B.ok).r; omega))
  have LI := zUB (fun w1 (b : Below W.heap.size W w1) L a c hR hL => Fr.zM2 w1 (B.sets.went b) (fun _ => B.tok) L a c hR hL)
  have ON := zUB (zDB (G := G) (q := q) (i := i) (x := x) (t := t))
  have OL := zUB (zN0 (G := G) (q := q) (i := i) (x := x) (t := t))
  have OM := zUB (zR2 (G := G) (q := q) (i := i) (x := x) (t := t))
  have XD := zUB (fun (e : behB G x = true) => (show 0 <= x.2 /\ x.2 < (rlen G x.1 : Int) /\ rlen G x.1 <= 8 /\ ∀ d (hd : d < (Gr.zAD G x.1).2.length), (Gr.zAD G x.1).2[d] ≠ 0 /\ (Gr.zAD G x.1).2[d] <= 9223372036854775807 from by
    obtain ⟨b1, b2⟩ := zAa.1 e
    obtain ⟨c1, c2⟩ := zAL.1 b1
    obtain ⟨r, hr⟩ := Int.eq_ofNat_of_zero_le c1.1
    rw [hr] at c2 c1 b2 ⊢
    have := zBF B.ok (r := r) (by omega)
    have hrb : Gr.zAN G (r : Int) = true := by
      unfold Gr.zAN
      exact decide_eq_true c1
    exact ⟨by omega, by omega, by omega, fun d hd => by
      have h1 := zAu B.ok hrb hd
      have h2 := (Fi.zAs B.ok).t
      have h3 := (Fi.zAs B.ok).n
      have h4 : Gr.top G = G.terms.length + G.nons.length := rfl
      omega⟩))
  unfold zEh rlen at *
  generalize outL G q i x t = ol at ON OL OM ⊢
  generalize Gr.zAD G x.1 = rr at *
  generalize behV G x = sym at *
  obtain ⟨xr, xd⟩ := x
  generalize hbb : behB G (xr, xd) = bb at *
  unfold gv iv at *
  dsimp only at *
  cases bb with
  | false =>
    have O2 := zUB (ON.out rfl)
    clear GO PU NO k RU OF LI ON OL OM XD
    go_enter Tryz.func50, Tryz.ntmps50
    generalize hw1 : w.alloc (.cells #[.int .i64 xr, .int .i64 xd] 57) = w1 at *
    have HQ := zUB (fun w' (b : Below w1.heap.size w1 w') => (S0.out.went b).cells)
    have kA := drawn w1
    go_wp2_with fail
    go_region_held3 (fun w' => w'.cell? ⟨p, 0, none⟩ = some (.slice h.a1 G.terms.length h.c1) /\ w'.cell? ⟨p, 1, none⟩ = some (.slice h.a2 G.nons.length h.c2) /\ w'.cell? ⟨p, 2, none⟩ = some (.slice h.a3 G.rules.length h.c3) /\ w'.cell? ⟨p, 3, none⟩ = some (.int .i64 G.start) /\ w'.cell? ⟨p, 4, none⟩ = some (.slice aL n cL) /\ w'.cell? ⟨p, 5, none⟩ = some vF /\ w'.cell? ⟨w.heap.size, 0, none⟩ = some (.int .i64 xr) /\ w'.cell? ⟨w.heap.size, 1, none⟩ = some (.int .i64 xd))
      (exact HQ.out _ (by assumption))
      (first
        | (go_at_call 17; refine (BH.out _ (S0.out.went kA).lk.below).mono ?_; rintro e w2 ⟨rfl, hb⟩; have kb2 : Below w1.heap.size w1 w2 := Gr.step kA hb; clear hb)
        | fail)
    have S2 := zUB (S0.out.went kb2)
    go_wp2_with fail
    go_ret
    rw [O2.out]
    exact S2.out.done (by rw [zOd])
  | true =>
    have OL2 := zUB (OL.out rfl)
    have OM2 := zUB (OM.out rfl)
    obtain ⟨hx0, hx1, hx2, hx3⟩ := XD.out rfl
    have NZ := zUB hx3
    clear hx3
    obtain ⟨d, rfl⟩ := Int.eq_ofNat_of_zero_le hx0
    have hdl : d < rr.2.length := by omega
    have hdt : ((d : Int) + 1).toNat = d + 1 := by omega
    rw [hdt] at OM2
    clear hx0 hx1 hdt
    clear k ON OL OM XD
    go_enter Tryz.func50, Tryz.ntmps50
    generalize hw1 : w.alloc (.cells #[.int .i64 xr, .int .i64 (d : Int)] 57) = w1 at *
    have HQ := zUB (fun w' (b : Below w1.heap.size w1 w') => (S0.out.went b).cells)
    have kA := drawn w1
    go_wp2_with fail
    go_region_held3 (fun w' => w'.cell? ⟨p, 0, none⟩ = some (.slice h.a1 G.terms.length h.c1) /\ w'.cell? ⟨p, 1, none⟩ = some (.slice h.a2 G.nons.length h.c2) /\ w'.cell? ⟨p, 2, none⟩ = some (.slice h.a3 G.rules.length h.c3) /\ w'.cell? ⟨p, 3, none⟩ = some (.int .i64 G.start) /\ w'.cell? ⟨p, 4, none⟩ = some (.slice aL n cL) /\ w'.cell? ⟨p, 5, none⟩ = some vF /\ w'.cell? ⟨w.heap.size, 0, none⟩ = some (.int .i64 xr) /\ w'.cell? ⟨w.heap.size, 1, none⟩ = some (.int .i64 (d : Int)))
      (exact HQ.out _ (by assumption))
      (first
        | (go_at_call 17; refine (BH.out _ (S0.out.went kA).lk.below).mono ?_; rintro e w2 ⟨rfl, hb⟩; have kb2 : Below w1.heap.size w1 w2 := Gr.step kA hb; clear hb)
        | fail)
    have S2 := zUB (S0.out.went kb2)
    clear HQ kA
    have hwr : IntKind.i64.wrap ((d : Int) + 1) = (d : Int) + 1 := IntWalk.i64_in _ (by omega)
    have GO2 := zUB (fun w1 (b : Below W.heap.size W w1) => GO.out sym w1 b)
    generalize hld : leads (q.2.getD i []) sym = ld at GO2 OL2 OM2
    have HQ := zUB (fun w' (f : Sep.Fr (Rs n Y D) w2 w') => S2.out.cells_fr f)
    have kA : Sep.Fr (Rs n Y D) w2 w2.drew := (Sep.Fr.refl _ _).drew
    go_wp2_with fail
    go_region_held3 (fun w' => w'.cell? ⟨p, 0, none⟩ = some (.slice h.a1 G.terms.length h.c1) /\ w'.cell? ⟨p, 1, none⟩ = some (.slice h.a2 G.nons.length h.c2) /\ w'.cell? ⟨p, 2, none⟩ = some (.slice h.a3 G.rules.length h.c3) /\ w'.cell? ⟨p, 3, none⟩ = some (.int .i64 G.start) /\ w'.cell? ⟨p, 4, none⟩ = some (.slice aL n cL) /\ w'.cell? ⟨p, 5, none⟩ = some vF /\ w'.cell? ⟨w.heap.size, 0, none⟩ = some (.int .i64 xr) /\ w'.cell? ⟨w.heap.size, 1, none⟩ = some (.int .i64 (d : Int)))
      (exact HQ.out _ (by assumption))
      (first
        | (go_at_call 82; refine (GO2.out _ (S2.out.went (drawn w2)).lk.below).mono ?_; rintro e w3 ⟨rfl, hb⟩; have kG : Below w2.heap.size w2 w3 := Gr.step (drawn w2) hb; have kB : Sep.Fr (Rs n Y D) w2 w3 := .of_below kG; clear hb)
        | (go_at_call 49; refine (PU.out [] w ld xr ((d : Int) + 1) t ht _ (S2.out.went kG)).mono ?_; rintro e w4 q4; have kC : Sep.Fr (Rs n Y D) w2 w4 := kB.trans q4.2.2 fun b hb => .inl hb; obtain ⟨he4, hs4⟩ := (S2.out.went kG).put q4; rw [zJA] at he4; subst he4; rw [List.nil_append] at hs4; have S4 := zUB hs4; clear hs4 q4)
        | fail)
    have B4 := zUB S4.out.lk.below
    cases hnb : Gr.nonB G sym with
    | false =>
      have NO2 := zUB (NO.out sym)
      rw [hnb] at NO2
      have E := zUB (OL2.out hnb)
      clear hnb OL2 OM2 RU OF LI
      go_wp2_with (go_at_call 37; refine (NO2.out _ B4.out).mono ?_; rintro e w5 ⟨rfl, hb⟩; have S5 := zUB (S4.out.went hb); clear hb)
      go_ret
      rw [E.out]
      exact S5.out.done rfl
    | true =>
      have NO2 := zUB (NO.out sym)
      rw [hnb] at NO2
      have E := zUB (OM2.out hnb)
      clear hnb OL2 OM2
      go_wp2_with (go_at_call 37; refine (NO2.out _ B4.out).mono ?_; rintro e w5 ⟨rfl, hb⟩; have S5 := zUB (S4.out.went hb); have B5 := zUB (Gr.step B4.out hb); clear hb)
      clear HQ kA kB kC kG
      have HQ := zUB (fun w' (b : Below w5.heap.size w5 w') => (S5.out.went b).cells)
      have hbd := drawn w5
      have hbe : Below w5.heap.size w5 (w5.alloc (.cells #[.int .i64 0, .slice none 0 0] 41)).drew := ((Below.refl _ _).alloc (Nat.le_refl _) _).drew
      have HT := zUB (show ∀ w' u v, Below w5.heap.size w5 w' -> Below w5.heap.size w5 ((w'.setCell ⟨w5.heap.size, 0, none⟩ u).setCell ⟨w5.heap.size, 1, none⟩ v) from fun w' u v hb => (hb.setCell (Nat.le_refl _) _).setCell (Nat.le_refl _) _)
      have Z0 := zUB (show (w5.alloc (.cells #[.int .i64 0, .slice none 0 0] 41)).drew.cell? ⟨w5.heap.size, 0, none⟩ = some (.int .i64 0) from zAA rfl rfl)
      have Z1 := zUB (show (w5.alloc (.cells #[.int .i64 0, .slice none 0 0] 41)).drew.cell? ⟨w5.heap.size, 1, none⟩ = some (.slice none 0 0) from zAA rfl rfl)
      have Z2 := zUB (show (w5.alloc (.cells #[.int .i64 0, .slice none 0 0] 41)).drew.frozen? ⟨w5.heap.size, 0, none⟩ = false from Gr.zBR rfl)
      have Z3 := zUB (show (w5.alloc (.cells #[.int .i64 0, .slice none 0 0] 41)).drew.frozen? ⟨w5.heap.size, 1, none⟩ = false from Gr.zBR rfl)
      have RX := zUB (fun w' (b : Below w5.heap.size w5 w') => RU.out w' (Gr.step B5.out b))
      clear RU
      generalize Gr.zAN G xr = rvb at RX
      obtain ⟨rl, rr⟩ := rr
      dsimp only at *
      go_region_held3 (fun w' => w'.cell? ⟨p, 0, none⟩ = some (.slice h.a1 G.terms.length h.c1) /\ w'.cell? ⟨p, 1, none⟩ = some (.slice h.a2 G.nons.length h.c2) /\ w'.cell? ⟨p, 2, none⟩ = some (.slice h.a3 G.rules.length h.c3) /\ w'.cell? ⟨p, 3, none⟩ = some (.int .i64 G.start) /\ w'.cell? ⟨p, 4, none⟩ = some (.slice aL n cL) /\ w'.cell? ⟨p, 5, none⟩ = some vF /\ w'.cell? ⟨w.heap.size, 0, none⟩ = some (.int .i64 xr) /\ w'.cell? ⟨w.heap.size, 1, none⟩ = some (.int .i64 (d : Int)))
        (first | exact HQ.out _ (by assumption) | exact HQ.out _ (Below.alloc (by assumption) (Below.size (by assumption)) _) | exact HQ.out _ (HT.out _ _ _ (by assumption)))
        (first
          | (go_at_call 12; refine (RX.out w5.drew hbd).mono ?_; rintro e v1 ⟨ra, rc, rfl, hR, hb, hrc⟩; have l1 : Below w5.heap.size w5 v1 := Gr.step hbd hb; have RD := zUB hR; clear hb hR)
          | (go_at_call 12; refine (RX.out (w5.alloc (.cells #[.int .i64 0, .slice none 0 0] 41)).drew hbe).mono ?_; rintro e v1 ⟨ra, rc, rfl, hR, hb, hrc⟩; have l1 : Below w5.heap.size w5 v1 := Gr.step hbe hb; have z0 := cell_later hb Z0.out; have z1 := cell_later hb Z1.out; have z2 := Gr.zAy hb Z2.out Z0.out; have z3 := Gr.zAy hb Z3.out Z0.out; have RD := zUB hR; clear hb hR)
          | fail)
      all_goals
        first
          | (have BC := zUB (zK8 (rl := rl) (rc := rc) 41 l1 RD.out); obtain ⟨wc, hwc⟩ : ∃ wc, v1.alloc (.cells #[.int .i64 rl, .slice ra rr.length rc] 41) = wc := ⟨_, rfl⟩; rw [hwc] at BC; rw [hwc]; clear hwc RD l1; generalize v1.heap.size = rb at BC ⊢)
          | (have BC := zUB (zM9 (rl := rl) (rc := rc) l1 RD.out z0 z1); obtain ⟨wc, hwc⟩ : ∃ wc, (v1.setCell ⟨w5.heap.size, 0, none⟩ (.int .i64 rl)).setCell ⟨w5.heap.size, 1, none⟩ (.slice ra rr.length rc) = wc := ⟨_, rfl⟩; rw [hwc] at BC; rw [hwc]; clear hwc RD l1 z0 z1 z2 z3; generalize hrbb : w5.heap.size = rb at BC ⊢)
        have S6 := zUB (S5.out.went BC.out.below)
        have c6 := BC.out.cell
        have R6 := zUB (zKX BC.out fun d hd => (NZ.out d hd).1)
        have RC := zUB hrc
        go_wp2_with fail
        obtain ⟨i0, hii, hz0, hz1, hz2⟩ := info_parts Gr.zAx
        have hbn := Gr.zDl
        obtain ⟨a1, c1, e1, t1⟩ := zQh R6.out (k := d + 1) (by omega) RC.out
        rw [show ((d + 1 : Nat) : Int) = (d : Int) + 1 by omega] at e1
        have T1 := zUB (fun w1 (b : Below wc.heap.size wc w1) => t1.below b (Nat.le_refl _))
        have l1 : (ivs (rr.drop (d + 1))).length = rr.length - (d + 1) := by rw [zDg, List.length_drop]
        have C6 := zUB c6
        obtain ⟨_, _, _, _, _, y0, _, y2⟩ := S6.out.cells
        have y1 := c6
        have hr8 : rr.length <= 8 := hx2
        have h0q : p < wc.heap.size := World.block_lt_of_cell? wc ⟨p, 5, none⟩ y0
        have h1q : rb < wc.heap.size := World.block_lt_of_cell? wc ⟨rb, 1, none⟩ y1
        have h2q : w.heap.size < wc.heap.size := World.block_lt_of_cell? wc ⟨w.heap.size, 1, none⟩ y2
        have hsW : wc.drew.heap.size = wc.heap.size := rfl
        have KW := zUB S6.out.lk.below
        have LL : (rr.drop (d + 1) ++ [t]).length = rr.length - (d + 1) + 1 := by rw [List.length_append, List.length_drop, List.length_singleton]
        have FITS := zUB (show ∀ x ∈ rr.drop (d + 1) ++ [t], x <= 9223372036854775807 from fun x hx => by
          rcases List.mem_append.1 hx with q | q
          · obtain ⟨j, hj, rfl⟩ := List.getElem_of_mem (List.mem_of_mem_drop q)
            exact (NZ.out j hj).2
          · rw [List.mem_singleton.1 q]
            omega)
        have LI2 := zUB (fun w1 (b : Below wc.heap.size wc w1) (a : Option Addr) (c : Nat) (hR : Sep.Reads a (ivs (rr.drop (d + 1) ++ [t])) w1) (hc : rr.length - (d + 1) + 1 <= c) => (by
          have := LI.out w1 (Gr.step KW.out b) (rr.drop (d + 1) ++ [t]) a c hR ⟨FITS.out, by omega, by omega⟩
          rw [LL] at this
          exact this : Calls Tryz.prog 83 #[vF, .slice a (rr.length - (d + 1) + 1) c] w1 (Fi.zRn (Fi.lst (Fi.zAO (Fi.canB G) (Fi.fstB G) (rr.drop (d + 1) ++ [t])) (G.terms.length + 1)) (!false && Fi.allC (Fi.canB G) (rr.drop (d + 1) ++ [t])) w1)))
        generalize hus : Fi.lst (Fi.zAO (Fi.canB G) (Fi.fstB G) (rr.drop (d + 1) ++ [t])) (G.terms.length + 1) = us at LI2 E
        generalize (!false && Fi.allC (Fi.canB G) (rr.drop (d + 1) ++ [t])) = ab at LI2
        clear t1 c6 R6 BC LI FITS LL
        have HQ8 := zUB (fun w' (b : Below wc.heap.size wc w') => (show w'.cell? ⟨p, 5, none⟩ = some vF /\ w'.cell? ⟨rb, 1, none⟩ = some (.slice ra rr.length rc) /\ w'.cell? ⟨w.heap.size, 1, none⟩ = some (.int .i64 (d : Int)) /\ Below wc.heap.size wc w' from ⟨cell_later b y0, cell_later b y1, cell_later b y2, b⟩))
        have kA := drawn wc
        clear y0 y1 y2
        go_region_held3 (fun w' => w'.cell? ⟨p, 5, none⟩ = some vF /\ w'.cell? ⟨rb, 1, none⟩ = some (.slice ra rr.length rc) /\ w'.cell? ⟨w.heap.size, 1, none⟩ = some (.int .i64 (d : Int)) /\ Below wc.heap.size wc w')
          (first | exact HQ8.out _ (by assumption) | exact HQ8.out _ (by first | exact Gr.step (boxed _ _) (drawn _) | exact Gr.step (drawn _) (boxed _ _) | exact Gr.step (Gr.step (boxed _ _) (drawn _)) (boxed _ _) | exact Gr.step (Gr.step (boxed _ _) (boxed _ _)) (drawn _) | exact Gr.step (Gr.step (drawn _) (boxed _ _)) (boxed _ _) | exact boxed _ _ | exact Gr.step K4.out (boxed _ _) | exact K4.out | exact K5.out))
          (first
            | (refine Gr.zAh _ (by rfl) (.tmp 69) (.tmp 75) 37 (by rfl) wc.heap.size 3 i0 (.int .i64 0) 8 Tryz.underlying37 hii hz0 hz1 hz2 rfl _ 0 [] (by rfl) (Rw.zJP (by first | exact zBS _ _ | exact zCQ (by simp) | exact zCd (zBS _ _)) (by first | exact Nat.le_refl _ | (simp; done) | (simp; omega))) a1 (rr.length - (d + 1)) c1 (ivs (rr.drop (d + 1))) (by rfl) l1 (T1.out _ (by first | exact Gr.step (boxed _ _) (drawn _) | exact Gr.step (drawn _) (boxed _ _) | exact Gr.step (Gr.step (boxed _ _) (drawn _)) (boxed _ _) | exact Gr.step (Gr.step (boxed _ _) (boxed _ _)) (drawn _) | exact Gr.step (Gr.step (drawn _) (boxed _ _)) (boxed _ _))) (Gr.zDk _) (by unfold maxLen; omega) (by omega) (by first | (simp; done) | (simp; omega)) ?_
               intro v7 w7 hown4 hg4 _
               obtain ⟨a7, c7, rfl⟩ := Rw.zAH hown4
               rw [Nat.zero_add] at hown4 ⊢
               have K4 := zUB (show Below wc.heap.size wc w7 from Below.grown (by first | exact Gr.step (boxed _ _) (drawn _) | exact Gr.step (drawn _) (boxed _ _) | exact Gr.step (Gr.step (boxed _ _) (drawn _)) (boxed _ _) | exact Gr.step (Gr.step (boxed _ _) (boxed _ _)) (drawn _) | exact Gr.step (Gr.step (drawn _) (boxed _ _)) (boxed _ _)) hg4 (Below.size (by first | exact Gr.step (boxed _ _) (drawn _) | exact Gr.step (drawn _) (boxed _ _) | exact Gr.step (Gr.step (boxed _ _) (drawn _)) (boxed _ _) | exact Gr.step (Gr.step (boxed _ _) (boxed _ _)) (drawn _) | exact Gr.step (Gr.step (drawn _) (boxed _ _)) (boxed _ _))) (fun k hk => by simp [Value.ownBlock] at hk; omega))
               have O4 := zUB (show w7.ownsRow wc.heap.size 3 1 (.slice a7 (rr.length - (d + 1)) c7) (rr.length - (d + 1)) (ivs (rr.drop (d + 1))) from hown4)
               (first
                 | (have RB4 := zUB (show w7.heap[wc.heap.size + 1]? = some (.cells #[.int .i64 t] 3 (0, 0)) from (hg4.block _ (by simp) (by simp [Value.ownBlock])).trans (by first | exact zCQ (by simp) | exact zCQ rfl)))
                 | (have RB4 := zUB (show w7.heap[wc.heap.size]? = some (.cells #[.int .i64 t] 3 (0, 0)) from (hg4.block _ (by simp; try omega) (by simp [Value.ownBlock])).trans (by first | exact zCd (zCQ rfl) | exact zCd (zBS _ _))))
                 | skip)
               have hs4 := K4.out.size
               have h0q4 : p < w7.heap.size := by omega
               have h1q4 : rb < w7.heap.size := by omega
               have h2q4 : w.heap.size < w7.heap.size := by omega
               clear hown4 hg4)
            | (refine Gr.zAh _ (by rfl) (.tmp 76) (.tmp 78) 37 (by rfl) wc.heap.size 3 i0 (.int .i64 0) 8 Tryz.underlying37 hii hz0 hz1 hz2 rfl (.slice a7 (rr.length - (d + 1)) c7) (rr.length - (d + 1)) (ivs (rr.drop (d + 1))) (by rfl) (by first | exact O4.out | exact Sep.zAC O4.out fun g hg => Below.heap_alloc _ _ _ (O4.out.lt g hg).2) (some ⟨wc.heap.size + 1, 0, none⟩) 1 1 (ivs [t]) (by rfl) rfl (zGM RB4.out) (Gr.zDk _) (by unfold maxLen; omega) (by omega) (by first | exact K4.out.size | exact (Gr.step K4.out (boxed _ _)).size) ?_
               intro v8 w8 hown2 hg2 _
               have K5 := zUB (show Below wc.heap.size wc w8 from Below.grown (w := _) (by first | exact K4.out | exact Gr.step K4.out (boxed _ _)) hg2 (by first | exact K4.out.size | exact (Gr.step K4.out (boxed _ _)).size) (fun k hk => (O4.out.lt k hk).1))
               obtain ⟨a8, c8, rfl⟩ := Rw.zAH hown2
               have O5 := zUB hown2
               have L8 := zUB (LI2.out w8 K5.out a8 c8 (by rw [zHn]; exact Sep.Reads.of_row hown2) (Gr.zEF hown2))
               clear hown2 hg2)
            | (refine Gr.zAh _ (by rfl) (.tmp 76) (.tmp 78) 37 (by rfl) wc.heap.size 3 i0 (.int .i64 0) 8 Tryz.underlying37 hii hz0 hz1 hz2 rfl (.slice a7 (rr.length - (d + 1)) c7) (rr.length - (d + 1)) (ivs (rr.drop (d + 1))) (by rfl) (by first | exact O4.out | exact Sep.zAC O4.out fun g hg => Below.heap_alloc _ _ _ (O4.out.lt g hg).2) (some ⟨wc.heap.size, 0, none⟩) 1 1 (ivs [t]) (by rfl) rfl (zGM RB4.out) (Gr.zDk _) (by unfold maxLen; omega) (by omega) (by first | exact K4.out.size | exact (Gr.step K4.out (boxed _ _)).size) ?_
               intro v8 w8 hown2 hg2 _
               have K5 := zUB (show Below wc.heap.size wc w8 from Below.grown (w := _) (by first | exact K4.out | exact Gr.step K4.out (boxed _ _)) hg2 (by first | exact K4.out.size | exact (Gr.step K4.out (boxed _ _)).size) (fun k hk => (O4.out.lt k hk).1))
               obtain ⟨a8, c8, rfl⟩ := Rw.zAH hown2
               have O5 := zUB hown2
               have L8 := zUB (LI2.out w8 K5.out a8 c8 (by rw [zHn]; exact Sep.Reads.of_row hown2) (Gr.zEF hown2))
               clear hown2 hg2)
            | (refine Gr.zAh _ (by rfl) (.tmp 76) (.tmp 78) 37 (by rfl) wc.heap.size 3 i0 (.int .i64 0) 8 Tryz.underlying37 hii hz0 hz1 hz2 rfl (.slice a7 (rr.length - (d + 1)) c7) (rr.length - (d + 1)) (ivs (rr.drop (d + 1))) (by rfl) (by first | exact O4.out | exact Sep.zAC O4.out fun g hg => Below.heap_alloc _ _ _ (O4.out.lt g hg).2) (some ⟨w7.heap.size, 0, none⟩) 1 1 (ivs [t]) (by rfl) rfl (zGM (zBS _ _)) (Gr.zDk _) (by unfold maxLen; omega) (by omega) (by first | exact K4.out.size | exact (Gr.step K4.out (boxed _ _)).size) ?_
               intro v8 w8 hown2 hg2 _
               have K5 := zUB (show Below wc.heap.size wc w8 from Below.grown (w := _) (by first | exact K4.out | exact Gr.step K4.out (boxed _ _)) hg2 (by first | exact K4.out.size | exact (Gr.step K4.out (boxed _ _)).size) (fun k hk => (O4.out.lt k hk).1))
               obtain ⟨a8, c8, rfl⟩ := Rw.zAH hown2
               have O5 := zUB hown2
               have L8 := zUB (LI2.out w8 K5.out a8 c8 (by rw [zHn]; exact Sep.Reads.of_row hown2) (Gr.zEF hown2))
               clear hown2 hg2)
            | (go_simp; go_at_call 83; (with_reducible refine (L8.out).mono ?_); rintro e w9 ⟨a9, c9, rfl, g1, g2, g3⟩; have K9 := zUB (Gr.step K5.out g3); have R9 := zUB g1; have N9 := zUB (show ∀ b o, a9 = some ⟨b, o, none⟩ -> ¬ Rs n Y D b from fun b o e hb => by have q1 := g2 _ e; have q2 := S6.out.off b hb; have q3 := K5.out.size; dsimp only at q1; omega); clear g1 g2 g3 L8 O5 O4 K4 K5 T1 LI2 h0q h1q h2q h0q4 h1q4 h2q4 hs4 hbn e1 hii hz0 hz1 hz2 l1)
            | fail)
        all_goals
          have S9 := zUB (S6.out.went K9.out)
          obtain ⟨z0, z1, z2, z3, _, _, _, _⟩ := S9.out.cells
          clear HQ HQ8 kA RX HT Z0 Z1 Z2 Z3 hbd hbe S6 S5 S4 S2 S0 KW RC NZ C6 K9
          have OF2 := zUB (OF.out sym)
          obtain ⟨rs, hrs⟩ : ∃ rs, Gr.ofN G sym = rs := ⟨_, rfl⟩
          rw [hrs] at E
          have hln : (Gr.ofL G sym).length = rs.length := by rw [Gr.zBB, hrs]
          have B9 := zUB S9.out.lk.below
          have hrl : rs.length <= 1000 := by
            have := (Fi.zAs B.ok).r
            have q : (Gr.ofL G sym).length <= G.rules.length := Gr.zJF _ _ _
            omega
          have hul : us.length <= 1000 := by
            rw [← hus]
            exact Nat.le_trans (Fi.zEf _ _) (by have := (Fi.zAs B.ok).t; omega)
          have USB := zUB (show ∀ u ∈ us, 0 <= u /\ u < ((G.terms.length + 1 : Nat) : Int) from fun u q => by
            rw [← hus] at q
            have := Fi.zBV.1 q
            exact ⟨this.1, this.2.1⟩)
          have RA := zUB (fun (wm : World) (a : Option Addr) (q : Sep.Reads a (ivs (Gr.ofL G sym)) wm) (kk : Nat) (hk : kk < rs.length) => zSP q hrs.symm hk)
          clear hus OF NO NO2 BH
          have KEEP := zUB (fun (a : Option Addr) (X : List Int) (w1 w2 : World) (q : Sep.Reads a (ivs X) w1) (f : Sep.Fr (Rs n Y D) w1 w2) (hn : ∀ b o, a = some ⟨b, o, none⟩ -> ¬ Rs n Y D b) => zF6 q f hn)
          go_wp2_with (go_at_call 45; refine (OF2.out _ B9.out).mono ?_; rintro e wt ⟨at_, ct, rfl, g1, g2, g3⟩; have ST := zUB (S9.out.went g3); have NT := zUB (show ∀ b o, at_ = some ⟨b, o, none⟩ -> ¬ Rs n Y D b from fun b o e hb => by have q1 := g2 _ e; have q2 := S9.out.lk.rs_lt hb; dsimp only at q1; omega); have RT := zUB g1; have R10 := zUB (R9.out.below g3 (Nat.le_refl _)); clear g1 g2 g3 z0 z1 z2 z3)
          try rw [hln]
          clear R9 S9 B9
          generalize hL0 : [(ld, (xr, (d : Int) + 1), t)] = L0 at ST E
          go_loopw [11, 17, 18] (fun m kx _ wx => ∃ kk : Nat, kx = .int .i64 kk /\ kk <= rs.length /\ m = .bool (newT n Y H (L0 ++ zEE i (rs.take kk) us)) /\ Sp W h G aL cL n vF Y M D p q1 q2 k1 k2 H w (xr, (d : Int)) (L0 ++ zEE i (rs.take kk) us) wx /\ Sep.Reads a9 (ivs us) wx /\ Sep.Reads at_ (ivs (Gr.ofL G sym)) wx) (fun _ kx _ _ => rs.length - (intOf kx).toNat)
          case atStart => exact ⟨0, rfl, Nat.zero_le _, by rw [List.take_zero, zGd, List.append_nil], by rw [List.take_zero, zGd, List.append_nil]; exact ST.out, R10.out, RT.out⟩
          case round =>
            obtain ⟨kk, rfl, hk, rfl, hS, hR9, hRT⟩ := hrel
            clear ST R10 RT
            have SK := zUB hS
            have RK9 := zUB hR9
            have RKT := zUB hRT
            clear hS hR9 hRT
            generalize hLk : L0 ++ zEE i (rs.take kk) us = Lk at SK ⊢
            by_cases hlt : kk < rs.length
            · have SNO := zUB (show Lk ++ us.map (fun u => ((i : Int), ((rs[kk] : Int), (0 : Int)), u)) = L0 ++ zEE i (rs.take (kk + 1)) us from by rw [← hLk, List.take_succ_eq_append_getElem hlt, zLY, List.append_assoc])
              have RAK := zUB (fun wm q => RA.out wm at_ q kk hlt)
              generalize rs[kk] = r at SNO RAK
              clear hLk
              go_wp2
              go_loopw [11, 18] (fun m jx wx => ∃ jj : Nat, jx = .int .i64 jj /\ jj <= us.length /\ m = .bool (newT n Y H (Lk ++ (us.take jj).map (fun u => ((i : Int), ((r : Int), (0 : Int)), u)))) /\ Sp W h G aL cL n vF Y M D p q1 q2 k1 k2 H w (xr, (d : Int)) (Lk ++ (us.take jj).map (fun u => ((i : Int), ((r : Int), (0 : Int)), u))) wx /\ Sep.Reads a9 (ivs us) wx /\ Sep.Reads at_ (ivs (Gr.ofL G sym)) wx) (fun _ jx _ => us.length - (intOf jx).toNat)
              case atStart => exact ⟨0, rfl, Nat.zero_le _, by rw [List.take_zero, List.map_nil, List.append_nil], by rw [List.take_zero, List.map_nil, List.append_nil]; exact SK.out, RK9.out, RKT.out⟩
              case round =>
                obtain ⟨jj, rfl, hj, rfl, hS, hR9, hRT⟩ := hrel
                clear SK RK9 RKT
                have SJ := zUB hS
                have RJ9 := zUB hR9
                have RJT := zUB hRT
                clear hS hR9 hRT
                generalize hLj : Lk ++ (us.take jj).map (fun u => ((i : Int), ((r : Int), (0 : Int)), u)) = Lj at SJ ⊢
                by_cases hjt : jj < us.length
                · have hu := USB.out _ (List.getElem_mem hjt)
                  have NX := zUB (show Lj ++ [((i : Int), ((r : Int), (0 : Int)), us[jj])] = Lk ++ (us.take (jj + 1)).map (fun u => ((i : Int), ((r : Int), (0 : Int)), u)) from by rw [← hLj, List.take_succ_eq_append_getElem hjt, List.map_append, List.map_cons, List.map_nil, List.append_assoc])
                  obtain ⟨bt, ot, et, ct1⟩ := RAK.out _ RJT.out
                  obtain ⟨b9, o9, e9, ct2⟩ := RJ9.out jj (by rw [zDg]; exact hjt)
                  have ct3 : wr.cell? ⟨b9, o9 + jj, none⟩ = some (.int .i64 us[jj]) := by simpa [ivs, Gr.iv] using ct2
                  have PX := zUB (fun w1 (q : Sp W h G aL cL n vF Y M D p q1 q2 k1 k2 H w (xr, (d : Int)) Lj w1) => PU.out Lj w (i : Int) (r : Int) 0 us[jj] hu w1 q)
                  have QT := zUB (fun w1 (f : Sep.Fr (Rs n Y D) wr w1) => KEEP.out _ _ _ _ RJT.out f NT.out)
                  have Q9 := zUB (fun w1 (f : Sep.Fr (Rs n Y D) wr w1) => KEEP.out _ _ _ _ RJ9.out f N9.out)
                  generalize us[jj] = u at *
                  subst et e9
                  have n1 := NT.out bt ot rfl
                  have n2 := N9.out b9 o9 rfl
                  have HQ := zUB (fun w' (f : Sep.Fr (Rs n Y D) wr w') => (show w'.cell? ⟨bt, ot + kk, none⟩ = some (.int .i64 (r : Int)) /\ w'.cell? ⟨b9, o9 + jj, none⟩ = some (.int .i64 u) from ⟨f.cell ct1 n1, f.cell ct3 n2⟩))
                  have kA : Sep.Fr (Rs n Y D) wr wr.drew := (Sep.Fr.refl _ _).drew
                  clear ct2 hLj hu n1 n2
                  go_wp2_with fail
                  go_region_held3 (fun w' => w'.cell? ⟨bt, ot + kk, none⟩ = some (.int .i64 (r : Int)) /\ w'.cell? ⟨b9, o9 + jj, none⟩ = some (.int .i64 u))
                    (exact HQ.out _ (by assumption))
                    (first
                      | (go_at_call 49; refine (PX.out _ (SJ.out.went (drawn wr))).mono ?_; rintro e w4 q4; have kC : Sep.Fr (Rs n Y D) wr w4 := kA.trans q4.2.2 fun b hb => .inl hb; obtain ⟨he4, hs4⟩ := (SJ.out.went (drawn wr)).put q4; subst he4; have S4 := zUB hs4; clear hs4 q4)
                      | fail)
                  have QQ := zUB (zOL n Y H Lj [((i : Int), ((r : Int), (0 : Int)), u)])
                  have T9 := zUB (Q9.out _ kC)
                  have TT := zUB (QT.out _ kC)
                  rw [NX.out] at S4 QQ
                  generalize newT n Y (addT n Y H Lj) [((i : Int), ((r : Int), (0 : Int)), u)] = nb at QQ ⊢
                  cases nb with
                  | true =>
                    go_wp2_with fail
                    go_roundw
                    case rel => exact ⟨jj + 1, by go_num, by omega, by rw [QQ.out, Bool.or_true], S4.out, T9.out, TT.out⟩
                    case measure => simp [intOf]; omega
                  | false =>
                    go_wp2_with fail
                    go_roundw
                    case rel => exact ⟨jj + 1, by go_num, by omega, by rw [QQ.out, Bool.or_false], S4.out, T9.out, TT.out⟩
                    case measure => simp [intOf]; omega
                · have hE : jj = us.length := by omega
                  have EQ := zUB (show Lj = L0 ++ zEE i (rs.take (kk + 1)) us from by rw [← SNO.out, ← hLj, hE, List.take_length])
                  clear hLj
                  go_wp2
                  go_roundw
                  case rel => exact ⟨kk + 1, by go_num, by omega, by rw [← EQ.out], by rw [← EQ.out]; exact SJ.out, RJ9.out, RJT.out⟩
                  case measure => simp [intOf]; omega
            · have hE : kk = rs.length := by omega
              have EQ := zUB (show Lk = ol from by rw [E.out, ← hLk, hE, List.take_length])
              clear hLk
              go_wp2
              go_ret
              have := SK.out.done (b := newT n Y H Lk) rfl
              rw [EQ.out] at this
              rw [EQ.out]
              exact this
end Lk
namespace Lk
open Gr (Gram Sh)
open Im
open Au
def zST (W : World) (h : Sh) (G : Gram) (q : Whole) (aL : Option Addr) (cL n : Nat) (vF : Value) (Y : Nat -> List Itm) (M : Nat -> Nat) (D : Nat -> Nat -> Nat) (p q1 q2 k1 k2 : Nat) (e : Ending) (w' : World) : Prop :=
 e = .returned (.tuple #[]) /\ ∃ H, LkAt W h G aL cL n vF Y M D p q1 q2 k1 k2 H w' /\ ∀ i x t, H i x t = true ↔ La G q i x t
theorem zNy {W : World} {h : Sh} {G : Gram} {q : Whole} {aL : Option Addr} {cL n : Nat} {vF : Value} {Y : Nat -> List Itm} {M : Nat -> Nat} {D : Nat -> Nat -> Nat} {p q1 q2 k1 k2 : Nat} {H : Tb} (B : Base W h G q aL vF n Y) (w : World) (k : LkAt W h G aL cL n vF Y M D p q1 q2 k1 k2 H w)
  (so : SoT G q H) (hn : n = q.1.length) (hY : ∀ i, i < q.1.length -> ∀ x, x ∈ Y i ↔ Clo G (zAG q.1 i) x) :
  Calls Tryz.prog 20 #[.pointer (some ⟨p, 0, none⟩)] w (zST W h G q aL cL n vF Y M D p q1 q2 k1 k2) := by
 have SP := zUB (fun (H : Tb) w1 (k : LkAt W h G aL cL n vF Y M D p q1 q2 k1 k2 H w1) (i : Nat) (hi : i < n) (x : Itm) (t : Nat) (ht : t < G.terms.length + 1) => zDd B w1 k i hi x (t : Int) ⟨by omega, by omega⟩)
 have FU := zUB (fun (H1 H2 : Tb) (p : Pass G q n Y (G.terms.length + 1) H1 n 0 0 H2 false) => p.full B.done B.ok hn rfl hY)
 have hcap := B.cap
 have hlist := B.lists
 have LS := zUB hlist
 have hT : G.terms.length <= 1000 := by have := (Fi.zAs B.ok).t; omega
 have K0 := zUB k
 have SO := zUB so
 clear k so hY hlist hn
 unfold zST
 go_enter Tryz.func20, Tryz.ntmps20
 go_wp2_with fail
 go_loopg [2] (zAr n Y (G.terms.length + 1) H + 1) (fun g mo wr => ∃ (b : Bool) (H' : Tb), mo = .bool b /\ LkAt W h G aL cL n vF Y M D p q1 q2 k1 k2 H' wr /\ SoT G q H' /\ (b = true -> zAr n Y (G.terms.length + 1) H' + 1 <= g) /\ (b = false -> ∀ i x t, H' i x t = true ↔ La G q i x t))
 case atStart => exact ⟨true, H, rfl, K0.out, SO.out, fun _ => Nat.le_refl _, fun e => by cases e⟩
 case round =>
  obtain ⟨b, H1, rfl, hk, hs, hm, hf⟩ := hrel
  cases b with
  | false =>
   have FF := hf rfl
   have KK := zUB hk
   clear hk hs hm hf
   go_wp2
   go_end0
   exact ⟨rfl, H1, KK.out, FF⟩
  | true =>
   have hm' := hm rfl
   have K1 := zUB hk
   have P1 := zUB (Pass.start (n := n) (Y := Y) (m := G.terms.length + 1) hs)
   clear hk hs hm hf K0 SO
   go_wp2_with fail
   go_loopw [2, 3] (fun mo t wz => ∃ (i : Nat) (b : Bool) (H2 : Tb), t = .int .i64 i /\ i <= n /\ mo = .bool b /\ Pass G q n Y (G.terms.length + 1) H1 i 0 0 H2 b /\ LkAt W h G aL cL n vF Y M D p q1 q2 k1 k2 H2 wz) (fun _ t _ => n - (intOf t).toNat)
   case atStart => exact ⟨0, false, H1, rfl, Nat.zero_le _, rfl, P1.out, K1.out⟩
   case round =>
    obtain ⟨i, b, H2, rfl, hil, rfl, hp, hk⟩ := hrel
    have PI := zUB hp
    have KI := zUB hk
    have e6 := hk.box.cell (j := 6) rfl
    clear hp hk P1 K1
    by_cases hi : i < n
    ·obtain ⟨hnd, hll⟩ := LS.out i hi
     have hi3 : (i : Int) < (n : Int) := by omega
     go_wp2_with fail
     go_loopw [2, 4] (fun mo t wz => ∃ (k : Nat) (b : Bool) (H3 : Tb), t = .int .i64 k /\ k <= (Y i).length /\ mo = .bool b /\ Pass G q n Y (G.terms.length + 1) H1 i k 0 H3 b /\ LkAt W h G aL cL n vF Y M D p q1 q2 k1 k2 H3 wz) (fun _ t _ => (Y i).length - (intOf t).toNat)
     case atStart => exact ⟨0, b, H2, rfl, Nat.zero_le _, rfl, PI.out, KI.out⟩
     case round =>
      obtain ⟨k, b, H3, rfl, hkl, rfl, hp, hk⟩ := hrel
      have PK := zUB hp
      have KK := zUB hk
      have f6 := hk.box.cell (j := 6) rfl
      obtain ⟨ai, ci, l0, _, _⟩ := hk.items i hi
      clear hp hk PI KI e6
      by_cases hlt : k < (Y i).length
      ·have hk3 : (k : Int) < ((Y i).length : Int) := by omega
       go_wp2_with fail
       clear f6 l0
       go_loopw [2, 5] (fun mo t wz => ∃ (s : Nat) (b : Bool) (H4 : Tb), t = .int .i64 s /\ s <= G.terms.length + 1 /\ mo = .bool b /\ Pass G q n Y (G.terms.length + 1) H1 i k s H4 b /\ LkAt W h G aL cL n vF Y M D p q1 q2 k1 k2 H4 wz) (fun _ t _ => G.terms.length + 1 - (intOf t).toNat)
       case atStart => exact ⟨0, b, H3, rfl, Nat.zero_le _, rfl, PK.out, KK.out⟩
       case round =>
        obtain ⟨s, b, H4, rfl, hsl, rfl, hp, hk⟩ := hrel
        have PS := zUB hp
        have KS := zUB hk
        have f6 := hk.box.cell (j := 6) rfl
        have f7 := hk.box.cell (j := 7) rfl
        obtain ⟨ai, ci, l0, l1, _⟩ := hk.items i hi
        obtain ⟨b5, o5, rfl, t0, t1⟩ := l1.at k hlt
        obtain ⟨ah, ch, m0, m1⟩ := hk.has i hi
        obtain ⟨rfl, m2⟩ := m1 k hlt
        have rw0 := (hk.row i k hi hlt).at_ s
        clear hp hk PK KK l1 m1
        by_cases hst : s < G.terms.length + 1
        ·have r0 := rw0 hst
         have hs3 : (s : Int) < ((G.terms.length + 1 : Nat) : Int) := by omega
         have hs4 : (s : Int) < (G.terms.length : Int) + 1 := by omega
         have SPx := zUB (SP.out H4 _ KS.out i hi (Y i)[k] s hst)
         have PV := zUB (fun hh => PS.out.visit rfl hst hlt hh)
         have PN := zUB (fun hh => PS.out.skip hlt hh)
         unfold iv at SPx
         generalize hx : (Y i)[k] = x at *
         obtain ⟨xr, xd⟩ := x
         dsimp only at t0 t1 SPx
         cases hH : H4 i (xr, xd) (s : Int) with
         | false =>
          have PN2 := zUB (PN.out hH)
          rw [hH] at r0
          clear hH PV PN SPx rw0
          go_wp2_with fail
          go_roundw
          case rel => exact ⟨s + 1, b, H4, by go_num, by omega, rfl, PN2.out, KS.out⟩
          case measure => simp [intOf]; omega
         | true =>
          have PV2 := zUB (PV.out hH)
          rw [hH] at r0
          clear hH PV PN rw0
          cases hN : newT n Y H4 (outL G q i (xr, xd) (s : Int)) with
          | false =>
           rw [hN, Bool.or_false] at PV2
           unfold PutR at SPx
           rw [hN] at SPx
           go_wp2_with (go_at_call 50; refine SPx.out.mono ?_; rintro e w7 ⟨rfl, hk7, _⟩; have K7 := zUB hk7; clear hk7)
           go_roundw
           case rel => exact ⟨s + 1, b, _, by go_num, by omega, rfl, PV2.out, K7.out⟩
           case measure => simp [intOf]; omega
          | true =>
           rw [hN, Bool.or_true] at PV2
           unfold PutR at SPx
           rw [hN] at SPx
           go_wp2_with (go_at_call 50; refine SPx.out.mono ?_; rintro e w7 ⟨rfl, hk7, _⟩; have K7 := zUB hk7; clear hk7)
           go_roundw
           case rel => exact ⟨s + 1, true, _, by go_num, by omega, rfl, PV2.out, K7.out⟩
           case measure => simp [intOf]; omega
        ·have hss : s = G.terms.length + 1 := by omega
         subst hss
         have PK2 := zUB PS.out.nextK
         clear rw0
         go_wp2_with fail
         go_roundw
         case rel => exact ⟨k + 1, b, H4, by go_num, by omega, rfl, PK2.out, KS.out⟩
         case measure => simp [intOf]; omega
      ·have hkk : k = (Y i).length := by omega
       subst hkk
       have PI2 := zUB PK.out.nextI
       go_wp2_with fail
       go_roundw
       case rel => exact ⟨i + 1, b, H3, by go_num, by omega, rfl, PI2.out, KK.out⟩
       case measure => simp [intOf]; omega
    ·have hii : i = n := by omega
     subst hii
     go_wp2_with fail
     go_roundg (zAr i Y (G.terms.length + 1) H1)
     case measure => omega
     case rel =>
      refine ⟨b, H2, rfl, KI.out, PI.out.so, fun e => ?_, fun e => ?_⟩
      ·exact PI.out.lt e
      ·subst e
       exact FU.out H1 H2 PI.out
