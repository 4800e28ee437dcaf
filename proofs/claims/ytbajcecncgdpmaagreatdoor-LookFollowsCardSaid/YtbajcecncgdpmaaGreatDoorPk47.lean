/- A part of the proof. -/
import Derived.Test.YtbajcecncgdpmaaGreatDoorPk43
import Derived.Test.YtbajcecncgdpmaaGreatDoorPk34
import Derived.Test.YtbajcecncgdpmaaGreatDoorPk45
import Derived.Test.YtbajcecncgdpmaaGreatDoorPk46
set_option maxHeartbeats 8000000
set_option maxRecDepth 100000
set_option linter.unusedVariables false
set_option linter.unusedSimpArgs false
namespace Go.Proofs.YtbajcecncgdpmaaGreatDoor
namespace Au
open Go.RowKit Go.Maps
open Gr (Gram Sh top boxed zAA)
open Im
def zJu (G : Gram) (w : World) (e : Ending) (w' : World) : Prop := ∃ (X : List Sta) (er : Int) (a : Option Addr) (c : Nat), e = .returned (.tuple #[.slice a X.length c, .int .i64 er]) /\ Built G er X /\ StaA a X w' /\ X.length <= c /\ Below w.heap.size w w'
theorem fresh (h : Sh) (G : Gram) (w w1 : World) (hb : Below w.heap.size w w1) (T : TypeId) :
  BAt w (w1.heap.size + 1 + 1) (fun k => w1.heap.size <= k /\ k <= w1.heap.size + 2) h G [] (tgt []) 0
   (((w1.alloc (.map #[] 0)).alloc (.map #[] 0)).alloc (.cells #[.slice h.a1 G.terms.length h.c1, .slice h.a2 G.nons.length h.c2, .slice h.a3 G.rules.length h.c3, .int .i64 G.start, .slice none 0 0, .map (some w1.heap.size), .map (some (w1.heap.size + 1))] T)) := by
 have hs := hb.size
 have m1 : (w1.alloc (.map #[] 0)).heap.size = w1.heap.size + 1 := by simp
 have m2 : ((w1.alloc (.map #[] 0)).alloc (.map #[] 0)).heap.size = w1.heap.size + 1 + 1 := by simp
 have t1 := (TMap.made w1 Tryz.prog 134 3).eq fun x => (zQm x).symm
 have s1 := SMap.made (w1.alloc (.map #[] 0)) Tryz.prog 9 3
 rw [m1] at s1
 have b1 := boxed (w1.alloc (.map #[] 0)) (.map #[] 0)
 have b2 := boxed ((w1.alloc (.map #[] 0)).alloc (.map #[] 0)) (.cells #[.slice h.a1 G.terms.length h.c1, .slice h.a2 G.nons.length h.c2, .slice h.a3 G.rules.length h.c3, .int .i64 G.start, .slice none 0 0, .map (some w1.heap.size), .map (some (w1.heap.size + 1))] T)
 have K : ∀ j v, #[Value.slice h.a1 G.terms.length h.c1, .slice h.a2 G.nons.length h.c2, .slice h.a3 G.rules.length h.c3, .int .i64 G.start, .slice none 0 0, .map (some w1.heap.size), .map (some (w1.heap.size + 1))][j]? = some v ->
   (((w1.alloc (.map #[] 0)).alloc (.map #[] 0)).alloc (.cells #[.slice h.a1 G.terms.length h.c1, .slice h.a2 G.nons.length h.c2, .slice h.a3 G.rules.length h.c3, .int .i64 G.start, .slice none 0 0, .map (some w1.heap.size), .map (some (w1.heap.size + 1))] T)).cell? ⟨w1.heap.size + 1 + 1, j, none⟩ = some v := fun j v hv => zAA m2.symm hv
 refine ⟨none, 0, w1.heap.size, w1.heap.size + 1, [], ?_⟩
 refine ⟨Gr.step hb (Gr.step (Gr.step (boxed w1 (.map #[] 0)) b1) b2), ⟨K 0 _ rfl, K 1 _ rfl, K 2 _ rfl, K 3 _ rfl⟩, K 4 _ rfl, K 5 _ rfl, K 6 _ rfl, Gr.zBo m2.symm, World.ownsRow_nil _ _ _ _, fun i hi => absurd hi (Nat.not_lt_zero i), ?_, ?_, ⟨by omega, by omega⟩, ⟨by omega, by omega⟩, ⟨by omega, by omega⟩, fun g hg => by simp [Value.ownBlock] at hg, by omega, by omega, by omega, fun g hg => by simp [Value.ownBlock] at hg, fun k hk => by omega, fun k hk => ?_⟩
 ·exact t1.keep ((b2.block _ (by omega)).trans (b1.block _ (by omega)))
 ·exact s1.keep (b2.block _ (by omega))
 ·simp
  omega
structure BdR (w : World) (p : Nat) (h : Sh) (G : Gram) (m : Nat) (wr : World) : Prop where
 own : ∃ T n, BAt w p T h G (runs G (top G) m).1 (tgt (runs G (top G) m).2) n wr /\ n <= m * 2000
 going : zGz G m
 few : (runs G (top G) m).1.length <= 2000
theorem BdR.start {w : World} {p : Nat} {T : Nat -> Prop} {h : Sh} {G : Gram} {wr : World} (k : BAt w p T h G [[((G.rules.length : Int), 0)]] (tgt []) 0 wr) : BdR w p h G 0 wr := ⟨⟨T, 0, k, by omega⟩, zI7 G, by simp [runs]⟩
theorem BdR.not {w : World} {p : Nat} {h : Sh} {G : Gram} {m : Nat} {wr : World} (k : BdR w p h G m wr) (hm : m < (runs G (top G) m).1.length) : ¬ Stop (runs G (top G) m) := by
 have h1 := k.few
 have h2 := k.going.len
 unfold Stop
 omega
theorem BdR.done {w : World} {p : Nat} {h : Sh} {G : Gram} {m : Nat} {wr : World} (k : BdR w p h G m wr) (hm : ¬ m < (runs G (top G) m).1.length) : zDQ G m /\ ¬ 2000 < (runs G (top G) m).1.length := by
 have h1 := k.few
 have h2 := k.going.len
 have h3 := (zEH G (top G) m).le
 exact ⟨k.going.stop (.inr (by omega)), by omega⟩
theorem BdR.many {w : World} {p : Nat} {h : Sh} {G : Gram} {m : Nat} {wr : World} (k : BdR w p h G m wr) (hm : m < (runs G (top G) m).1.length) (h9 : 2000 < (runs G (top G) (m + 1)).1.length) : zDQ G (m + 1) := (k.going.next (k.not hm)).stop (.inl h9)
end Au
namespace Au
open Go.RowKit Go.Maps
open Gr (Gram Sh gv GAt Bx checkN zBM top)
open Im
theorem zRA {Y : List Itm} {a : Option Addr} {c : Nat} {w w' : World} {S : Nat -> Prop} (h : ItsV 57 w.heap.size Y (.slice a Y.length c) w') (hS : ∀ k, S k -> k < w.heap.size) : LAt S Y (.slice a Y.length c) w' := by
 obtain ⟨a', c', e, hc⟩ := h.shape
 simp only [Value.slice.injEq] at e
 obtain ⟨rfl, _, rfl⟩ := e
 exact ⟨a, c, rfl, hc, h.reads, fun _ b o e q => by
  have := (World.ownsRow.lt h b (by rw [e]; rfl)).1
  have := hS b q
  omega⟩
theorem zPS {G : Gram} {Y : List Itm} (hv : checkN G = 0) (h : Y = [((G.rules.length : Int), 0)]) : Fit3 Y := fun x hx => by
 rw [h, List.mem_singleton] at hx
 subst hx
 exact zC0 hv (zAv (Nat.le_refl _))
theorem zMr {w : World} {p : Nat} {T : Nat -> Prop} {h : Sh} {G : Gram} {Y : List Itm} {X : Itm -> Option Int} {n : Nat} {w' : World} (e : Y = [((G.rules.length : Int), 0)]) (k : BAt w p T h G (zGg [] Y) X n w') : BAt w p T h G [[((G.rules.length : Int), 0)]] X n w' := by
 subst e
 exact k
theorem zGC (h : Sh) (G : Gram) (w : World) (k : GAt h G w) (ht : checkN G = 0 -> top G <= 1000) :
  Calls Tryz.prog 15 #[gv h G] w (zJu G w) := by
 have C := zSt (fun w1 (b : Below w.heap.size w w1) => zBM h G w1 (k.went b))
 have X := zSt (Bx.start h G w 25)
 by_cases hc : checkN G = 0
 ·have BG := zSt (fun w1 (b : Below w.heap.size w w1) => zF6 h G w1 (k.went b))
  have KG := zSt k
  replace ht := ht hc
  rw [hc] at C
  have hmm := @run_makeMap Tryz.prog
  clear k
  unfold gv at C BG ⊢
  go_enter Tryz.func15, Tryz.ntmps15
  go_wp2_with (first
   | (go_at_call 39; refine (C.out _ X.out.below).mono ?_; rintro e w1 ⟨rfl, hb⟩; have X1 := zSt (X.out.went hb); obtain ⟨g0, g1, g2, g3⟩ := X1.out.box; have hq : w.heap.size < w1.heap.size := World.block_lt_of_cell? w1 ⟨w.heap.size, 0, none⟩ g0; have hq2 : w.heap.size < w1.heap.size + 1 := (by omega); have hq3 : w.heap.size < w1.heap.size + 1 + 1 := (by omega); have B0 := zSt (fresh h G w w1 X1.out.below 95); have X2 := zSt (((X1.out.alloc (.map #[] 0)).alloc (.map #[] 0)).alloc (.cells #[.slice h.a1 G.terms.length h.c1, .slice h.a2 G.nons.length h.c2, .slice h.a3 G.rules.length h.c3, .int .i64 G.start, .slice none 0 0, .map (some w1.heap.size), .map (some (w1.heap.size + 1))] 95)); clear hb)
   | (go_at_call 27; refine (BG.out _ X2.out.below).mono ?_; rintro e w3 ⟨Y, a3, c3, rfl, y1, y2, y3⟩; have HY := zSt (show Y = [((G.rules.length : Int), 0)] from (y1.iff (Q := fun x => x = ((G.rules.length : Int), 0)) fun x => ⟨fun q => q.2, fun q => ⟨hc, q⟩⟩).uniq ⟨zEJ _, fun x => List.mem_singleton⟩); have U3 := zSt (zRA y2 B0.out.inn); have B3 := zSt (B0.out.went y3); have X3 := zSt (X2.out.went y3); clear y1 y2 y3)
   | (go_at_call 40; refine (zE4 _ B3.out Y a3 c3 U3.out (zPS hc HY.out) (fun x hx => by cases hx) List.nodup_nil (Nat.zero_le _) (by rw [HY.out]; simp)).mono ?_; rintro e w4 ⟨rfl, T4, b4, f4, x4, _⟩; have R0 := zSt (BdR.start (zMr HY.out b4)); clear b4 f4 x4))
  clear C BG X hmm
  go_loopw [6] (fun i wr => ∃ m : Nat, i = .int .i64 m /\ m <= 2000 /\ BdR w (w1.heap.size + 1 + 1) h G m wr) (fun i _ => 2001 - (intOf i).toNat)
  case atStart => exact ⟨0, rfl, Nat.zero_le _, R0.out⟩
  case round =>
   obtain ⟨m, rfl, hm, hR⟩ := hrel
   have R := zSt hR
   clear hR R0
   obtain ⟨⟨T, n, hB, hn⟩, hg, hfew⟩ := R.out
   have hgl := hg.len
   by_cases hlt : m < (runs G (top G) m).1.length
   ·have LV := zLK (W := w) wr hB KG.out hc ht (zEH G (top G) m) (by omega) (by omega) (by omega)
    rw [hgl] at LV
    have LVh := zSt LV
    have NX := zSt (fun (hs : ¬ 2000 < (runs G (top G) (m + 1)).1.length) => (show zGz G (m + 1) /\ (runs G (top G) (m + 1)).1.length <= 2000 from ⟨hg.next (R.out.not hlt), by omega⟩))
    have MY := zSt (R.out.many hlt)
    obtain ⟨a0, c0, bt, bn, us, k0⟩ := hB
    have q4 := k0.items
    clear k0 LV
    go_wp2_with (go_at_call 41; refine LVh.out.mono ?_; rintro e w5 ⟨rfl, T5, n5, b5, l5, f5, x5⟩; obtain ⟨a5, c5, bt5, bn5, us5, k5⟩ := b5; have K5 := zSt k5; have q5 : w5.cell? ⟨w1.heap.size + 1 + 1, 4, none⟩ = some (.slice a5 (runs G (top G) (m + 1)).1.length c5) := k5.items; clear k5 f5 x5)
    ·go_ret2
     exact ⟨[], 7, none, 0, rfl, .many hc (MY.out (by omega)) (by omega), .nil _ _, Nat.le_refl _, K5.out.below⟩
    ·obtain ⟨n1, n2⟩ := NX.out (by omega)
     refine ⟨⟨m + 1, by go_num, by omega, ⟨⟨T5, n5, ⟨a5, c5, bt5, bn5, us5, K5.out⟩, by omega⟩, n1, n2⟩⟩, ?_⟩
     simp [intOf]
     omega
   ·obtain ⟨d1, d2⟩ := R.out.done hlt
    have SA := zSt (zJi (W := w) wr hB KG.out ht (by omega))
    have DN := zSt (d1.done d2)
    have AO := zSt (zKB DN.out)
    obtain ⟨a0, c0, bt, bn, us, k0⟩ := hB
    have q4 := k0.items
    have HW := zSt k0.below
    clear k0
    go_wp2_with (go_at_call 42; refine SA.out.mono ?_; rintro e w5 ⟨a5, c5, rfl, s1, s2, s3⟩; have S1 := zSt s1; have S2 := zSt s2; have S3 := zSt (Gr.step HW.out s3); clear s1 s2 s3)
    go_ret2
    exact ⟨_, 0, a5, c5, rfl, AO.out ▸ .all hc d1 d2, S1.out, S2.out, S3.out⟩
 ·have hcb : (checkN G != 0) = true := by simpa using hc
  clear k
  unfold gv at C ⊢
  go_enter Tryz.func15, Tryz.ntmps15
  go_wp2_with (go_at_call 39; refine (C.out _ X.out.below).mono ?_; rintro e w1 ⟨rfl, hb⟩; have X1 := zSt (X.out.went hb); clear hb)
  go_ret2
  exact ⟨[], checkN G, none, 0, rfl, .bad hc, .nil _ _, Nat.le_refl _, X1.out.below⟩
end Au
namespace Lk
open Go.RowKit Go.Maps
open Gr (Gram Sh gv GAt zAB checkN)
open Im
open Au
theorem zGt {G : Gram} (hv : checkN G = 0) : rep G ((G.rules.length : Int), 0) = ((G.rules.length : Int), 0) := by
 have h := zBq (G := G) (Nat.le_refl _)
 rw [zBx rfl]
 have e : (zAB G ((G.rules.length : Nat) : Int)).1 = 0 := by rw [(Gr.zAU G).2]
 rw [e] at h
 show hd G (zAB G ((G.rules.length : Nat) : Int)).1 = _
 rw [e]
 unfold hd
 rw [zH3 hv h]
theorem zRm {G : Gram} {q : Whole} {w1 w2 w3 : World} {p mb : Nat} {aS : Option Addr} {cS : Nat} (hv : checkN G = 0) (dn : Done G q) (len : q.1.length <= 2000) (hB : Built G 0 (states q)) (hS : StaA aS (states q) w1) (hmb : mb = w1.heap.size) (hp : p = w1.heap.size + 1)
  (h12 : Below w1.heap.size w1 w2) (hp2 : p < w2.heap.size) (hmap : NMap mb 0 (fun _ => none) w2) {e : Ending} (hR : zJ1 G p mb aS (states q).length cS w2 e w3) :
  e = .returned (.tuple #[]) /\ ∃ K : Fk, K.p = p /\ Fix w3 K G q /\ ∃ S, OfI w3 K G q S 0 0 [] nt0 S w3 /\ (∀ b, S b -> w1.heap.size <= b) /\ Below w1.heap.size w1 w3 := by
 obtain ⟨rfl, w4, D, lab, hRP, hf, h4, hD⟩ := hR
 have h13 : Below w1.heap.size w1 w3 := h12.trans (hf.below (fun k hk => by rw [hk]; omega) h12.size)
 refine ⟨rfl, ?_⟩
 obtain ⟨K, k1, k2, S, k3, k4⟩ := hRP.fix hv dn (zDn hB) len (fun w f => hS.went (h13.trans (f.below (fun k hk => by rcases hk with r | r <;> omega) h13.size))) (by omega) (by omega) (by omega) (hmap.keep (hf.block mb (by omega) (by omega)))
 exact ⟨K, k1, k2, S, ⟨k3, .refl _ _, .refl _ _, lk0 G q, fun k hk => absurd hk (Nat.not_lt_zero k), fun x hx => by cases hx⟩, (fun b hb => by rcases k4 b hb with r | r <;> omega), h13⟩
theorem OfI.step2 {W : World} {K : Fk} {G : Gram} {q : Whole} {S T T0 : Nat -> Prop} {i j : Nat} {L : List Itm} {N : Nt} {w w' w0 : World} (h : OfI W K G q S i j L N T w) (hj : j < L.length) (hf : Sep.Fr T0 w0 w) (hx : Sep.Ext T T0 w0) {e : Ending} (hl : Linked W K G q N (2 * (i * 3000 + j)) i L[j] T w e w') :
  e = .returned (.tuple #[]) /\ ∃ M U, OfI W K G q S i (j + 1) L M U w' /\ Sep.Fr T0 w0 w' /\ Sep.Ext U T0 w0 := by
 have hl' := hl
 obtain ⟨e1, M, U, h1, h2, h3, h4, h5, h6⟩ := hl
 refine ⟨e1, M, U, ⟨h1, h.fr.trans h2 h.ext, h.ext.trans h3 h.fr.size, h4.mono (by omega), fun k hk x hx => (h.past k hk x hx).gro h5, fun x hx => ?_⟩, hf.trans h2 hx, hx.trans h3 hf.size⟩
 rw [List.take_succ_eq_append_getElem hj] at hx
 rcases List.mem_append.1 hx with hx | hx
 ·exact (h.here x hx).gro h5
 ·rw [List.mem_singleton] at hx
  rw [hx]
  exact h6
structure FullN (W : World) (K : Fk) (G : Gram) (q : Whole) (S : Nat -> Prop) (w : World) (N : Nt) (T : Nat -> Prop) : Prop where
 at_ : NAt W K G q N T w
 fr : Sep.Fr S W w
 lk : Lk1 G q N
 all : ∀ j, j < q.1.length -> ∀ y, Clo G (zAF q.1 j) y -> Lkd G q N j y
 full : ∀ (k i : Nat) (c : Itm) (t : Nat), N.pls[k]? = some (i, c) -> (N.S k t = true ↔ La G q i c (t : Int))
theorem of_cell {W : World} {K : Fk} {G : Gram} {q : Whole} {S T : Nat -> Prop} {N : Nt} {w w2 : World} (FX : Fix W K G q) (h : OfI W K G q S q.1.length 0 [] N T w) (hpos : 0 < q.1.length) {e : Ending} (hc : zQ2 W K G q N 0 (rep G ((G.rules.length : Int), 0)) T w e w2) :
  ∃ (k0 : Nat) (M : Nt) (U : Nat -> Prop), e = .returned (.int .i64 (k0 : Int)) /\ M.pls[k0]? = some (0, ((G.rules.length : Int), 0)) /\ OfI W K G q S q.1.length 0 [] M U w2 := by
 obtain ⟨k0, M, rfl, hk, hM, U, h1, h2, h3⟩ := hc
 rw [zGt FX.ok] at hk hM
 obtain ⟨l1, l2⟩ := h.lk.of_cell hpos (zGt FX.ok) (zAv (Nat.le_refl _)) hM
 exact ⟨k0, M, U, rfl, hk, h1, h.fr.trans h2 h.ext, h.ext.trans h3 h.fr.size, l1, fun k hk x hx => (h.past k hk x hx).gro l2, fun x hx => by cases hx⟩
theorem zLn {W : World} {K : Fk} {G : Gram} {q : Whole} {S T : Nat -> Prop} {N : Nt} {w w2 : World} {k0 : Nat} (FX : Fix W K G q) (h : OfI W K G q S q.1.length 0 [] N T w) (hk0 : N.pls[k0]? = some (0, ((G.rules.length : Int), 0))) {e : Ending} (hs : zO1 W K G q T N k0 w e w2) :
  e = .returned (.tuple #[]) /\ ∃ M U, FullN W K G q S w2 M U := by
 obtain ⟨rfl, M, U, hP, hq⟩ := hs
 have l1 := hP.kp.lk h.lk.lk
 have la : ∀ j, j < q.1.length -> ∀ y, Clo G (zAF q.1 j) y -> Lkd G q M j y := fun j hj y hy => hP.kp.lkd (h.past j hj y hy)
 exact ⟨rfl, M, U, hP.at_, h.fr.trans hP.fr h.ext, l1, la, fun k i c t hk => zNG FX.done FX.ok l1 hP.sp hq la (k0 := k0) (by rw [hP.kp.1]; exact hk0) hP.zero hk t⟩
theorem zKD (h : Sh) (G : Gram) (w : World) (k : GAt h G w) (hv : checkN G = 0) :
  Calls Tryz.prog 27 #[gv h G] w (fun e w' => ∃ b o c, e = .returned (.slice (some ⟨b, o, none⟩) 1 c) /\ w'.cell? ⟨b, o, none⟩ = some (.int .i64 (G.rules.length : Int)) /\ w'.cell? ⟨b, o + 1, none⟩ = some (.int .i64 0) /\ Below w.heap.size w w') := by
 refine (zF6 h G w k).mono ?_
 rintro e w' ⟨Y, a, c, rfl, y1, y2, y3⟩
 have HY : Y = [((G.rules.length : Int), 0)] := (y1.iff (Q := fun x => x = ((G.rules.length : Int), 0)) fun x => ⟨fun q => q.2, fun q => ⟨hv, q⟩⟩).uniq ⟨zEJ _, fun x => List.mem_singleton⟩
 subst HY
 obtain ⟨b, o, rfl, t0, t1⟩ := y2.reads.at 0 (by simp)
 exact ⟨b, o, c, rfl, by simpa using t0, by simpa using t1, y3⟩
end Lk
namespace Lk
open Go.RowKit Go.Maps
open Gr (Gram Sh gv GAt Bx boxed step checkN)
open Im
open Au
open Rw (Bk zAL)
theorem zJA : (Tryz.prog.info? 36).map (fun i => (i.zero, i.size, i.bytes)) = some (some (.slice none 0 0), 1, 24) := by kernel_rfl
theorem zNj (h : Sh) (G : Gram) (w : World) (k : GAt h G w) (htab : Bt.Tab w) :
  Calls Tryz.prog 9 #[gv h G] w (zMi G w) := by
 have X := zSt (Bx.start h G w 25)
 have BU := zSt (fun w1 (b : Below w.heap.size w w1) => zGC h G w1 (k.went b) (fun hv => Nat.le_trans (zEK hv) (by omega)))
 have RD := zSt (fun w1 (b : Below w.heap.size w w1) (hv : checkN G = 0) (p mb : Nat) (aS : Option Addr) (n cS : Nat) (hp : w.heap.size <= p) hbox => zON h G k w1 b hv htab (p := p) (mb := mb) (aS := aS) (n := n) (cS := cS) hp hbox)
 have BG := zSt (fun w1 (b : Below w.heap.size w w1) hv => zKD h G w1 (k.went b) hv)
 have TB := zSt (fun w1 (b : Below w.heap.size w w1) => htab.below b htab.pos)
 have hmm := @run_makeMap Tryz.prog
 obtain ⟨i0, hj, hz0, hz1, hz2⟩ := info_parts zJA
 clear k htab
 unfold gv at *
 go_enter Tryz.func9, Tryz.ntmps9
 go_wp2_with fail
 refine (BU.out _ X.out.below).mono ?_
 rintro e w1 ⟨ST, er, aX, cX, rfl, hB, hS, hle, hb1⟩
 have X1 := zSt (X.out.went hb1)
 rcases zG7 hB with ⟨h0, rfl, hB'⟩ | ⟨rfl, hv, q, rfl, D, hlen, hB'⟩
 ·clear hB
  go_wp2
  refine bodyPost_ret (v := .tuple #[.slice none 0 0, .int .i64 er]) (by simp [results, Tryz.results9, go_sem]) rfl ?_
  exact ⟨er, [], none, 0, rfl, .bad hB' h0, ⟨fun _ => .slice none 0 0, World.ownsRow_nil _ _ _ _, fun k hk => absurd hk (Nat.not_lt_zero k)⟩, X1.out.below⟩
 ·clear hB BU
  obtain ⟨x0, x1, x2, x3⟩ := X1.out.box
  have hq : w.heap.size < w1.heap.size := World.block_lt_of_cell? w1 ⟨w.heap.size, 0, none⟩ x0
  have hq2 : w.heap.size < w1.heap.size + 1 := by omega
  go_wp2_with fail
  have HB := Bk.new (w1.alloc (.map #[] 0)) #[.slice aX (states q).length cX, .int .i64 (G.terms.length : Int), .slice none 0 0, .slice none 0 0, .slice none 0 0, .slice none 0 0, .map (some w1.heap.size), .slice none 0 0] 73 (w1.heap.size + 1) (by simp)
  have b1 : Below w1.heap.size w1 (w1.alloc (.map #[] 0)) := boxed _ _
  have b2 := boxed (w1.alloc (.map #[] 0)) (.cells #[.slice aX (states q).length cX, .int .i64 (G.terms.length : Int), .slice none 0 0, .slice none 0 0, .slice none 0 0, .slice none 0 0, .map (some w1.heap.size), .slice none 0 0] 73)
  have HM : NMap w1.heap.size 0 (fun _ => none) ((w1.alloc (.map #[] 0)).alloc (.cells #[.slice aX (states q).length cX, .int .i64 (G.terms.length : Int), .slice none 0 0, .slice none 0 0, .slice none 0 0, .slice none 0 0, .map (some w1.heap.size), .slice none 0 0] 73)) := (PMap.made w1 _ _ _).keep (b2.block _ (by simp))
  have h12 := Gr.step b1 b2
  generalize (w1.alloc (.map #[] 0)).alloc (.cells #[.slice aX (states q).length cX, .int .i64 (G.terms.length : Int), .slice none 0 0, .slice none 0 0, .slice none 0 0, .slice none 0 0, .map (some w1.heap.size), .slice none 0 0] 73) = w2 at *
  have X2 := zSt (X1.out.went h12)
  have hsl : (states q).length = q.1.length := zBJ D.all
  clear b1 b2
  generalize hp : w1.heap.size + 1 = p at *
  refine (RD.out w2 X2.out.below hv p w1.heap.size aX (states q).length cX (by omega) HB).mono ?_
  intro e w3 hR
  obtain ⟨rfl, K, rfl, FX, S, O, hS2, h13⟩ := zRm hv D hlen hB' hS rfl hp.symm h12 HB.lt HM hR
  have O0 := zSt O
  have XF := zSt (fun w' (f : Sep.Fr S w3 w') => X1.out.went (h13.trans (f.below hS2 h13.size)))
  have hpos := D.ok.pos
  have B13 := zSt h13
  have HS2 := zSt hS2
  clear hR O HB HM h12 X2 hp hS hle hb1 X x0 x1 x2 x3 hq hq2 RD hmm
  rw [hsl] at *
  go_wp2_with fail
  go_loopw [32] (fun t wr => ∃ (i : Nat) (N : Nt) (T : Nat -> Prop), t = .int .i64 i /\ i <= q.1.length /\ OfI w3 K G q S i 0 [] N T wr) (fun t _ => q.1.length - (intOf t).toNat)
  case atStart => exact ⟨0, nt0, S, rfl, Nat.zero_le _, O0.out⟩
  case round =>
   obtain ⟨i, N, T, rfl, hil, hO⟩ := hrel
   have O := zSt hO
   clear hO O0
   by_cases hi : i < q.1.length
   ·have CLO := zSt (zDu FX wr O.out.at_ i hi)
    have CLm := zSt (fun x => zDs D hv hi x)
    have hcl : (cloL G (zAF q.1 i) (zBd q i)).length <= 2709 := Nat.le_trans (zBi (zDE D hv hi) (M := allI G) fun x hx => zBu (zAS ((CLm.out x).1 hx))) (zAe hv)
    have OP := zSt (O.out.open (cloL G (zAF q.1 i) (zBd q i)))
    have IT := zSt O.out.at_.inn
    generalize cloL G (zAF q.1 i) (zBd q i) = L at *
    go_wp2_with (go_at_call 23; refine CLO.out.mono ?_; rintro e w5 ⟨aL, cL, rfl, v1, b1⟩; have V1 := zSt v1; have BW := zSt b1; have O5 := zSt (OP.out.went b1); clear v1 b1)
    clear CLO OP O
    go_loopw [39] (fun t wz => ∃ (j : Nat) (N : Nt) (U : Nat -> Prop), t = .int .i64 j /\ j <= L.length /\ OfI w3 K G q S i j L N U wz /\ Sep.Fr T w5 wz /\ Sep.Ext U T w5) (fun t _ => L.length - (intOf t).toNat)
    case atStart => exact ⟨0, N, T, rfl, Nat.zero_le _, O5.out, .refl _ _, .refl _ _⟩
    case round =>
     obtain ⟨j, M, U, rfl, hjl, hO, hf, hx⟩ := hrel
     have O := zSt hO
     have HF := zSt hf
     have HX := zSt hx
     clear hO hf hx O5
     by_cases hlt : j < L.length
     ·have V2 := V1.out.keep (w' := wr) fun g hg => HF.out.block g (World.ownsRow.lt V1.out g hg).2 fun e => by
       have := IT.out g e
       have := (World.ownsRow.lt V1.out g hg).1
       omega
      obtain ⟨b2, o2, rfl, t0, t1⟩ := V2.reads.at j hlt
      have hxc := (CLm.out _).1 (List.getElem_mem hlt)
      have bx : Below wr.heap.size wr (wr.alloc (.cells #[.int .i64 L[j].1, .int .i64 L[j].2] 57)) := boxed _ _
      have OB := zSt (O.out.went bx)
      have HFB := zSt (HF.out.trans (.of_below bx) HX.out)
      have LK := zSt (zNi FX _ OB.out.at_ OB.out.lk (by omega) i hi L[j] hxc)
      have ST := zSt (fun e w7 hl => OB.out.step2 hlt HFB.out HX.out (e := e) (w' := w7) hl)
      unfold iv at LK
      generalize L[j].1 = xa at *
      generalize L[j].2 = xb at *
      clear bx V2
      go_wp2_with (go_at_call 24; refine LK.out.mono ?_; intro e w7 hl; obtain ⟨rfl, M2, U2, o1, o2, o3⟩ := ST.out e w7 hl; have O7 := zSt o1; have F7 := zSt o2; have E7 := zSt o3; clear hl o1 o2 o3)
      go_roundw
      case rel => exact ⟨j + 1, M2, U2, by go_num, by omega, O7.out, F7.out, E7.out⟩
      case measure => simp [intOf]; omega
     ·have hjj : j = L.length := by omega
      subst hjj
      have ON := zSt (O.out.next (by omega) fun x hx => (CLm.out x).2 hx)
      go_wp2_with fail
      go_roundw
      case rel => exact ⟨i + 1, M, U, by go_num, by omega, ON.out⟩
      case measure => simp [intOf]; omega
   ·have hii : i = q.1.length := by omega
    subst hii
    have XR := zSt (XF.out wr O.out.fr)
    obtain ⟨y0, y1, y2, y3⟩ := XR.out.box
    have hT : G.terms.length <= 1000 := by have := (Fi.zBm hv).t; omega
    have hR := (Fi.zBm hv).r
    have CE := zSt (fun w7 (b : Below wr.heap.size wr w7) => zCq FX w7 (O.out.went b).at_ (Nat.le_trans (zBK hv O.out.lk.lk hlen) (by omega)) hT 0 G.rules.length 0 (by omega) (Nat.le_refl _) (by omega) (Int.le_refl 0) (by omega))
    have CO := zSt (fun e w7 w8 (b : Below wr.heap.size wr w7) hc => of_cell FX (O.out.went b) hpos (e := e) (w2 := w8) hc)
    have SP := zSt (fun k0 M U w8 (o : OfI w3 K G q S q.1.length 0 [] M U w8) hk => zHm FX w8 o.at_ o.lk (by omega) k0 hk)
    have SO := zSt (fun k0 M U w8 (o : OfI w3 K G q S q.1.length 0 [] M U w8) hk e w9 hs => zLn FX o (k0 := k0) hk (e := e) (w2 := w9) hs)
    have BE := zSt (BG.out wr XR.out.below hv)
    clear BG X1
    go_wp2_with (first
     | (go_at_call 27; refine BE.out.mono ?_; rintro e w7 ⟨b7, o7, c7, rfl, t0, t1, b7w⟩; have B7 := zSt b7w; clear b7w)
     | (go_at_call 26; refine (CE.out w7 B7.out).mono ?_; intro e w8 hc; obtain ⟨k0, M, U, rfl, hk, o8⟩ := CO.out e w7 w8 B7.out hc; have K0 := zSt hk; have O8 := zSt o8; clear hc hk o8)
     | (go_at_call 25; refine (SP.out k0 M U w8 O8.out K0.out).mono ?_; intro e w9 hs; obtain ⟨rfl, M2, U2, f9⟩ := SO.out k0 M U w8 O8.out K0.out e w9 hs; have F9 := zSt f9; clear hs f9))
    have X9 := zSt (XF.out w9 F9.out.fr)
    clear CE CO SP SO BE XR O XF y0 y1 y2 y3 t0 t1
    have hs9 := X9.out.below.size
    go_loopw [10, 59] (fun v t wz => ∃ (i : Nat) (V : Nat -> Value) (a : Option Addr) (c : Nat), t = .int .i64 i /\ i <= q.1.length /\ v = .slice a i c /\ LsI G q w9.heap.size i V v wz /\ Below w9.heap.size w9 wz) (fun _ t _ => q.1.length - (intOf t).toNat)
    case atStart => exact ⟨0, fun _ => .slice none 0 0, none, 0, rfl, Nat.zero_le _, rfl, LsI.nil _ _ _ _ _, .refl _ _⟩
    case round =>
     obtain ⟨i, V, a, c, rfl, hil, rfl, hL, hB9⟩ := hrel
     have LI := zSt hL
     have B9 := zSt hB9
     have hsz := hB9.size
     clear hL hB9
     by_cases hi : i < q.1.length
     ·have EN := zSt (zNB FX wr (F9.out.at_.went B9.out) F9.out.lk F9.out.full F9.out.all (TB.out _ (X9.out.below.trans (B9.out.mono hs9))) i hi)
      have SN := zSt (fun (u v' : Value) (wa wb : World) (b : Below wr.heap.size wr wa) (hE : EndV wr.heap.size (zAY G q i) u wa) hown hg hv' => LI.out.snoc (w1 := wa) (w2 := wb) (v' := v') (u := u) hsz b hE hown hg hv')
      go_wp2_with (first
       | (go_at_call 28; refine EN.out.mono ?_; rintro e wa ⟨ae, ce, rfl, hE, hbe⟩; have hsa := hbe.size; have BA := zSt (Gr.step hbe (boxed wa (.cells #[.slice ae (zAY G q i).length ce] 36))); have EA := zSt (hE.went (boxed wa (.cells #[.slice ae (zAY G q i).length ce] 36))); have ON := zSt (zHZ 36 w9.heap.size wa.heap.size (.slice ae (zAY G q i).length ce) wa rfl (by omega)); have RA := zSt (Sep.zAE LI.out.row fun g hg => BA.out.block g (World.ownsRow.lt LI.out.row g hg).2); have hsl2 : w9.heap.size <= (wa.alloc (.cells #[.slice ae (zAY G q i).length ce] 36)).heap.size := (by simp; omega); clear hE hbe)
       | (at_builtin; (refine zAL _ rfl _ _ 28 rfl w9.heap.size 36 i0 (.slice none 0 0) 1 24 Tryz.underlying28 hj hz0 hz1 hz2 rfl (by decide) (.slice a i c) i ((List.range i).map V) rfl RA.out w9.heap.size _ 1 [.slice ae (zAY G q i).length ce] rfl ON.out (by simp [Value.oneCell']) (by unfold maxLen; omega) (by omega) hsl2 ?_; intro v' wb hown hg hloc; have L2 := zSt (SN.out _ v' _ wb BA.out EA.out hown hg (hloc.imp id fun e g e2 => (by rw [e] at e2; injection e2 with e2; omega))); have GB := zSt hg; obtain ⟨a2, c2, rfl⟩ := Rw.zAH hown; clear hown hg hloc)))
      go_roundw
      case rel =>
       refine ⟨i + 1, upd V i (.slice ae (zAY G q i).length ce), a2, c2, by go_num, by omega, rfl, L2.out, ?_⟩
       have b9 := B9.out.trans (BA.out.mono hsz)
       exact b9.trans ⟨GB.out.os, GB.out.tape, GB.out.output, GB.out.size, fun g hg => GB.out.block g (Nat.lt_of_lt_of_le hg b9.size) fun e => by
        have := (World.ownsRow.lt LI.out.row g e.symm).1
        omega⟩
      case measure => simp [intOf]; omega
     ·have hii : i = q.1.length := by omega
      subst hii
      go_wp2
      refine bodyPost_ret (v := .tuple #[.slice a q.1.length c, .int .i64 0]) (by simp [results, Tryz.results9, go_sem]) rfl ?_
      refine ⟨0, zB2 G q, a, c, by rw [zAx], .all hv D hlen hB', ?_, X9.out.below.trans (B9.out.mono hs9)⟩
      rw [zAx]
      exact LI.out.all.mono hs9
end Lk
namespace Lk
open Go.RowKit Go.Maps
open Gr (Gram cell_later)
open Im
open Au
def EndR (a : Option Addr) (Y : List (Nat × List Nat)) (w : World) : Prop :=
 ∀ k (h : k < Y.length), ∃ b a3 c3, a = some ⟨b, 0, none⟩ /\ w.cell? ⟨b, k * 2, none⟩ = some (.int .i64 (Y[k].1 : Int)) /\ w.cell? ⟨b, k * 2 + 1, none⟩ = some (.slice a3 Y[k].2.length c3) /\ Sep.Reads a3 (nivs Y[k].2) w
def LkR (a : Option Addr) (Ys : List (List (Nat × List Nat))) (w : World) : Prop :=
 ∀ i (h : i < Ys.length), ∃ b a2 c2, a = some ⟨b, 0, none⟩ /\ w.cell? ⟨b, i, none⟩ = some (.slice a2 Ys[i].length c2) /\ EndR a2 Ys[i] w
theorem EndR.went {a : Option Addr} {Y : List (Nat × List Nat)} {w w' : World} (h : EndR a Y w) (hb : Below w.heap.size w w') : EndR a Y w' := fun k hk => by
 obtain ⟨b, a3, c3, e, h1, h2, h3⟩ := h k hk
 exact ⟨b, a3, c3, e, cell_later hb h1, cell_later hb h2, h3.below hb (Nat.le_refl _)⟩
theorem LkR.went {a : Option Addr} {Ys : List (List (Nat × List Nat))} {w w' : World} (h : LkR a Ys w) (hb : Below w.heap.size w w') : LkR a Ys w' := fun i hi => by
 obtain ⟨b, a2, c2, e, h1, h2⟩ := h i hi
 exact ⟨b, a2, c2, e, cell_later hb h1, h2.went hb⟩
theorem zIb {w : World} {base n size : Nat} {e : TypeId} {a : Option Addr} {c : Nat} {xs : List Value} (h : w.ownsRow base e size (.slice a n c) n xs) (hn : 0 < n) : ∃ b, a = some ⟨b, 0, none⟩ := by
 rcases h.2 with ⟨_, h0⟩ | ⟨g, cap, cur, e1, _⟩
 ·omega
 ·simp only [Value.slice.injEq] at e1
  exact ⟨g, e1.1⟩
theorem EndV.reads {base : Nat} {Y : List (Nat × List Nat)} {a : Option Addr} {n c : Nat} {w : World} (h : EndV base Y (.slice a n c) w) : n = Y.length /\ EndR a Y w := by
 obtain ⟨X, h1, h2, h3⟩ := h
 have hl := zKh h2
 have hn : n = X.length := by
  obtain ⟨a', c', e⟩ := Rw.zAH h1
  simp only [Value.slice.injEq] at e
  exact e.2.1
 subst hn
 refine ⟨hl, fun k hk => ?_⟩
 have hk' : k < X.length := by omega
 obtain ⟨b, rfl⟩ := zIb h1 (by omega)
 have rd := World.ownsRow.cells h1 (g := b) rfl
 have t0 := rd (k * 2 + 0) _ (by rw [Rw.zB3 lc zCA X k hk' 0 (by omega)]; rfl)
 have t1 := rd (k * 2 + 1) _ (by rw [Rw.zB3 lc zCA X k hk' 1 (by omega)]; rfl)
 rw [WideShapes.add_plain] at t0 t1
 have e1 : X[k].1 = (Y[k].1 : Int) := by
  have h4 : (X.map (·.1))[k]? = (Y.map fun y => (y.1 : Int))[k]? := by rw [h2]
  rw [List.getElem?_map, List.getElem?_map, List.getElem?_eq_getElem hk', List.getElem?_eq_getElem hk] at h4
  injection h4
 have h5 := h3 k hk' hk
 have e2 : X[k].2.2.1 = Y[k].2.length := by
  obtain ⟨a', c', e⟩ := Rw.zAH h5
  unfold lks at e
  simp only [Value.slice.injEq] at e
  exact e.2.1
 refine ⟨b, X[k].2.1, X[k].2.2.2, rfl, by rw [← e1]; simpa using t0, by rw [← e2]; simpa [lks] using t1, ?_⟩
 unfold zJ6 lks at h5
 rw [e2] at h5
 exact Sep.Reads.of_row h5
theorem AllV.reads {base : Nat} {Ys : List (List (Nat × List Nat))} {a : Option Addr} {c : Nat} {w : World} (h : AllV base Ys (.slice a Ys.length c) w) : LkR a Ys w := fun i hi => by
 obtain ⟨V, h1, h2⟩ := h
 obtain ⟨b, rfl⟩ := zIb h1 (by omega)
 have t0 := World.ownsRow.cells h1 (g := b) rfl i (V i) (by rw [List.getElem?_map, List.getElem?_range hi]; rfl)
 rw [WideShapes.add_plain] at t0
 have h3 := h2 i hi
 obtain ⟨X, x1, _⟩ := h3
 obtain ⟨a2, c2, e⟩ := Rw.zAH x1
 have h3 := h2 i hi
 rw [e] at h3 t0
 obtain ⟨e2, h4⟩ := h3.reads
 rw [e2] at t0
 exact ⟨b, a2, c2, rfl, by simpa using t0, h4⟩
def zMj (G : Gram) (w : World) (e : Ending) (w' : World) : Prop :=
 ∃ (er : Int) (Ys : List (List (Nat × List Nat))) (a : Option Addr) (c : Nat), e = .returned (.tuple #[.slice a Ys.length c, .int .i64 er]) /\ LookIs G er Ys /\ LkR a Ys w' /\ Below w.heap.size w w'
end Lk
namespace Lk
open Go.RowKit Go.Maps
open Gr (Gram Sh gv GAt Bx boxed Fits zAA zAJ)
open Im
open Au
def lw (W : World) : World :=
 ((((W.alloc (.cells #[.string ⟨#[65]⟩, .string ⟨#[66]⟩] 9)).alloc (.cells #[.string ⟨#[115]⟩] 9)).alloc (.cells #[.int .i64 1, .int .i64 3] 3)).alloc (.cells #[.int .i64 2] 3)).alloc
  (.cells #[.int .i64 3, .slice (some ⟨W.heap.size + 1 + 1, 0, none⟩) 2 2, .int .i64 3, .slice (some ⟨W.heap.size + 1 + 1 + 1, 0, none⟩) 1 1] 41)
def ah (W : World) : Sh := ⟨some ⟨W.heap.size, 0, none⟩, 2, some ⟨W.heap.size + 1, 0, none⟩, 1, some ⟨W.heap.size + 1 + 1 + 1 + 1, 0, none⟩, 2⟩
theorem zIK (W : World) : Below W.heap.size W (lw W) := Gr.step (Gr.step (Gr.step (Gr.step (boxed _ _) (boxed _ _)) (boxed _ _)) (boxed _ _)) (boxed _ _)
theorem zHU (W : World) : (lw W).heap.size = W.heap.size + 5 := by simp [lw]
theorem fitz (x : Int) (h : -1000 <= x) (k : x <= 1000) : Fits x := ⟨by omega, by omega⟩
theorem zRg (W : World) : GAt (ah W) GB (lw W) := by
 refine ⟨fun i hi => ?_, fun i hi => ?_, fun i hi => ?_, by simp [ah, GB], by simp [GB], by simp [GB], by simp [ah, GB], by simp [GB], ⟨?_, ?_, fitz _ (by decide) (by decide), ?_, ?_⟩⟩
 ·have h2 : i < 2 := hi
  refine ⟨W.heap.size, 0, rfl, ?_⟩
  have : i = 0 \/ i = 1 := by omega
  rcases this with rfl | rfl <;> exact zAJ (zAJ (zAJ (zAJ (zAA rfl rfl))))
 ·have h2 : i < 1 := hi
  refine ⟨W.heap.size + 1, 0, rfl, ?_⟩
  obtain rfl : i = 0 := by omega
  exact zAJ (zAJ (zAJ (zAA (by simp) rfl)))
 ·have h2 : i < 2 := hi
  have : i = 0 \/ i = 1 := by omega
  rcases this with rfl | rfl
  ·refine ⟨W.heap.size + 1 + 1 + 1 + 1, 0, some ⟨W.heap.size + 1 + 1, 0, none⟩, 2, rfl, zAA (by simp) rfl, zAA (by simp) rfl, fun j hj => ?_, by simp [GB], by simp [GB]⟩
   have h3 : j < 2 := hj
   refine ⟨W.heap.size + 1 + 1, 0, rfl, ?_⟩
   have : j = 0 \/ j = 1 := by omega
   rcases this with rfl | rfl <;> exact zAJ (zAJ (zAA (by simp) rfl))
  ·refine ⟨W.heap.size + 1 + 1 + 1 + 1, 0, some ⟨W.heap.size + 1 + 1 + 1, 0, none⟩, 1, rfl, zAA (by simp) rfl, zAA (by simp) rfl, fun j hj => ?_, by simp [GB], by simp [GB]⟩
   have h3 : j < 1 := hj
   obtain rfl : j = 0 := by omega
   exact ⟨W.heap.size + 1 + 1 + 1, 0, rfl, zAJ (zAA (by simp) rfl)⟩
 ·intro s hs
  simp only [GB, List.mem_cons, List.not_mem_nil, or_false] at hs
  rcases hs with rfl | rfl <;> simp [ByteArray.size]
 ·intro s hs
  simp only [GB, List.mem_cons, List.not_mem_nil, or_false] at hs
  subst hs
  simp [ByteArray.size]
 ·intro r hr
  simp only [GB, List.mem_cons, List.not_mem_nil, or_false] at hr
  rcases hr with rfl | rfl <;> exact fitz _ (by decide) (by decide)
 ·intro r hr x hx
  simp only [GB, List.mem_cons, List.not_mem_nil, or_false] at hr
  rcases hr with rfl | rfl
  ·simp only [List.mem_cons, List.not_mem_nil, or_false] at hx
   rcases hx with rfl | rfl <;> exact fitz _ (by decide) (by decide)
  ·simp only [List.mem_cons, List.not_mem_nil, or_false] at hx
   subst hx
   exact fitz _ (by decide) (by decide)
abbrev gl (W : World) : Value := .agg #[.slice (some ⟨W.heap.size, 0, none⟩) 2 2, .slice (some ⟨W.heap.size + 1, 0, none⟩) 1 1, .slice (some ⟨W.heap.size + 1 + 1 + 1 + 1, 0, none⟩) 2 2, .int .i64 3]
theorem zO2 {W w : World} (X : Bx (lw W) (ah W) GB w) : w.cell? ⟨W.heap.size + 1 + 1 + 1 + 1 + 1, 0, none⟩ = some (.slice (some ⟨W.heap.size, 0, none⟩) 2 2) /\ w.cell? ⟨W.heap.size + 1 + 1 + 1 + 1 + 1, 1, none⟩ = some (.slice (some ⟨W.heap.size + 1, 0, none⟩) 1 1) /\
  w.cell? ⟨W.heap.size + 1 + 1 + 1 + 1 + 1, 2, none⟩ = some (.slice (some ⟨W.heap.size + 1 + 1 + 1 + 1, 0, none⟩) 2 2) /\ w.cell? ⟨W.heap.size + 1 + 1 + 1 + 1 + 1, 3, none⟩ = some (.int .i64 3) := by
 have h := X.box
 rw [zHU] at h
 exact ⟨h.x0, h.x1, h.x2, h.x3⟩
theorem zD8 (h : Sh) (G : Gram) (w : World) (k : GAt h G w) (htab : Bt.Tab w) : Calls Tryz.prog 9 #[gv h G] w (zMj G w) :=
 (zNj h G w k htab).mono fun e w' ⟨er, Ys, a, c, h1, h2, h3, h4⟩ => ⟨er, Ys, a, c, h1, h2, h3.reads, h4⟩
def GotL (w : World) (e : Ending) (w' : World) : Prop := ∃ b c a0 c0 b2 c2 b3 o3 c3, e = .returned (.tuple #[.slice (some ⟨b, 0, none⟩) 5 c, .int .i64 0]) /\ w'.cell? ⟨b, 0, none⟩ = some (.slice a0 0 c0) /\ w'.cell? ⟨b, 2, none⟩ = some (.slice (some ⟨b2, 0, none⟩) 1 c2) /\ w'.cell? ⟨b2, 0, none⟩ = some (.int .i64 1) /\ w'.cell? ⟨b2, 1, none⟩ = some (.slice (some ⟨b3, o3, none⟩) 1 c3) /\ w'.cell? ⟨b3, o3, none⟩ = some (.int .i64 0) /\ Below w.heap.size w w'
theorem zRB (W w : World) (k : GAt (ah W) GB w) (htab : Bt.Tab w) : Calls Tryz.prog 9 #[gv (ah W) GB] w (GotL w) :=
 (zD8 (ah W) GB w k htab).mono fun e w' ⟨er, Ys, a, c, h1, h2, h3, h4⟩ => by
  obtain ⟨rfl, h5, y0, y2⟩ := zNH h2
  obtain ⟨b, a0, c0, rfl, p0, _⟩ := h3 0 (by omega)
  obtain ⟨b', a2, c2, e2, p2, p3⟩ := h3 2 (by omega)
  simp only [Option.some.injEq, Addr.mk.injEq, and_true] at e2
  subst e2
  rw [y0] at p0
  rw [y2] at p2 p3
  obtain ⟨b2, a3, c3, rfl, r0, r1, r2⟩ := p3 0 (by simp)
  obtain ⟨b3, o3, rfl, s0⟩ := r2 0 (by simp [nivs])
  exact ⟨b, c, a0, c0, b2, c2, b3, o3, c3, by rw [h1, h5], by simpa using p0, by simpa using p2, by simpa using r0, by simpa using r1, by simpa [nivs] using s0, h4⟩
theorem zF5 (W : World) (htab : Bt.Tab W) : Calls Tryz.prog 7 #[] W (Gr.Is (.bool true) W) := by
 have KG := zSt (fun w1 (b : Below (lw W).heap.size (lw W) w1) => (zRg W).went b)
 have X0 := zSt (Bx.start (ah W) GB (lw W) 25)
 have BL := zSt (zIK W)
 obtain ⟨wq, hwq⟩ : ∃ wq, (lw W).alloc (.cells #[.slice (ah W).a1 GB.terms.length (ah W).c1, .slice (ah W).a2 GB.nons.length (ah W).c2, .slice (ah W).a3 GB.rules.length (ah W).c3, .int .i64 GB.start] 25) = wq := ⟨_, rfl⟩
 rw [hwq] at X0
 have HB0 := zSt (Gr.step BL.out X0.out.below)
 have CB := zSt (show Calls Tryz.prog 9 #[gl W] wq (GotL wq) from zRB W wq (KG.out wq X0.out.below) (htab.below HB0.out htab.pos))
 unfold lw at hwq
 unfold ah at hwq
 simp only [GB, List.length_cons, List.length_nil, Nat.reduceAdd] at hwq
 go_enter Tryz.func7, Tryz.ntmps7
 obtain ⟨g0, g1, g2, g3⟩ := zO2 X0.out
 go_wp2_with (go_at_call 9; refine CB.out.mono ?_; rintro e w1 ⟨b, c, a0, c0, b2, c2, b3, o3, c3, rfl, p0, p2, r0, r1, s0, hb⟩; have H1 := zSt (Gr.step HB0.out hb); clear hb)
 go_ret
 exact ⟨rfl, H1.out⟩
end Lk
namespace Lk
open Gr (Gram checkN zAB ivs)
open Im
open Au
open Fi (folB zCt zBE lst zCB)
theorem zNA {G : Gram} {q : Whole} (D : Done G q) (hv : checkN G = 0) {i : Nat} (hi : i < q.1.length) (hx : Clo G (zAF q.1 i) (endI G G.rules.length)) : La G q i (endI G G.rules.length) 0 := by
 have e : endI G G.rules.length = ((G.rules.length : Int), 1) := by
  unfold endI
  rw [(Gr.zAU G).2]
  rfl
 rw [e] at hx ⊢
 cases hx with
 | of h _ =>
  have h0 : 0 < i := by
   rcases Nat.eq_zero_or_pos i with r | r
   ·subst r
    rw [D.ok.zero, List.mem_singleton] at h
    injection h with _ h
    omega
   ·exact r
  obtain ⟨j, y, hj, hc, hb, hg, ey⟩ := zCs D h0 hi h
  obtain ⟨yr, yd⟩ := y
  injection ey with e1 e2
  obtain rfl : yr = (G.rules.length : Int) := e1.symm
  obtain rfl : yd = 0 := by dsimp only at e2; omega
  have hj0 : j = 0 := by
   cases hc with
   | of h2 _ =>
    rcases Nat.eq_zero_or_pos j with r | r
    ·exact r
    ·obtain ⟨k, z, _, hz, _, _, ez⟩ := zCs D r hj h2
     have := (zAK.1 (zAS hz)).2.1
     injection ez with e3 e4
     omega
   | next hc2 hb2 hr2 =>
    have := (Gr.zAp.1 hr2).1
    omega
  subst hj0
  exact .move (x := ((G.rules.length : Int), 0)) .start hb hg
theorem zQB {G : Gram} {q : Whole} (D : Done G q) (hv : checkN G = 0) {i : Nat} (hi : i < q.1.length) (hx : Clo G (zAF q.1 i) (endI G G.rules.length)) : laL G q i (endI G G.rules.length) = [0] := by
 have hm : ∀ t : Nat, t ∈ laL G q i (endI G G.rules.length) ↔ t = 0 := fun t => by
  rw [zLV]
  constructor
  ·intro h
   have := (zGb D hv h).1 rfl
   omega
  ·rintro rfl
   exact zNA D hv hi hx
 have hn : (laL G q i (endI G G.rules.length)).Nodup := by
  unfold laL
  exact List.Pairwise.filter _ List.nodup_range
 match hL : laL G q i (endI G G.rules.length), hm, hn with
 | [], hm, _ => exact absurd ((hm 0).2 rfl) (by simp)
 | [a], hm, _ => rw [(hm a).1 (by simp)]
 | a :: b :: l, hm, hn =>
  have e1 := (hm a).1 (by simp)
  have e2 := (hm b).1 (by simp)
  subst e1 e2
  exact absurd (List.mem_cons_self ..) (List.nodup_cons.1 hn).1
theorem zRb {G : Gram} {q : Whole} (D : Done G q) (hv : checkN G = 0) {i k : Nat} (hk : k < G.rules.length) : zBE ((laL G q i (endI G k)).map fun t : Nat => (t : Int)) (lst (folB G (zAB G (k : Int)).1) (G.terms.length + 1)) = true := by
 unfold zBE Fi.inB
 rw [List.all_eq_true]
 intro t ht
 obtain ⟨s, hs, rfl⟩ := List.mem_map.1 ht
 have h1 := zLV.1 hs
 have h2 := (zGb D hv h1).2 k hk rfl
 have h3 := Fi.zDw h2
 rw [List.any_eq_true]
 refine ⟨(s : Int), zCB.2 ⟨h3.1, by omega, zCt.2 ?_⟩, by simp⟩
 rw [(Gr.zAb hk).2]
 exact h2
theorem zNx (l : List Nat) : nivs l = ivs (l.map fun t : Nat => (t : Int)) := by simp [nivs, ivs, Gr.iv]
structure Fls (G : Gram) (y : Nat × List Nat) : Prop where
 ok : checkN G = 0
 le : y.1 <= G.rules.length
 few : y.2.length <= 100000
 own : y.1 = G.rules.length -> y.2 = [0]
 rest : y.1 < G.rules.length -> zBE (y.2.map fun t : Nat => (t : Int)) (lst (folB G (zAB G (y.1 : Int)).1) (G.terms.length + 1)) = true
open Classical in
theorem zFR {G : Gram} {er : Int} {Ys : List (List (Nat × List Nat))} (h : LookIs G er Ys) : ((er = 0) ↔ 0 < Ys.length) /\ Ys.length <= 2000 /\ (∀ i (hi : i < Ys.length), Ys[i].length <= 1000 /\ ∀ y ∈ Ys[i], Fls G y) := by
 cases h with
 | bad h1 h2 => exact ⟨⟨fun e => absurd e h2, fun e => absurd e (Nat.not_lt_zero _)⟩, Nat.zero_le _, fun i hi => absurd hi (Nat.not_lt_zero i)⟩
 | all h1 h2 h3 h4 =>
  rename_i q
  have SM := Fi.zBm h1
  have hT := SM.t
  have hR := SM.r
  refine ⟨⟨fun _ => by rw [zAx]; exact h2.ok.pos, fun _ => rfl⟩, by rw [zAx]; exact h3, fun i hi => ?_⟩
  have hi' : i < q.1.length := by rw [zAx] at hi; exact hi
  have e : (zB2 G q)[i] = zAY G q i := by simp [zB2]
  rw [e]
  refine ⟨?_, fun y hy => ?_⟩
  ·unfold zAY
   rw [List.length_map]
   refine Nat.le_trans (List.length_filter_le _ _) ?_
   rw [List.length_range]
   omega
  ·unfold zAY at hy
   obtain ⟨k, hk, rfl⟩ := List.mem_map.1 hy
   obtain ⟨k1, k2⟩ := List.mem_filter.1 hk
   have hc := of_decide_eq_true k2
   have hkl := List.mem_range.1 k1
   refine ⟨h1, by dsimp only; omega, ?_, fun e => ?_, fun e => zRb h2 h1 e⟩
   ·dsimp only
    unfold laL
    refine Nat.le_trans (List.length_filter_le _ _) ?_
    rw [List.length_range]
    omega
   ·dsimp only at e ⊢
    subst e
    exact zQB h2 h1 hi' hc
