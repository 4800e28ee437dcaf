/- A part of the proof. -/
import Derived.Test.YtbcgmiocolpjoaaGreatPk32
import Derived.Test.YtbcgmiocolpjoaaGreatPk34
set_option maxHeartbeats 4000000
set_option maxRecDepth 100000
set_option linter.unusedVariables false
namespace Go.Proofs.YtbcgmiocolpjoaaGreat
open Go.RowKit Go.Maps
namespace Au
open Gr (Gram Sh checkN top)
open Im
noncomputable def pj (G : Gram) (c : List Itm) (ks : List (List Itm)) (j : Nat) : Half := zAV G c (j - 1) (ks, [])
theorem zNb (G : Gram) (c : List Itm) (ks : List (List Itm)) : pj G c ks 0 = (ks, []) := rfl
theorem zNZ {G : Gram} (hv : checkN G = 0) {c : List Itm} {ks : List (List Itm)} {j : Nat} (h : stL G c (j : Int) = []) : pj G c ks (j + 1) = pj G c ks j := by
 unfold pj
 cases j with
 | zero => rfl
 | succ j =>
  show zAV G c (j + 1) (ks, []) = zAV G c j (ks, [])
  rw [zA9, zDN h]
theorem zNY {G : Gram} (hv : checkN G = 0) {c : List Itm} {ks : List (List Itm)} {j : Nat} (h : stL G c (j : Int) ≠ []) :
  pj G c ks (j + 1) = (zFf (pj G c ks j).1 (stL G c (j : Int)), (pj G c ks j).2 ++ [((j : Int), (numK (pj G c ks j).1 (stL G c (j : Int)) : Int))]) := by
 cases j with
 | zero => exact absurd (zKT hv c) h
 | succ j =>
  unfold pj
  show zAV G c (j + 1) (ks, []) = _
  rw [zA9]
  unfold oneS zFf numK
  rw [if_neg h]
  rfl
theorem zNa {G : Gram} (hv : checkN G = 0) {c : List Itm} {ks : List (List Itm)} {j : Nat} (h : stL G c (j : Int) ≠ []) : ∀ x ∈ (pj G c ks j).2, x.1 ≠ (j : Int) := fun x hx e => by
 have := zED G c ks (j - 1) x hx
 cases j with
 | zero => exact h (zKT hv c)
 | succ j => omega
theorem zO5 {G : Gram} (hv : checkN G = 0) {q : Whole} (h : WholeOk G (top G) q) (c : List Itm) (j : Nat) : (pj G c q.1 j).1.Nodup /\ (∀ x ∈ (pj G c q.1 j).1, Fit3 x) /\ (pj G c q.1 j).1.length <= q.1.length + j := by
 have H := zCI (G := G) (c := c) h.nodup (j - 1)
 refine ⟨H.nodup, fun x hx => ?_, by have := zCQ G c q.1 (j - 1); unfold pj; omega⟩
 obtain ⟨more, e, hm⟩ := H.front
 unfold pj at hx
 rw [e] at hx
 rcases List.mem_append.1 hx with k | k
 ·exact fun y hy => zCS hv ((h.good x k).2.2 y hy)
 ·obtain ⟨i, _, h1, _⟩ := hm x k
  exact fun y hy => by
   rw [h1] at hy
   exact zCS hv (zB2 (((zEm _ _ _).2 y).1 hy)).1
theorem zMd {G : Gram} (hv : checkN G = 0) (c : List Itm) (s : Int) : Fit3 (stL G c s) /\ (stL G c s).length <= 2709 := by
 have hr : ∀ y ∈ stL G c s, zAD G y = true := fun y hy => (zB2 (((zEm _ _ _).2 y).1 hy)).1
 exact ⟨fun y hy => zCS hv (hr y hy), Nat.le_trans (zBt (zEm G c s).1 hr) (zAZ hv)⟩
structure LvR (W : World) (p : Nat) (S : Nat -> Prop) (h : Sh) (G : Gram) (ts : List (List (Int × Int))) (m : Nat) (w2 : World) (H : Half) (wr : World) : Prop where
 own : ∃ T n, BAt W p T h G H.1 (tgt (ts ++ [H.2])) n wr /\ n <= m /\ Sep.Ext T S w2
 fr : Sep.Fr S w2 wr
def Left (W : World) (p : Nat) (S : Nat -> Prop) (h : Sh) (G : Gram) (ks : List (List Itm)) (ts : List (List (Int × Int))) (m : Nat) (w : World) (e : Ending) (w' : World) : Prop :=
 e = .returned (.tuple #[]) /\ ∃ T n, BAt W p T h G ks (tgt ts) n w' /\ n <= m /\ Sep.Fr S w w' /\ Sep.Ext T S w
end Au
namespace Au
open Gr (Gram Sh GAt checkN top drawn)
open Im
theorem zOY {W : World} {p : Nat} {S T T3 : Nat -> Prop} {h : Sh} {G : Gram} {ts : List (List (Int × Int))} {m n nn : Nat} {w2 wr w3 w4 : World} {H : Half} {K : List Itm} {j : Nat} {bt : Nat}
  (h5 : w3.cell? ⟨p, 5, none⟩ = some (.map (some bt))) (hB : BAt W p T3 h G (zFf H.1 K) (tgt (ts ++ [H.2])) n w3) (hF : Sep.Fr T wr w3) (hX : Sep.Ext T3 T wr) (hx : Sep.Ext T S w2) (hf : Sep.Fr S w2 wr)
  (hT : TM bt (n + 1) (fun y => if y = ((ts.length : Int), (j : Int)) then some (numK H.1 K : Int) else tgt (ts ++ [H.2]) y) w4) (ht : Sep.Fr (· = bt) w3 w4) (hs : ∀ x ∈ H.2, x.1 ≠ (j : Int)) (hn : n + 1 <= m) :
  LvR W p S h G ts m w2 (zFf H.1 K, H.2 ++ [((j : Int), (numK H.1 K : Int))]) w4 := by
 obtain ⟨a, c, bt', bn, us, k⟩ := hB
 have e : bt' = bt := by
  have := k.targets
  rw [h5] at this
  injection this with this
  injection this with this
  injection this with this
  exact this.symm
 subst e
 have k4 := k.turn ht (hT.eq fun y => (zNy hs y).symm)
 have hbt : T3 bt' := k.st
 have hX2 : Sep.Ext T3 S w2 := hx.trans hX hf.size
 refine ⟨⟨T3, n + 1, ⟨a, c, bt', bn, us, k4⟩, hn, hX2⟩, ?_⟩
 refine (hf.trans (T := T) hF hx).trans ht fun q hq => hq ▸ hX2 _ hbt
theorem zPA {W : World} {p : Nat} {T : Nat -> Prop} {h : Sh} {G : Gram} {ks : List (List Itm)} {X : Itm -> Option Int} {n bt : Nat} {w : World} (hB : BAt W p T h G ks X n w) (h5 : w.cell? ⟨p, 5, none⟩ = some (.map (some bt))) : TM bt n X w := by
 obtain ⟨a, c, bt', bn, us, k⟩ := hB
 have := k.targets
 rw [h5] at this
 injection this with this
 injection this with this
 injection this with this
 subst this
 exact k.tm
theorem zOx {W : World} {p : Nat} {T : Nat -> Prop} {h : Sh} {G : Gram} {ks : List (List Itm)} {X : Itm -> Option Int} {n : Nat} {w : World} (hB : BAt W p T h G ks X n w) : ∃ bt, w.cell? ⟨p, 5, none⟩ = some (.map (some bt)) := by
 obtain ⟨a, c, bt, bn, us, k⟩ := hB
 exact ⟨bt, k.targets⟩
theorem zNR (ks : List (List Itm)) (K : List Itm) : numK ks K <= ks.length := by
 unfold numK
 have h := List.idxOf_lt_length_of_mem (l := ks ++ [K]) (a := K) (by simp)
 rw [List.length_append, List.length_singleton] at h
 omega
theorem zJa {W : World} {p : Nat} {S : Nat -> Prop} {h : Sh} {G : Gram} {q : Whole} {n : Nat} (w : World) (k : BAt W p S h G q.1 (tgt q.2) n w) (kg : GAt h G W) (hv : checkN G = 0) (ht : top G <= 1000)
  (ok : WholeOk G (top G) q) (hq : q.2.length < q.1.length) (hl : q.1.length <= 100000) (hn : n <= 1000000000) :
  Calls Tryz.prog 40 #[.pointer (some ⟨p, 0, none⟩), .int .i64 q.2.length] w (Left W p S h G (rnd G (top G) q).1 (rnd G (top G) q).2 (n + (top G + 1)) w) := by
 have ST := zPB (zKW w k kg hv ht (fun x hx => ⟨Nat.le_trans (zBt (ok.good x hx).2.1 (ok.good x hx).2.2) (zAZ hv), (ok.good x hx).2.2⟩) (by omega) q.2.length hq)
 rw [zFl hq]
 have OK := zPB (fun j => zO5 hv ok (clL G q.1[q.2.length]) j)
 have K0 := zPB k
 have hlen := k.inn
 clear k kg
 generalize clL G q.1[q.2.length] = C at *
 generalize hts : q.2 = ts at *
 generalize hks : q.1 = ks at *
 clear hts hks ok
 go_enter Tryz.func40, Tryz.ntmps40
 go_wp2_with (go_at_call 68; refine ST.out.mono ?_; rintro e w2 ⟨b, cc, rfl, hb1, hb2, hrows, hbw⟩; have ROWS := zPB hrows; have HB2 := zPB hbw; clear hrows hbw)
 have R0 := zPB (show LvR W p S h G ts (n + 0) w2 (pj G C ks 0) w2 from ⟨⟨S, n, (K0.out.went HB2.out).eq (fun x => by rw [zNb]; exact (zMJ ts x).symm) (Nat.le_refl _), Nat.le_refl _, .refl _ _⟩, .refl _ _⟩)
 have hsw := HB2.out.size
 go_loopw [10] (fun i wr => ∃ j : Nat, i = .int .i64 j /\ j <= top G + 1 /\ LvR W p S h G ts (n + j) w2 (pj G C ks j) wr) (fun i _ => top G + 1 - (intOf i).toNat)
 case atStart => exact ⟨0, rfl, Nat.zero_le _, R0.out⟩
 case round =>
  obtain ⟨j, rfl, hj, hR⟩ := hrel
  have R := zPB hR
  clear hR R0
  by_cases hlt : j < top G + 1
  ·obtain ⟨a1, c1, hc, hcc, hi1, hnb⟩ := ROWS.out j hlt
   have hsb : ¬ S b := fun q => by have := K0.out.inn b q; omega
   have hc' : wr.cell? ⟨b, j, none⟩ = some (.slice a1 (stL G C (j : Int)).length c1) := R.out.fr.cell hc hsb
   have L2 := zPB (show LAt S (stL G C (j : Int)) (.slice a1 (stL G C (j : Int)).length c1) w2 from ⟨a1, c1, rfl, hcc, hi1, fun _ b' o e q => by
    have := hnb b' o e
    have := K0.out.inn b' q
    omega⟩)
   obtain ⟨hk1, hk2, hk3⟩ := OK.out j
   obtain ⟨hf1, hf2⟩ := zMd hv C (j : Int)
   have PS := zPB (fun h0 => zNZ (c := C) (ks := ks) (j := j) hv h0)
   have PN := zPB (fun h0 => zNY (c := C) (ks := ks) (j := j) hv h0)
   have SY := zPB (fun h0 => zNa (c := C) (ks := ks) (j := j) hv h0)
   obtain ⟨⟨T, n1, hB, hn1, hXT⟩, hF⟩ := R.out
   have KN := zPB (fun w1 (b : Below wr.heap.size wr w1) => zEB w1 (hB.went b) (stL G C (j : Int)) a1 c1 ((L2.out.fr hF hXT).went b) hf1 hk2 hk1 (by omega) (by omega))
   clear hc hcc hi1 hnb hf1 hk1 hk2
   by_cases h0 : stL G C (j : Int) = []
   ·have PE := zPB (PS.out h0)
    have hz : (stL G C (j : Int)).length = 0 := by rw [h0]; rfl
    rw [hz] at hc'
    clear PS PN SY KN L2 h0 hz
    go_wp2_with fail
    go_roundw
    case rel => exact ⟨j + 1, by go_num, by omega, by rw [PE.out]; exact ⟨⟨T, n1, hB, by omega, hXT⟩, hF⟩⟩
    case measure => simp [intOf]; omega
   ·have PE := zPB (PN.out h0)
    have SE := zPB (SY.out h0)
    have hz : 0 < (stL G C (j : Int)).length := List.length_pos_iff.2 h0
    clear PS PN SY L2 h0
    generalize stL G C (j : Int) = K at *
    have kA := drawn wr
    obtain ⟨bt, h5⟩ := zOx hB
    have h5d : wr.drew.cell? ⟨p, 5, none⟩ = some (.map (some bt)) := h5
    have hnk := zNR (pj G C ks j).1 K
    have HX : W64 ((ts.length : Int), (j : Int)) := ⟨zFt (by omega), zFt (by omega)⟩
    have hwf := zFt (j := numK (pj G C ks j).1 K) (by omega)
    have END := zPB (fun (T3 : Nat -> Prop) w3 w4 h1 h2 h3 h4 h6 h7 => zOY (W := W) (p := p) (h := h) (G := G) (S := S) (T := T) (T3 := T3) (m := n + (j + 1)) (n := n1) (nn := 0) (w2 := w2) (wr := wr) (w3 := w3) (w4 := w4) (H := pj G C ks j) (K := K) (j := j) (bt := bt) (ts := ts) h1 h2 h3 h4 hXT hF h6 h7 SE.out (by omega))
    go_wp2_with fail
    go_region_law (first
     | (go_simp; go_at_call 38; (with_reducible refine (KN.out _ (by assumption)).mono ?_); rintro e w3 ⟨rfl, T3, hB3, hF3, hX3, h53⟩; have q53 := h53 _ h5d; obtain ⟨w4, hrun, m4, t4⟩ := (zPA hB3 q53).store (T := 83) kaA Tryz.underlying83 Tryz.underlying3 (by unfold maxLen; omega) HX hwf; have hrun2 : (Instr.mapUpdate 83 (.map (some bt)) (.agg #[.int .i64 (ts.length : Int), .int .i64 (j : Int)]) (.int .i64 (numK (pj G C ks j).1 K : Int))).run Tryz.prog w3 = .ok () w4 := hrun; have E4 := zPB (END.out T3 w3 w4 q53 hB3 ((Sep.Fr.refl T wr).drew.trans hF3 (.refl _ _)) (hX3.at (Nat.le_refl _)) m4 (zFr t4)); clear hB3 hF3 hX3 h53 hrun m4 t4))
    all_goals
     go_wp2_with fail
     go_roundw
     case rel => exact ⟨j + 1, by go_num, by omega, by rw [PE.out]; exact E4.out⟩
     case measure => simp [intOf]; omega
  ·have hE : j = top G + 1 := by omega
   subst hE
   obtain ⟨⟨T, n1, hB, hn1, hXT⟩, hF⟩ := R.out
   go_wp2
   try simp only [Exit.inBlock, Exit.then]
   refine bodyPost_ret (v := .tuple #[]) (by simp [results, Tryz.results40, go_sem]) rfl ?_
   exact ⟨rfl, T, n1, hB, hn1, (Sep.Fr.of_below HB2.out).trans hF (.refl _ _), hXT.at hsw⟩
end Au
namespace Au
open Gr (Gram Sh top boxed zAB)
open Im
def zFA (G : Gram) (w : World) (e : Ending) (w' : World) : Prop := ∃ (X : List Sta) (er : Int) (a : Option Addr) (c : Nat), e = .returned (.tuple #[.slice a X.length c, .int .i64 er]) /\ Built G er X /\ StaA a X w' /\ X.length <= c /\ Below w.heap.size w w'
theorem fresh (h : Sh) (G : Gram) (w w1 : World) (hb : Below w.heap.size w w1) (T : TypeId) :
  BAt w (w1.heap.size + 1 + 1) (fun k => w1.heap.size <= k /\ k <= w1.heap.size + 2) h G [] (tgt []) 0
   (((w1.alloc (.map #[] 0)).alloc (.map #[] 0)).alloc (.cells #[.slice h.a1 G.terms.length h.c1, .slice h.a2 G.nons.length h.c2, .slice h.a3 G.rules.length h.c3, .int .i64 G.start, .slice none 0 0, .map (some w1.heap.size), .map (some (w1.heap.size + 1))] T)) := by
 have hs := hb.size
 have m1 : (w1.alloc (.map #[] 0)).heap.size = w1.heap.size + 1 := by simp
 have m2 : ((w1.alloc (.map #[] 0)).alloc (.map #[] 0)).heap.size = w1.heap.size + 1 + 1 := by simp
 have t1 := (TMap.made w1 Tryz.prog 117 3).eq fun x => (zNx x).symm
 have s1 := SMap.made (w1.alloc (.map #[] 0)) Tryz.prog 9 3
 rw [m1] at s1
 have b1 := boxed (w1.alloc (.map #[] 0)) (.map #[] 0)
 have b2 := boxed ((w1.alloc (.map #[] 0)).alloc (.map #[] 0)) (.cells #[.slice h.a1 G.terms.length h.c1, .slice h.a2 G.nons.length h.c2, .slice h.a3 G.rules.length h.c3, .int .i64 G.start, .slice none 0 0, .map (some w1.heap.size), .map (some (w1.heap.size + 1))] T)
 have K : ∀ j v, #[Value.slice h.a1 G.terms.length h.c1, .slice h.a2 G.nons.length h.c2, .slice h.a3 G.rules.length h.c3, .int .i64 G.start, .slice none 0 0, .map (some w1.heap.size), .map (some (w1.heap.size + 1))][j]? = some v ->
   (((w1.alloc (.map #[] 0)).alloc (.map #[] 0)).alloc (.cells #[.slice h.a1 G.terms.length h.c1, .slice h.a2 G.nons.length h.c2, .slice h.a3 G.rules.length h.c3, .int .i64 G.start, .slice none 0 0, .map (some w1.heap.size), .map (some (w1.heap.size + 1))] T)).cell? ⟨w1.heap.size + 1 + 1, j, none⟩ = some v := fun j v hv => zAB m2.symm hv
 refine ⟨none, 0, w1.heap.size, w1.heap.size + 1, [], ?_⟩
 refine ⟨Gr.step hb (Gr.step (Gr.step (boxed w1 (.map #[] 0)) b1) b2), ⟨K 0 _ rfl, K 1 _ rfl, K 2 _ rfl, K 3 _ rfl⟩, K 4 _ rfl, K 5 _ rfl, K 6 _ rfl, Gr.zCG m2.symm, World.ownsRow_nil _ _ _ _, fun i hi => absurd hi (Nat.not_lt_zero i), ?_, ?_, ⟨by omega, by omega⟩, ⟨by omega, by omega⟩, ⟨by omega, by omega⟩, fun g hg => by simp [Value.ownBlock] at hg, by omega, by omega, by omega, fun g hg => by simp [Value.ownBlock] at hg, fun k hk => by omega, fun k hk => ?_⟩
 ·exact t1.keep ((b2.block _ (by omega)).trans (b1.block _ (by omega)))
 ·exact s1.keep (b2.block _ (by omega))
 ·simp
  omega
structure BdR (w : World) (p : Nat) (h : Sh) (G : Gram) (m : Nat) (wr : World) : Prop where
 own : ∃ T n, BAt w p T h G (runs G (top G) m).1 (tgt (runs G (top G) m).2) n wr /\ n <= m * 2000
 going : zDe G m
 few : (runs G (top G) m).1.length <= 2000
theorem BdR.start {w : World} {p : Nat} {T : Nat -> Prop} {h : Sh} {G : Gram} {wr : World} (k : BAt w p T h G [[((G.rules.length : Int), 0)]] (tgt []) 0 wr) : BdR w p h G 0 wr := ⟨⟨T, 0, k, by omega⟩, zDz G, by simp [runs]⟩
theorem BdR.not {w : World} {p : Nat} {h : Sh} {G : Gram} {m : Nat} {wr : World} (k : BdR w p h G m wr) (hm : m < (runs G (top G) m).1.length) : ¬ Stop (runs G (top G) m) := by
 have h1 := k.few
 have h2 := k.going.len
 unfold Stop
 omega
theorem BdR.done {w : World} {p : Nat} {h : Sh} {G : Gram} {m : Nat} {wr : World} (k : BdR w p h G m wr) (hm : ¬ m < (runs G (top G) m).1.length) : zCE G m /\ ¬ 2000 < (runs G (top G) m).1.length := by
 have h1 := k.few
 have h2 := k.going.len
 have h3 := (zCn G (top G) m).le
 exact ⟨k.going.stop (.inr (by omega)), by omega⟩
theorem BdR.many {w : World} {p : Nat} {h : Sh} {G : Gram} {m : Nat} {wr : World} (k : BdR w p h G m wr) (hm : m < (runs G (top G) m).1.length) (h9 : 2000 < (runs G (top G) (m + 1)).1.length) : zCE G (m + 1) := (k.going.next (k.not hm)).stop (.inl h9)
