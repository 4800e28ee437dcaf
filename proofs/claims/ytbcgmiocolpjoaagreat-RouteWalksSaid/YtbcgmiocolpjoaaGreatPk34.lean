/- A part of the proof. -/
import Derived.Test.YtbcgmiocolpjoaaGreatPk33
set_option maxHeartbeats 2000000
set_option maxRecDepth 100000
set_option linter.unusedVariables false
namespace Go.Proofs.YtbcgmiocolpjoaaGreat
open Go.RowKit Go.Maps
namespace Au
open Gr (Gram Sh GAt top boxed cell_later)
open Im
open Rw (zAF)
theorem zD4 : (Tryz.prog.info? 53).map (fun i => (i.zero, i.size, i.bytes)) = some (some (.agg #[.slice none 0 0, .slice none 0 0]), 2, 48) := by kernel_rfl
def zCe (G : Gram) (ks : List (List Itm)) (ts : List (List (Int × Int))) (i : Nat) : List Sta := (List.range i).map fun j => (zAI ks j, zBb ts (j : Int) (top G + 1))
theorem zHe (G : Gram) (ks : List (List Itm)) (ts : List (List (Int × Int))) (i : Nat) : zCe G ks ts (i + 1) = zCe G ks ts i ++ [(zAI ks i, zBb ts (i : Int) (top G + 1))] := by
 unfold zCe
 rw [List.range_succ, List.map_append]
 rfl
theorem zCF (G : Gram) (ks : List (List Itm)) (ts : List (List (Int × Int))) (i : Nat) : (zCe G ks ts i).length = i := by simp [zCe]
theorem zIe {G : Gram} {q : Whole} (h : Done G q) : zCe G q.1 q.2 q.1.length = states q := by
 refine List.ext_getElem (by rw [zCF, zAg h.all]) fun i h1 h2 => ?_
 rw [zCF] at h1
 have hi : i < q.2.length := by rw [h.all]; exact h1
 have e := zBJ h.all h1
 rw [List.getElem?_eq_getElem h2, Option.some.injEq] at e
 rw [e]
 simp only [zCe, List.getElem_map, List.getElem_range]
 rw [zJx h.ok hi]
def zKz (X : List Sta) (w : World) (e : Ending) (w' : World) : Prop := ∃ a c, e = .returned (.slice a X.length c) /\ StaA a X w' /\ X.length <= c /\ Below w.heap.size w w'
theorem zDX (T : TypeId) (base q : Nat) (u v : Value) (w : World) (hq : q = w.heap.size) (hb : base <= q) (hu : u.oneCell' = true) (hv : v.oneCell' = true) : (w.alloc (.cells #[u, v] T)).ownsRow base T 2 (.slice (some ⟨q, 0, none⟩) 1 1) 1 [u, v] := by
 subst hq
 exact World.ownsRow_lit w #[u, v] 1 hb (by decide) (by simp)
theorem zIP {W : World} {p : Nat} {S : Nat -> Prop} {h : Sh} {G : Gram} {ks : List (List Itm)} {ts : List (List (Int × Int))} {n : Nat} (w : World) (k : BAt W p S h G ks (tgt ts) n w) (kg : GAt h G W) (ht : top G <= 1000) (hl : ks.length <= 1000000) :
  Calls Tryz.prog 41 #[.pointer (some ⟨p, 0, none⟩)] w (zKz (zCe G ks ts ks.length) w) := by
 have TR := zPB (fun w1 (b : Below w.heap.size w w1) i (hi : i <= 1000000) => zDa w1 (k.went b) kg ht i hi)
 obtain ⟨a0, c0, bt, bn, us, k⟩ := k
 obtain ⟨i0, hj, hz0, hz1, hz2⟩ := info_parts zD4
 have K := zPB k
 have S0 := zPB (StV.nil 53 w.heap.size w)
 have q4 := k.items
 clear k kg
 go_enter Tryz.func41, Tryz.ntmps41
 go_wp2
 go_loopw [3, 11] (fun v q wr => ∃ (j : Nat) (L : List StC), q = .int .i64 j /\ j <= ks.length /\ L.map Prod.fst = zCe G ks ts j /\ StV 53 w.heap.size L v wr /\ Below w.heap.size w wr) (fun _ q _ => ks.length - (intOf q).toNat)
 case atStart => exact ⟨0, [], rfl, Nat.zero_le _, rfl, S0.out, .refl _ _⟩
 case round =>
  obtain ⟨j, L, rfl, hjl, hM, hV, hW⟩ := hrel
  have hlen : L.length = j := by
   have := congrArg List.length hM
   rwa [List.length_map, zCF] at this
  subst hlen
  obtain ⟨av, cv, rfl, hcv⟩ := hV.len
  have V := zPB hV
  have WW := zPB hW
  have MM := zPB hM
  clear S0 hV hM
  by_cases hlt : L.length < ks.length
  ·obtain ⟨b, a1, c1, rfl, hc1, l1, i1, _⟩ := K.out.at hlt
   have hc2 := cell_later hW hc1
   have U1 := zPB (show LOk ks[L.length] (.slice a1 ks[L.length].length c1) (.slice av L.length cv) w from ⟨a1, c1, rfl, l1, i1, fun hne b o e g => by
    have h1 := zCK i1 hne e
    have h2 := (World.ownsRow.lt V.out.row b g).1
    omega⟩)
   have hst := zAd hlt
   have EX := zPB (show zCe G ks ts (L.length + 1) = zCe G ks ts L.length ++ [(ks[L.length], zBb ts (L.length : Int) (top G + 1))] from by rw [zHe, hst])
   have TJ := zPB (TR.out wr hW L.length (by omega))
   have hL1 : L.length <= 1000000 := by omega
   generalize ks[L.length] = Kj at *
   generalize zBb ts (L.length : Int) (top G + 1) = Y at *
   clear i1 l1 hst hW
   go_wp2_with (first
    | (go_at_call 69; refine TJ.out.mono ?_; rintro e w2 ⟨a2, c2, rfl, l2, v2, b2⟩; have V2 := zPB (V.out.went b2); have W2 := zPB (Gr.step WW.out b2); have U2 := zPB ((U1.out.went WW.out).went b2); have Y2 := zPB (show LOk Y (.slice a2 Y.length c2) (.slice av L.length cv) w2 from ⟨a2, c2, rfl, l2, v2.reads, fun hne b o e g => by
      have h1 := (World.ownsRow.lt V.out.row b g).2
      have h2 := (World.ownsRow.lt v2 b (by rw [e]; rfl)).1
      omega⟩); have hs2 := W2.out.size; have ONE := zPB (zDX 53 w.heap.size w2.heap.size (.slice a1 Kj.length c1) (.slice a2 Y.length c2) w2 rfl hs2 rfl rfl); have b3 := boxed w2 (.cells #[.slice a1 Kj.length c1, .slice a2 Y.length c2] 53); have V3 := zPB (V2.out.went b3); have W3 := zPB (Gr.step W2.out b3); have U3 := zPB (U2.out.went b3); have Y3 := zPB (Y2.out.went b3); have hs3 := W3.out.size; clear l2 v2 b2 b3)
    | (at_builtin; refine zAF _ rfl _ _ 46 rfl w.heap.size 53 i0 (.agg #[.slice none 0 0, .slice none 0 0]) 2 48 Tryz.underlying46 hj hz0 hz1 hz2 rfl (by decide) _ _ _ rfl V3.out.row w.heap.size _ 1 [.slice a1 Kj.length c1, .slice a2 Y.length c2] rfl ONE.out (by simp [Value.oneCell']) (by unfold maxLen; omega) (by omega) hs3 ?_; intro v' w4 hown hg hloc; have V4 := zPB (V3.out.snoc ((Kj, Y), (.slice a1 Kj.length c1, .slice a2 Y.length c2)) ⟨U3.out, Y3.out⟩ hown hg (hloc.imp id fun e => ⟨_, Nat.le_refl _, e⟩)); have W4 := zPB (W3.out.trans (zBl hg hs3 fun q hq => (World.ownsRow.lt V3.out.row q hq).1)); clear hown hg hloc))
   go_roundw
   case rel => exact ⟨L.length + 1, _, by go_num, by omega, by rw [List.map_append, MM.out, EX.out]; rfl, V4.out, W4.out⟩
   case measure => simp [intOf]; omega
  ·have hE : L.length = ks.length := by omega
   have R := zPB (show StaA av (zCe G ks ts ks.length) wr from by rw [← hE, ← MM.out]; exact V.out.at)
   have hll : (zCe G ks ts ks.length).length = L.length := by rw [zCF, hE]
   clear hE
   go_wp2
   go_ret
   exact ⟨av, cv, by rw [hll]; rfl, R.out, by rw [hll]; exact hcv, WW.out⟩
end Au
namespace Ro
open Gr (ivs)
open Im
open Au
def New (L : Nat -> List Int) (is : Nat -> Bool) (i : Nat) (s : Int) (j : Nat) : Prop := is j = false \/ zDk (L i ++ [s]) (L j) = true
structure Vis (q : Whole) (L : Nat -> List Int) (is : Nat -> Bool) (i k : Nat) : Prop where
 done : ∀ i', i' < i -> is i' = true -> ∀ s (j : Nat), (s, (j : Int)) ∈ q.2.getD i' [] -> ¬ New L is i' s j
 here : is i = true -> ∀ s (j : Nat), (s, (j : Int)) ∈ (q.2.getD i []).take k -> ¬ New L is i s j
section
variable {q : Whole} {L : Nat -> List Int} {is : Nat -> Bool} {i k : Nat}
theorem Vis.start : Vis q L is 0 0 := ⟨fun i' h => absurd h (Nat.not_lt_zero _), fun _ s j h => by rw [List.take_zero] at h; cases h⟩
theorem Vis.nextK (h : Vis q L is i k) (hk : k < (q.2.getD i []).length) (hn : ∀ s (j : Nat), (q.2.getD i [])[k] = (s, (j : Int)) -> ¬ New L is i s j) : Vis q L is i (k + 1) := by
 refine ⟨h.done, fun hi s j hm => ?_⟩
 rw [List.take_succ_eq_append_getElem hk] at hm
 rcases List.mem_append.1 hm with c | c
 ·exact h.here hi s j c
 ·rw [List.mem_singleton] at c
  exact hn s j c.symm
theorem Vis.skip (h : Vis q L is i k) (hi : is i = false) : Vis q L is (i + 1) 0 := by
 refine ⟨fun i' hi' ht s j hm => ?_, fun _ s j hm => by rw [List.take_zero] at hm; cases hm⟩
 rcases Nat.lt_or_ge i' i with c | c
 ·exact h.done i' c ht s j hm
 ·obtain rfl : i' = i := by omega
  rw [hi] at ht
  cases ht
theorem Vis.nextI (h : Vis q L is i k) (hk : k = (q.2.getD i []).length) : Vis q L is (i + 1) 0 := by
 refine ⟨fun i' hi' ht s j hm => ?_, fun _ s j hm => by rw [List.take_zero] at hm; cases hm⟩
 rcases Nat.lt_or_ge i' i with c | c
 ·exact h.done i' c ht s j hm
 ·obtain rfl : i' = i := by omega
  refine h.here ht s j ?_
  rw [hk, List.take_length]
  exact hm
end
def zDg (B n : Nat) (q : Whole) (S0 : Nat) (b : Bool) (L : Nat -> List Int) (is : Nat -> Bool) (i k : Nat) : Prop := (b = true /\ sumV B n L is < S0) \/ (b = false /\ sumV B n L is <= S0 /\ Vis q L is i k)
structure LsAt (n bL bI B0 : Nat) (L : Nat -> List Int) (is : Nat -> Bool) (A : Nat -> Option Addr) (C : Nat -> Nat) (w : World) : Prop where
 fl : Fil bL 40 n (fun i => .slice (A i) (L i).length (C i)) w
 fi : Fil bI 4 n (fun i => .bool (is i)) w
 rd : ∀ i, i < n -> Sep.Reads (A i) (ivs (L i)) w /\ (L i).length <= C i /\ ∀ b o, A i = some ⟨b, o, none⟩ -> (L i) ≠ [] -> B0 <= b
 ne : bL ≠ bI
 lt : bL < B0 /\ bI < B0
section
variable {n bL bI B0 : Nat} {L : Nat -> List Int} {is : Nat -> Bool} {A : Nat -> Option Addr} {C : Nat -> Nat} {w wa : World}
theorem LsAt.went (h : LsAt n bL bI B0 L is A C w) (hb : Below w.heap.size w wa) : LsAt n bL bI B0 L is A C wa :=
 ⟨h.fl.went hb, h.fi.went hb, fun i hi => ⟨(h.rd i hi).1.below hb (Nat.le_refl _), (h.rd i hi).2⟩, h.ne, h.lt⟩
theorem zBc {a : Option Addr} {l : List Int} {S : Nat -> Prop} (h : Sep.Reads a (ivs l) w) (f : Sep.Fr S w wa) (hS : ∀ b o, a = some ⟨b, o, none⟩ -> l ≠ [] -> ¬ S b) : Sep.Reads a (ivs l) wa := by
 rcases l with _ | ⟨x, l⟩
 ·exact Sep.Reads.nil _ _
 ·exact Sep.Reads.keep h fun b o e => by
   obtain ⟨b', o', e', hc⟩ := h 0 (by simp [ivs])
   rw [e] at e'
   simp only [Option.some.injEq, Addr.mk.injEq, and_true] at e'
   obtain ⟨rfl, rfl⟩ := e'
   exact f.block b (World.block_lt_of_cell? w _ hc) (hS b o e (by simp))
theorem LsAt.put (h : LsAt n bL bI B0 L is A C w) {j : Nat} (hj : j < n) {a : Option Addr} {c : Nat} {W : List Int} (hr : Sep.Reads a (ivs W) w) (hc : W.length <= c) (hb : ∀ b o, a = some ⟨b, o, none⟩ -> W ≠ [] -> B0 <= b) :
  LsAt n bL bI B0 (upd L j W) (upd is j true) (upd A j a) (upd C j c) ((w.setCell ⟨bL, j, none⟩ (.slice a W.length c)).setCell ⟨bI, j, none⟩ (.bool true)) := by
 have f1 : Sep.Fr (fun x => x = bL) w (w.setCell ⟨bL, j, none⟩ (.slice a W.length c)) := (Sep.Fr.refl (fun x => x = bL) w).setCell ⟨bL, j, none⟩ rfl _
 have f2 : Sep.Fr (fun x => x = bI) (w.setCell ⟨bL, j, none⟩ (.slice a W.length c)) ((w.setCell ⟨bL, j, none⟩ (.slice a W.length c)).setCell ⟨bI, j, none⟩ (.bool true)) := (Sep.Fr.refl (fun x => x = bI) _).setCell ⟨bI, j, none⟩ rfl _
 have k1 := h.fl.set hj (.slice a W.length c)
 have k2 := h.fi.kept (f1.block bI h.fi.lt (fun e => h.ne e.symm))
 refine ⟨(k1.kept (f2.block bL k1.lt h.ne)).congr fun x _ => ?_, (k2.set hj (.bool true)).congr fun x _ => ?_, fun i hi => ?_, h.ne, h.lt⟩
 ·by_cases e : x = j
  ·subst e
   rw [if_pos rfl, upd_same, upd_same, upd_same]
  ·rw [if_neg e, zAE e, zAE e, zAE e]
 ·by_cases e : x = j
  ·subst e
   rw [if_pos rfl, upd_same]
  ·rw [if_neg e, zAE e]
 ·by_cases e : i = j
  ·subst e
   rw [upd_same, upd_same, upd_same]
   refine ⟨zBc (zBc hr f1 fun b o e2 e3 e4 => ?_) f2 fun b o e2 e3 e4 => ?_, hc, hb⟩
   ·have := hb b o e2 e3
    have := h.lt.1
    omega
   ·have := hb b o e2 e3
    have := h.lt.2
    omega
  ·rw [zAE e, zAE e, zAE e]
   obtain ⟨h1, h2, h3⟩ := h.rd i hi
   refine ⟨zBc (zBc h1 f1 fun b o e2 e3 e4 => ?_) f2 fun b o e2 e3 e4 => ?_, h2, h3⟩
   ·have := h3 b o e2 e3
    have := h.lt.1
    omega
   ·have := h3 b o e2 e3
    have := h.lt.2
    omega
end
