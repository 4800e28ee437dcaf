/- A part of the proof. -/
import Derived.Laws.CopyRow
import Derived.Test.YtnfbjlainpenaaaGreatPk42
set_option maxHeartbeats 2000000
set_option maxRecDepth 100000
set_option linter.unusedVariables false
namespace Go.Proofs.YtnfbjlainpenaaaGreat
open Go.RowKit Go.Maps
namespace Ro
open Im
open Au
theorem zEp {α : Type} [DecidableEq α] : ∀ {l M : List α}, l.Nodup -> (∀ x ∈ l, x ∈ M) -> l.length <= M.length
 | [], _, _, _ => Nat.zero_le _
 | x :: l, M, h, k => by
  have h' := List.nodup_cons.1 h
  have hm := k x (List.mem_cons_self ..)
  have := zEp (M := M.erase x) h'.2 fun z hz => (List.mem_erase_of_ne (fun e => h'.1 (by rw [← e]; exact hz))).2 (k z (List.mem_cons_of_mem _ hz))
  rw [List.length_erase_of_mem hm] at this
  have := List.length_pos_of_mem hm
  rw [List.length_cons]
  omega
theorem BF.few {B n : Nat} {q : Whole} {L : Nat -> List Int} {Q : List Nat} {p m : Nat} (h : BF B q n L Q p m) : Q.length <= n := by
 have := zEp (M := List.range n) h.nd fun x hx => List.mem_range.2 (h.inn x hx)
 rwa [List.length_range] at this
def Fil (b : Nat) (T : TypeId) (n : Nat) (v : Nat -> Value) (w : World) : Prop := ∃ cur, w.heap[b]? = some (.cells cur T (0, 0)) /\ cur.size = n /\ ∀ j, j < n -> cur[j]? = some (v j)
section
variable {b n : Nat} {T : TypeId} {v : Nat -> Value} {w w' : World}
theorem Fil.cell (h : Fil b T n v w) {j : Nat} (hj : j < n) : w.cell? ⟨b, j, none⟩ = some (v j) := by
 obtain ⟨cur, h1, h2, h3⟩ := h
 unfold World.cell?
 simp only [h1]
 exact h3 j hj
theorem Fil.free (h : Fil b T n v w) (j : Nat) : w.frozen? ⟨b, j, none⟩ = false := by
 obtain ⟨cur, h1, h2, h3⟩ := h
 simp [World.frozen?, h1]
theorem Fil.lt (h : Fil b T n v w) : b < w.heap.size := by
 obtain ⟨cur, h1, h2, h3⟩ := h
 exact (Array.getElem?_eq_some_iff.1 h1).1
theorem Fil.kept (h : Fil b T n v w) (he : w'.heap[b]? = w.heap[b]?) : Fil b T n v w' := by
 obtain ⟨cur, h1, h2, h3⟩ := h
 exact ⟨cur, he.trans h1, h2, h3⟩
theorem Fil.went (h : Fil b T n v w) (hb : Below w.heap.size w w') : Fil b T n v w' := h.kept (hb.block b h.lt)
theorem Fil.congr {v' : Nat -> Value} (h : Fil b T n v w) (hv : ∀ j, j < n -> v j = v' j) : Fil b T n v' w := by
 obtain ⟨cur, h1, h2, h3⟩ := h
 exact ⟨cur, h1, h2, fun j hj => by rw [h3 j hj, hv j hj]⟩
theorem Fil.set (h : Fil b T n v w) {j : Nat} (hj : j < n) (u : Value) : Fil b T n (fun x => if x = j then u else v x) (w.setCell ⟨b, j, none⟩ u) := by
 obtain ⟨cur, h1, h2, h3⟩ := h
 refine ⟨cur.setIfInBounds j u, ?_, by simp [h2], fun x hx => ?_⟩
 ·rw [setCell_eq_setRow w b j cur T (0, 0) u h1]
  exact setRow_heap w b cur _ T (0, 0) h1
 ·by_cases e : x = j
  ·subst e
   rw [Array.getElem?_setIfInBounds_self_of_lt (by omega)]
   simp
  ·rw [Array.getElem?_setIfInBounds_ne (fun e2 => e e2.symm), h3 x hx]
   simp [e]
end
def stV (E : Nat -> Nat × Int) : Nat -> Value := fun x => if x % 2 = 0 then .int .i64 ((E (x / 2)).1 : Int) else .int .i64 (E (x / 2)).2
theorem zDi (E : Nat -> Nat × Int) (j : Nat) : stV E (j * 2) = .int .i64 ((E j).1 : Int) /\ stV E (j * 2 + 1) = .int .i64 (E j).2 := by
 unfold stV
 rw [if_pos (by omega), if_neg (by omega), show j * 2 / 2 = j by omega, show (j * 2 + 1) / 2 = j by omega]
 exact ⟨rfl, rfl⟩
theorem zMN (E : Nat -> Nat × Int) (j i : Nat) (s : Int) (x : Nat) : (if x = j * 2 + 1 then (.int .i64 s : Value) else if x = j * 2 then .int .i64 (i : Int) else stV E x) = stV (upd E j (i, s)) x := by
 unfold stV
 by_cases e1 : x = j * 2 + 1
 ·subst e1
  rw [if_pos rfl, if_neg (by omega), show (j * 2 + 1) / 2 = j by omega, upd_same]
 ·by_cases e2 : x = j * 2
  ·subst e2
   rw [if_neg e1, if_pos rfl, if_pos (by omega), show j * 2 / 2 = j by omega, upd_same]
  ·rw [if_neg e1, if_neg e2, zAM (by omega)]
def nv (l : List Nat) : List Value := l.map fun k : Nat => (.int .i64 (k : Int) : Value)
theorem zBG (l : List Nat) : (nv l).length = l.length := List.length_map ..
theorem zMx (l : List Nat) : ∀ u ∈ nv l, u.oneCell' = true := fun u hu => by
 obtain ⟨x, _, rfl⟩ := List.mem_map.1 hu
 rfl
theorem zMG {w : World} {base m c : Nat} {T : TypeId} {a : Option Addr} {x : Nat} {l : List Nat} (h : w.ownsRow base T 1 (.slice a (m + 1) c) (m + 1) (nv (x :: l))) :
  ∃ g cur, a = some ⟨g, 0, none⟩ /\ base <= g /\ g < w.heap.size /\ m + 1 <= c /\ w.heap[g]? = some (.cells cur T (0, 0)) /\ w.cell? ⟨g, 0, none⟩ = some (.int .i64 (x : Int)) /\ (∀ j v, (nv l)[j]? = some v -> w.cell? ⟨g, 1 + j, none⟩ = some v) /\ m = l.length /\
   (w.setRow g (cur.toList.take 0 ++ nv l ++ cur.toList.drop (0 + (nv l).length)).toArray).ownsRow base T 1 (.slice a m c) m (nv l) /\ 0 + (nv l).length <= cur.size := by
 obtain ⟨hl, h2⟩ := h
 rw [zBG, List.length_cons, Nat.mul_one] at hl
 have hm : m = l.length := by omega
 rcases h2 with ⟨e, e2⟩ | ⟨g, cap, cur, e, hb, hg, hn, hc, hs, ht⟩
 ·omega
 ·simp only [Value.slice.injEq] at e
  obtain ⟨rfl, _, rfl⟩ := e
  have hlt := (Array.getElem?_eq_some_iff.1 hg).1
  have hcell : ∀ j v, (nv (x :: l))[j]? = some v -> w.cell? ⟨g, j, none⟩ = some v := fun j v hj => by
   rw [← ht, List.getElem?_take] at hj
   split at hj
   ·simp only [World.cell?, hg]
    simpa using hj
   ·cases hj
  refine ⟨g, cur, rfl, hb, hlt, hn, hg, hcell 0 _ rfl, fun j v hj => ?_, hm, ⟨by rw [zBG]; omega, .inr ⟨g, c, _, rfl, hb, setRow_heap w g cur _ T (0, 0) hg, by omega, hc, ?_, ?_⟩⟩, by rw [zBG]; omega⟩
  ·rw [Nat.add_comm]
   exact hcell (j + 1) v hj
  ·have : cur.toList.length = cur.size := Array.length_toList
   simp [zBG]
   omega
  ·have hk : (nv l).length = m * 1 := by rw [zBG]; omega
   simp only [List.take_zero, List.nil_append, Nat.zero_add]
   rw [← hk]
   simp
theorem zE0 {w : World} {g m : Nat} {cur : Array Value} (hm : m <= g) (hw : m <= w.heap.size) : Below m w (w.setRow g cur) := by
 refine ⟨rfl, rfl, rfl, by simp [World.setRow], fun k hk => ?_⟩
 exact setRow_other w g k cur (by omega)
end Ro
namespace Au
open Gr (Gram Sh gv GAt top zBS boxed)
open Im
open Rw (zAD)
theorem zDT : (Tryz.prog.info? 55).map (fun i => (i.zero, i.size, i.bytes)) = some (some (.agg #[.int .i64 0, .int .i64 0]), 2, 16) := by kernel_rfl
theorem zE4 {j : Nat} (h : j < 9223372036854775808) : (Lit.int .i64 (j : Int)).wf = true := by
 simp only [Lit.wf, IntKind.min, IntKind.max, IntKind.signed, IntKind.bits, Bool.and_eq_true, decide_eq_true_eq, if_true]
 omega
def zNB (T : TypeId) (Y : List Itm) (w : World) (e : Ending) (w' : World) : Prop := ∃ a c, e = .returned (.slice a Y.length c) /\ Y.length <= c /\ ItsV T w.heap.size Y (.slice a Y.length c) w' /\ Below w.heap.size w w'
theorem zC2 {W : World} {p : Nat} {S : Nat -> Prop} {h : Sh} {G : Gram} {ks : List (List Itm)} {ts : List (List (Int × Int))} {n : Nat} (w : World) (k : BAt W p S h G ks (tgt ts) n w) (kg : GAt h G W) (ht : top G <= 1000) (i : Nat) (hi : i <= 1000000) :
  Calls Tryz.prog 69 #[.pointer (some ⟨p, 0, none⟩), .int .i64 i] w (zNB 55 (zBO ts i (top G + 1)) w) := by
 obtain ⟨a0, c0, bt, bn, us, k⟩ := k
 obtain ⟨i0, hj, hz0, hz1, hz2⟩ := info_parts zDT
 have K := zNR (fun w1 (b : Below w.heap.size w w1) => k.went b)
 have TP := zNR (fun w1 (b : Below w.heap.size w w1) => zBS h G w1 (kg.went (Gr.step k.below b)))
 have R0 := zNR (ItsV.nil 55 w.heap.size w)
 have hwi := zE4 (j := i) (by omega)
 obtain ⟨x0, x1, x2, x3⟩ := k.box
 clear k kg
 unfold gv at TP
 generalize top G = m at TP ht
 go_enter Tryz.func69, Tryz.ntmps69
 go_wp2_with (go_at_call 70; refine (TP.out _ (.refl _ _)).mono ?_; rintro e w1 ⟨rfl, hb⟩; have HB := zNR hb; have R1 := zNR (R0.out.went hb); clear hb)
 clear R0 x0 x1 x2 x3
 go_loopw [5, 15] (fun v q wr => ∃ j : Nat, q = .int .i64 j /\ j <= m + 1 /\ ItsV 55 w.heap.size (zBO ts i j) v wr /\ Below w.heap.size w wr) (fun _ q _ => m + 1 - (intOf q).toNat)
 case atStart => exact ⟨0, rfl, Nat.zero_le _, R1.out, HB.out⟩
 case round =>
  obtain ⟨j, rfl, hj', hV, hW⟩ := hrel
  have hlen := zIu ts i j
  obtain ⟨av, cv, rfl, hcv⟩ := hV.shape
  have V := zNR hV
  have kr := zNR (K.out wr hW)
  have q5 := kr.out.targets
  have hsz := hW.size
  have WW := zNR hW
  clear R1 HB hV hW
  by_cases hlt : j < m + 1
  ·have hwj := zE4 (j := j) (by omega)
   have HX : W64 ((i : Int), (j : Int)) := ⟨hwi, hwj⟩
   have TMj := zNR kr.out.tm
   have OS := zNR (fun t (e : tgt ts ((i : Int), (j : Int)) = some t) => zGK e)
   have ON := zNR (fun (e : tgt ts ((i : Int), (j : Int)) = none) => zEC e)
   generalize eY : zBO ts i (j + 1) = Y' at OS ON
   have EY := zNR eY
   clear eY
   generalize zBO ts i j = Y at *
   cases hx : tgt ts ((i : Int), (j : Int)) with
   | none =>
    have V2 := zNR (show ItsV 55 w.heap.size Y' (.slice av Y.length cv) wr from (ON.out hx).symm ▸ V.out)
    clear OS ON V
    go_wp2_with (at_lookup; refine zBo _ rfl _ _ rfl kaA Tryz.underlying83 Tryz.underlying3 (zK5 _) bt n (tgt ts) rfl TMj.out ((i : Int), (j : Int)) rfl HX ?_; simp only [hx, Option.getD_none, Option.isSome_none])
    go_roundw
    case rel => exact ⟨j + 1, by go_num, by omega, EY.out.symm ▸ V2.out, WW.out⟩
    case measure => simp [intOf]; omega
   | some t =>
    have hE := zNR (OS.out t hx)
    have hs1 : wr.heap.size = wr.heap.size := rfl
    have ON2 := zNR (zBi 55 w.heap.size wr.heap.size ((j : Int), t) wr rfl hsz)
    have V1 := zNR (V.out.went (boxed wr (.cells #[.int .i64 (j : Int), .int .i64 t] 55)))
    have W1 := zNR (Gr.step WW.out (boxed wr (.cells #[.int .i64 (j : Int), .int .i64 t] 55)))
    have hsz1 := W1.out.size
    clear OS ON V
    go_wp2_with (first
     | (at_lookup; refine zBo _ rfl _ _ rfl kaA Tryz.underlying83 Tryz.underlying3 (zK5 _) bt n (tgt ts) rfl TMj.out ((i : Int), (j : Int)) rfl HX ?_; simp only [hx, Option.getD_some, Option.isSome_some])
     | (at_builtin; refine zAD _ rfl _ _ 51 rfl w.heap.size 55 i0 (.agg #[.int .i64 0, .int .i64 0]) 2 16 Tryz.underlying51 hj hz0 hz1 hz2 rfl (by decide) _ _ _ rfl V1.out w.heap.size _ 1 (ic ((j : Int), t)) rfl ON2.out (zFw _) (by unfold maxLen; omega) (by omega) hsz1 ?_; intro v' w' hown hg _; have V2 := zNR (ItsV.of_append (Y := [((j : Int), t)]) (by simpa using hown) rfl rfl); have W2 := zNR (W1.out.trans (zBZ hg hsz1 (zLl V1.out))); clear hown hg))
    go_roundw
    case rel => exact ⟨j + 1, by go_num, by omega, (EY.out.trans hE.out).symm ▸ V2.out, W2.out⟩
    case measure => simp [intOf]; omega
  ·have hE : j = m + 1 := by omega
   subst hE
   go_wp2
   go_ret
   exact ⟨av, cv, rfl, hcv, V.out, WW.out⟩
end Au
namespace Au
open Gr (Gram Sh GAt top boxed cell_later)
open Im
open Rw (zAD)
theorem zDS : (Tryz.prog.info? 53).map (fun i => (i.zero, i.size, i.bytes)) = some (some (.agg #[.slice none 0 0, .slice none 0 0]), 2, 48) := by kernel_rfl
def zCI (G : Gram) (ks : List (List Itm)) (ts : List (List (Int × Int))) (i : Nat) : List Sta := (List.range i).map fun j => (zAE ks j, zBO ts (j : Int) (top G + 1))
theorem zGi (G : Gram) (ks : List (List Itm)) (ts : List (List (Int × Int))) (i : Nat) : zCI G ks ts (i + 1) = zCI G ks ts i ++ [(zAE ks i, zBO ts (i : Int) (top G + 1))] := by
 unfold zCI
 rw [List.range_succ, List.map_append]
 rfl
theorem zBx (G : Gram) (ks : List (List Itm)) (ts : List (List (Int × Int))) (i : Nat) : (zCI G ks ts i).length = i := by simp [zCI]
theorem zHf {G : Gram} {q : Whole} (h : Done G q) : zCI G q.1 q.2 q.1.length = states q := by
 refine List.ext_getElem (by rw [zBx, zAp h.all]) fun i h1 h2 => ?_
 rw [zBx] at h1
 have hi : i < q.2.length := by rw [h.all]; exact h1
 have e := zBI h.all h1
 rw [List.getElem?_eq_getElem h2, Option.some.injEq] at e
 rw [e]
 simp only [zCI, List.getElem_map, List.getElem_range]
 rw [zIt h.ok hi]
def zJl (X : List Sta) (w : World) (e : Ending) (w' : World) : Prop := ∃ a c, e = .returned (.slice a X.length c) /\ StaA a X w' /\ X.length <= c /\ Below w.heap.size w w'
theorem zCz (T : TypeId) (base q : Nat) (u v : Value) (w : World) (hq : q = w.heap.size) (hb : base <= q) (hu : u.oneCell' = true) (hv : v.oneCell' = true) : (w.alloc (.cells #[u, v] T)).ownsRow base T 2 (.slice (some ⟨q, 0, none⟩) 1 1) 1 [u, v] := by
 subst hq
 exact World.ownsRow_lit w #[u, v] 1 hb (by decide) (by simp)
theorem zHQ {W : World} {p : Nat} {S : Nat -> Prop} {h : Sh} {G : Gram} {ks : List (List Itm)} {ts : List (List (Int × Int))} {n : Nat} (w : World) (k : BAt W p S h G ks (tgt ts) n w) (kg : GAt h G W) (ht : top G <= 1000) (hl : ks.length <= 1000000) :
  Calls Tryz.prog 41 #[.pointer (some ⟨p, 0, none⟩)] w (zJl (zCI G ks ts ks.length) w) := by
 have TR := zNR (fun w1 (b : Below w.heap.size w w1) i (hi : i <= 1000000) => zC2 w1 (k.went b) kg ht i hi)
 obtain ⟨a0, c0, bt, bn, us, k⟩ := k
 obtain ⟨i0, hj, hz0, hz1, hz2⟩ := info_parts zDS
 have K := zNR k
 have S0 := zNR (StV.nil 53 w.heap.size w)
 have q4 := k.items
 clear k kg
 go_enter Tryz.func41, Tryz.ntmps41
 go_wp2
 go_loopw [3, 11] (fun v q wr => ∃ (j : Nat) (L : List StC), q = .int .i64 j /\ j <= ks.length /\ L.map Prod.fst = zCI G ks ts j /\ StV 53 w.heap.size L v wr /\ Below w.heap.size w wr) (fun _ q _ => ks.length - (intOf q).toNat)
 case atStart => exact ⟨0, [], rfl, Nat.zero_le _, rfl, S0.out, .refl _ _⟩
 case round =>
  obtain ⟨j, L, rfl, hjl, hM, hV, hW⟩ := hrel
  have hlen : L.length = j := by
   have := congrArg List.length hM
   rwa [List.length_map, zBx] at this
  subst hlen
  obtain ⟨av, cv, rfl, hcv⟩ := hV.len
  have V := zNR hV
  have WW := zNR hW
  have MM := zNR hM
  clear S0 hV hM
  by_cases hlt : L.length < ks.length
  ·obtain ⟨b, a1, c1, rfl, hc1, l1, i1, _⟩ := K.out.at hlt
   have hc2 := cell_later hW hc1
   have U1 := zNR (show LOk ks[L.length] (.slice a1 ks[L.length].length c1) (.slice av L.length cv) w from ⟨a1, c1, rfl, l1, i1, fun hne b o e g => by
    have h1 := zB2 i1 hne e
    have h2 := (World.ownsRow.lt V.out.row b g).1
    omega⟩)
   have hst := zAV hlt
   have EX := zNR (show zCI G ks ts (L.length + 1) = zCI G ks ts L.length ++ [(ks[L.length], zBO ts (L.length : Int) (top G + 1))] from by rw [zGi, hst])
   have TJ := zNR (TR.out wr hW L.length (by omega))
   have hL1 : L.length <= 1000000 := by omega
   generalize ks[L.length] = Kj at *
   generalize zBO ts (L.length : Int) (top G + 1) = Y at *
   clear i1 l1 hst hW
   go_wp2_with (first
    | (go_at_call 69; refine TJ.out.mono ?_; rintro e w2 ⟨a2, c2, rfl, l2, v2, b2⟩; have V2 := zNR (V.out.went b2); have W2 := zNR (Gr.step WW.out b2); have U2 := zNR ((U1.out.went WW.out).went b2); have Y2 := zNR (show LOk Y (.slice a2 Y.length c2) (.slice av L.length cv) w2 from ⟨a2, c2, rfl, l2, v2.reads, fun hne b o e g => by
      have h1 := (World.ownsRow.lt V.out.row b g).2
      have h2 := (World.ownsRow.lt v2 b (by rw [e]; rfl)).1
      omega⟩); have hs2 := W2.out.size; have ONE := zNR (zCz 53 w.heap.size w2.heap.size (.slice a1 Kj.length c1) (.slice a2 Y.length c2) w2 rfl hs2 rfl rfl); have b3 := boxed w2 (.cells #[.slice a1 Kj.length c1, .slice a2 Y.length c2] 53); have V3 := zNR (V2.out.went b3); have W3 := zNR (Gr.step W2.out b3); have U3 := zNR (U2.out.went b3); have Y3 := zNR (Y2.out.went b3); have hs3 := W3.out.size; clear l2 v2 b2 b3)
    | (at_builtin; refine zAD _ rfl _ _ 46 rfl w.heap.size 53 i0 (.agg #[.slice none 0 0, .slice none 0 0]) 2 48 Tryz.underlying46 hj hz0 hz1 hz2 rfl (by decide) _ _ _ rfl V3.out.row w.heap.size _ 1 [.slice a1 Kj.length c1, .slice a2 Y.length c2] rfl ONE.out (by simp [Value.oneCell']) (by unfold maxLen; omega) (by omega) hs3 ?_; intro v' w4 hown hg hloc; have V4 := zNR (V3.out.snoc ((Kj, Y), (.slice a1 Kj.length c1, .slice a2 Y.length c2)) ⟨U3.out, Y3.out⟩ hown hg (hloc.imp id fun e => ⟨_, Nat.le_refl _, e⟩)); have W4 := zNR (W3.out.trans (zBZ hg hs3 fun q hq => (World.ownsRow.lt V3.out.row q hq).1)); clear hown hg hloc))
   go_roundw
   case rel => exact ⟨L.length + 1, _, by go_num, by omega, by rw [List.map_append, MM.out, EX.out]; rfl, V4.out, W4.out⟩
   case measure => simp [intOf]; omega
  ·have hE : L.length = ks.length := by omega
   have R := zNR (show StaA av (zCI G ks ts ks.length) wr from by rw [← hE, ← MM.out]; exact V.out.at)
   have hll : (zCI G ks ts ks.length).length = L.length := by rw [zBx, hE]
   clear hE
   go_wp2
   go_ret
   exact ⟨av, cv, by rw [hll]; rfl, R.out, by rw [hll]; exact hcv, WW.out⟩
