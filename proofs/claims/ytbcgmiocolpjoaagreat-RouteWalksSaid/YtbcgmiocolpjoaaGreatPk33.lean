/- A part of the proof. -/
import Derived.Laws.CopyRow
import Derived.Test.YtbcgmiocolpjoaaGreatPk25
set_option maxHeartbeats 2000000
set_option maxRecDepth 100000
set_option linter.unusedVariables false
namespace Go.Proofs.YtbcgmiocolpjoaaGreat
open Go.RowKit Go.Maps
namespace Ro
open Im
open Au
theorem zFh {α : Type} [DecidableEq α] : ∀ {l M : List α}, l.Nodup -> (∀ x ∈ l, x ∈ M) -> l.length <= M.length
 | [], _, _, _ => Nat.zero_le _
 | x :: l, M, h, k => by
  have h' := List.nodup_cons.1 h
  have hm := k x (List.mem_cons_self ..)
  have := zFh (M := M.erase x) h'.2 fun z hz => (List.mem_erase_of_ne (fun e => h'.1 (by rw [← e]; exact hz))).2 (k z (List.mem_cons_of_mem _ hz))
  rw [List.length_erase_of_mem hm] at this
  have := List.length_pos_of_mem hm
  rw [List.length_cons]
  omega
theorem BF.few {B n : Nat} {q : Whole} {L : Nat -> List Int} {Q : List Nat} {p m : Nat} (h : BF B q n L Q p m) : Q.length <= n := by
 have := zFh (M := List.range n) h.nd fun x hx => List.mem_range.2 (h.inn x hx)
 rwa [List.length_range] at this
def Fil (b : Nat) (T : TypeId) (n : Nat) (v : Nat -> Value) (w : World) : Prop := ∃ cur, w.heap[b]? = some (.cells cur T (0, 0)) /\ cur.size = n /\ ∀ j, j < n -> cur[j]? = some (v j)
section
variable {b n : Nat} {T : TypeId} {v : Nat -> Value} {w w' : World}
theorem Fil.cell (h : Fil b T n v w) {j : Nat} (hj : j < n) : w.cell? ⟨b, j, none⟩ = some (v j) := by
 obtain ⟨cur, h1, h2, h3⟩ := h
 unfold World.cell?
 simp only [h1]
 exact h3 j hj
theorem Fil.free (h : Fil b T n v w) (j : Nat) : w.frozen? ⟨b, j, none⟩ = false := by
 obtain ⟨cur, h1, h2, h3⟩ := h
 simp [World.frozen?, h1]
theorem Fil.lt (h : Fil b T n v w) : b < w.heap.size := by
 obtain ⟨cur, h1, h2, h3⟩ := h
 exact (Array.getElem?_eq_some_iff.1 h1).1
theorem Fil.kept (h : Fil b T n v w) (he : w'.heap[b]? = w.heap[b]?) : Fil b T n v w' := by
 obtain ⟨cur, h1, h2, h3⟩ := h
 exact ⟨cur, he.trans h1, h2, h3⟩
theorem Fil.went (h : Fil b T n v w) (hb : Below w.heap.size w w') : Fil b T n v w' := h.kept (hb.block b h.lt)
theorem Fil.congr {v' : Nat -> Value} (h : Fil b T n v w) (hv : ∀ j, j < n -> v j = v' j) : Fil b T n v' w := by
 obtain ⟨cur, h1, h2, h3⟩ := h
 exact ⟨cur, h1, h2, fun j hj => by rw [h3 j hj, hv j hj]⟩
theorem Fil.set (h : Fil b T n v w) {j : Nat} (hj : j < n) (u : Value) : Fil b T n (fun x => if x = j then u else v x) (w.setCell ⟨b, j, none⟩ u) := by
 obtain ⟨cur, h1, h2, h3⟩ := h
 refine ⟨cur.setIfInBounds j u, ?_, by simp [h2], fun x hx => ?_⟩
 ·rw [setCell_eq_setRow w b j cur T (0, 0) u h1]
  exact setRow_heap w b cur _ T (0, 0) h1
 ·by_cases e : x = j
  ·subst e
   rw [Array.getElem?_setIfInBounds_self_of_lt (by omega)]
   simp
  ·rw [Array.getElem?_setIfInBounds_ne (fun e2 => e e2.symm), h3 x hx]
   simp [e]
end
def stV (E : Nat -> Nat × Int) : Nat -> Value := fun x => if x % 2 = 0 then .int .i64 ((E (x / 2)).1 : Int) else .int .i64 (E (x / 2)).2
theorem zEO (E : Nat -> Nat × Int) (j : Nat) : stV E (j * 2) = .int .i64 ((E j).1 : Int) /\ stV E (j * 2 + 1) = .int .i64 (E j).2 := by
 unfold stV
 rw [if_pos (by omega), if_neg (by omega), show j * 2 / 2 = j by omega, show (j * 2 + 1) / 2 = j by omega]
 exact ⟨rfl, rfl⟩
theorem zNs (E : Nat -> Nat × Int) (j i : Nat) (s : Int) (x : Nat) : (if x = j * 2 + 1 then (.int .i64 s : Value) else if x = j * 2 then .int .i64 (i : Int) else stV E x) = stV (upd E j (i, s)) x := by
 unfold stV
 by_cases e1 : x = j * 2 + 1
 ·subst e1
  rw [if_pos rfl, if_neg (by omega), show (j * 2 + 1) / 2 = j by omega, upd_same]
 ·by_cases e2 : x = j * 2
  ·subst e2
   rw [if_neg e1, if_pos rfl, if_pos (by omega), show j * 2 / 2 = j by omega, upd_same]
  ·rw [if_neg e1, if_neg e2, zAE (by omega)]
def nv (l : List Nat) : List Value := l.map fun k : Nat => (.int .i64 (k : Int) : Value)
theorem zBW (l : List Nat) : (nv l).length = l.length := List.length_map ..
theorem zOb (l : List Nat) : ∀ u ∈ nv l, u.oneCell' = true := fun u hu => by
 obtain ⟨x, _, rfl⟩ := List.mem_map.1 hu
 rfl
theorem zNi {w : World} {base m c : Nat} {T : TypeId} {a : Option Addr} {x : Nat} {l : List Nat} (h : w.ownsRow base T 1 (.slice a (m + 1) c) (m + 1) (nv (x :: l))) :
  ∃ g cur, a = some ⟨g, 0, none⟩ /\ base <= g /\ g < w.heap.size /\ m + 1 <= c /\ w.heap[g]? = some (.cells cur T (0, 0)) /\ w.cell? ⟨g, 0, none⟩ = some (.int .i64 (x : Int)) /\ (∀ j v, (nv l)[j]? = some v -> w.cell? ⟨g, 1 + j, none⟩ = some v) /\ m = l.length /\
   (w.setRow g (cur.toList.take 0 ++ nv l ++ cur.toList.drop (0 + (nv l).length)).toArray).ownsRow base T 1 (.slice a m c) m (nv l) /\ 0 + (nv l).length <= cur.size := by
 obtain ⟨hl, h2⟩ := h
 rw [zBW, List.length_cons, Nat.mul_one] at hl
 have hm : m = l.length := by omega
 rcases h2 with ⟨e, e2⟩ | ⟨g, cap, cur, e, hb, hg, hn, hc, hs, ht⟩
 ·omega
 ·simp only [Value.slice.injEq] at e
  obtain ⟨rfl, _, rfl⟩ := e
  have hlt := (Array.getElem?_eq_some_iff.1 hg).1
  have hcell : ∀ j v, (nv (x :: l))[j]? = some v -> w.cell? ⟨g, j, none⟩ = some v := fun j v hj => by
   rw [← ht, List.getElem?_take] at hj
   split at hj
   ·simp only [World.cell?, hg]
    simpa using hj
   ·cases hj
  refine ⟨g, cur, rfl, hb, hlt, hn, hg, hcell 0 _ rfl, fun j v hj => ?_, hm, ⟨by rw [zBW]; omega, .inr ⟨g, c, _, rfl, hb, setRow_heap w g cur _ T (0, 0) hg, by omega, hc, ?_, ?_⟩⟩, by rw [zBW]; omega⟩
  ·rw [Nat.add_comm]
   exact hcell (j + 1) v hj
  ·have : cur.toList.length = cur.size := Array.length_toList
   simp [zBW]
   omega
  ·have hk : (nv l).length = m * 1 := by rw [zBW]; omega
   simp only [List.take_zero, List.nil_append, Nat.zero_add]
   rw [← hk]
   simp
theorem zFp {w : World} {g m : Nat} {cur : Array Value} (hm : m <= g) (hw : m <= w.heap.size) : Below m w (w.setRow g cur) := by
 refine ⟨rfl, rfl, rfl, by simp [World.setRow], fun k hk => ?_⟩
 exact setRow_other w g k cur (by omega)
end Ro
namespace Au
open Gr (Gram Sh gv GAt top zBf boxed)
open Im
open Rw (zAF)
theorem zD5 : (Tryz.prog.info? 55).map (fun i => (i.zero, i.size, i.bytes)) = some (some (.agg #[.int .i64 0, .int .i64 0]), 2, 16) := by kernel_rfl
theorem zFt {j : Nat} (h : j < 9223372036854775808) : (Lit.int .i64 (j : Int)).wf = true := by
 simp only [Lit.wf, IntKind.min, IntKind.max, IntKind.signed, IntKind.bits, Bool.and_eq_true, decide_eq_true_eq, if_true]
 omega
def zOt (T : TypeId) (Y : List Itm) (w : World) (e : Ending) (w' : World) : Prop := ∃ a c, e = .returned (.slice a Y.length c) /\ Y.length <= c /\ ItsV T w.heap.size Y (.slice a Y.length c) w' /\ Below w.heap.size w w'
theorem zDa {W : World} {p : Nat} {S : Nat -> Prop} {h : Sh} {G : Gram} {ks : List (List Itm)} {ts : List (List (Int × Int))} {n : Nat} (w : World) (k : BAt W p S h G ks (tgt ts) n w) (kg : GAt h G W) (ht : top G <= 1000) (i : Nat) (hi : i <= 1000000) :
  Calls Tryz.prog 69 #[.pointer (some ⟨p, 0, none⟩), .int .i64 i] w (zOt 55 (zBb ts i (top G + 1)) w) := by
 obtain ⟨a0, c0, bt, bn, us, k⟩ := k
 obtain ⟨i0, hj, hz0, hz1, hz2⟩ := info_parts zD5
 have K := zPB (fun w1 (b : Below w.heap.size w w1) => k.went b)
 have TP := zPB (fun w1 (b : Below w.heap.size w w1) => zBf h G w1 (kg.went (Gr.step k.below b)))
 have R0 := zPB (ItsV.nil 55 w.heap.size w)
 have hwi := zFt (j := i) (by omega)
 obtain ⟨x0, x1, x2, x3⟩ := k.box
 clear k kg
 unfold gv at TP
 generalize top G = m at TP ht
 go_enter Tryz.func69, Tryz.ntmps69
 go_wp2_with (go_at_call 70; refine (TP.out _ (.refl _ _)).mono ?_; rintro e w1 ⟨rfl, hb⟩; have HB := zPB hb; have R1 := zPB (R0.out.went hb); clear hb)
 clear R0 x0 x1 x2 x3
 go_loopw [5, 15] (fun v q wr => ∃ j : Nat, q = .int .i64 j /\ j <= m + 1 /\ ItsV 55 w.heap.size (zBb ts i j) v wr /\ Below w.heap.size w wr) (fun _ q _ => m + 1 - (intOf q).toNat)
 case atStart => exact ⟨0, rfl, Nat.zero_le _, R1.out, HB.out⟩
 case round =>
  obtain ⟨j, rfl, hj', hV, hW⟩ := hrel
  have hlen := zJy ts i j
  obtain ⟨av, cv, rfl, hcv⟩ := hV.shape
  have V := zPB hV
  have kr := zPB (K.out wr hW)
  have q5 := kr.out.targets
  have hsz := hW.size
  have WW := zPB hW
  clear R1 HB hV hW
  by_cases hlt : j < m + 1
  ·have hwj := zFt (j := j) (by omega)
   have HX : W64 ((i : Int), (j : Int)) := ⟨hwi, hwj⟩
   have TMj := zPB kr.out.tm
   have OS := zPB (fun t (e : tgt ts ((i : Int), (j : Int)) = some t) => zHC e)
   have ON := zPB (fun (e : tgt ts ((i : Int), (j : Int)) = none) => zEw e)
   generalize eY : zBb ts i (j + 1) = Y' at OS ON
   have EY := zPB eY
   clear eY
   generalize zBb ts i j = Y at *
   cases hx : tgt ts ((i : Int), (j : Int)) with
   | none =>
    have V2 := zPB (show ItsV 55 w.heap.size Y' (.slice av Y.length cv) wr from (ON.out hx).symm ▸ V.out)
    clear OS ON V
    go_wp2_with (at_lookup; refine zB4 _ rfl _ _ rfl kaA Tryz.underlying83 Tryz.underlying3 (zMR _) bt n (tgt ts) rfl TMj.out ((i : Int), (j : Int)) rfl HX ?_; simp only [hx, Option.getD_none, Option.isSome_none])
    go_roundw
    case rel => exact ⟨j + 1, by go_num, by omega, EY.out.symm ▸ V2.out, WW.out⟩
    case measure => simp [intOf]; omega
   | some t =>
    have hE := zPB (OS.out t hx)
    have hs1 : wr.heap.size = wr.heap.size := rfl
    have ON2 := zPB (zBy 55 w.heap.size wr.heap.size ((j : Int), t) wr rfl hsz)
    have V1 := zPB (V.out.went (boxed wr (.cells #[.int .i64 (j : Int), .int .i64 t] 55)))
    have W1 := zPB (Gr.step WW.out (boxed wr (.cells #[.int .i64 (j : Int), .int .i64 t] 55)))
    have hsz1 := W1.out.size
    clear OS ON V
    go_wp2_with (first
     | (at_lookup; refine zB4 _ rfl _ _ rfl kaA Tryz.underlying83 Tryz.underlying3 (zMR _) bt n (tgt ts) rfl TMj.out ((i : Int), (j : Int)) rfl HX ?_; simp only [hx, Option.getD_some, Option.isSome_some])
     | (at_builtin; refine zAF _ rfl _ _ 51 rfl w.heap.size 55 i0 (.agg #[.int .i64 0, .int .i64 0]) 2 16 Tryz.underlying51 hj hz0 hz1 hz2 rfl (by decide) _ _ _ rfl V1.out w.heap.size _ 1 (ic ((j : Int), t)) rfl ON2.out (zGo _) (by unfold maxLen; omega) (by omega) hsz1 ?_; intro v' w' hown hg _; have V2 := zPB (ItsV.of_append (Y := [((j : Int), t)]) (by simpa using hown) rfl rfl); have W2 := zPB (W1.out.trans (zBl hg hsz1 (zNB V1.out))); clear hown hg))
    go_roundw
    case rel => exact ⟨j + 1, by go_num, by omega, (EY.out.trans hE.out).symm ▸ V2.out, W2.out⟩
    case measure => simp [intOf]; omega
  ·have hE : j = m + 1 := by omega
   subst hE
   go_wp2
   go_ret
   exact ⟨av, cv, rfl, hcv, V.out, WW.out⟩
end Au
namespace Au
open Gr (cell_later zAL ivs)
open Im
theorem zKA (X : List Sta) (a : Option Addr) (c : Nat) (i s : Int) (w : World) (hX : StaA a X w) (sm : Small X) :
  Calls Tryz.prog 36 #[.slice a X.length c, .int .i64 i, .int .i64 s] w (Gr.Is (.int .i64 (zCy X i s)) w) := by
 have hxl := sm.len
 by_cases h0 : 0 <= i
 ·by_cases h1 : i < (X.length : Int)
  ·obtain ⟨k, rfl⟩ := Int.eq_ofNat_of_zero_le h0
   have hk : k < X.length := by omega
   rw [zEg hk]
   obtain ⟨b, o, a1, c1, a2, c2, rfl, z1, z2, i1, i2, l1, l2⟩ := hX k hk
   have TR := zPB (fun w1 (b : Below w.heap.size w w1) => i2.went b)
   have hsm := sm.trans _ (List.getElem_mem hk)
   have Z2 := zPB (fun w1 (b : Below w.heap.size w w1) => cell_later b z2)
   clear hX sm z1 i1 i2 l1
   generalize X[k].2 = tr at *
   generalize X.length = n at *
   go_enter Tryz.func36, Tryz.ntmps36
   go_wp2
   go_loopw [7] (fun q wr => ∃ j : Nat, q = .int .i64 j /\ j <= tr.length /\ zHb tr s j /\ Below w.heap.size w wr) (fun q _ => tr.length - (intOf q).toNat)
   case atStart => exact ⟨0, rfl, Nat.zero_le _, zIA _ _, .refl _ _⟩
   case round =>
    obtain ⟨j, rfl, hj, hN, hW⟩ := hrel
    have N := zPB hN
    have HW := zPB hW
    have q2 := Z2.out wr hW
    clear hN
    by_cases hlt : j < tr.length
    ·obtain ⟨b2, o2, rfl, p0, p1⟩ := (TR.out wr hW).at j hlt
     have NS := zPB (fun e => zH9 N.out hlt e)
     have NH := zPB (fun e => zFY N.out hlt e)
     have e1 : ((tr[j].1, tr[j].2) : Itm) = tr[j] := rfl
     generalize tr[j] = x at *
     obtain ⟨x0, x1⟩ := x
     dsimp only at p0 p1
     clear e1 hW
     by_cases he : x0 = s
     ·have E := zPB (NH.out he)
      subst he
      clear NS NH
      go_wp2
      go_ret
      exact ⟨zAL E.out, HW.out⟩
     ·have E := zPB (NS.out he)
      clear NS NH
      go_wp2
      go_roundw
      case rel => exact ⟨j + 1, by go_num, by omega, E.out, HW.out⟩
      case measure => simp [intOf]; omega
    ·have E := zPB (zJZ N.out hlt)
     clear hW
     go_wp2
     go_ret
     exact ⟨zAL E.out, HW.out⟩
  ·rw [zCH (decide_eq_false fun q => h1 q.2)]
   clear hX sm
   generalize X.length = n at *
   go_enter Tryz.func36, Tryz.ntmps36
   go_wp2
   go_ret
   exact ⟨rfl, .refl _ _⟩
 ·rw [zCH (decide_eq_false fun q => h0 q.1)]
  have h2 : i < 0 := by omega
  clear hX sm
  generalize X.length = n at *
  go_enter Tryz.func36, Tryz.ntmps36
  go_wp2
  go_ret
  exact ⟨rfl, .refl _ _⟩
theorem zKM (X : List Sta) (a : Option Addr) (c : Nat) (i : Int) (L : List Int) (al : Option Addr) (cl : Nat) (w : World) (hX : StaA a X w) (sm : Small X) (hL : Sep.Reads al (ivs L) w) (hl : L.length <= 1000000) :
  Calls Tryz.prog 20 #[.slice a X.length c, .int .i64 i, .slice al L.length cl] w (Gr.Is (.int .i64 (zBM X i L)) w) := by
 have hxl := sm.len
 have GO := zPB (fun i s w1 (b : Below w.heap.size w w1) => zKA X a c i s w1 (hX.went b) sm)
 have RL := zPB (fun w1 (b : Below w.heap.size w w1) => hL.below b (Nat.le_refl _))
 clear hX sm hL
 by_cases h0 : 0 <= i
 ·by_cases h1 : i < (X.length : Int)
  ·have HI := zPB (show inB X i = true from zGA.2 ⟨h0, h1⟩)
   have BI := zPB (fun v => zGA (X := X) (i := v))
   have OUT := zPB (fun v (h : inB X v = false) way => zBN (X := X) h way)
   have NIL := zPB (fun v (h : inB X v = true) => zCZ (X := X) h)
   have DR := zPB (fun j (h : j < L.length) v => zIW (X := X) h v)
   obtain ⟨r, hr⟩ : ∃ r, zBM X i L = r := ⟨_, rfl⟩
   rw [hr]
   have HR := zPB hr
   clear hr
   generalize hn : X.length = n at *
   go_enter Tryz.func20, Tryz.ntmps20
   go_wp2
   go_loopw [1, 7] (fun v q wr => ∃ (j : Nat) (z : Int), q = .int .i64 j /\ j <= L.length /\ v = .int .i64 z /\ inB X z = true /\ zBM X z (L.drop j) = r /\ Below w.heap.size w wr) (fun _ q _ => L.length - (intOf q).toNat)
   case atStart => exact ⟨0, i, rfl, Nat.zero_le _, rfl, HI.out, HR.out, .refl _ _⟩
   case round =>
    obtain ⟨j, z, rfl, hj, rfl, hz, hE, hW⟩ := hrel
    have HW := zPB hW
    have ZE := zPB hE
    have ZI := zPB hz
    clear hE hz
    by_cases hlt : j < L.length
    ·obtain ⟨b1, o1, ea, p1⟩ := RL.out wr hW j (by simpa [ivs] using hlt)
     simp only [ivs, List.getElem_map, Gr.iv] at p1
     have EX := zPB (show zBM X (zCy X z L[j]) (L.drop (j + 1)) = r from by rw [← DR.out j hlt z]; exact ZE.out)
     subst ea
     generalize L[j] = s at *
     have GX := zPB (GO.out z s wr hW)
     generalize zCy X z s = z' at GX EX
     clear hW
     by_cases g0 : z' < 0
     ·have O := zPB (OUT.out z' (decide_eq_false fun q => by omega) (L.drop (j + 1)))
      go_wp2_with (go_at_call 36; refine GX.out.mono ?_; rintro e w2 ⟨rfl, hb⟩; have HB2 := zPB (Gr.step HW.out hb); clear hb)
      go_ret
      exact ⟨zAL (by rw [← EX.out, O.out]), HB2.out⟩
     ·by_cases g1 : (n : Int) <= z'
      ·have O := zPB (OUT.out z' (decide_eq_false fun q => by omega) (L.drop (j + 1)))
       clear hn
       go_wp2_with (go_at_call 36; refine GX.out.mono ?_; rintro e w2 ⟨rfl, hb⟩; have HB2 := zPB (Gr.step HW.out hb); clear hb)
       go_ret
       exact ⟨zAL (by rw [← EX.out, O.out]), HB2.out⟩
      ·have I2 := zPB ((BI.out z').2 ⟨by omega, by omega⟩)
       clear hn
       go_wp2_with (go_at_call 36; refine GX.out.mono ?_; rintro e w2 ⟨rfl, hb⟩; have HB2 := zPB (Gr.step HW.out hb); clear hb)
       go_roundw
       case rel => exact ⟨j + 1, z', by go_num, by omega, rfl, I2.out, EX.out, HB2.out⟩
       case measure => simp [intOf]; omega
    ·have hE : j = L.length := by omega
     have E := zPB (show z = r from by rw [← ZE.out, hE, List.drop_length, NIL.out z ZI.out])
     clear hW
     go_wp2
     go_ret
     exact ⟨zAL E.out.symm, HW.out⟩
  ·rw [zBN (decide_eq_false fun q => h1 q.2)]
   generalize X.length = n at *
   go_enter Tryz.func20, Tryz.ntmps20
   go_wp2
   go_ret
   exact ⟨rfl, .refl _ _⟩
 ·rw [zBN (decide_eq_false fun q => h0 q.1)]
  have h2 : i < 0 := by omega
  generalize X.length = n at *
  go_enter Tryz.func20, Tryz.ntmps20
  go_wp2
  go_ret
  exact ⟨rfl, .refl _ _⟩
