/- A part of the proof. -/
import Derived.Test.YtbcgmiocolpjoaaGreatPk23
import Derived.Shelf.SlSortCmp.QuietGrown
import Derived.Deep.DeepCutAuto
set_option maxHeartbeats 2000000
set_option maxRecDepth 100000
set_option linter.unusedVariables false
namespace Go.Proofs.YtbcgmiocolpjoaaGreat
namespace Au
open Gr (Gram checkN zAk zA7 top)
open Im
theorem zBK {G : Gram} (hv : checkN G = 0) : top G <= 240 := by
 have h := (zAk hv).1
 unfold zA7 at h
 simp only [Bool.or_eq_false_iff, decide_eq_false_iff_not] at h
 unfold top
 omega
structure Ent (G : Gram) (X : List Sta) : Prop where
 hv : checkN G = 0
 small : Small X
 len : X.length <= 2000
 right : ∀ s ∈ X, Srt s.1 /\ ∀ x ∈ s.1, zAD G x = true
 «to» : ∀ k (h : k < X.length) j (h' : j < X[k].2.length), ∃ n : Nat, X[k].2[j].2 = (n : Int) /\ ∃ hn : n < X.length, ∀ x ∈ X[n].1, zF5 G X[k].2[j].1 x
 early : ∀ t, 0 < t -> t < X.length -> ∃ k, ∃ h : k < X.length, ∃ j, ∃ h' : j < X[k].2.length, k < t /\ X[k].2[j].2 = (t : Int)
 some : ∀ t (h : t < X.length), X[t].1 ≠ []
 spells : ∀ i (hi : i < X.length) (r : Int), Gr.zAW G r = true -> (Gr.zAN G r).2.length ≠ 0 -> Clo G X[i].1 (r, 0) -> ∃ j : Nat, ∃ hj : j < X.length, zBM X (i : Int) (Gr.zAN G r).2 = (j : Int) /\ (r, ((Gr.zAN G r).2.length : Int)) ∈ X[j].1
theorem zOK {G : Gram} {X : List Sta} (h : Built G 0 X) : Ent G X := by
 generalize he : (0 : Int) = e at h
 cases h with
 | bad hb => exact absurd he.symm hb
 | many _ _ _ => cases he
 | all hv hs hf =>
  rename_i n
  have D := hs.done hf
  generalize runs G (top G) n = q at *
  have hl := zAg D.all
  have at1 : ∀ i (h : i < (states q).length), (states q)[i] = (zAI q.1 i, q.2.getD i []) := fun i h => by
   have := zBJ D.all (i := i) (by omega)
   rw [List.getElem?_eq_getElem h, Option.some.injEq] at this
   exact this
  have good : ∀ s ∈ states q, s.1 ∈ q.1 := fun s hs => by
   obtain ⟨i, hi, rfl⟩ := List.mem_iff_getElem.1 hs
   rw [at1 i hi]
   exact zBX (by omega)
  have hr : ∀ s ∈ states q, Srt s.1 /\ ∀ x ∈ s.1, zAD G x = true := fun s hs => (D.ok.good _ (good s hs)).2
  refine ⟨hv, ⟨by omega, fun s hs => ?_, fun s hs => ?_⟩, by omega, hr, fun k h j h' => ?_, fun t h0 ht => ?_, fun t ht => ?_, fun i hi r hr h0 hx => ?_⟩
  ·have := Nat.le_trans (zBt (hr s hs).1 (hr s hs).2) (zAZ hv)
   omega
  ·obtain ⟨i, hi, rfl⟩ := List.mem_iff_getElem.1 hs
   rw [at1 i hi]
   have hi2 : i < q.2.length := by rw [D.all]; omega
   rw [← zJx D.ok hi2]
   have := zJy q.2 (i : Int) (top G + 1)
   have := zBK hv
   dsimp only
   omega
  ·have hk : k < q.1.length := by omega
   have e2 : (states q)[k].2 = q.2.getD k [] := by rw [at1 k h]
   have hm : (states q)[k].2[j] ∈ q.2.getD k [] := by
    rw [← e2]
    exact List.getElem_mem h'
   obtain ⟨n, h1, h2, h3⟩ := D.enters hk (s := (states q)[k].2[j].1) (t := (states q)[k].2[j].2) hm
   refine ⟨n, h1, by omega, ?_⟩
   rw [at1 n (by omega)]
   exact h3
  ·obtain ⟨k, s, h1, h2⟩ := D.early h0 (by omega)
   have hk : k < (states q).length := by omega
   have e2 : (states q)[k].2 = q.2.getD k [] := by rw [at1 k hk]
   rw [← e2] at h2
   obtain ⟨j, hj, e⟩ := List.mem_iff_getElem.1 h2
   exact ⟨k, hk, j, hj, h1, by rw [e]⟩
  ·rw [at1 t ht]
   exact D.some (by omega)
  ·rw [at1 i hi] at hx
   obtain ⟨j, h1, h2, h3⟩ := D.spells hv (i := i) (by omega) hr h0 (((zFW _ _).2 _).2 hx)
   refine ⟨j, by omega, ?_, by rw [at1 j (by omega)]; exact h3⟩
   rw [← hl, zKl (fun i h => by rw [at1 i h])] at h2
   exact h2
end Au
namespace Im
open Go.RowKit Go.Maps
open Gr (Gram Sh gv GAt Bx checkN zBC)
theorem zGI {P : Itm -> Prop} {w w' : World} (h : ∀ x, ¬ P x) (hb : Below w.heap.size w w') : zCs P w (.returned (.slice none 0 0)) w' := ⟨[], none, 0, rfl, Is.nil h, ItsV.nil _ _ _, hb⟩
theorem zIf (h : Sh) (G : Gram) (w : World) (k : GAt h G w) :
  Calls Tryz.prog 39 #[gv h G] w (zCs (fun x => checkN G = 0 /\ x = ((G.rules.length : Int), 0)) w) := by
 have C := zPB (fun w1 (b : Below w.heap.size w w1) => zBC h G w1 (k.went b))
 have A := zPB (fun w1 (b : Below w.heap.size w w1) => zEX h G w1 (k.went b))
 clear k
 have X := zPB (Bx.start h G w 25)
 unfold gv at *
 by_cases hc : checkN G = 0
 ·rw [hc] at C
  go_enter Tryz.func39, Tryz.ntmps39
  go_wp2_with (first
   | (go_at_call 37; refine (C.out _ X.out.below).mono ?_; rintro e w1 ⟨rfl, hb⟩; have X1 := zPB (X.out.went hb); obtain ⟨g0, g1, g2, g3⟩ := X1.out.box; clear hb)
   | (go_at_call 67; refine (A.out _ X1.out.below).mono ?_; rintro e w2 ⟨rfl, hb⟩; have X2 := zPB (X1.out.went hb); clear hb))
  go_ret
  have hB := X2.out.below.size
  exact ⟨[((G.rules.length : Int), 0)], _, _, rfl, ⟨zCo _, fun x => by rw [List.mem_singleton]; exact ⟨fun e => ⟨hc, e⟩, fun e => e.2⟩⟩, zBy 108 w.heap.size w2.heap.size ((G.rules.length : Int), 0) w2 rfl hB, (X2.out.alloc _).below⟩
 ·have hcb : (checkN G == 0) = false := by simpa using hc
  go_enter Tryz.func39, Tryz.ntmps39
  go_wp2_with (go_at_call 37; refine (C.out _ X.out.below).mono ?_; rintro e w1 ⟨rfl, hb⟩; have X1 := zPB (X.out.went hb); clear hb)
  go_ret
  exact zGI (fun x k => hc k.1) X1.out.below
end Im
namespace Im
open Go.RowKit Go.Maps
open Gr (zAA)
def eqB (x y : Itm) : Bool := decide (x = y)
theorem zMz {x y : Itm} : eqB x y = true ↔ x = y := decide_eq_true_iff
theorem zM2 : Tryz.prog.underlying 108 = some (.struct (Tryz.prog.fieldsOf 108)) := by kernel_rfl
theorem zDB (a b c d : Int) (w : World) : (Op.equalIn 10000 108 (.agg #[.int .i64 a, .int .i64 b]) (.agg #[.int .i64 c, .int .i64 d])).run Tryz.prog w = .ok (eqB (a, b) (c, d)) w := by
 unfold eqB
 rw [show (10000 : Nat) = 9999 + 1 from rfl, run_equalIn_agg w 9999 108 _ _ zM2 Tryz.stoodInHeld108]
 have u3 := Tryz.underlying3
 have a3 := Tryz.isAgg3
 have z3 := Tryz.sizeOf3
 simp only [Program.fieldsOf, Tryz.underlying108]
 go_simp
 by_cases h1 : a = c <;> by_cases h2 : b = d <;> simp [h1, h2]
theorem zK8 (a b c d : Int) (w : World) : (binOp .eql 108 (.agg #[.int .i64 a, .int .i64 b]) (.agg #[.int .i64 c, .int .i64 d])).run Tryz.prog w = .ok (.bool (eqB (a, b) (c, d))) w := by
 rw [run_eql_struct, zDB]
 rfl
theorem zLg (a b c d : Int) (w : World) : (binOp .neq 108 (.agg #[.int .i64 a, .int .i64 b]) (.agg #[.int .i64 c, .int .i64 d])).run Tryz.prog w = .ok (.bool (!eqB (a, b) (c, d))) w := by
 rw [run_neq_struct, zDB]
 rfl
def zAp (X Y : List Itm) (j : Nat) : Prop := ∀ i (h : i < X.length) (k : i < Y.length), i < j -> X[i] = Y[i]
theorem zL9 {X Y : List Itm} (hl : X.length = Y.length) (h : zAp X Y X.length) : X = Y := List.ext_getElem hl fun i h1 h2 => h i h1 h2 h1
theorem zKJ (X Y : List Itm) (a b : Option Addr) (c d : Nat) (w : World) (hX : ItsA a X w) (hY : ItsA b Y w) (hl : X.length <= 1000000) :
  Calls Tryz.prog 59 #[.slice a X.length c, .slice b Y.length d] w (Gr.Is (.bool (decide (X = Y))) w) := by
 by_cases hn : X.length = Y.length
 ·have KX := zPB (fun w1 (k : Below w.heap.size w w1) => hX.went k)
  have KY := zPB (fun w1 (k : Below w.heap.size w w1) => hY.went k)
  clear hX hY
  have mixed : Tryz.prog.follows .mixedOrders = true := by kernel_rfl
  have hne := zLg
  have hgd := Tryz.eqGuardType108
  go_enter Tryz.func59, Tryz.ntmps59
  go_wp2
  go_loopw [5] (fun i wr => ∃ j : Nat, i = .int .i64 j /\ j <= X.length /\ zAp X Y j /\ Below w.heap.size w wr) (fun i _ => X.length - (intOf i).toNat)
  case atStart => exact ⟨0, rfl, Nat.zero_le _, fun i _ _ h => by omega, .refl _ _⟩
  case round =>
   obtain ⟨j, rfl, hj, hS, hB⟩ := hrel
   have HS := zPB hS
   clear hS
   by_cases hlt : j < X.length
   ·have hlt' : j < Y.length := by omega
    obtain ⟨b1, o1, rfl, p0, p1⟩ := (KX.out wr hB).at j hlt
    obtain ⟨b2, o2, rfl, q0, q1⟩ := (KY.out wr hB).at j hlt'
    have HN := zPB (fun (e : X[j] = Y[j]) i (h1 : i < X.length) (h2 : i < Y.length) (h3 : i < j + 1) => show X[i] = Y[i] from by
     by_cases e' : i = j
     ·subst e'
      exact e
     ·exact HS.out i h1 h2 (by omega))
    have HD := zPB (fun (e : ¬ X[j] = Y[j]) (k : X = Y) => e (by simp only [k]))
    generalize X[j] = x at *
    generalize Y[j] = y at *
    obtain ⟨x0, x1⟩ := x
    obtain ⟨y0, y1⟩ := y
    dsimp only at p0 p1 q0 q1
    go_wp2
    go_quiet (fail)
    have hb2 : Below w.heap.size w (wr.drewN nq) := hB.trans ⟨rfl, rfl, rfl, Nat.le_refl _, fun _ _ => rfl⟩
    generalize wr.drewN nq = wn at hb2 ⊢
    clear p0 p1 q0 q1 hB hne
    generalize hbb : eqB (x0, x1) (y0, y1) = bb
    cases bb with
    | true =>
     have HS2 := zPB (show zAp X Y (j + 1) from HN.out (zMz.1 hbb))
     clear hbb HN HD HS
     go_wp2
     go_roundw
     case rel => exact ⟨j + 1, by go_num, by omega, HS2.out, hb2⟩
     case measure => simp [intOf]; omega
    | false =>
     have HE := zPB (HD.out (of_decide_eq_false hbb))
     clear hbb HN HD HS
     go_wp2
     go_ret
     exact ⟨zAA (decide_eq_false HE.out), hb2⟩
   ·have hE : j = X.length := by omega
    have HE := zPB (show X = Y from zL9 hn (by rw [← hE]; exact HS.out))
    go_wp2
    go_ret
    exact ⟨zAA (decide_eq_true HE.out), hB⟩
 ·have hne : ¬ X = Y := fun e => hn (by rw [e])
  clear hX hY
  go_enter Tryz.func59, Tryz.ntmps59
  go_wp2
  go_ret
  exact ⟨zAA (decide_eq_false hne), .refl _ _⟩
end Im
namespace Au
open Go.RowKit Go.Maps
open Im
def zF7 (X : List Sta) (K : List Itm) : Int := match X.findIdx? fun s => decide (s.1 = K) with | some i => (i : Int) | none => -1
def zHa (X : List Sta) (K : List Itm) (k : Nat) : Prop := ∀ j (h : j < X.length), j < k -> X[j].1 ≠ K
theorem zH8 (X : List Sta) (K : List Itm) : zHa X K 0 := fun _ _ h => absurd h (by omega)
theorem zH7 {X : List Sta} {K : List Itm} {k : Nat} (h : zHa X K k) (hk : k < X.length) (e : X[k].1 ≠ K) : zHa X K (k + 1) := fun j hj hl => by
 by_cases he : j = k
 ·subst he
  exact e
 ·exact h j hj (by omega)
theorem zFQ {X : List Sta} {K : List Itm} {k : Nat} (h : zHa X K k) (hk : k < X.length) (e : X[k].1 = K) : zF7 X K = (k : Int) := by
 have : X.findIdx? (fun s => decide (s.1 = K)) = some k := by
  rw [List.findIdx?_eq_some_iff_getElem]
  exact ⟨hk, decide_eq_true e, fun j hj => by simpa using h j (by omega) hj⟩
 unfold zF7
 rw [this]
theorem zFP {X : List Sta} {K : List Itm} {k : Nat} (h : zHa X K k) (hk : ¬ k < X.length) : zF7 X K = -1 := by
 have : X.findIdx? (fun s => decide (s.1 = K)) = none := by
  rw [List.findIdx?_eq_none_iff]
  intro x hx
  obtain ⟨j, hj, rfl⟩ := List.mem_iff_getElem.1 hx
  simpa using h j hj (by omega)
 unfold zF7
 rw [this]
end Au
namespace Au
open Go.RowKit Go.Maps
open Gr (zAL)
open Im
theorem zDR (X : List Sta) (K : List Itm) (a b : Option Addr) (c d : Nat) (w : World) (hX : StaA a X w) (sm : Small X) (hK : ItsA b K w) :
  Calls Tryz.prog 35 #[.slice a X.length c, .slice b K.length d] w (Gr.Is (.int .i64 (zF7 X K)) w) := by
 have HX := zPB (fun w1 (b : Below w.heap.size w w1) => hX.went b)
 have HK := zPB (fun w1 (b : Below w.heap.size w w1) => hK.went b)
 have SM := zPB sm
 have hl := sm.len
 clear hX hK sm
 go_enter Tryz.func35, Tryz.ntmps35
 go_wp2
 go_loopw [5] (fun i wr => ∃ j : Nat, j <= X.length /\ i = .int .i64 j /\ zHa X K j /\ Below w.heap.size w wr) (fun i _ => X.length - (intOf i).toNat)
 case atStart => exact ⟨0, Nat.zero_le _, rfl, zH8 _ _, .refl _ _⟩
 case round =>
  obtain ⟨j, hj, rfl, hN, hW⟩ := hrel
  have N := zPB hN
  have HW := zPB hW
  clear hN
  by_cases hlt : j < X.length
  ·obtain ⟨b0, o0, a1, c1, a2, c2, rfl, z1, z2, i1, i2, l1, l2⟩ := HX.out wr hW j hlt
   have hs := SM.out.items _ (List.getElem_mem hlt)
   have NS := zPB (fun e => zH7 N.out hlt e)
   have NH := zPB (fun e => zFQ N.out hlt e)
   have CL := zPB (zKJ X[j].1 K a1 b c1 d wr i1 (HK.out wr hW) hs)
   generalize X[j] = s at *
   clear hW i1 i2 l1 l2 hs
   by_cases he : s.1 = K
   ·have E := zPB (NH.out he)
    rw [decide_eq_true he] at CL
    clear NS NH he
    go_wp2_with (go_at_call 59; refine CL.out.mono ?_; rintro e w1 ⟨rfl, hb⟩; have HB := zPB (Gr.step HW.out hb); clear hb)
    go_ret
    exact ⟨zAL E.out, HB.out⟩
   ·have E := zPB (NS.out he)
    rw [decide_eq_false he] at CL
    clear NS NH he
    go_wp2_with (go_at_call 59; refine CL.out.mono ?_; rintro e w1 ⟨rfl, hb⟩; have HB := zPB (Gr.step HW.out hb); clear hb)
    go_roundw
    case rel => exact ⟨j + 1, by omega, by go_num, E.out, HB.out⟩
    case measure => simp [intOf]; omega
  ·have E := zPB (zFP N.out hlt)
   clear hW
   go_wp2
   go_ret
   exact ⟨zAL E.out, HW.out⟩
end Au
namespace Im
open Go.RowKit Go.Maps
open Gr (Gram Sh gv GAt step boxed zAW zAN zFn zAA)
theorem zN6 (h : Sh) (G : Gram) (x : Itm) (w : World) (k : GAt h G w) :
  Calls Tryz.prog 56 #[gv h G, iv x] w (Gr.Is (.bool (zAD G x)) w) := by
 have R := zPB (fun w1 (b : Below w.heap.size w w1) => zFn h G x.1 w1 (k.went b))
 clear k
 rw [zE3]
 obtain ⟨xr, xd⟩ := x
 generalize zAN G (xr, xd).1 = r at R ⊢
 generalize zAW G (xr, xd).1 = rb at R ⊢
 have X := zPB (Bi.start h G (xr, xd) w 25 108)
 unfold gv iv
 dsimp only at R X ⊢
 go_enter Tryz.func56, Tryz.ntmps56
 go_wp2_with (go_at_call 84; refine (R.out _ X.out.below).mono ?_; rintro e w1 ⟨a, c, rfl, hr, hb⟩; have X := zPB ((X.out.went hb).alloc (.cells #[.int .i64 r.1, .slice a r.2.length c] 59)); have HR := zPB hr; have y0 := X.out.i0; have y1 := X.out.i1; clear hb hr)
 all_goals
  go_ret
  exact ⟨zAA (by first | (simp_all; done) | (simp_all; omega)), X.out.below⟩
theorem zIg {G : Gram} {x : Itm} (h : zAD G x = true) : behB G x = decide (x.2 < ((zAN G x.1).2.length : Int)) := by
 unfold behB rlen
 rw [h, Bool.true_and]
theorem zHf {G : Gram} {x : Itm} (h : zAD G x = false) : behB G x = false := by
 unfold behB
 rw [h, Bool.false_and]
def zAy (x y : Itm) : Bool := decide (ltP x y)
theorem zDS (x y : Itm) (w : World) : Calls Tryz.prog 85 #[iv x, iv y] w fun e w' => e = .returned (.bool (zAy x y)) /\ ∃ q os', w' = Go.Sort.grow (w.drewN q) os' := by
 unfold zAy ltP
 obtain ⟨x0, x1⟩ := x
 obtain ⟨y0, y1⟩ := y
 unfold iv
 dsimp only
 go_enter Tryz.func85, Tryz.ntmps85
 go_wp2
 all_goals
  go_ret
  exact ⟨zAA (by first | (simp; omega) | (simp_all; done) | (simp_all; omega)), ((Gw.refl w).alloc _).alloc _⟩
theorem zIF (h : Sh) (G : Gram) (w : World) (k : GAt h G w) :
  Calls Tryz.prog 31 #[gv h G] w (zCs (fun x => x = ((G.rules.length : Int), 0)) w) := by
 have t := k.r2
 clear k
 unfold gv
 go_enter Tryz.func31, Tryz.ntmps31
 go_wp2
 go_ret
 exact ⟨[((G.rules.length : Int), 0)], _, _, rfl, ⟨zCo _, fun x => by rw [List.mem_singleton]⟩, zBy 108 w.heap.size _ ((G.rules.length : Int), 0) _ (by simp) (by simp), Gr.step (boxed _ _) (boxed _ _)⟩
end Im
namespace Im
open Go.RowKit Go.Maps
open Gr (Gram)
def Hs (G : Gram) (s : Int) (y : Itm) : Prop := behB G y = true /\ behV G y = s
def nx (y : Itm) : Itm := (y.1, y.2 + 1)
end Im
namespace Im
open Go.RowKit Go.Maps
theorem zDi (w : World) : (Instr.buildSlice 50 0 #[]).run Tryz.prog w = .ok (.slice (some ⟨w.heap.size, 0, none⟩) 0 0) (w.alloc (.cells #[] 108)) := by kernel_rfl
theorem zCJ (w : World) (o : Obj) : (w.alloc o).heap[w.heap.size]? = some o := World.alloc_heap_new _ _
theorem zEk {w : World} {o : Obj} {q : Nat} (h : q = w.heap.size) : (w.alloc o).heap[q]? = some o := by
 subst h
 exact zCJ _ _
theorem zEl {w : World} {o o' : Obj} {q : Nat} (h : w.heap[q]? = some o') : (w.alloc o).heap[q]? = some o' := by
 rw [Below.heap_alloc _ _ _ (Array.getElem?_eq_some_iff.1 h).1]
 exact h
theorem zJd {w : World} {base q : Nat} {x : Itm} (hq : w.heap[q]? = some (.cells #[.int .i64 x.1, .int .i64 x.2] 108 (0, 0))) (hb : base <= q) : w.ownsRow base 108 2 (.slice (some ⟨q, 0, none⟩) 1 1) 1 (ic x) :=
 ⟨by simp [ic], .inr ⟨q, 1, _, rfl, hb, hq, Nat.le_refl _, by unfold maxLen; omega, by simp, by simp [ic]⟩⟩
def inB (x : Itm) (E : List Itm) (k : Nat) : Bool := decide (x ∈ E.take k)
end Im
namespace Au
open Gr (Gram checkN zBj zBk plnS top ofN)
open Im
def cloS (G : Gram) (out : List Itm) : List Itm := out.foldl (fun o y => if behB G y then adds o (ofN G (behV G y)) else o) out
theorem zG5 {G : Gram} {L : List Itm} : ∀ (l out : List Itm), Mid G L out -> (∀ y ∈ l, Clo G L y) -> Mid G L (l.foldl (fun o y => if behB G y then adds o (ofN G (behV G y)) else o) out)
 | [], out, h, _ => h
 | y :: l, out, h, k => by
  rw [List.foldl_cons]
  refine zG5 l _ ?_ fun z hz => k z (List.mem_cons_of_mem _ hz)
  split
  ·rename_i hb
   exact h.adds (k y (List.mem_cons_self ..)) hb
  ·exact h
theorem zJj {G : Gram} {L out : List Itm} (h : Mid G L out) : Mid G L (cloS G out) := zG5 out out h fun y hy => h.sub y hy
def cloN (G : Gram) : Nat -> List Itm -> List Itm
 | 0, out => out
 | n + 1, out => cloN G n (cloS G out)
theorem zD9 {G : Gram} {L : List Itm} : ∀ (n : Nat) (out : List Itm), Mid G L out -> Mid G L (cloN G n out)
 | 0, _, h => h
 | n + 1, _, h => zD9 n _ (zJj h)
def zOf (G : Gram) (out : List Itm) : Bool := out.all fun y => !behB G y || (ofN G (behV G y)).all fun r => decide (((r : Int), (0 : Int)) ∈ out)
theorem zNo {G : Gram} {out : List Itm} (h : zOf G out = true) : Im.Shut G out := fun y hy hb r hr => by
 have h1 := List.all_eq_true.1 h y hy
 rw [hb, Bool.not_true, Bool.false_or] at h1
 exact of_decide_eq_true (List.all_eq_true.1 h1 r hr)
def srtB (l : List Itm) : Bool := decide (l.Pairwise ltP)
theorem zHM {l : List Itm} (h : srtB l = true) : Srt l := of_decide_eq_true (p := l.Pairwise ltP) h
theorem zFJ {G : Gram} {L : List Itm} (n : Nat) (h1 : srtB L = true) (h2 : (L.all fun x => zAD G x) = true) (h3 : zOf G (cloN G n L) = true) : Is (cloN G n L) (Clo G L) :=
 (zD9 n L (.start ⟨zHM h1, fun x => ⟨fun h => ⟨h, List.all_eq_true.1 h2 x h⟩, fun h => h.1⟩⟩)).done (zNo h3)
def zNX (G : Gram) (c : List Itm) (s : Nat) (p : Half) : Half :=
 if zAj G c s = [] then p else (if zAj G c s ∈ p.1 then p.1 else p.1 ++ [zAj G c s], p.2 ++ [((s : Int), ((p.1 ++ [zAj G c s]).idxOf (zAj G c s) : Int))])
def zEC (G : Gram) (c : List Itm) : Nat -> Half -> Half
 | 0, p => p
 | n + 1, p => zNX G c (n + 1) (zEC G c n p)
theorem zJw {G : Gram} {c : List Itm} (h : Srt c) (p : Half) : ∀ n, zAV G c n p = zEC G c n p
 | 0 => rfl
 | n + 1 => by
  rw [zA9, zJw h p n]
  show oneS G c (n + 1) (zEC G c n p) = zNX G c (n + 1) (zEC G c n p)
  unfold oneS zNX
  rw [zHN h]
theorem zKH {G : Gram} {t : Nat} {q : Whole} {C : List Itm} (hq : q.2.length < q.1.length) (hC : Is C (Clo G q.1[q.2.length])) : rnd G t q = ((zEC G C t (q.1, [])).1, q.2 ++ [(zEC G C t (q.1, [])).2]) := by
 rw [zFl hq, (zFW G q.1[q.2.length]).uniq hC, zJw hC.1]
def GB : Gram := { terms := [⟨#[65]⟩, ⟨#[66]⟩], nons := [⟨#[115]⟩], rules := [(3, [1, 3]), (3, [2])], start := 3 }
theorem zLD : checkN GB = 0 := by
 refine zBj (by decide +kernel) ?_ (by decide +kernel) (by decide +kernel) (by decide +kernel) (by decide +kernel)
 have h1 : plnS ⟨#[65]⟩ = true := by decide +kernel
 have h2 : plnS ⟨#[66]⟩ = true := by decide +kernel
 have h3 : plnS ⟨#[115]⟩ = true := by decide +kernel
 simp [zBk, GB, h1, h2, h3]
abbrev k0 : List Itm := [(2, 0)]
abbrev k1 : List Itm := [(0, 1)]
abbrev k2 : List Itm := [(1, 1)]
abbrev k3 : List Itm := [(2, 1)]
abbrev k4 : List Itm := [(0, 2)]
abbrev t0 : List (Int × Int) := [(1, 1), (2, 2), (3, 3)]
abbrev t1 : List (Int × Int) := [(1, 1), (2, 2), (3, 4)]
theorem rb0 : runs GB (top GB) 0 = ([k0], []) := rfl
theorem rb1 : runs GB (top GB) 1 = ([k0, k1, k2, k3], [t0]) := by
 show rnd GB (top GB) (runs GB (top GB) 0) = _
 rw [rb0, zKH (by decide) (zFJ (L := k0) 4 (by decide +kernel) (by decide +kernel) (by decide +kernel))]
 decide +kernel
theorem rb2 : runs GB (top GB) 2 = ([k0, k1, k2, k3, k4], [t0, t1]) := by
 show rnd GB (top GB) (runs GB (top GB) 1) = _
 rw [rb1, zKH (by decide) (zFJ (L := k1) 4 (by decide +kernel) (by decide +kernel) (by decide +kernel))]
 decide +kernel
theorem rb3 : runs GB (top GB) 3 = ([k0, k1, k2, k3, k4], [t0, t1, []]) := by
 show rnd GB (top GB) (runs GB (top GB) 2) = _
 rw [rb2, zKH (by decide) (zFJ (L := k2) 4 (by decide +kernel) (by decide +kernel) (by decide +kernel))]
 decide +kernel
theorem rb4 : runs GB (top GB) 4 = ([k0, k1, k2, k3, k4], [t0, t1, [], []]) := by
 show rnd GB (top GB) (runs GB (top GB) 3) = _
 rw [rb3, zKH (by decide) (zFJ (L := k3) 4 (by decide +kernel) (by decide +kernel) (by decide +kernel))]
 decide +kernel
theorem rb5 : runs GB (top GB) 5 = ([k0, k1, k2, k3, k4], [t0, t1, [], [], []]) := by
 show rnd GB (top GB) (runs GB (top GB) 4) = _
 rw [rb4, zKH (by decide) (zFJ (L := k4) 4 (by decide +kernel) (by decide +kernel) (by decide +kernel))]
 decide +kernel
def XB : List (List Itm × List (Int × Int)) := [(k0, t0), (k1, t1), (k2, []), (k3, []), (k4, [])]
theorem zIl : Built GB 0 XB := by
 have h := Built.all (G := GB) (n := 5) zLD ⟨.inr (by rw [rb5]; rfl), fun m hm => by
  have : m = 0 \/ m = 1 \/ m = 2 \/ m = 3 \/ m = 4 := by omega
  unfold Stop
  rcases this with rfl | rfl | rfl | rfl | rfl
  ·rw [rb0]; decide
  ·rw [rb1]; decide
  ·rw [rb2]; decide
  ·rw [rb3]; decide
  ·rw [rb4]; decide⟩ (by rw [rb5]; decide)
 rw [rb5] at h
 exact h
