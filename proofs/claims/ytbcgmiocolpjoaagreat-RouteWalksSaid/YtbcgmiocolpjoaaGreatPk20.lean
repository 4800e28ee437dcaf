/- A part of the proof. -/
import Derived.Test.YtbcgmiocolpjoaaGreatPk18
import Derived.Test.YtbcgmiocolpjoaaGreatPk06
import Derived.DeepKeys4
import Derived.Test.YtbcgmiocolpjoaaGreatItemLay
import Derived.RangeFuncNested
import Derived.RangeFuncLeaves
import Derived.Shelf.Abstract
import Derived.OwnWalkIn
import Derived.TacticsInMore
import Derived.RegionIn
import Derived.LoopNIn
import Derived.LoopIn
set_option maxHeartbeats 2000000
set_option maxRecDepth 100000
set_option linter.unusedVariables false
namespace Go.Proofs.YtbcgmiocolpjoaaGreat
open Go.RowKit Go.Maps
namespace Au
open Gr (boxed zAB step)
open Im
theorem zBl {w w' : World} {row : Option Nat} {m : Nat} (hg : w.grownBy w' row) (hm : m <= w.heap.size) (hr : ∀ k, row = some k -> m <= k) : Below m w w' :=
 ⟨hg.os, hg.tape, hg.output, hg.size, fun i hi => hg.block i (by omega) fun e => by have := hr i e.symm; omega⟩
theorem zGo (x : Itm) : ∀ u ∈ ic x, u.oneCell' = true := fun u hu => by
 simp only [ic, List.mem_cons, List.not_mem_nil, or_false] at hu
 rcases hu with rfl | rfl <;> rfl
theorem zNB {T : TypeId} {base : Nat} {X : List Itm} {v : Value} {w : World} (h : ItsV T base X v w) : ∀ k, v.ownBlock = some k -> base <= k := fun k hk => (World.ownsRow.lt h k hk).1
def bvs (xs : List Int) : List Value := xs.map (.int .u8)
theorem zHh (xs ys : List Int) : bvs (xs ++ ys) = bvs xs ++ bvs ys := by simp [bvs]
theorem zJH : (Tryz.prog.info? 5).map (fun i => (i.zero, i.size, i.bytes)) = some (some (.int .u8 0), 1, 1) := by kernel_rfl
def zCr (base : Nat) (xs : List Int) (v : Value) (w : World) : Prop := w.ownsRow base 5 1 v xs.length (bvs xs)
theorem zCr.went {base : Nat} {X : List Int} {v : Value} {w w' : World} (h : zCr base X v w) (hb : Below w.heap.size w w') : zCr base X v w' := Sep.zAH h fun g hg => hb.block g (h.lt g hg).2
theorem zCr.nil (base : Nat) (w : World) : zCr base [] (.slice none 0 0) w := World.ownsRow_nil _ _ _ _
theorem zCr.shape {base : Nat} {X : List Int} {v : Value} {w : World} (h : zCr base X v w) : ∃ a c, v = .slice a X.length c := by
 obtain ⟨a, c, e⟩ := Sep.zAe h
 exact ⟨a, c, e⟩
theorem zCr.text {base : Nat} {X : List Int} {a : Option Addr} {c : Nat} {w : World} (h : zCr base X (.slice a X.length c) w) :
  (convert 135 9 (.slice a X.length c)).run Tryz.prog w = .ok (.string (strOfNums X)) w := by
 rcases h.2 with ⟨e1, h0⟩ | ⟨g, cap, cur, he, _⟩
 ·have e : X = [] := List.eq_nil_of_length_eq_zero h0
  subst e
  simp only [Value.slice.injEq] at e1
  obtain ⟨rfl, _, rfl⟩ := e1
  exact run_convert_bytes_nil w 135 5 Tryz.underlying135 Tryz.underlying5 _ _ 9 Tryz.underlying9
 ·simp only [Value.slice.injEq] at he
  obtain ⟨rfl, _, _⟩ := he
  have hc := World.ownsRow.cells h (g := g) rfl
  refine run_convert_bytes_arg w 135 5 Tryz.underlying135 Tryz.underlying5 g 0 X.length c X rfl (fun i hi => ?_) 9 Tryz.underlying9
  have := hc i (.int .u8 (X.getD i 0)) (by simp [bvs, hi])
  rwa [WideShapes.add_plain] at this
theorem zKf (w : World) (n : Nat) (hn : n = w.heap.size) (x y z : Value) (t : TypeId) : ∀ j u, [x, y, z][j]? = some u -> (w.alloc (.cells #[x, y, z] t)).cell? ((⟨n, 0, none⟩ : Addr).add j) = some u := by
 intro j u hj
 subst hn
 rw [WideShapes.add_plain]
 match j, hj with
 | 0, hj => exact zAB rfl (by simpa using hj)
 | 1, hj => exact zAB rfl (by simpa using hj)
 | 2, hj => exact zAB rfl (by simpa using hj)
theorem zCr.more {base : Nat} {L : List Itm} {v : Value} {w : World} {k : Nat} (hk : k < L.length) {p q r : Int} (e : [p, q, r] = kb L[k]) {n : Nat} (hn : n = (keyL (L.take k)).length + 3) (h : w.ownsRow base 5 1 v n (bvs (keyL (L.take k)) ++ [.int .u8 p, .int .u8 q, .int .u8 r])) : zCr base (keyL (L.take (k + 1))) v w := by
 subst hn
 have ht : keyL (L.take (k + 1)) = keyL (L.take k) ++ [p, q, r] := by
  rw [List.take_succ_eq_append_getElem hk, zJU, e]
 unfold zCr
 rw [ht, zHh, List.length_append]
 exact h
theorem zNF (L : List Itm) (a : Option Addr) (c : Nat) (w : World) (kl : ItsA a L w) (hf : Fit3 L) (hL : L.length <= 1000000) :
  Calls Tryz.prog 66 #[.slice a L.length c] w (Gr.Is (.string (keyB L)) w) := by
 obtain ⟨i0, hi, hz0, hz1, hz2⟩ := info_parts zJH
 have KL := zPB (fun w1 (b : Below w.heap.size w w1) => kl.went b)
 have HF := zPB hf
 have B0 := zPB (zCr.nil w.heap.size w)
 clear kl hf
 go_enter Tryz.func66, Tryz.ntmps66
 go_wp2
 go_loopw [3, 8] (fun v i wr => ∃ j : Nat, j <= L.length /\ i = .int .i64 j /\ zCr w.heap.size (keyL (L.take j)) v wr /\ Below w.heap.size w wr) (fun _ i _ => L.length - (intOf i).toNat)
 case atStart => exact ⟨0, Nat.zero_le _, rfl, B0.out, .refl _ _⟩
 case round =>
  obtain ⟨j, hj, rfl, hB, hW⟩ := hrel
  obtain ⟨av, cv, rfl⟩ := hB.shape
  clear B0
  by_cases hlt : j < L.length
  ·obtain ⟨b, o, rfl, c0, c1⟩ := (KL.out wr hW).at j hlt
   have hx := HF.out _ (List.getElem_mem hlt)
   have HM := zPB (fun (v : Value) (w' : World) (n : Nat) (p q r : Int) e hn h => zCr.more (base := w.heap.size) (v := v) (w := w') hlt (p := p) (q := q) (r := r) (n := n) e hn h)
   have hl : (keyL (L.take j)).length <= 3000000 := by
    rw [zDG, List.length_take]
    omega
   have B := zPB hB
   have W := zPB hW
   clear hB hW
   have e1 : ((L[j].1, L[j].2) : Itm) = L[j] := rfl
   generalize L[j] = x at *
   obtain ⟨x0, x1⟩ := x
   dsimp only at c0 c1 hx
   clear e1
   generalize keyL (L.take j) = X at B HM hl
   have hk : [x0 % 256, x0 / 256, x1] = kb (x0, x1) := by
    unfold kb
    dsimp only
    rw [show x0 / 256 % 256 = x0 / 256 by omega, show x1 % 256 = x1 by omega]
   have hs0 : (wr.alloc (.cells #[.int .i64 x0, .int .i64 x1] 108)).heap.size = wr.heap.size + 1 := by simp
   have HB2 := zPB (Gr.step W.out (Gr.step (boxed wr (.cells #[.int .i64 x0, .int .i64 x1] 108)) (boxed _ (.cells #[.int .u8 (x0 % 256), .int .u8 (x0 / 256), .int .u8 x1] 5))))
   have RB := zPB (B.out.went (Gr.step (boxed wr (.cells #[.int .i64 x0, .int .i64 x1] 108)) (boxed _ (.cells #[.int .u8 (x0 % 256), .int .u8 (x0 / 256), .int .u8 x1] 5))))
   have NW := zPB (zKf (wr.alloc (.cells #[.int .i64 x0, .int .i64 x1] 108)) (wr.heap.size + 1) hs0.symm (.int .u8 (x0 % 256)) (.int .u8 (x0 / 256)) (.int .u8 x1) 5)
   have hsz := HB2.out.size
   have hbl : ∀ g, (Value.slice av X.length cv).ownBlock = some g -> w.heap.size <= g := fun g hg => (World.ownsRow.lt B.out g hg).1
   have HBL := zPB hbl
   clear hbl B W
   go_wp2_with (at_builtin; refine wpList_append_own_at _ rfl _ _ 135 rfl w.heap.size 5 i0 (.int .u8 0) 1 1 Tryz.underlying135 hi hz0 hz1 hz2 rfl (by decide) _ _ _ rfl RB.out ⟨wr.heap.size + 1, 0, none⟩ 3 3 [.int .u8 (x0 % 256), .int .u8 (x0 / 256), .int .u8 x1] rfl rfl NW.out (by simp [Value.oneCell']) (by unfold maxLen; omega) (by omega) hsz ?_; intro v' w' hown hg _ _; have HO := zPB hown; have HG := zPB (HB2.out.trans (zBl hg hsz HBL.out)); clear hown hg)
   go_roundw
   case rel => exact ⟨j + 1, by omega, by go_num, HM.out _ _ _ _ _ _ hk rfl HO.out, HG.out⟩
   case measure => simp [intOf]; omega
  ·have hE : j = L.length := by omega
   subst hE
   rw [List.take_length] at hB
   rw [List.take_length]
   have T := hB.text
   have HK := zPB (show strOfNums (keyL L) = keyB L from rfl)
   generalize keyL L = X at *
   generalize strOfNums X = s at *
   go_wp2
   have e := HK.out
   subst e
   go_ret
   exact ⟨rfl, hW⟩
end Au
namespace Im
open Gr (Gram Sh gv GAt Bx boxed zAW zAN zCU zAB zAJ cell_later zAA)
theorem zO3 : laidOutB Tryz.prog = true := by kernel_rfl
theorem rowI : 108 < Tryz.prog.types.size := of_decide_eq_true (by kernel_rfl)
theorem lawI : Keyed Tryz.prog 108 := .of_law (deep_law_laid zO3 (m := 2) (by omega) rowI (by kernel_rfl) (by rw [Tryz.underlying108]))
theorem ktI : Kt Tryz.prog 108 :=
 zO1 _ _ lawI Tryz.underlying108 Tryz.underlying3 Tryz.underlying3 (by kernel_rfl) (by kernel_rfl) (by kernel_rfl) (by kernel_rfl) rfl rfl (by decide) (by decide) (Tryz.prog.types.size - 1) (by have := rowI; omega)
theorem zOm (w : World) : (zeroValue 166).run Tryz.prog w = .ok (.agg #[]) w := by kernel_rfl
abbrev MS (b n : Nat) (X : Itm -> Prop) (w : World) : Prop := MSet (H := Nat) Tryz.prog 108 unitElem (.agg []) b n X w
abbrev MR (b r n q : Nat) (X Lf : Itm -> Prop) (w : World) : Prop := MRan (H := Nat) Tryz.prog 108 unitElem (.agg []) b r n q X Lf w
structure Bi (W : World) (h : Sh) (G : Gram) (x : Itm) (w : World) : Prop where
 bx : Bx W h G w
 i0 : w.cell? ⟨W.heap.size + 1, 0, none⟩ = some (.int .i64 x.1)
 i1 : w.cell? ⟨W.heap.size + 1, 1, none⟩ = some (.int .i64 x.2)
theorem Bi.start (h : Sh) (G : Gram) (x : Itm) (w : World) (T U : TypeId) : Bi w h G x ((w.alloc (.cells #[.slice h.a1 G.terms.length h.c1, .slice h.a2 G.nons.length h.c2, .slice h.a3 G.rules.length h.c3, .int .i64 G.start] T)).alloc (.cells #[.int .i64 x.1, .int .i64 x.2] U)) :=
 ⟨(Bx.start h G w T).alloc _, zAB (by simp) rfl, zAB (by simp) rfl⟩
theorem Bi.went {W : World} {h : Sh} {G : Gram} {x : Itm} {w w' : World} (k : Bi W h G x w) (hb : Below w.heap.size w w') : Bi W h G x w' := ⟨k.bx.went hb, cell_later hb k.i0, cell_later hb k.i1⟩
theorem Bi.alloc {W : World} {h : Sh} {G : Gram} {x : Itm} {w : World} (k : Bi W h G x w) (o : Obj) : Bi W h G x (w.alloc o) := k.went (boxed _ _)
theorem Bi.below {W : World} {h : Sh} {G : Gram} {x : Itm} {w : World} (k : Bi W h G x w) : Below W.heap.size W w := k.bx.below
theorem zEX (h : Sh) (G : Gram) (w : World) (k : GAt h G w) :
  Calls Tryz.prog 67 #[gv h G] w (Gr.Is (.int .i64 (G.rules.length : Int)) w) := by
 have t := k.r2
 clear k
 unfold gv
 go_enter Tryz.func67, Tryz.ntmps67
 go_wp2
 go_ret
 exact ⟨rfl, boxed _ _⟩
theorem zE3 {G : Gram} {x : Itm} : zAD G x = (zAW G x.1 && decide (0 <= x.2) && decide (x.2 <= ((zAN G x.1).2.length : Int))) := by
 unfold zAD rlen
 rw [Bool.and_assoc]
 congr 1
 rw [Bool.eq_iff_iff]
 simp
theorem zLA (h : Sh) (G : Gram) (x : Itm) (w : World) (k : GAt h G w) :
  Calls Tryz.prog 120 #[gv h G, iv x] w (Gr.Is (.bool (zAD G x)) w) := by
 have R := zPB (fun w1 (b : Below w.heap.size w w1) => zCU h G x.1 w1 (k.went b))
 clear k
 rw [zE3]
 obtain ⟨xr, xd⟩ := x
 generalize zAN G (xr, xd).1 = r at R ⊢
 generalize zAW G (xr, xd).1 = rb at R ⊢
 have X := zPB (Bi.start h G (xr, xd) w 25 108)
 unfold gv iv
 dsimp only at R X ⊢
 go_enter Tryz.func120, Tryz.ntmps120
 go_wp2_with (go_at_call 95; refine (R.out _ X.out.below).mono ?_; rintro e w1 ⟨a, c, rfl, hr, hb⟩; have X := zPB ((X.out.went hb).alloc (.cells #[.int .i64 r.1, .slice a r.2.length c] 59)); have HR := zPB hr; have y0 := X.out.i0; have y1 := X.out.i1; clear hb hr)
 all_goals
  go_ret
  exact ⟨zAA (by first | (simp_all; done) | (simp_all; omega)), X.out.below⟩
def zH4 (G : Gram) (x : Itm) : Bool := decide (0 <= x.2 /\ x.2 < ((zAN G x.1).2.length : Int))
def zLh (G : Gram) (x : Itm) : Int := if zH4 G x then (zAN G x.1).2.getD x.2.toNat 0 else 0
theorem zNQ {G : Gram} {x : Itm} (h : zAD G x = true) : zH4 G x = behB G x /\ zLh G x = behV G x := by
 have e : zH4 G x = behB G x := by
  have := zAc.1 h
  rw [Bool.eq_iff_iff, zBi]
  unfold zH4
  rw [decide_eq_true_iff]
  exact ⟨fun k => ⟨h, k.2⟩, fun k => ⟨this.2.1, k.2⟩⟩
 exact ⟨e, by unfold zLh behV; rw [e]⟩
theorem zHg (h : Sh) (G : Gram) (x : Itm) (w : World) (k : GAt h G w) :
  Calls Tryz.prog 122 #[gv h G, iv x] w (Gr.Is (.tuple #[.int .i64 (zLh G x), .bool (zH4 G x)]) w) := by
 have R := zPB (fun w1 (b : Below w.heap.size w w1) => zCU h G x.1 w1 (k.went b))
 clear k
 unfold zLh zH4
 obtain ⟨xr, xd⟩ := x
 generalize zAN G (xr, xd).1 = r at R ⊢
 generalize zAW G (xr, xd).1 = rb at R ⊢
 have X := zPB (Bi.start h G (xr, xd) w 25 108)
 unfold gv iv
 dsimp only at R X ⊢
 by_cases h1 : 0 <= xd /\ xd < (r.2.length : Int)
 ·obtain ⟨j, rfl⟩ := Int.eq_ofNat_of_zero_le h1.1
  have hj : j < r.2.length := by omega
  have e1 : decide (0 <= (j : Int) /\ (j : Int) < (r.2.length : Int)) = true := decide_eq_true h1
  rw [e1, if_pos rfl, show r.2.getD (Int.toNat (j : Int)) 0 = r.2[j] by simp [hj]]
  clear e1
  go_enter Tryz.func122, Tryz.ntmps122
  go_wp2_with (go_at_call 95; refine (R.out _ X.out.below).mono ?_; rintro e w1 ⟨a, c, rfl, hr, hb⟩; have X := zPB ((X.out.went hb).alloc (.cells #[.int .i64 r.1, .slice a r.2.length c] 59)); have HR := zPB hr; have y0 := X.out.i0; have y1 := X.out.i1; obtain ⟨b2, o2, e2, z⟩ := hr j (by simpa [Gr.ivs] using hj); subst e2; have z := zAJ (o := .cells #[.int .i64 r.1, .slice (some ⟨b2, o2, none⟩) r.2.length c] 59) z; clear hb hr)
  go_ret2
  exact ⟨by simp [Gr.ivs, Gr.iv], X.out.below⟩
 ·have e1 : decide (0 <= xd /\ xd < (r.2.length : Int)) = false := decide_eq_false h1
  rw [e1]
  by_cases h2 : xd < 0
  ·clear h1 e1
   go_enter Tryz.func122, Tryz.ntmps122
   go_wp2_with (go_at_call 95; refine (R.out _ X.out.below).mono ?_; rintro e w1 ⟨a, c, rfl, hr, hb⟩; have X := zPB ((X.out.went hb).alloc (.cells #[.int .i64 r.1, .slice a r.2.length c] 59)); have y0 := X.out.i0; have y1 := X.out.i1; clear hb hr)
   all_goals
    go_ret2
    exact ⟨rfl, X.out.below⟩
  ·have h3 : (r.2.length : Int) <= xd := by omega
   have h4 : 0 <= xd := by omega
   clear h1 e1
   go_enter Tryz.func122, Tryz.ntmps122
   go_wp2_with (go_at_call 95; refine (R.out _ X.out.below).mono ?_; rintro e w1 ⟨a, c, rfl, hr, hb⟩; have X := zPB ((X.out.went hb).alloc (.cells #[.int .i64 r.1, .slice a r.2.length c] 59)); have y0 := X.out.i0; have y1 := X.out.i1; clear hb hr)
   all_goals
    go_ret2
    exact ⟨rfl, X.out.below⟩
theorem zFr {w w' : World} {b : Nat} (h : w.mapTurned w' b) : Sep.Fr (· = b) w w' := by
 obtain ⟨es, c, es', c', h1, rfl⟩ := h
 exact ⟨rfl, rfl, rfl, by simp [ChangeMaps.setBlock], fun k _ hk => ChangeMaps.heap_setBlock_other h1 _ hk⟩
theorem zGR (x : Itm) (hx : W64 x) (b n : Nat) (Y : Itm -> Prop) (w : World) (hs : MS b n Y w) (hn : n < maxLen) :
  Calls Tryz.prog 121 #[.map (some b), iv x] w fun e w' => ∃ c : Bool, (c = true ↔ ¬ Y x) /\ e = .returned (.bool c) /\ MS b (n + 1) (fun y => Y y \/ y = x) w' /\ Sep.Fr (· = b) w w' := by
 have S := zPB (fun w1 (k : Below w.heap.size w w1) => hs.went k)
 clear hs
 have z0 := zOm
 unfold iv
 go_enter Tryz.func121, Tryz.ntmps121
 go_wp2_with (first
  | (at_lookup; refine zCw rfl fun K' hK' => zFx _ _ _ rfl ktI Tryz.underlying149 (zOm _) b n Y rfl (S.out _ (boxed _ _)) x rfl hx fun c hc => hK' _ _ ?_)
  | (at_mapUpdate; refine zCw rfl fun K' hK' => zGd _ _ _ _ rfl ktI Tryz.underlying149 (.agg []) b n Y rfl (S.out _ ((boxed _ _).trans ((boxed _ _).mono (by simp)))) hn x rfl hx [] unitElem_mk fun w2 m1 m2 => hK' _ _ ?_; have M1 := zPB m1; have M2 := zPB m2; clear m1 m2))
 ·have hct : c = true := by assumption
  go_ret
  refine ⟨false, ⟨fun e => Bool.noConfusion e, fun e => absurd (hc.1 hct) e⟩, rfl, ((S.out _ ((boxed _ _).trans ((boxed _ _).mono (by simp)))).mono (Nat.le_succ n)).iff fun y _ => ?_, .of_below ((boxed _ _).trans ((boxed _ _).mono (by simp)))⟩
  exact ⟨.inl, fun e => e.elim id fun e => e ▸ hc.1 hct⟩
 ·go_ret
  refine ⟨true, ⟨fun _ e => ?_, fun _ => rfl⟩, rfl, M1.out, ?_⟩
  ·have q := hc.2 e
   simp_all
  ·exact (Sep.Fr.of_below ((boxed _ _).trans ((boxed _ _).mono (by simp)))).trans (zFr M2.out) (.refl _ _)
end Im
namespace Im
open Gr (zAB zAJ cell_later)
def orI (a b : Int) : Int := if a = 0 then b else a
def cmpI (x y : Itm) : Int := orI (Lib.compareInt x.1 y.1) (Lib.compareInt x.2 y.2)
theorem zOc (p o : Nat) (a b : Int) (w : World) (h0 : w.cell? ⟨p, o, none⟩ = some (.int .i64 a)) (h1 : w.cell? ⟨p, o + 1, none⟩ = some (.int .i64 b)) :
  Calls Tryz.prog 130 #[.slice (some ⟨p, o, none⟩) 2 2] w fun e w' => e = .returned (.int .i64 (orI a b)) /\ w' = w := by
 unfold orI
 go_enter Tryz.func130, Tryz.ntmps130
 go_wp2
 go_loopw [8] (fun i wr => wr = w /\ ∃ j : Nat, i = .int .i64 j /\ j <= 2 /\ (1 <= j -> a = 0) /\ (2 <= j -> b = 0)) (fun i _ => 2 - (intOf i).toNat)
 case atStart => exact ⟨rfl, 0, rfl, by omega, by omega, by omega⟩
 case round =>
  obtain ⟨rfl, j, rfl, hj, ha, hb⟩ := hrel
  rcases (by omega : j = 0 \/ j = 1 \/ j = 2) with rfl | rfl | rfl
  ·clear ha hb
   by_cases hz : a = 0
   ·subst hz
    go_wp2
    go_roundw
    case rel => exact ⟨by simp, 1, by go_num, by omega, by simp, by simp⟩
    case measure => simp [intOf]
   ·go_wp2
    go_ret
    exact ⟨rfl, rfl⟩
  ·obtain rfl := ha (by omega)
   clear ha hb
   by_cases hz : b = 0
   ·subst hz
    go_wp2
    go_roundw
    case rel => exact ⟨by simp, 2, by go_num, by omega, by simp, by simp⟩
    case measure => simp [intOf]
   ·go_wp2
    go_ret
    exact ⟨rfl, rfl⟩
  ·obtain rfl := ha (by omega)
   obtain rfl := hb (by omega)
   go_wp2
   go_ret
   exact ⟨rfl, rfl⟩
theorem zHm (a b : Int) (W : World) : Calls Tryz.prog 96 #[.int .i64 a, .int .i64 b] W fun e w' => e = .returned (.int .i64 (Lib.compareInt a b)) /\ w' = W := by
 have h := AnyG.cmp_Compare_int Tryz.cmpInt a b W
 change Calls Tryz.prog 96 _ _ _ at h
 exact h
def Gw (w w' : World) : Prop := ∃ n os, w' = Go.Sort.grow (w.drewN n) os
theorem Gw.refl (w : World) : Gw w w := ⟨0, #[], by rw [Go.Sort.grow_empty]; rfl⟩
theorem Gw.alloc {w w1 : World} (h : Gw w w1) (o : Obj) : Gw w (w1.alloc o) := by
 obtain ⟨n, os, rfl⟩ := h
 exact ⟨n, os ++ #[o], by rw [Go.Sort.alloc_eq_grow, Go.Sort.grow_grow]⟩
theorem Gw.drew {w w1 : World} (h : Gw w w1) : Gw w w1.drew := by
 obtain ⟨n, os, rfl⟩ := h
 exact ⟨n + 1, os, rfl⟩
theorem Gw.below {w w1 : World} (h : Gw w w1) : Below w.heap.size w w1 := by
 obtain ⟨n, os, rfl⟩ := h
 refine ⟨rfl, rfl, rfl, ?_, fun k hk => ?_⟩
 ·rw [Go.Sort.size_grow]
  exact Nat.le_add_right _ _
 ·show (w.heap ++ os)[k]? = w.heap[k]?
  rw [Array.getElem?_append_left hk]
theorem zB6 (x y : Itm) (w : World) :
  Calls Tryz.prog 125 #[iv x, iv y] w fun e w' => e = .returned (.int .i64 (cmpI x y)) /\ Gw w w' := by
 have C := zPB zHm
 unfold cmpI
 unfold iv
 go_enter Tryz.func125, Tryz.ntmps125
 go_wp2
 obtain ⟨wq, hwq⟩ : ∃ wq, (w.alloc (.cells #[.int .i64 x.1, .int .i64 x.2] 108)).alloc (.cells #[.int .i64 y.1, .int .i64 y.2] 108) = wq := ⟨_, rfl⟩
 rw [hwq]
 have q0 : wq.cell? ⟨w.heap.size, 0, none⟩ = some (.int .i64 x.1) := by rw [← hwq]; exact zAJ (zAB rfl rfl)
 have q1 : wq.cell? ⟨w.heap.size, 1, none⟩ = some (.int .i64 x.2) := by rw [← hwq]; exact zAJ (zAB rfl rfl)
 have q2 : wq.cell? ⟨w.heap.size + 1, 0, none⟩ = some (.int .i64 y.1) := by rw [← hwq]; exact zAB (by simp) rfl
 have q3 : wq.cell? ⟨w.heap.size + 1, 1, none⟩ = some (.int .i64 y.2) := by rw [← hwq]; exact zAB (by simp) rfl
 have G0 : Gw w wq := by rw [← hwq]; exact ((Gw.refl w).alloc _).alloc _
 have HQ := zPB (show ∀ w', Gw wq w' -> w'.cell? ⟨w.heap.size, 0, none⟩ = some (.int .i64 x.1) /\ w'.cell? ⟨w.heap.size, 1, none⟩ = some (.int .i64 x.2) /\ w'.cell? ⟨w.heap.size + 1, 0, none⟩ = some (.int .i64 y.1) /\ w'.cell? ⟨w.heap.size + 1, 1, none⟩ = some (.int .i64 y.2)
  from fun w' g => ⟨cell_later g.below q0, cell_later g.below q1, cell_later g.below q2, cell_later g.below q3⟩)
 have g1 : Gw wq wq.drew := (Gw.refl wq).drew
 have A0 : ∀ c1 c2 : Int, (wq.alloc (.cells #[.int .i64 c1, .int .i64 c2] 3)).drew.cell? ⟨wq.heap.size, 0, none⟩ = some (.int .i64 c1) := fun _ _ => zAB (w := wq) rfl rfl
 have A1 : ∀ c1 c2 : Int, (wq.alloc (.cells #[.int .i64 c1, .int .i64 c2] 3)).drew.cell? ⟨wq.heap.size, 0 + 1, none⟩ = some (.int .i64 c2) := fun _ _ => zAB (w := wq) rfl rfl
 clear hwq
 go_region_held3 (fun w' => w'.cell? ⟨w.heap.size, 0, none⟩ = some (.int .i64 x.1) /\ w'.cell? ⟨w.heap.size, 1, none⟩ = some (.int .i64 x.2) /\ w'.cell? ⟨w.heap.size + 1, 0, none⟩ = some (.int .i64 y.1) /\ w'.cell? ⟨w.heap.size + 1, 1, none⟩ = some (.int .i64 y.2))
  (first | exact HQ.out _ (by assumption) | exact HQ.out _ (Gw.alloc (by assumption) _))
  (first
   | (go_at_call 96; refine (C.out _ _ _).mono ?_; rintro e wn ⟨rfl, rfl⟩)
   | (go_at_call 130; refine (zOc wq.heap.size 0 _ _ _ (A0 _ _) (A1 _ _)).mono ?_; rintro e wn ⟨rfl, rfl⟩)
   | fail)
 go_wp2
 go_ret
 exact ⟨rfl, (G0.alloc _).drew⟩
theorem zDj (p : Option Addr) (c : Nat) (fv : Value) (w : World) :
  Calls Tryz.prog 134 #[.slice p 0 c, .int .i64 0, .int .i64 0, fv] w fun e w' => e = .returned (.tuple #[]) /\ w' = w := by
 go_enter Tryz.func134, Tryz.ntmps134
 go_wp2
 refine wp_loop_rounds 1 ?_
 rw [rounds_succ]
 go_wp2
 go_end0
 exact ⟨rfl, rfl⟩
theorem zLr (p : Option Addr) (c : Nat) (lim : Int) (fv : Value) (w : World) :
  Calls Tryz.prog 132 #[.slice p 0 c, .int .i64 0, .int .i64 0, .int .i64 lim, fv] w fun e w' => e = .returned (.tuple #[]) /\ w' = w := by
 have hi := fun W => zDj p c fv W
 go_enter Tryz.func132, Tryz.ntmps132
 go_wp2
 refine wp_loop_rounds 1 ?_
 rw [rounds_succ]
 go_wp2_with (go_at_call 134; refine (hi _).mono ?_; rintro e w' ⟨rfl, rfl⟩)
 (try simp only [Exit.inBlock, Exit.then]); refine bodyPost_ret (results_none rfl _ _ _) rfl ?_
 exact ⟨rfl, rfl⟩
theorem zLT (W : World) : Calls Tryz.prog 133 #[.int .u64 0] W fun e w' => e = .returned (.int .i64 (Lib.bitLen 0 : Nat)) /\ w' = W := by
 have h := Any.bits_Len (SlLaysF0.n15.bits (P := Tryz.prog) (ρ := Tryz.sortItm_ren) { Tryz.sortItm with }) 0 W (by omega) (by omega)
 change Calls Tryz.prog 133 _ _ _ at h
 exact h
theorem zKR (p : Option Addr) (c : Nat) (fv : Value) (w : World) :
  Calls Tryz.prog 128 #[.slice p 0 c, fv] w fun e w' => e = .returned (.tuple #[]) /\ w' = w := by
 have hp := fun lim W => zLr p c lim fv W
 have hl := zLT
 go_enter Tryz.func128, Tryz.ntmps128
 go_wp2_with (first
  | (go_at_call 133; refine (hl _).mono ?_; rintro e w' ⟨rfl, rfl⟩)
  | (go_at_call 132; refine (hp _ _).mono ?_; rintro e w' ⟨rfl, rfl⟩))
 go_end0
 exact ⟨rfl, rfl⟩
attribute [local go_sem] Oper.semAt_some
structure Came (X Lf : Itm -> Prop) (l : List Itm) : Prop where
 nd : l.Nodup
 fit : ∀ x ∈ l, W64 x
 mem : ∀ x, W64 x -> (x ∈ l ↔ X x /\ ¬ Lf x)
theorem Came.start (X : Itm -> Prop) : Came X X [] := ⟨List.nodup_nil, fun x hx => (List.not_mem_nil hx).elim, fun x _ => ⟨fun h => (List.not_mem_nil h).elim, fun h => absurd h.1 h.2⟩⟩
theorem Came.step {X Lf : Itm -> Prop} {l : List Itm} {x : Itm} (h : Came X Lf l) (hx : W64 x) (hl : Lf x) (hX : X x) : Came X (fun y => Lf y /\ y ≠ x) (l ++ [x]) := by
 have hn : x ∉ l := fun k => ((h.mem x hx).1 k).2 hl
 refine ⟨List.nodup_append.2 ⟨h.nd, by simp, fun a ha b hb => ?_⟩, fun y hy => ?_, fun y hy => ?_⟩
 ·rw [List.mem_singleton] at hb
  subst hb
  exact fun e => hn (e ▸ ha)
 ·rcases List.mem_append.1 hy with k | k
  ·exact h.fit y k
  ·rw [List.mem_singleton] at k
   rw [k]
   exact hx
 ·rw [List.mem_append, List.mem_singleton, h.mem y hy]
  constructor
  ·rintro (⟨h1, h2⟩ | e)
   ·exact ⟨h1, fun k => h2 k.1⟩
   ·subst e
    exact ⟨hX, fun k => k.2 rfl⟩
  ·rintro ⟨h1, h2⟩
   by_cases e : y = x
   ·exact .inr e
   ·exact .inl ⟨h1, fun k => h2 ⟨k, e⟩⟩
structure All (X : Itm -> Prop) (l : List Itm) : Prop where
 nd : l.Nodup
 fit : ∀ x ∈ l, W64 x
 mem : ∀ x, W64 x -> (x ∈ l ↔ X x)
theorem Came.done {X Lf : Itm -> Prop} {l : List Itm} (h : Came X Lf l) (ho : Over Lf) : All X l :=
 ⟨h.nd, h.fit, fun x hx => (h.mem x hx).trans ⟨fun k => k.1, fun k => ⟨k, ho x hx⟩⟩⟩
theorem keys1_in (F : Fence) (n : Nat) (hf : F.fn 129) (hro : F.round = none) (hn : 1 <= n) (l Bm b nn : Nat) (X : Itm -> Prop) (J Jx : List Itm -> World -> Prop)
  (hY : ∀ pre x W, J pre W -> pre.length < nn -> YieldAt F (n - 1) Tryz.prog l #[iv x] W fun e W' => (e = .returned (.bool true) /\ J (pre ++ [x]) W' /\ KeepsWalks W W') \/ (e = .returned (.bool false) /\ Jx (pre ++ [x]) W'))
  (W : World) (hJ : AbidesFrom W.heap.size J) (hm : W.cell? ⟨Bm, 0, none⟩ = some (.map (some b))) (hs : MS b nn X W) (h0 : J [] W) :
  CallsIn F n Tryz.prog 129 #[.func (.yield l) #[] #[], .pointer (some ⟨Bm, 0, none⟩)] W fun e W' => (∃ v, e = .returned v) /\
   ((∃ ss, All X ss /\ J ss W') \/ (∃ pre, True /\ Jx pre W')) := by
 refine callsIn_of_wp Tryz.func129 rfl hf ?_ hro
 simp only [Tryz.ntmps129, List.size_toArray, List.length_cons, List.length_nil, Nat.reduceAdd, Nat.reduceSub, Array.replicate_succ, Array.replicate_zero, List.push_toArray, List.append_toArray, List.nil_append, List.cons_append]
 gi_wp2_with (first
  | (gi_at_range; refine zCB _ rfl _ rfl ktI Tryz.underlying149 (.agg []) b nn X rfl hs ?_; intro w0 hrg0 hg0 hs0)
  | gi_in)
 go_frame
 gi_loopw [3] (fun _ wr => ∃ (Lf : Itm -> Prop) (ss : List Itm), MR b W.heap.size nn ss.length X Lf wr /\ ss.length <= nn /\ Came X Lf ss /\ J ss wr)
  (fun _ wr => wr.rangeLeft b W.heap.size)
 case atStart =>
  exact ⟨X, [], hrg0, Nat.zero_le _, Came.start X, hJ [] W w0 none h0 hg0 (fun r e => by cases e)⟩
 case round =>
  obtain ⟨Lf, ss, hrg, hle, hC, hJs⟩ := hrel
  gi_wp2_with (first
   | (gi_at_next; refine zCb _ rfl _ rfl ktI b W.heap.size nn ss.length X Lf rfl hrg ?_ ?_)
   | gi_in)
  ·intro hd
   gi_wp2
   go_end0
   exact ⟨⟨_, rfl⟩, .inl ⟨ss, hC.done hd, hJs⟩⟩
  ·intro x0 x1 w2 hx hlf hXx hrg2 hlt hg2 hs2 hen
   have hJ2 : J ss w2 := hJ ss wr w2 (some W.heap.size) hJs hg2 (fun r e => by cases e; exact ⟨Nat.le_refl _, hrg.iter_walk⟩)
   have hlt2 : ss.length < nn := by
    obtain ⟨D, left, cnt, h1, h2, h3, h4⟩ := hrg2
    omega
   have hC2 := zPB (hC.step (x := (x0, x1)) hx hlf hXx)
   have hr3 := hrg2.went (Gr.boxed w2 (.cells #[.int .i64 x0, .int .i64 x1] 108))
   have hl3 : (w2.alloc (.cells #[.int .i64 x0, .int .i64 x1] 108)).rangeLeft b W.heap.size = w2.rangeLeft b W.heap.size := MRan.left_keep ((Gr.boxed w2 _).block b hrg2.lt.1) ((Gr.boxed w2 _).block _ hrg2.lt.2.1)
   have hJ3 : J ss (w2.alloc (.cells #[.int .i64 x0, .int .i64 x1] 108)) := hJ ss w2 _ none hJ2 (World.grownBy_alloc _ _ _) (fun r e => by cases e)
   have y0 : (w2.alloc (.cells #[.int .i64 x0, .int .i64 x1] 108)).cell? ⟨w2.heap.size, 0, none⟩ = some (.int .i64 x0) := Gr.zAB rfl rfl
   have y1 : (w2.alloc (.cells #[.int .i64 x0, .int .i64 x1] 108)).cell? ⟨w2.heap.size, 1, none⟩ = some (.int .i64 x1) := Gr.zAB rfl rfl
   obtain ⟨fn, tmps, assign, body, hy, hR⟩ := hY ss (x0, x1) _ hJ3 hlt2
   unfold iv at hen hy ⊢
   dsimp only at hen hy ⊢
   clear hs2 hJ2 hJs hrg hC hJ
   gi_wp2
   refine hR.mono ?_
   rintro e W3 (⟨rfl, hJ4, hk4⟩ | ⟨rfl, hJx4⟩)
   ·obtain ⟨hr4, hl4⟩ := hr3.walks hk4
    gi_wp2
    go_roundw
    case rel => exact ⟨_, ss ++ [(x0, x1)], by simpa using hr4, by simp; omega, hC2.out, hJ4⟩
    case measure => rw [hl4, hl3]; exact hlt
   ·gi_wp2
    refine bodyPost_ret (results_none rfl _ _ _) rfl ?_
    exact ⟨⟨_, rfl⟩, .inr ⟨_, trivial, hJx4⟩⟩
theorem keys_stops (F : Fence) (n : Nat) (hf : F.fn 129) (hro : F.round = none) (hn : 1 <= n) (Bm b nn : Nat) (X : Itm -> Prop) (w : World) (hBm : Bm < w.heap.size) (hm : w.cell? ⟨Bm, 0, none⟩ = some (.map (some b))) (hs : MS b nn X w) :
  SeqStopsK F n Tryz.prog 129 #[.pointer (some ⟨Bm, 0, none⟩)] (fun x : Itm => #[iv x]) KeepsWalks (All X) (fun _ => True) nn w := fun l J Jx W hW hJ _ hY h0 =>
 keys1_in F n hf hro hn l Bm b nn X J Jx hY W hJ ((hW.cell (p := ⟨Bm, 0, none⟩) hBm).trans hm) (hs.went hW) h0
