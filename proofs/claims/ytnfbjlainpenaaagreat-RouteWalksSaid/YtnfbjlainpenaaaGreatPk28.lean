/- A part of the proof. -/
import Derived.Test.YtnfbjlainpenaaaGreatPk19
import Derived.Test.YtnfbjlainpenaaaGreatPk27
import Derived.Test.YtnfbjlainpenaaaGreatPk14
import Derived.DeepKeys4
set_option maxHeartbeats 2000000
set_option maxRecDepth 100000
set_option linter.unusedVariables false
namespace Go.Proofs.YtnfbjlainpenaaaGreat
open Go.RowKit Go.Maps
namespace Au
open Gr (boxed zAB step)
open Im
theorem zBZ {w w' : World} {row : Option Nat} {m : Nat} (hg : w.grownBy w' row) (hm : m <= w.heap.size) (hr : ∀ k, row = some k -> m <= k) : Below m w w' :=
 ⟨hg.os, hg.tape, hg.output, hg.size, fun i hi => hg.block i (by omega) fun e => by have := hr i e.symm; omega⟩
theorem zFw (x : Itm) : ∀ u ∈ ic x, u.oneCell' = true := fun u hu => by
 simp only [ic, List.mem_cons, List.not_mem_nil, or_false] at hu
 rcases hu with rfl | rfl <;> rfl
theorem zLl {T : TypeId} {base : Nat} {X : List Itm} {v : Value} {w : World} (h : ItsV T base X v w) : ∀ k, v.ownBlock = some k -> base <= k := fun k hk => (World.ownsRow.lt h k hk).1
def bvs (xs : List Int) : List Value := xs.map (.int .u8)
theorem zGm (xs ys : List Int) : bvs (xs ++ ys) = bvs xs ++ bvs ys := by simp [bvs]
theorem zII : (Tryz.prog.info? 5).map (fun i => (i.zero, i.size, i.bytes)) = some (some (.int .u8 0), 1, 1) := by kernel_rfl
def zCR (base : Nat) (xs : List Int) (v : Value) (w : World) : Prop := w.ownsRow base 5 1 v xs.length (bvs xs)
theorem zCR.went {base : Nat} {X : List Int} {v : Value} {w w' : World} (h : zCR base X v w) (hb : Below w.heap.size w w') : zCR base X v w' := Sep.zAG h fun g hg => hb.block g (h.lt g hg).2
theorem zCR.nil (base : Nat) (w : World) : zCR base [] (.slice none 0 0) w := World.ownsRow_nil _ _ _ _
theorem zCR.shape {base : Nat} {X : List Int} {v : Value} {w : World} (h : zCR base X v w) : ∃ a c, v = .slice a X.length c := by
 obtain ⟨a, c, e⟩ := Sep.zAX h
 exact ⟨a, c, e⟩
theorem zCR.text {base : Nat} {X : List Int} {a : Option Addr} {c : Nat} {w : World} (h : zCR base X (.slice a X.length c) w) :
  (convert 135 9 (.slice a X.length c)).run Tryz.prog w = .ok (.string (strOfNums X)) w := by
 rcases h.2 with ⟨e1, h0⟩ | ⟨g, cap, cur, he, _⟩
 ·have e : X = [] := List.eq_nil_of_length_eq_zero h0
  subst e
  simp only [Value.slice.injEq] at e1
  obtain ⟨rfl, _, rfl⟩ := e1
  exact run_convert_bytes_nil w 135 5 Tryz.underlying135 Tryz.underlying5 _ _ 9 Tryz.underlying9
 ·simp only [Value.slice.injEq] at he
  obtain ⟨rfl, _, _⟩ := he
  have hc := World.ownsRow.cells h (g := g) rfl
  refine run_convert_bytes_arg w 135 5 Tryz.underlying135 Tryz.underlying5 g 0 X.length c X rfl (fun i hi => ?_) 9 Tryz.underlying9
  have := hc i (.int .u8 (X.getD i 0)) (by simp [bvs, hi])
  rwa [WideShapes.add_plain] at this
theorem zJT (w : World) (n : Nat) (hn : n = w.heap.size) (x y z : Value) (t : TypeId) : ∀ j u, [x, y, z][j]? = some u -> (w.alloc (.cells #[x, y, z] t)).cell? ((⟨n, 0, none⟩ : Addr).add j) = some u := by
 intro j u hj
 subst hn
 rw [WideShapes.add_plain]
 match j, hj with
 | 0, hj => exact zAB rfl (by simpa using hj)
 | 1, hj => exact zAB rfl (by simpa using hj)
 | 2, hj => exact zAB rfl (by simpa using hj)
theorem zCR.more {base : Nat} {L : List Itm} {v : Value} {w : World} {k : Nat} (hk : k < L.length) {p q r : Int} (e : [p, q, r] = kb L[k]) {n : Nat} (hn : n = (keyL (L.take k)).length + 3) (h : w.ownsRow base 5 1 v n (bvs (keyL (L.take k)) ++ [.int .u8 p, .int .u8 q, .int .u8 r])) : zCR base (keyL (L.take (k + 1))) v w := by
 subst hn
 have ht : keyL (L.take (k + 1)) = keyL (L.take k) ++ [p, q, r] := by
  rw [List.take_succ_eq_append_getElem hk, zIT, e]
 unfold zCR
 rw [ht, zGm, List.length_append]
 exact h
theorem zLo (L : List Itm) (a : Option Addr) (c : Nat) (w : World) (kl : ItsA a L w) (hf : Fit3 L) (hL : L.length <= 1000000) :
  Calls Tryz.prog 66 #[.slice a L.length c] w (Gr.Is (.string (keyB L)) w) := by
 obtain ⟨i0, hi, hz0, hz1, hz2⟩ := info_parts zII
 have KL := zNR (fun w1 (b : Below w.heap.size w w1) => kl.went b)
 have HF := zNR hf
 have B0 := zNR (zCR.nil w.heap.size w)
 clear kl hf
 go_enter Tryz.func66, Tryz.ntmps66
 go_wp2
 go_loopw [3, 8] (fun v i wr => ∃ j : Nat, j <= L.length /\ i = .int .i64 j /\ zCR w.heap.size (keyL (L.take j)) v wr /\ Below w.heap.size w wr) (fun _ i _ => L.length - (intOf i).toNat)
 case atStart => exact ⟨0, Nat.zero_le _, rfl, B0.out, .refl _ _⟩
 case round =>
  obtain ⟨j, hj, rfl, hB, hW⟩ := hrel
  obtain ⟨av, cv, rfl⟩ := hB.shape
  clear B0
  by_cases hlt : j < L.length
  ·obtain ⟨b, o, rfl, c0, c1⟩ := (KL.out wr hW).at j hlt
   have hx := HF.out _ (List.getElem_mem hlt)
   have HM := zNR (fun (v : Value) (w' : World) (n : Nat) (p q r : Int) e hn h => zCR.more (base := w.heap.size) (v := v) (w := w') hlt (p := p) (q := q) (r := r) (n := n) e hn h)
   have hl : (keyL (L.take j)).length <= 3000000 := by
    rw [zCl, List.length_take]
    omega
   have B := zNR hB
   have W := zNR hW
   clear hB hW
   have e1 : ((L[j].1, L[j].2) : Itm) = L[j] := rfl
   generalize L[j] = x at *
   obtain ⟨x0, x1⟩ := x
   dsimp only at c0 c1 hx
   clear e1
   generalize keyL (L.take j) = X at B HM hl
   have hk : [x0 % 256, x0 / 256, x1] = kb (x0, x1) := by
    unfold kb
    dsimp only
    rw [show x0 / 256 % 256 = x0 / 256 by omega, show x1 % 256 = x1 by omega]
   have hs0 : (wr.alloc (.cells #[.int .i64 x0, .int .i64 x1] 108)).heap.size = wr.heap.size + 1 := by simp
   have HB2 := zNR (Gr.step W.out (Gr.step (boxed wr (.cells #[.int .i64 x0, .int .i64 x1] 108)) (boxed _ (.cells #[.int .u8 (x0 % 256), .int .u8 (x0 / 256), .int .u8 x1] 5))))
   have RB := zNR (B.out.went (Gr.step (boxed wr (.cells #[.int .i64 x0, .int .i64 x1] 108)) (boxed _ (.cells #[.int .u8 (x0 % 256), .int .u8 (x0 / 256), .int .u8 x1] 5))))
   have NW := zNR (zJT (wr.alloc (.cells #[.int .i64 x0, .int .i64 x1] 108)) (wr.heap.size + 1) hs0.symm (.int .u8 (x0 % 256)) (.int .u8 (x0 / 256)) (.int .u8 x1) 5)
   have hsz := HB2.out.size
   have hbl : ∀ g, (Value.slice av X.length cv).ownBlock = some g -> w.heap.size <= g := fun g hg => (World.ownsRow.lt B.out g hg).1
   have HBL := zNR hbl
   clear hbl B W
   go_wp2_with (at_builtin; refine wpList_append_own_at _ rfl _ _ 135 rfl w.heap.size 5 i0 (.int .u8 0) 1 1 Tryz.underlying135 hi hz0 hz1 hz2 rfl (by decide) _ _ _ rfl RB.out ⟨wr.heap.size + 1, 0, none⟩ 3 3 [.int .u8 (x0 % 256), .int .u8 (x0 / 256), .int .u8 x1] rfl rfl NW.out (by simp [Value.oneCell']) (by unfold maxLen; omega) (by omega) hsz ?_; intro v' w' hown hg _ _; have HO := zNR hown; have HG := zNR (HB2.out.trans (zBZ hg hsz HBL.out)); clear hown hg)
   go_roundw
   case rel => exact ⟨j + 1, by omega, by go_num, HM.out _ _ _ _ _ _ hk rfl HO.out, HG.out⟩
   case measure => simp [intOf]; omega
  ·have hE : j = L.length := by omega
   subst hE
   rw [List.take_length] at hB
   rw [List.take_length]
   have T := hB.text
   have HK := zNR (show strOfNums (keyL L) = keyB L from rfl)
   generalize keyL L = X at *
   generalize strOfNums X = s at *
   go_wp2
   have e := HK.out
   subst e
   go_ret
   exact ⟨rfl, hW⟩
end Au
namespace Im
open Gr (Gram Sh gv GAt Bx boxed zAQ zAJ zCA zAB zAF cell_later zAA)
theorem zNL : laidOutB Tryz.prog = true := by kernel_rfl
theorem rowI : 108 < Tryz.prog.types.size := of_decide_eq_true (by kernel_rfl)
theorem lawI : Keyed Tryz.prog 108 := .of_law (deep_law_laid zNL (m := 2) (by omega) rowI (by kernel_rfl) (by rw [Tryz.underlying108]))
theorem ktI : Kt Tryz.prog 108 :=
 zNJ _ _ lawI Tryz.underlying108 Tryz.underlying3 Tryz.underlying3 (by kernel_rfl) (by kernel_rfl) (by kernel_rfl) (by kernel_rfl) rfl rfl (by decide) (by decide) (Tryz.prog.types.size - 1) (by have := rowI; omega)
theorem zM6 (w : World) : (zeroValue 166).run Tryz.prog w = .ok (.agg #[]) w := by kernel_rfl
abbrev MS (b n : Nat) (X : Itm -> Prop) (w : World) : Prop := MSet (H := Nat) Tryz.prog 108 unitElem (.agg []) b n X w
abbrev MR (b r n q : Nat) (X Lf : Itm -> Prop) (w : World) : Prop := MRan (H := Nat) Tryz.prog 108 unitElem (.agg []) b r n q X Lf w
structure Bi (W : World) (h : Sh) (G : Gram) (x : Itm) (w : World) : Prop where
 bx : Bx W h G w
 i0 : w.cell? ⟨W.heap.size + 1, 0, none⟩ = some (.int .i64 x.1)
 i1 : w.cell? ⟨W.heap.size + 1, 1, none⟩ = some (.int .i64 x.2)
theorem Bi.start (h : Sh) (G : Gram) (x : Itm) (w : World) (T U : TypeId) : Bi w h G x ((w.alloc (.cells #[.slice h.a1 G.terms.length h.c1, .slice h.a2 G.nons.length h.c2, .slice h.a3 G.rules.length h.c3, .int .i64 G.start] T)).alloc (.cells #[.int .i64 x.1, .int .i64 x.2] U)) :=
 ⟨(Bx.start h G w T).alloc _, zAB (by simp) rfl, zAB (by simp) rfl⟩
theorem Bi.went {W : World} {h : Sh} {G : Gram} {x : Itm} {w w' : World} (k : Bi W h G x w) (hb : Below w.heap.size w w') : Bi W h G x w' := ⟨k.bx.went hb, cell_later hb k.i0, cell_later hb k.i1⟩
theorem Bi.alloc {W : World} {h : Sh} {G : Gram} {x : Itm} {w : World} (k : Bi W h G x w) (o : Obj) : Bi W h G x (w.alloc o) := k.went (boxed _ _)
theorem Bi.below {W : World} {h : Sh} {G : Gram} {x : Itm} {w : World} (k : Bi W h G x w) : Below W.heap.size W w := k.bx.below
theorem zDr (h : Sh) (G : Gram) (w : World) (k : GAt h G w) :
  Calls Tryz.prog 67 #[gv h G] w (Gr.Is (.int .i64 (G.rules.length : Int)) w) := by
 have t := k.r2
 clear k
 unfold gv
 go_enter Tryz.func67, Tryz.ntmps67
 go_wp2
 go_ret
 exact ⟨rfl, boxed _ _⟩
theorem zEG {G : Gram} {x : Itm} : zAC G x = (zAQ G x.1 && decide (0 <= x.2) && decide (x.2 <= ((zAJ G x.1).2.length : Int))) := by
 unfold zAC rlen
 rw [Bool.and_assoc]
 congr 1
 rw [Bool.eq_iff_iff]
 simp
theorem zJw (h : Sh) (G : Gram) (x : Itm) (w : World) (k : GAt h G w) :
  Calls Tryz.prog 120 #[gv h G, iv x] w (Gr.Is (.bool (zAC G x)) w) := by
 have R := zNR (fun w1 (b : Below w.heap.size w w1) => zCA h G x.1 w1 (k.went b))
 clear k
 rw [zEG]
 obtain ⟨xr, xd⟩ := x
 generalize zAJ G (xr, xd).1 = r at R ⊢
 generalize zAQ G (xr, xd).1 = rb at R ⊢
 have X := zNR (Bi.start h G (xr, xd) w 25 108)
 unfold gv iv
 dsimp only at R X ⊢
 go_enter Tryz.func120, Tryz.ntmps120
 go_wp2_with (go_at_call 95; refine (R.out _ X.out.below).mono ?_; rintro e w1 ⟨a, c, rfl, hr, hb⟩; have X := zNR ((X.out.went hb).alloc (.cells #[.int .i64 r.1, .slice a r.2.length c] 59)); have HR := zNR hr; have y0 := X.out.i0; have y1 := X.out.i1; clear hb hr)
 all_goals
  go_ret
  exact ⟨zAA (by first | (simp_all; done) | (simp_all; omega)), X.out.below⟩
def zG4 (G : Gram) (x : Itm) : Bool := decide (0 <= x.2 /\ x.2 < ((zAJ G x.1).2.length : Int))
def zKP (G : Gram) (x : Itm) : Int := if zG4 G x then (zAJ G x.1).2.getD x.2.toNat 0 else 0
theorem zLy {G : Gram} {x : Itm} (h : zAC G x = true) : zG4 G x = behB G x /\ zKP G x = behV G x := by
 have e : zG4 G x = behB G x := by
  have := zAU.1 h
  rw [Bool.eq_iff_iff, zBW]
  unfold zG4
  rw [decide_eq_true_iff]
  exact ⟨fun k => ⟨h, k.2⟩, fun k => ⟨this.2.1, k.2⟩⟩
 exact ⟨e, by unfold zKP behV; rw [e]⟩
theorem zGk (h : Sh) (G : Gram) (x : Itm) (w : World) (k : GAt h G w) :
  Calls Tryz.prog 122 #[gv h G, iv x] w (Gr.Is (.tuple #[.int .i64 (zKP G x), .bool (zG4 G x)]) w) := by
 have R := zNR (fun w1 (b : Below w.heap.size w w1) => zCA h G x.1 w1 (k.went b))
 clear k
 unfold zKP zG4
 obtain ⟨xr, xd⟩ := x
 generalize zAJ G (xr, xd).1 = r at R ⊢
 generalize zAQ G (xr, xd).1 = rb at R ⊢
 have X := zNR (Bi.start h G (xr, xd) w 25 108)
 unfold gv iv
 dsimp only at R X ⊢
 by_cases h1 : 0 <= xd /\ xd < (r.2.length : Int)
 ·obtain ⟨j, rfl⟩ := Int.eq_ofNat_of_zero_le h1.1
  have hj : j < r.2.length := by omega
  have e1 : decide (0 <= (j : Int) /\ (j : Int) < (r.2.length : Int)) = true := decide_eq_true h1
  rw [e1, if_pos rfl, show r.2.getD (Int.toNat (j : Int)) 0 = r.2[j] by simp [hj]]
  clear e1
  go_enter Tryz.func122, Tryz.ntmps122
  go_wp2_with (go_at_call 95; refine (R.out _ X.out.below).mono ?_; rintro e w1 ⟨a, c, rfl, hr, hb⟩; have X := zNR ((X.out.went hb).alloc (.cells #[.int .i64 r.1, .slice a r.2.length c] 59)); have HR := zNR hr; have y0 := X.out.i0; have y1 := X.out.i1; obtain ⟨b2, o2, e2, z⟩ := hr j (by simpa [Gr.ivs] using hj); subst e2; have z := zAF (o := .cells #[.int .i64 r.1, .slice (some ⟨b2, o2, none⟩) r.2.length c] 59) z; clear hb hr)
  go_ret2
  exact ⟨by simp [Gr.ivs, Gr.iv], X.out.below⟩
 ·have e1 : decide (0 <= xd /\ xd < (r.2.length : Int)) = false := decide_eq_false h1
  rw [e1]
  by_cases h2 : xd < 0
  ·clear h1 e1
   go_enter Tryz.func122, Tryz.ntmps122
   go_wp2_with (go_at_call 95; refine (R.out _ X.out.below).mono ?_; rintro e w1 ⟨a, c, rfl, hr, hb⟩; have X := zNR ((X.out.went hb).alloc (.cells #[.int .i64 r.1, .slice a r.2.length c] 59)); have y0 := X.out.i0; have y1 := X.out.i1; clear hb hr)
   all_goals
    go_ret2
    exact ⟨rfl, X.out.below⟩
  ·have h3 : (r.2.length : Int) <= xd := by omega
   have h4 : 0 <= xd := by omega
   clear h1 e1
   go_enter Tryz.func122, Tryz.ntmps122
   go_wp2_with (go_at_call 95; refine (R.out _ X.out.below).mono ?_; rintro e w1 ⟨a, c, rfl, hr, hb⟩; have X := zNR ((X.out.went hb).alloc (.cells #[.int .i64 r.1, .slice a r.2.length c] 59)); have y0 := X.out.i0; have y1 := X.out.i1; clear hb hr)
   all_goals
    go_ret2
    exact ⟨rfl, X.out.below⟩
theorem zE2 {w w' : World} {b : Nat} (h : w.mapTurned w' b) : Sep.Fr (· = b) w w' := by
 obtain ⟨es, c, es', c', h1, rfl⟩ := h
 exact ⟨rfl, rfl, rfl, by simp [ChangeMaps.setBlock], fun k _ hk => ChangeMaps.heap_setBlock_other h1 _ hk⟩
theorem zFY (x : Itm) (hx : W64 x) (b n : Nat) (Y : Itm -> Prop) (w : World) (hs : MS b n Y w) (hn : n < maxLen) :
  Calls Tryz.prog 121 #[.map (some b), iv x] w fun e w' => ∃ c : Bool, (c = true ↔ ¬ Y x) /\ e = .returned (.bool c) /\ MS b (n + 1) (fun y => Y y \/ y = x) w' /\ Sep.Fr (· = b) w w' := by
 have S := zNR (fun w1 (k : Below w.heap.size w w1) => hs.went k)
 clear hs
 have z0 := zM6
 unfold iv
 go_enter Tryz.func121, Tryz.ntmps121
 go_wp2_with (first
  | (at_lookup; refine zCX rfl fun K' hK' => zE5 _ _ _ rfl ktI Tryz.underlying149 (zM6 _) b n Y rfl (S.out _ (boxed _ _)) x rfl hx fun c hc => hK' _ _ ?_)
  | (at_mapUpdate; refine zCX rfl fun K' hK' => zFm _ _ _ _ rfl ktI Tryz.underlying149 (.agg []) b n Y rfl (S.out _ ((boxed _ _).trans ((boxed _ _).mono (by simp)))) hn x rfl hx [] unitElem_mk fun w2 m1 m2 => hK' _ _ ?_; have M1 := zNR m1; have M2 := zNR m2; clear m1 m2))
 ·have hct : c = true := by assumption
  go_ret
  refine ⟨false, ⟨fun e => Bool.noConfusion e, fun e => absurd (hc.1 hct) e⟩, rfl, ((S.out _ ((boxed _ _).trans ((boxed _ _).mono (by simp)))).mono (Nat.le_succ n)).iff fun y _ => ?_, .of_below ((boxed _ _).trans ((boxed _ _).mono (by simp)))⟩
  exact ⟨.inl, fun e => e.elim id fun e => e ▸ hc.1 hct⟩
 ·go_ret
  refine ⟨true, ⟨fun _ e => ?_, fun _ => rfl⟩, rfl, M1.out, ?_⟩
  ·have q := hc.2 e
   simp_all
  ·exact (Sep.Fr.of_below ((boxed _ _).trans ((boxed _ _).mono (by simp)))).trans (zE2 M2.out) (.refl _ _)
