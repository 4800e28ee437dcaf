/- A part of the proof. -/
import Derived.DeepKeys4
import Derived.Test.YtbajcecncgdpmaaGreatDoorPk07
import Derived.Test.YtbajcecncgdpmaaGreatDoorPk15
import Derived.Laws.BytesArg
set_option maxHeartbeats 2000000
set_option maxRecDepth 100000
set_option linter.unusedVariables false
namespace Go.Proofs.YtbajcecncgdpmaaGreatDoor
namespace Im
open Go.RowKit Go.Maps
open Gr (Gram Sh gv GAt Bx boxed zAN zAB zC3 zAA zAJ cell_later zAD)
theorem zSf : laidOutB Tryz.prog = true := by kernel_rfl
theorem rowI : 57 < Tryz.prog.types.size := of_decide_eq_true (by kernel_rfl)
theorem lawI : Keyed Tryz.prog 57 := .of_law (deep_law_laid zSf (m := 2) (by omega) rowI (by kernel_rfl) (by rw [Tryz.underlying57]))
theorem ktI : Kt Tryz.prog 57 :=
 zSd _ _ lawI Tryz.underlying57 Tryz.underlying3 Tryz.underlying3 (by kernel_rfl) (by kernel_rfl) (by kernel_rfl) (by kernel_rfl) rfl rfl (by decide) (by decide) (Tryz.prog.types.size - 1) (by have := rowI; omega)
theorem zR5 (w : World) : (zeroValue 212).run Tryz.prog w = .ok (.agg #[]) w := by kernel_rfl
abbrev MS (b n : Nat) (X : Itm -> Prop) (w : World) : Prop := MSet (H := Nat) Tryz.prog 57 unitElem (.agg []) b n X w
abbrev MR (b r n q : Nat) (X Lf : Itm -> Prop) (w : World) : Prop := MRan (H := Nat) Tryz.prog 57 unitElem (.agg []) b r n q X Lf w
structure Bi (W : World) (h : Sh) (G : Gram) (x : Itm) (w : World) : Prop where
 bx : Bx W h G w
 i0 : w.cell? ⟨W.heap.size + 1, 0, none⟩ = some (.int .i64 x.1)
 i1 : w.cell? ⟨W.heap.size + 1, 1, none⟩ = some (.int .i64 x.2)
theorem Bi.start (h : Sh) (G : Gram) (x : Itm) (w : World) (T U : TypeId) : Bi w h G x ((w.alloc (.cells #[.slice h.a1 G.terms.length h.c1, .slice h.a2 G.nons.length h.c2, .slice h.a3 G.rules.length h.c3, .int .i64 G.start] T)).alloc (.cells #[.int .i64 x.1, .int .i64 x.2] U)) :=
 ⟨(Bx.start h G w T).alloc _, zAA (by simp) rfl, zAA (by simp) rfl⟩
theorem Bi.went {W : World} {h : Sh} {G : Gram} {x : Itm} {w w' : World} (k : Bi W h G x w) (hb : Below w.heap.size w w') : Bi W h G x w' := ⟨k.bx.went hb, cell_later hb k.i0, cell_later hb k.i1⟩
theorem Bi.alloc {W : World} {h : Sh} {G : Gram} {x : Itm} {w : World} (k : Bi W h G x w) (o : Obj) : Bi W h G x (w.alloc o) := k.went (boxed _ _)
theorem Bi.below {W : World} {h : Sh} {G : Gram} {x : Itm} {w : World} (k : Bi W h G x w) : Below W.heap.size W w := k.bx.below
theorem zFJ (h : Sh) (G : Gram) (w : World) (k : GAt h G w) :
  Calls Tryz.prog 60 #[gv h G] w (Gr.Is (.int .i64 (G.rules.length : Int)) w) := by
 have t := k.r2
 clear k
 unfold gv
 go_enter Tryz.func60, Tryz.ntmps60
 go_wp2
 go_ret
 exact ⟨rfl, boxed _ _⟩
theorem zFp {G : Gram} {x : Itm} : zAG G x = (zAN G x.1 && decide (0 <= x.2) && decide (x.2 <= ((zAB G x.1).2.length : Int))) := by
 unfold zAG rlen
 rw [Bool.and_assoc]
 congr 1
 rw [Bool.eq_iff_iff]
 simp
theorem zDY (h : Sh) (G : Gram) (x : Itm) (w : World) (k : GAt h G w) :
  Calls Tryz.prog 169 #[gv h G, iv x] w (Gr.Is (.bool (zAG G x)) w) := by
 have R := zSt (fun w1 (b : Below w.heap.size w w1) => zC3 h G x.1 w1 (k.went b))
 clear k
 rw [zFp]
 obtain ⟨xr, xd⟩ := x
 generalize zAB G (xr, xd).1 = r at R ⊢
 generalize zAN G (xr, xd).1 = rb at R ⊢
 have X := zSt (Bi.start h G (xr, xd) w 25 57)
 unfold gv iv
 dsimp only at R X ⊢
 go_enter Tryz.func169, Tryz.ntmps169
 go_wp2_with (go_at_call 53; refine (R.out _ X.out.below).mono ?_; rintro e w1 ⟨a, c, rfl, hr, hb⟩; have X := zSt ((X.out.went hb).alloc (.cells #[.int .i64 r.1, .slice a r.2.length c] 41)); have HR := zSt hr; have y0 := X.out.i0; have y1 := X.out.i1; clear hb hr)
 all_goals
  go_ret
  exact ⟨zAD (by first | (simp_all; done) | (simp_all; omega)), X.out.below⟩
def zJJ (G : Gram) (x : Itm) : Bool := decide (0 <= x.2 /\ x.2 < ((zAB G x.1).2.length : Int))
def zNt (G : Gram) (x : Itm) : Int := if zJJ G x then (zAB G x.1).2.getD x.2.toNat 0 else 0
theorem zQH {G : Gram} {x : Itm} (h : zAG G x = true) : zJJ G x = behB G x /\ zNt G x = behV G x := by
 have e : zJJ G x = behB G x := by
  have := zAK.1 h
  rw [Bool.eq_iff_iff, zAa]
  unfold zJJ
  rw [decide_eq_true_iff]
  exact ⟨fun k => ⟨h, k.2⟩, fun k => ⟨this.2.1, k.2⟩⟩
 exact ⟨e, by unfold zNt behV; rw [e]⟩
theorem zIs (h : Sh) (G : Gram) (x : Itm) (w : World) (k : GAt h G w) :
  Calls Tryz.prog 171 #[gv h G, iv x] w (Gr.Is (.tuple #[.int .i64 (zNt G x), .bool (zJJ G x)]) w) := by
 have R := zSt (fun w1 (b : Below w.heap.size w w1) => zC3 h G x.1 w1 (k.went b))
 clear k
 unfold zNt zJJ
 obtain ⟨xr, xd⟩ := x
 generalize zAB G (xr, xd).1 = r at R ⊢
 generalize zAN G (xr, xd).1 = rb at R ⊢
 have X := zSt (Bi.start h G (xr, xd) w 25 57)
 unfold gv iv
 dsimp only at R X ⊢
 by_cases h1 : 0 <= xd /\ xd < (r.2.length : Int)
 ·obtain ⟨j, rfl⟩ := Int.eq_ofNat_of_zero_le h1.1
  have hj : j < r.2.length := by omega
  have e1 : decide (0 <= (j : Int) /\ (j : Int) < (r.2.length : Int)) = true := decide_eq_true h1
  rw [e1, if_pos rfl, show r.2.getD (Int.toNat (j : Int)) 0 = r.2[j] by simp [hj]]
  clear e1
  go_enter Tryz.func171, Tryz.ntmps171
  go_wp2_with (go_at_call 53; refine (R.out _ X.out.below).mono ?_; rintro e w1 ⟨a, c, rfl, hr, hb⟩; have X := zSt ((X.out.went hb).alloc (.cells #[.int .i64 r.1, .slice a r.2.length c] 41)); have HR := zSt hr; have y0 := X.out.i0; have y1 := X.out.i1; obtain ⟨b2, o2, e2, z⟩ := hr j (by simpa [Gr.ivs] using hj); subst e2; have z := zAJ (o := .cells #[.int .i64 r.1, .slice (some ⟨b2, o2, none⟩) r.2.length c] 41) z; clear hb hr)
  go_ret2
  exact ⟨by simp [Gr.ivs, Gr.iv], X.out.below⟩
 ·have e1 : decide (0 <= xd /\ xd < (r.2.length : Int)) = false := decide_eq_false h1
  rw [e1]
  by_cases h2 : xd < 0
  ·clear h1 e1
   go_enter Tryz.func171, Tryz.ntmps171
   go_wp2_with (go_at_call 53; refine (R.out _ X.out.below).mono ?_; rintro e w1 ⟨a, c, rfl, hr, hb⟩; have X := zSt ((X.out.went hb).alloc (.cells #[.int .i64 r.1, .slice a r.2.length c] 41)); have y0 := X.out.i0; have y1 := X.out.i1; clear hb hr)
   all_goals
    go_ret2
    exact ⟨rfl, X.out.below⟩
  ·have h3 : (r.2.length : Int) <= xd := by omega
   have h4 : 0 <= xd := by omega
   clear h1 e1
   go_enter Tryz.func171, Tryz.ntmps171
   go_wp2_with (go_at_call 53; refine (R.out _ X.out.below).mono ?_; rintro e w1 ⟨a, c, rfl, hr, hb⟩; have X := zSt ((X.out.went hb).alloc (.cells #[.int .i64 r.1, .slice a r.2.length c] 41)); have y0 := X.out.i0; have y1 := X.out.i1; clear hb hr)
   all_goals
    go_ret2
    exact ⟨rfl, X.out.below⟩
theorem zBV {w w' : World} {b : Nat} (h : w.mapTurned w' b) : Sep.Fr (· = b) w w' := by
 obtain ⟨es, c, es', c', h1, rfl⟩ := h
 exact ⟨rfl, rfl, rfl, by simp [ChangeMaps.setBlock], fun k _ hk => ChangeMaps.heap_setBlock_other h1 _ hk⟩
theorem zCC (x : Itm) (hx : W64 x) (b n : Nat) (Y : Itm -> Prop) (w : World) (hs : MS b n Y w) (hn : n < maxLen) :
  Calls Tryz.prog 170 #[.map (some b), iv x] w fun e w' => ∃ c : Bool, (c = true ↔ ¬ Y x) /\ e = .returned (.bool c) /\ MS b (n + 1) (fun y => Y y \/ y = x) w' /\ Sep.Fr (· = b) w w' := by
 have S := zSt (fun w1 (k : Below w.heap.size w w1) => hs.went k)
 clear hs
 have z0 := zR5
 unfold iv
 go_enter Tryz.func170, Tryz.ntmps170
 go_wp2_with (first
  | (at_lookup; refine zDU rfl fun K' hK' => zGy _ _ _ rfl ktI Tryz.underlying190 (zR5 _) b n Y rfl (S.out _ (boxed _ _)) x rfl hx fun c hc => hK' _ _ ?_)
  | (at_mapUpdate; refine zDU rfl fun K' hK' => zHx _ _ _ _ rfl ktI Tryz.underlying190 (.agg []) b n Y rfl (S.out _ ((boxed _ _).trans ((boxed _ _).mono (by simp)))) hn x rfl hx [] unitElem_mk fun w2 m1 m2 => hK' _ _ ?_; have M1 := zSt m1; have M2 := zSt m2; clear m1 m2))
 ·have hct : c = true := by assumption
  go_ret
  refine ⟨false, ⟨fun e => Bool.noConfusion e, fun e => absurd (hc.1 hct) e⟩, rfl, ((S.out _ ((boxed _ _).trans ((boxed _ _).mono (by simp)))).mono (Nat.le_succ n)).iff fun y _ => ?_, .of_below ((boxed _ _).trans ((boxed _ _).mono (by simp)))⟩
  exact ⟨.inl, fun e => e.elim id fun e => e ▸ hc.1 hct⟩
 ·go_ret
  refine ⟨true, ⟨fun _ e => ?_, fun _ => rfl⟩, rfl, M1.out, ?_⟩
  ·have q := hc.2 e
   simp_all
  ·exact (Sep.Fr.of_below ((boxed _ _).trans ((boxed _ _).mono (by simp)))).trans (zBV M2.out) (.refl _ _)
end Im
namespace Au
open Gr (Gram checkN zAB zAN top)
open Im
open It (isIn num zBF zIR)
def kb (x : Itm) : List Int := [x.1 % 256, x.1 / 256 % 256, x.2 % 256]
def keyL (L : List Itm) : List Int := L.flatMap kb
def keyB (L : List Itm) : ByteArray := strOfNums (keyL L)
def Fit3 (L : List Itm) : Prop := ∀ x ∈ L, (0 <= x.1 /\ x.1 < 65536) /\ 0 <= x.2 /\ x.2 < 256
theorem zD3 (x : Itm) : (kb x).length = 3 := rfl
theorem zD4 (L : List Itm) : (keyL L).length = L.length * 3 := by
 unfold keyL
 induction L with
 | nil => rfl
 | cons x L ih =>
  rw [List.flatMap_cons, List.length_append, ih, zD3, List.length_cons]
  omega
theorem zLD (L : List Itm) (x : Itm) : keyL (L ++ [x]) = keyL L ++ kb x := by simp [keyL]
theorem zGa (L : List Itm) : ∀ n ∈ keyL L, 0 <= n /\ n < 256 := fun n hn => by
 unfold keyL at hn
 rw [List.mem_flatMap] at hn
 obtain ⟨x, _, h⟩ := hn
 simp only [kb, List.mem_cons, List.not_mem_nil, or_false] at h
 rcases h with rfl | rfl | rfl <;> omega
theorem zRa {x y : Itm} (hx : (0 <= x.1 /\ x.1 < 65536) /\ 0 <= x.2 /\ x.2 < 256) (hy : (0 <= y.1 /\ y.1 < 65536) /\ 0 <= y.2 /\ y.2 < 256) (h : kb x = kb y) : x = y := by
 simp only [kb, List.cons.injEq, and_true] at h
 obtain ⟨x1, x2⟩ := x
 obtain ⟨y1, y2⟩ := y
 dsimp only at *
 exact Prod.ext (by dsimp only; omega) (by dsimp only; omega)
theorem zIF : ∀ {L M : List Itm}, Fit3 L -> Fit3 M -> keyL L = keyL M -> L = M
 | [], [], _, _, _ => rfl
 | [], y :: M, _, _, h => by simp [keyL, kb] at h
 | x :: L, [], _, _, h => by simp [keyL, kb] at h
 | x :: L, y :: M, hL, hM, h => by
  have h' : kb x ++ keyL L = kb y ++ keyL M := by simpa [keyL] using h
  obtain ⟨h1, h2⟩ := List.append_inj h' (by rw [zD3, zD3])
  rw [zRa (hL x (List.mem_cons_self ..)) (hM y (List.mem_cons_self ..)) h1, zIF (fun z hz => hL z (List.mem_cons_of_mem _ hz)) (fun z hz => hM z (List.mem_cons_of_mem _ hz)) h2]
theorem bytes_inj : ∀ {a b : List Int}, (∀ n ∈ a, 0 <= n /\ n < 256) -> (∀ n ∈ b, 0 <= n /\ n < 256) -> (a.map fun n => UInt8.ofNat n.toNat) = (b.map fun n => UInt8.ofNat n.toNat) -> a = b
 | [], [], _, _, _ => rfl
 | [], y :: b, _, _, h => by simp at h
 | x :: a, [], _, _, h => by simp at h
 | x :: a, y :: b, ha, hb, h => by
  simp only [List.map_cons, List.cons.injEq] at h
  have h1 := ha x (List.mem_cons_self ..)
  have h2 := hb y (List.mem_cons_self ..)
  have h3 := congrArg UInt8.toNat h.1
  rw [UInt8.toNat_ofNat', UInt8.toNat_ofNat'] at h3
  rw [show x = y by omega, bytes_inj (fun n hn => ha n (List.mem_cons_of_mem _ hn)) (fun n hn => hb n (List.mem_cons_of_mem _ hn)) h.2]
theorem zIE {L M : List Itm} (hL : Fit3 L) (hM : Fit3 M) (h : keyB L = keyB M) : L = M := by
 unfold keyB at h
 have h' : (strOfNums (keyL L)).data.toList = (strOfNums (keyL M)).data.toList := by rw [h]
 rw [strOfNums_data, strOfNums_data] at h'
 exact zIF hL hM (bytes_inj (zGa L) (zGa M) h')
theorem zLC (L : List Itm) : (keyB L).size = L.length * 3 := by
 unfold keyB
 rw [strOfNums_size, zD4]
def zBr (ks : List (List Itm)) : List ByteArray := ks.map keyB
theorem zLE {ks : List (List Itm)} {k : List Itm} (hs : ∀ x ∈ ks, Fit3 x) (hk : Fit3 k) : isIn (zBr ks) (keyB k) = true ↔ k ∈ ks := by
 rw [zBF]
 unfold zBr
 rw [List.mem_map]
 constructor
 ·rintro ⟨x, hx, e⟩
  rw [← zIE (hs x hx) hk e]
  exact hx
 ·exact fun h => ⟨k, h, rfl⟩
theorem zQA {ks : List (List Itm)} {k : List Itm} (hs : ∀ x ∈ ks, Fit3 x) (hk : Fit3 k) (hn : ks.Nodup) (h : k ∈ ks) : num (zBr ks) (keyB k) = ks.idxOf k := by
 obtain ⟨hl, e⟩ := zIR ((zLE hs hk).2 h)
 generalize num (zBr ks) (keyB k) = n at hl e ⊢
 have hl' : n < ks.length := by simpa [zBr] using hl
 have e' : keyB ks[n] = keyB k := by simpa [zBr] using e
 have := zIE (hs _ (List.getElem_mem hl')) hk e'
 rw [← this, hn.idxOf_getElem]
theorem zC0 {G : Gram} (hv : checkN G = 0) {x : Itm} (h : zAG G x = true) : (0 <= x.1 /\ x.1 < 65536) /\ 0 <= x.2 /\ x.2 < 256 := by
 obtain ⟨h1, h2, h3, h4⟩ := zCk hv h
 exact ⟨⟨h1, by omega⟩, h3, by omega⟩
def zMM (G : Gram) (s : Int) (x : Itm) : Option Itm := if behB G x = true /\ behV G x = s then some (x.1, x.2 + 1) else none
def zAl (G : Gram) (c : List Itm) (s : Int) : List Itm := c.filterMap (zMM G s)
theorem zOh {G : Gram} {c : List Itm} (h : Srt c) (s : Int) : Is (zAl G c s) (zJ4 G c s) := by
 refine ⟨?_, fun x => ?_⟩
 ·unfold Srt zAl
  rw [List.pairwise_filterMap]
  refine h.imp fun {a b} hab x hx y hy => ?_
  unfold zMM at hx hy
  split at hx
  ·split at hy
   ·injection hx with hx
    injection hy with hy
    subst hx
    subst hy
    unfold ltP at hab ⊢
    dsimp only
    omega
   ·cases hy
  ·cases hx
 ·unfold zAl
  rw [List.mem_filterMap]
  constructor
  ·rintro ⟨y, hy, e⟩
   unfold zMM at e
   split at e
   ·rename_i q
    injection e with e
    exact ⟨y, hy, q.1, q.2, e.symm⟩
   ·cases e
  ·rintro ⟨y, hy, h1, h2, e⟩
   refine ⟨y, hy, ?_⟩
   unfold zMM
   rw [if_pos ⟨h1, h2⟩, e]
theorem zIg {G : Gram} {c : List Itm} (h : Srt c) (s : Int) : zAl G c s = stL G c s := (zOh h s).uniq (zD2 G c s)
theorem zFD (G : Gram) (c : List Itm) (x : Itm) (s : Int) : zAl G (c ++ [x]) s = zAl G c s ++ (if behB G x = true /\ behV G x = s then [(x.1, x.2 + 1)] else []) := by
 unfold zAl
 rw [List.filterMap_append]
 congr 1
 unfold zMM
 by_cases h : behB G x = true /\ behV G x = s
 ·simp [h]
 ·simp [h]
theorem zMO (G : Gram) (c : List Itm) (s : Int) : (zAl G c s).length <= c.length := List.length_filterMap_le _ _
theorem zMJ {G : Gram} (hv : checkN G = 0) (c : List Itm) : stL G c 0 = [] := by
 cases e : stL G c 0 with
 | nil => rfl
 | cons x l =>
  have hx : x ∈ stL G c 0 := by rw [e]; exact List.mem_cons_self ..
  obtain ⟨y, _, h1, h2, _⟩ := ((zD2 G c 0).2 x).1 hx
  exfalso
  obtain ⟨h3, h4⟩ := zAa.1 h1
  obtain ⟨h5, h6⟩ := zAK.1 h3
  obtain ⟨y1, y2⟩ := y
  dsimp only at *
  obtain ⟨d, rfl⟩ := Int.eq_ofNat_of_zero_le h6.1
  have hr : zAN G y1 = true := by
   unfold zAN
   exact decide_eq_true h5
  have hd : d < (zAB G y1).2.length := by
   unfold rlen at h4
   omega
  have := (zBL hr hd).2
  have := zAy hv hr hd
  omega
def hits (tr : List (Int × Int)) (s : Int) : Option Int := (tr.find? fun x => decide (x.1 = s)).map (·.2)
theorem zKs {tr : List (Int × Int)} {s t : Int} (h : ∀ x ∈ tr, x.1 ≠ s) (z : Int) : hits (tr ++ [(s, t)]) z = if z = s then some t else hits tr z := by
 unfold hits
 rw [List.find?_append]
 by_cases e : z = s
 ·subst e
  rw [if_pos rfl, List.find?_eq_none.2 fun x hx => by simpa using h x hx]
  simp
 ·rw [if_neg e]
  cases tr.find? fun x => decide (x.1 = z) with
  | none => simp [Ne.symm e]
  | some x => simp
theorem zEx {G : Gram} {ks : List (List Itm)} {c : List Itm} {n i : Nat} : hits (zAm G ks c n) ((i + 1 : Nat) : Int) = if i < n /\ stL G c ((i + 1 : Nat) : Int) ≠ [] then some (ks.idxOf (stL G c ((i + 1 : Nat) : Int)) : Int) else none := by
 unfold hits
 cases hf : (zAm G ks c n).find? fun x => decide (x.1 = ((i + 1 : Nat) : Int)) with
 | none =>
  rw [if_neg]
  ·rfl
  ·rintro ⟨h1, h2⟩
   have hm : ((((i + 1 : Nat) : Int), (ks.idxOf (stL G c ((i + 1 : Nat) : Int)) : Int)) : Int × Int) ∈ zAm G ks c n := zAj.2 ⟨i, h1, rfl, h2, rfl⟩
   have := List.find?_eq_none.1 hf _ hm
   simp at this
 | some x =>
  obtain ⟨s, t⟩ := x
  have hx := List.mem_of_find?_eq_some hf
  have hd : s = ((i + 1 : Nat) : Int) := of_decide_eq_true (List.find?_some (p := fun x : Int × Int => decide (x.1 = ((i + 1 : Nat) : Int))) hf)
  obtain ⟨j, hj, h1, h2, h3⟩ := zAj.1 hx
  obtain rfl : j = i := by omega
  subst hd
  rw [if_pos ⟨hj, h2⟩]
  simp [h3]
theorem zKt {G : Gram} {ks : List (List Itm)} {c : List Itm} {n : Nat} : hits (zAm G ks c n) 0 = none := by
 unfold hits
 cases hf : (zAm G ks c n).find? fun x => decide (x.1 = 0) with
 | none => rfl
 | some x =>
  obtain ⟨s, t⟩ := x
  have hx := List.mem_of_find?_eq_some hf
  have hd : s = 0 := of_decide_eq_true (List.find?_some (p := fun x : Int × Int => decide (x.1 = 0)) hf)
  obtain ⟨j, hj, h1, _, _⟩ := zAj.1 hx
  omega
def tgt (ts : List (List (Int × Int))) (x : Itm) : Option Int := if 0 <= x.1 then hits (ts.getD x.1.toNat []) x.2 else none
theorem zQm (x : Itm) : tgt [] x = none := by
 unfold tgt
 split <;> simp [hits]
theorem zOm (ts : List (List (Int × Int))) (x : Itm) : tgt (ts ++ [[]]) x = tgt ts x := by
 unfold tgt
 split
 ·rw [List.getD_eq_getElem?_getD, List.getD_eq_getElem?_getD]
  congr 1
  rcases Nat.lt_trichotomy x.1.toNat ts.length with h | h | h
  ·rw [List.getElem?_append_left h]
  ·rw [List.getElem?_append_right (by omega), h, List.getElem?_eq_none (Nat.le_refl _)]
   simp
  ·rw [List.getElem?_eq_none (by simp; omega), List.getElem?_eq_none (by omega)]
 ·rfl
theorem zQn {ts : List (List (Int × Int))} {tr : List (Int × Int)} {s t : Int} (h : ∀ x ∈ tr, x.1 ≠ s) (x : Itm) : tgt (ts ++ [tr ++ [(s, t)]]) x = if x = ((ts.length : Int), s) then some t else tgt (ts ++ [tr]) x := by
 obtain ⟨a, b⟩ := x
 unfold tgt
 dsimp only
 by_cases h0 : 0 <= a
 ·obtain ⟨n, rfl⟩ := Int.eq_ofNat_of_zero_le h0
  rw [if_pos h0, if_pos h0, List.getD_eq_getElem?_getD, List.getD_eq_getElem?_getD, Int.toNat_natCast]
  rcases Nat.lt_trichotomy n ts.length with q | q | q
  ·rw [List.getElem?_append_left q, List.getElem?_append_left q, if_neg]
   intro e
   injection e with e1 e2
   omega
  ·subst q
   rw [List.getElem?_append_right (Nat.le_refl _), List.getElem?_append_right (Nat.le_refl _)]
   simp only [Nat.sub_self, List.getElem?_cons_zero, Option.getD_some]
   rw [zKs h]
   simp
  ·rw [List.getElem?_eq_none (by simp; omega), List.getElem?_eq_none (by simp; omega), if_neg]
   intro e
   injection e with e1 e2
   omega
 ·rw [if_neg h0, if_neg h0, if_neg]
  intro e
  injection e with e1 e2
  omega
def zBv (ts : List (List (Int × Int))) (i : Int) (n : Nat) : List (Int × Int) := (List.range n).filterMap fun (s : Nat) => (tgt ts (i, (s : Int))).map fun t => ((s : Int), t)
theorem zIW (ts : List (List (Int × Int))) (i : Int) (n : Nat) : zBv ts i (n + 1) = zBv ts i n ++ (match tgt ts (i, (n : Int)) with | some t => [((n : Int), t)] | none => []) := by
 unfold zBv
 rw [List.range_succ, List.filterMap_append]
 congr 1
 cases h : tgt ts (i, (n : Int)) with
 | none => simp [h]
 | some t => simp [h]
theorem zIV {ts : List (List (Int × Int))} {i : Int} {n : Nat} {t : Int} (h : tgt ts (i, (n : Int)) = some t) : zBv ts i (n + 1) = zBv ts i n ++ [((n : Int), t)] := by rw [zIW, h]
theorem zFl {ts : List (List (Int × Int))} {i : Int} {n : Nat} (h : tgt ts (i, (n : Int)) = none) : zBv ts i (n + 1) = zBv ts i n := by rw [zIW, h, List.append_nil]
theorem zLt (ts : List (List (Int × Int))) (i : Int) (n : Nat) : (zBv ts i n).length <= n := by
 unfold zBv
 have := List.length_filterMap_le (fun (s : Nat) => (tgt ts (i, (s : Int))).map fun t => ((s : Int), t)) (List.range n)
 rwa [List.length_range] at this
theorem zLs {G : Gram} {q : Whole} (h : WholeOk G (top G) q) {i : Nat} (hi : i < q.2.length) : zBv q.2 (i : Int) (top G + 1) = q.2.getD i [] := by
 have ht := h.trans i hi
 have key : ∀ s : Int, tgt q.2 ((i : Int), s) = hits (zAm G q.1 (clL G (zAF q.1 i)) (top G)) s := fun s => by
  unfold tgt
  dsimp only
  rw [if_pos (Int.natCast_nonneg i), Int.toNat_natCast, ht]
 rw [ht]
 generalize hc : clL G (zAF q.1 i) = c at key
 generalize hm : top G = m at key
 have sub : ∀ n, n <= m -> zBv q.2 (i : Int) (n + 1) = zAm G q.1 c n := fun n => by
  induction n with
  | zero =>
   intro _
   rw [zFl (by rw [key]; exact zKt)]
   rfl
  | succ n ih =>
   intro hn
   rw [zAr, ← ih (by omega)]
   by_cases he : stL G c ((n + 1 : Nat) : Int) = []
   ·rw [if_pos he, List.append_nil, zFl]
    rw [key, zEx, if_neg fun q => q.2 he]
   ·rw [if_neg he, zIV]
    rw [key, zEx, if_pos ⟨by omega, he⟩]
 exact sub m (Nat.le_refl _)
theorem zE6 (G : Gram) (c : List Itm) (ks : List (List Itm)) : ∀ n, ∀ x ∈ (zCV G c n (ks, [])).2, 1 <= x.1 /\ x.1 <= (n : Int)
 | 0, x, hx => by cases hx
 | n + 1, x, hx => by
  have ih := zE6 G c ks n
  rw [zBj] at hx
  unfold oneS at hx
  split at hx
  ·have := ih x hx
   omega
  ·rcases List.mem_append.1 hx with q | q
   ·have := ih x q
    omega
   ·rw [List.mem_singleton] at q
    subst q
    dsimp only
    omega
theorem zGl (G : Gram) (c : List Itm) (ks : List (List Itm)) : ∀ n, (zCV G c n (ks, [])).1.length <= ks.length + n
 | 0 => Nat.le_refl _
 | n + 1 => by
  have ih := zGl G c ks n
  rw [zBj]
  unfold oneS
  split
  ·omega
  ·dsimp only
   split
   ·omega
   ·rw [List.length_append, List.length_singleton]
    omega
end Au
namespace Au
open Go.RowKit Go.Maps
open Gr (boxed zAA step)
open Im
theorem zA6 {w w' : World} {row : Option Nat} {m : Nat} (hg : w.grownBy w' row) (hm : m <= w.heap.size) (hr : ∀ k, row = some k -> m <= k) : Below m w w' :=
 ⟨hg.os, hg.tape, hg.output, hg.size, fun i hi => hg.block i (by omega) fun e => by have := hr i e.symm; omega⟩
theorem zKu (x : Itm) : ∀ u ∈ ic x, u.oneCell' = true := fun u hu => by
 simp only [ic, List.mem_cons, List.not_mem_nil, or_false] at hu
 rcases hu with rfl | rfl <;> rfl
theorem zP2 {T : TypeId} {base : Nat} {X : List Itm} {v : Value} {w : World} (h : ItsV T base X v w) : ∀ k, v.ownBlock = some k -> base <= k := fun k hk => (World.ownsRow.lt h k hk).1
def bvs (xs : List Int) : List Value := xs.map (.int .u8)
theorem zIw (xs ys : List Int) : bvs (xs ++ ys) = bvs xs ++ bvs ys := by simp [bvs]
theorem zK1 : (Tryz.prog.info? 5).map (fun i => (i.zero, i.size, i.bytes)) = some (some (.int .u8 0), 1, 1) := by kernel_rfl
def zDP (base : Nat) (xs : List Int) (v : Value) (w : World) : Prop := w.ownsRow base 5 1 v xs.length (bvs xs)
theorem zDP.went {base : Nat} {X : List Int} {v : Value} {w w' : World} (h : zDP base X v w) (hb : Below w.heap.size w w') : zDP base X v w' := Sep.zAE h fun g hg => hb.block g (h.lt g hg).2
theorem zDP.nil (base : Nat) (w : World) : zDP base [] (.slice none 0 0) w := World.ownsRow_nil _ _ _ _
theorem zDP.shape {base : Nat} {X : List Int} {v : Value} {w : World} (h : zDP base X v w) : ∃ a c, v = .slice a X.length c := by
 obtain ⟨a, c, e⟩ := Sep.zAZ h
 exact ⟨a, c, e⟩
theorem zDP.text {base : Nat} {X : List Int} {a : Option Addr} {c : Nat} {w : World} (h : zDP base X (.slice a X.length c) w) :
  (convert 156 9 (.slice a X.length c)).run Tryz.prog w = .ok (.string (strOfNums X)) w := by
 rcases h.2 with ⟨e1, h0⟩ | ⟨g, cap, cur, he, _⟩
 ·have e : X = [] := List.eq_nil_of_length_eq_zero h0
  subst e
  simp only [Value.slice.injEq] at e1
  obtain ⟨rfl, _, rfl⟩ := e1
  exact run_convert_bytes_nil w 156 5 Tryz.underlying156 Tryz.underlying5 _ _ 9 Tryz.underlying9
 ·simp only [Value.slice.injEq] at he
  obtain ⟨rfl, _, _⟩ := he
  have hc := World.ownsRow.cells h (g := g) rfl
  refine run_convert_bytes_arg w 156 5 Tryz.underlying156 Tryz.underlying5 g 0 X.length c X rfl (fun i hi => ?_) 9 Tryz.underlying9
  have := hc i (.int .u8 (X.getD i 0)) (by simp [bvs, hi])
  rwa [WideShapes.add_plain] at this
theorem zMX (w : World) (n : Nat) (hn : n = w.heap.size) (x y z : Value) (t : TypeId) : ∀ j u, [x, y, z][j]? = some u -> (w.alloc (.cells #[x, y, z] t)).cell? ((⟨n, 0, none⟩ : Addr).add j) = some u := by
 intro j u hj
 subst hn
 rw [WideShapes.add_plain]
 match j, hj with
 | 0, hj => exact zAA rfl (by simpa using hj)
 | 1, hj => exact zAA rfl (by simpa using hj)
 | 2, hj => exact zAA rfl (by simpa using hj)
theorem zDP.more {base : Nat} {L : List Itm} {v : Value} {w : World} {k : Nat} (hk : k < L.length) {p q r : Int} (e : [p, q, r] = kb L[k]) {n : Nat} (hn : n = (keyL (L.take k)).length + 3) (h : w.ownsRow base 5 1 v n (bvs (keyL (L.take k)) ++ [.int .u8 p, .int .u8 q, .int .u8 r])) : zDP base (keyL (L.take (k + 1))) v w := by
 subst hn
 have ht : keyL (L.take (k + 1)) = keyL (L.take k) ++ [p, q, r] := by
  rw [List.take_succ_eq_append_getElem hk, zLD, e]
 unfold zDP
 rw [ht, zIw, List.length_append]
 exact h
theorem zP8 (L : List Itm) (a : Option Addr) (c : Nat) (w : World) (kl : ItsA a L w) (hf : Fit3 L) (hL : L.length <= 1000000) :
  Calls Tryz.prog 77 #[.slice a L.length c] w (Gr.Is (.string (keyB L)) w) := by
 obtain ⟨i0, hi, hz0, hz1, hz2⟩ := info_parts zK1
 have KL := zSt (fun w1 (b : Below w.heap.size w w1) => kl.went b)
 have HF := zSt hf
 have B0 := zSt (zDP.nil w.heap.size w)
 clear kl hf
 go_enter Tryz.func77, Tryz.ntmps77
 go_wp2
 go_loopw [3, 8] (fun v i wr => ∃ j : Nat, j <= L.length /\ i = .int .i64 j /\ zDP w.heap.size (keyL (L.take j)) v wr /\ Below w.heap.size w wr) (fun _ i _ => L.length - (intOf i).toNat)
 case atStart => exact ⟨0, Nat.zero_le _, rfl, B0.out, .refl _ _⟩
 case round =>
  obtain ⟨j, hj, rfl, hB, hW⟩ := hrel
  obtain ⟨av, cv, rfl⟩ := hB.shape
  clear B0
  by_cases hlt : j < L.length
  ·obtain ⟨b, o, rfl, c0, c1⟩ := (KL.out wr hW).at j hlt
   have hx := HF.out _ (List.getElem_mem hlt)
   have HM := zSt (fun (v : Value) (w' : World) (n : Nat) (p q r : Int) e hn h => zDP.more (base := w.heap.size) (v := v) (w := w') hlt (p := p) (q := q) (r := r) (n := n) e hn h)
   have hl : (keyL (L.take j)).length <= 3000000 := by
    rw [zD4, List.length_take]
    omega
   have B := zSt hB
   have W := zSt hW
   clear hB hW
   have e1 : ((L[j].1, L[j].2) : Itm) = L[j] := rfl
   generalize L[j] = x at *
   obtain ⟨x0, x1⟩ := x
   dsimp only at c0 c1 hx
   clear e1
   generalize keyL (L.take j) = X at B HM hl
   have hk : [x0 % 256, x0 / 256, x1] = kb (x0, x1) := by
    unfold kb
    dsimp only
    rw [show x0 / 256 % 256 = x0 / 256 by omega, show x1 % 256 = x1 by omega]
   have hs0 : (wr.alloc (.cells #[.int .i64 x0, .int .i64 x1] 57)).heap.size = wr.heap.size + 1 := by simp
   have HB2 := zSt (Gr.step W.out (Gr.step (boxed wr (.cells #[.int .i64 x0, .int .i64 x1] 57)) (boxed _ (.cells #[.int .u8 (x0 % 256), .int .u8 (x0 / 256), .int .u8 x1] 5))))
   have RB := zSt (B.out.went (Gr.step (boxed wr (.cells #[.int .i64 x0, .int .i64 x1] 57)) (boxed _ (.cells #[.int .u8 (x0 % 256), .int .u8 (x0 / 256), .int .u8 x1] 5))))
   have NW := zSt (zMX (wr.alloc (.cells #[.int .i64 x0, .int .i64 x1] 57)) (wr.heap.size + 1) hs0.symm (.int .u8 (x0 % 256)) (.int .u8 (x0 / 256)) (.int .u8 x1) 5)
   have hsz := HB2.out.size
   have hbl : ∀ g, (Value.slice av X.length cv).ownBlock = some g -> w.heap.size <= g := fun g hg => (World.ownsRow.lt B.out g hg).1
   have HBL := zSt hbl
   clear hbl B W
   go_wp2_with (at_builtin; refine wpList_append_own_at _ rfl _ _ 156 rfl w.heap.size 5 i0 (.int .u8 0) 1 1 Tryz.underlying156 hi hz0 hz1 hz2 rfl (by decide) _ _ _ rfl RB.out ⟨wr.heap.size + 1, 0, none⟩ 3 3 [.int .u8 (x0 % 256), .int .u8 (x0 / 256), .int .u8 x1] rfl rfl NW.out (by simp [Value.oneCell']) (by unfold maxLen; omega) (by omega) hsz ?_; intro v' w' hown hg _ _; have HO := zSt hown; have HG := zSt (HB2.out.trans (zA6 hg hsz HBL.out)); clear hown hg)
   go_roundw
   case rel => exact ⟨j + 1, by omega, by go_num, HM.out _ _ _ _ _ _ hk rfl HO.out, HG.out⟩
   case measure => simp [intOf]; omega
  ·have hE : j = L.length := by omega
   subst hE
   rw [List.take_length] at hB
   rw [List.take_length]
   have T := hB.text
   have HK := zSt (show strOfNums (keyL L) = keyB L from rfl)
   generalize keyL L = X at *
   generalize strOfNums X = s at *
   go_wp2
   have e := HK.out
   subst e
   go_ret
   exact ⟨rfl, hW⟩
