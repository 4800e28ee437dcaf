/- A part of the proof. -/
import Derived.Test.YtbajcecncgdpmaaGreatDoorPk31
import Derived.Test.YtbajcecncgdpmaaGreatDoorPk40
import Derived.Test.YtbajcecncgdpmaaGreatDoorPk38
set_option maxHeartbeats 4000000
set_option maxRecDepth 100000
set_option linter.unusedVariables false
namespace Go.Proofs.YtbajcecncgdpmaaGreatDoor
open Go.RowKit Go.Maps
namespace Fi
open Gr
open Bt (Tab els)
theorem zMp {l : List Int} {B : Nat -> Bool} {W w : World} {e : Ending} {w' : World} (hE : (els B).map Bt.iv = ivs l) (hb : Below W.heap.size W w) (h : Bt.Listed B w e w') : Listed l W e w' := by
 obtain ⟨v, rfl, ho, hb2⟩ := h
 have hl : (els B).length = l.length := by
  have := congrArg List.length hE
  simpa [ivs] using this
 rw [hE, hl] at ho
 obtain ⟨a, c, rfl⟩ := Sep.zAc ho
 exact ⟨a, c, rfl, Sep.Reads.of_row ho, zDj ho hb.size, Gr.step hb hb2⟩
theorem zQj {P : Int -> Bool} {n : Nat} (h : Rng P n) (hn : n <= 4096) : (els (rw' P)).map Bt.iv = ivs (lst P n) := by
 rw [← zS2 h hn]
 unfold ivs
 rw [List.map_map]
 rfl
def zRn (l : List Int) (b : Bool) (w : World) (e : Ending) (w' : World) : Prop :=
 ∃ a c, e = .returned (.tuple #[.slice a l.length c, .bool b]) /\ Sep.Reads a (ivs l) w' /\ New a w /\ Below w.heap.size w w'
theorem zOI {C : Int -> Bool} {F : Int -> Int -> Bool} {L : List Int} : jn no0 F (L.take (zBQ C L)) = rw' (zAO C F L) := by
 funext i
 unfold jn rw'
 rw [zBf]
 rfl
theorem zD7 {C : Int -> Bool} (l : List Int) (t : Int) : zAO C (fun _ _ => false) l t = false := by
 induction l with
 | nil => rfl
 | cons a l ih =>
  unfold zAO
  rw [ih]
  simp
theorem zTy {t a b : Nat} : ¬ Iab t a b .o := fun h => h
theorem zNi {nl : Bool} {t n : Nat} {P D : Ix -> Nat} {v : Value} {C : Int -> Bool} {F B : Int -> Int -> Bool} {O : Nat -> Bool} (w : World) (h : VS nl (Iab t n n) P D v t n C F B O w) (hT : nl = false -> TOk t n C F B) (htab : Tab w) (ht : t <= 4000) (L : List Int) (a : Option Addr) (c : Nat) (hR : Sep.Reads a (ivs L) w) (hL : LOk L c) :
  Calls Tryz.prog 90 #[v, .slice a L.length c] w (zRn (lst (zAO C F L) (t + 1)) (!nl && allC C L) w) := by
 rcases h with ⟨rfl, rfl, rfl, rfl, rfl⟩ | ⟨rfl, p, q1, q2, rfl, h2⟩
 ·have e : lst (zAO (fun _ => false) (fun _ _ => false) L) (t + 1) = [] := zIc fun i _ => zD7 _ _
  rw [e]
  clear hT htab hR hL
  go_enter Tryz.func90, Tryz.ntmps90
  go_wp2
  go_ret2
  exact ⟨none, 0, rfl, .nil _ _, (fun x h => by cases h), .refl _ _⟩
 ·have TB := zUB (fun w1 (b : Below w.heap.size w w1) => htab.below b htab.pos)
  have T := zUB (hT rfl)
  have H := zUB h2
  have TM := zUB (zPh w h2)
  have HDC := zUB (fun w1 (b : Below w.heap.size w w1) => zCv w1 (h2.went b) T.out.c L a c (Sep.Reads.below hR b (Nat.le_refl _)) hL)
  have JOC := zUB (fun I' P' D' w1 (k : SAt I' P' D' p q1 q2 t n (tv C F B no0) w1) (hk : I' .o) (hb : Below w.heap.size w w1) (hd : w.heap.size <= D' .o) => zIK w w1 k T.out .o hk rfl hb hd (L.take (zBQ C L)) a c (zCb hR _) (hL.take _))
  rw [take_len] at JOC
  unfold zCz at HDC
  have E := zUB (zQj (zBh (C := C) T.out.f1 L) (show t + 1 <= 4096 by omega))
  clear hT htab h2 hR
  have hcap := hL.cap
  clear hL
  generalize allC C L = al at *
  rw [Bool.not_false, Bool.true_and]
  go_enter Tryz.func90, Tryz.ntmps90
  go_wp2_with (first
   | (go_at_call 115; refine TM.out.mono ?_; rintro e w1 ⟨pN, dN, rfl, hp1, hd1, hs1, hb1, _⟩; have B1 := zUB hb1; obtain ⟨I', P', D', hk', hI', rfl, rfl⟩ := H.out.more zTy hb1 hs1 hp1 hd1; have K1 := zUB hk'; have O1 := zUB hI'; have D1 := zUB hd1; clear hp1 hd1 hs1 hb1 hk' hI')
   | (go_at_call 117; refine (HDC.out _ B1.out).mono ?_; rintro e w2 ⟨rfl, hb⟩; have B2 := zUB (Gr.step B1.out hb); have K2 := zUB (K1.out.went hb); clear hb)
   | (go_at_call 118; refine (JOC.out _ _ _ _ K2.out O1.out B2.out D1.out).mono ?_; rintro e w3 ⟨b, rfl, hg, hs3, hk3⟩; have B3 := zUB (zCs B2.out D1.out hk3); have S3 := zUB hs3; clear hg hs3 hk3)
   | (go_at_call 61; refine (Bt.zCh _ (.at_ S3.out) (TB.out _ B3.out)).mono ?_; rintro e w4 hl; have LL := zUB (zMp (l := lst (zAO C F L) (t + 1)) (by rw [show jn (tv C F B no0 .o) F (L.take (zBQ C L)) = rw' (zAO C F L) from zOI]; exact E.out) B3.out hl); obtain ⟨v, rfl, _, _⟩ := hl))
  go_ret2
  obtain ⟨a4, c4, e4, h4⟩ := LL.out
  injection e4 with e4
  subst e4
  exact ⟨a4, c4, rfl, h4⟩
end Fi
namespace Lk
open Gr (Gram ivs cell_later boxed step)
open Im
open Au
open Fi (zAO allC canB fstB folB zEf VS TOk Iab Ix)
open Bt (SetAt)
open Rw (zAF)
theorem zMn : (Tryz.prog.info? 115).map (fun i => (i.zero, i.size, i.bytes)) = some (some (.agg #[.pointer none, .bool false]), 2, 16) := by kernel_rfl
noncomputable def tlF (G : Gram) (L : List Int) (d : Nat) : Nat -> Bool := fun u => decide (u < G.terms.length + 1) && zAO (canB G) (fstB G) (L.drop (d + 1)) (u : Int)
noncomputable def tlE (G : Gram) (L : List Int) (d : Nat) : Bool := allC (canB G) (L.drop (d + 1))
theorem zSv (G : Gram) (L : List Int) (d : Nat) : inL (G.terms.length + 1) (Fi.lst (zAO (canB G) (fstB G) (L.drop (d + 1))) (G.terms.length + 1)) = tlF G L d := by
 funext u
 unfold inL tlF
 rw [Bool.eq_iff_iff, decide_eq_true_iff, Bool.and_eq_true, decide_eq_true_iff, Fi.zBV]
 constructor
 ·rintro ⟨h1, _, _, h2⟩
  exact ⟨h1, h2⟩
 ·rintro ⟨h1, h2⟩
  exact ⟨h1, by omega, by omega, h2⟩
def tcs (p : Nat × Bool) : List Value := [.pointer (some ⟨p.1, 0, none⟩), .bool p.2]
structure TlV (G : Gram) (L : List Int) (m : Nat) (tP tD : Nat -> Nat) (j : Nat) (v : Value) (w : World) : Prop where
 row : w.ownsRow m 115 2 v j ((List.range j).flatMap fun d => tcs (tP d, tlE G L d))
 sets : ∀ d, d < j -> SetAt (tP d) (tD d) (G.terms.length + 1) (tlF G L d) w
 low : ∀ d, d < j -> m <= tP d /\ m <= tD d
 off : ∀ d, d < j -> v.ownBlock ≠ some (tP d) /\ v.ownBlock ≠ some (tD d)
theorem TlV.nil (G : Gram) (L : List Int) (m : Nat) (tP tD : Nat -> Nat) (w : World) : TlV G L m tP tD 0 (.slice none 0 0) w :=
 ⟨World.ownsRow_nil _ _ _ _, fun d hd => absurd hd (Nat.not_lt_zero d), fun d hd => absurd hd (Nat.not_lt_zero d), fun d hd => absurd hd (Nat.not_lt_zero d)⟩
theorem zDh {α : Type} {f g : α -> List Value} : ∀ {l : List α}, (∀ x ∈ l, f x = g x) -> l.flatMap f = l.flatMap g
 | [], _ => rfl
 | a :: l, h => by rw [List.flatMap_cons, List.flatMap_cons, h a (List.mem_cons_self ..), zDh fun x hx => h x (List.mem_cons_of_mem _ hx)]
theorem TlV.snoc {G : Gram} {L : List Int} {m j : Nat} {tP tD : Nat -> Nat} {v v' : Value} {w w1 w2 : World} (h : TlV G L m tP tD j v w) {P D : Nat} (hP : w.heap.size <= P) (hD : w.heap.size <= D) (hs : SetAt P D (G.terms.length + 1) (tlF G L j) w1) (hb : Below w.heap.size w w1) (hm : m <= w.heap.size)
  (hown : w2.ownsRow m 115 2 v' (j + 1) (((List.range j).flatMap fun d => tcs (tP d, tlE G L d)) ++ tcs (P, tlE G L j))) (hg : w1.grownBy w2 v.ownBlock) (hv : v'.ownBlock = v.ownBlock \/ v'.ownBlock = some w1.heap.size) :
  TlV G L m (upd tP j P) (upd tD j D) (j + 1) v' w2 := by
 have hs1 := hb.size
 have old : ∀ b, b < w1.heap.size -> v.ownBlock ≠ some b -> w2.heap[b]? = w1.heap[b]? := fun b hb2 e => hg.block b hb2 fun e2 => e e2.symm
 have off' : ∀ b, b < w1.heap.size -> v.ownBlock ≠ some b -> v'.ownBlock ≠ some b := fun b hb2 e e2 => by
  rcases hv with r | r
  ·exact e (r.symm.trans e2)
  ·have := r.symm.trans e2
   injection this with this
   omega
 have newv : ∀ b, w.heap.size <= b -> v.ownBlock ≠ some b := fun b hb2 e => by
  have := (h.row.lt b e).2
  omega
 refine ⟨?_, fun d hd => ?_, fun d hd => ?_, fun d hd => ?_⟩
 ·have e : ((List.range (j + 1)).flatMap fun d => tcs (upd tP j P d, tlE G L d)) = ((List.range j).flatMap fun d => tcs (tP d, tlE G L d)) ++ tcs (P, tlE G L j) := by
   rw [List.range_succ, List.flatMap_append]
   congr 1
   ·refine zDh fun d hd => ?_
    have := List.mem_range.1 hd
    rw [zAB (by omega)]
   ·show tcs (upd tP j P j, tlE G L j) ++ [] = _
    rw [upd_same, List.append_nil]
  rw [e]
  exact hown
 ·by_cases e : d = j
  ·subst e
   rw [upd_same, upd_same]
   exact hs.keep hg.size (old P hs.inp (newv P hP)) (old D hs.ind (newv D hD))
  ·have hd' : d < j := by omega
   rw [zAB e, zAB e]
   have k := (h.sets d hd').below hb (h.sets d hd').inp (h.sets d hd').ind
   exact k.keep hg.size (old _ k.inp (h.off d hd').1) (old _ k.ind (h.off d hd').2)
 ·by_cases e : d = j
  ·subst e
   rw [upd_same, upd_same]
   omega
  ·rw [zAB e, zAB e]
   exact h.low d (by omega)
 ·by_cases e : d = j
  ·subst e
   rw [upd_same, upd_same]
   exact ⟨off' P hs.inp (newv P hP), off' D hs.ind (newv D hD)⟩
  ·have hd' : d < j := by omega
   rw [zAB e, zAB e]
   have k := h.sets d hd'
   exact ⟨off' _ (by have := k.inp; omega) (h.off d hd').1, off' _ (by have := k.ind; omega) (h.off d hd').2⟩
theorem zOQ {a : Option Addr} {X : List Int} {w : World} (h : Sep.Reads a (ivs X) w) {k c : Nat} (hk : k <= X.length) (hc : X.length <= c) :
  ∃ a1 c1, (∀ W, (Instr.slice 37 (.slice a X.length c) (some (.int .i64 (k : Int))) none none).run Tryz.prog W = .ok (.slice a1 (X.drop k).length c1) W) /\ Sep.Reads a1 (ivs (X.drop k)) w /\ (X.drop k).length <= c1 := by
 refine ⟨if c = k then a else a.map (·.add (k * 1)), c - k, fun W => ?_, fun j hj => ?_, by rw [List.length_drop]; omega⟩
 ·rw [run_slice_l W 37 a X.length c zS1 .i64 (k : Int) (by omega) (by omega), zTJ]
  simp [Result.andThen_ok, sliced]
 ·rw [zDg, List.length_drop] at hj
  have hck : ¬ c = k := by omega
  obtain ⟨b, o, e, hx⟩ := h (k + j) (by rw [zDg]; omega)
  refine ⟨b, o + k, ?_, ?_⟩
  ·rw [if_neg hck, e]
   simp [Addr.add]
  ·rw [show o + k + j = o + (k + j) by omega, hx]
   simp [zJX]
def zMX (G : Gram) (L : List Int) (w : World) (e : Ending) (w' : World) : Prop := ∃ tP tD a c, e = .returned (.slice a L.length c) /\ TlV G L w.heap.size tP tD L.length (.slice a L.length c) w' /\ Below w.heap.size w w'
theorem zOk (T : TypeId) (base P q : Nat) (b : Bool) (w : World) (hq : q = w.heap.size) (hb : base <= q) : (w.alloc (.cells #[.pointer (some ⟨P, 0, none⟩), .bool b] T)).ownsRow base T 2 (.slice (some ⟨q, 0, none⟩) 1 1) 1 (tcs (P, b)) := by
 subst hq
 exact World.ownsRow_lit w #[.pointer (some ⟨P, 0, none⟩), .bool b] 1 hb (by decide) (by simp)
theorem zIN {G : Gram} {P D : Ix -> Nat} {vS : Value} {O : Nat -> Bool} {p : Nat} (w : World) (hS : VS false (Iab G.terms.length (Gr.top G + 1) (Gr.top G + 1)) P D vS G.terms.length (Gr.top G + 1) (canB G) (fstB G) (folB G) O w) (hT : TOk G.terms.length (Gr.top G + 1) (canB G) (fstB G) (folB G)) (htab : Bt.Tab w) (h0 : 0 < w.heap.size) (hTs : G.terms.length <= 1000)
  (hp : w.cell? ⟨p, 1, none⟩ = some (.int .i64 (G.terms.length : Int))) (L : List Int) (a : Option Addr) (c : Nat) (hR : Sep.Reads a (ivs L) w) (hl : L.length <= 1000) (hc : L.length <= c) (hL : ∀ x ∈ L, x <= 9223372036854775807) :
  Calls Tryz.prog 54 #[.pointer (some ⟨p, 0, none⟩), .slice a L.length c, vS] w (zMX G L w) := by
 have LI := zUB (fun w1 (b : Below w.heap.size w w1) (X : List Int) a1 c1 hr hx => Fi.zNi w1 (hS.went b) (fun _ => hT) (htab.below b h0) (by omega) X a1 c1 hr hx)
 have SE := zUB (fun w1 (b : Below w.heap.size w w1) (X : List Int) a1 c1 hr hx hb => zHs G.terms.length p X a1 c1 w1 hTs (cell_later b hp) hr hx hb)
 have RD := zUB (fun w1 (b : Below w.heap.size w w1) => Sep.Reads.below hR b (Nat.le_refl _))
 have FI := zUB hL
 obtain ⟨i0, hj, hz0, hz1, hz2'⟩ := info_parts zMn
 clear hS hT htab hp hR hL
 go_enter Tryz.func54, Tryz.ntmps54
 go_wp2
 go_loopw [7, 13] (fun v t wr => ∃ (j : Nat) (tP tD : Nat -> Nat) (av : Option Addr) (cv : Nat), t = .int .i64 j /\ j <= L.length /\ v = .slice av j cv /\ TlV G L w.heap.size tP tD j v wr /\ Below w.heap.size w wr) (fun _ t _ => L.length - (intOf t).toNat)
 case atStart => exact ⟨0, fun _ => 0, fun _ => 0, none, 0, rfl, Nat.zero_le _, rfl, TlV.nil _ _ _ _ _ _, .refl _ _⟩
 case round =>
  obtain ⟨j, tP, tD, av, cv, rfl, hj1, rfl, hV, hB⟩ := hrel
  have V := zUB hV
  have B := zUB hB
  clear hV hB
  by_cases hlt : j < L.length
  ·obtain ⟨a1, c1, e1, t1, t2⟩ := zOQ (RD.out wr B.out) (k := j + 1) (by omega) hc
   have hwr : IntKind.i64.wrap ((j : Int) + 1) = (j : Int) + 1 := IntWalk.i64_in _ (by omega)
   rw [show ((j + 1 : Nat) : Int) = (j : Int) + 1 by omega] at e1
   have hdl : (L.drop (j + 1)).length <= 1000 := by rw [List.length_drop]; omega
   have hcc := Fi.zEf (zAO (canB G) (fstB G) (L.drop (j + 1))) (G.terms.length + 1)
   have hx1 := zUB (show ∀ t ∈ Fi.lst (zAO (canB G) (fstB G) (L.drop (j + 1))) (G.terms.length + 1), t <= 9223372036854775807 from fun t ht => by
    have := (Fi.zBV.1 ht).2.1
    omega)
   have TI := zUB (zSv G L j)
   have hLX := zUB (LI.out wr B.out (L.drop (j + 1)) a1 c1 t1 ⟨fun x hx => FI.out x (List.mem_of_mem_drop hx), by omega, t2⟩)
   have hEE := zUB (show (!false && allC (canB G) (L.drop (j + 1))) = tlE G L j from rfl)
   rw [hEE.out] at hLX
   generalize (L.drop (j + 1)).length = dl at *
   generalize hUU : Fi.lst (zAO (canB G) (fstB G) (L.drop (j + 1))) (G.terms.length + 1) = UU at *
   have SN := zUB (fun (P D : Nat) (w1 w2 : World) (v' : Value) h1 h2 h3 h4 h5 h6 h7 => V.out.snoc (P := P) (D := D) (w1 := w1) (w2 := w2) (v' := v') h1 h2 h3 h4 B.out.size h5 h6 h7)
   have VR := zUB V.out.row
   have hbm := B.out.size
   clear t1 t2 V
   generalize hte : tlE G L j = te at *
   generalize hro : ((List.range j).flatMap fun d => tcs (tP d, tlE G L d)) = ro at *
   go_wp2_with (first
    | (go_at_call 90; (with_reducible refine (hLX.out).mono ?_); rintro e w2 ⟨a2, c2, rfl, r2, _, b2⟩; have B2 := zUB (Gr.step B.out b2); have BB2 := zUB b2; have S2 := zUB (SE.out w2 B2.out UU a2 c2 r2 (by omega) hx1.out); clear r2 b2)
    | (go_at_call 59; (with_reducible refine (S2.out).mono ?_); rintro e w3 ⟨P3, D3, rfl, hP3, hD3, hs3, b3⟩; have B3 := zUB (Gr.step BB2.out b3); have hz2 := BB2.out.size; have hz3 := b3.size; have TS := zUB hs3; have VX := zUB (Sep.zAC VR.out fun g hg => (Gr.step B3.out (boxed w3 (.cells #[.pointer (some ⟨P3, 0, none⟩), .bool te] 115))).block g (VR.out.lt g hg).2); have ON := zUB (zOk 115 w.heap.size P3 w3.heap.size te w3 rfl (by omega)); have hsx : (w3.alloc (.cells #[.pointer (some ⟨P3, 0, none⟩), .bool te] 115)).heap.size = w3.heap.size + 1 := (by simp); clear hs3 b3)
    | (at_builtin; refine zAF _ rfl _ _ 108 rfl w.heap.size 115 i0 (.agg #[.pointer none, .bool false]) 2 16 Tryz.underlying108 hj hz0 hz1 hz2' rfl (by decide) (.slice av j cv) j ro rfl VX.out w.heap.size _ 1 (tcs (P3, te)) rfl ON.out (by simp [tcs, Value.oneCell']) (by unfold maxLen; omega) (by omega) (by omega) ?_; intro v' w' hown hg hloc; have V4 := zUB (SN.out P3 D3 _ w' v' (by omega) (by omega) (by have := (TS.out.below (boxed w3 (.cells #[.pointer (some ⟨P3, 0, none⟩), .bool te] 115)) TS.out.inp TS.out.ind); rw [TI.out] at this; exact this) (Gr.step B3.out (boxed _ _)) hown hg hloc); have W4 := zUB (zBJ (m := w.heap.size) hg (by omega) fun k hk => (VR.out.lt k hk).1); obtain ⟨a7, c7, rfl⟩ := Rw.zAH hown; clear hown hg hloc))
   go_roundw
   case rel => exact ⟨j + 1, _, _, a7, c7, by go_num, by omega, rfl, V4.out, (Gr.step B.out (Gr.step B3.out (boxed _ _))).trans W4.out⟩
   case measure => simp [intOf]; omega
  ·have hE : j = L.length := by omega
   subst hE
   go_wp2
   go_ret
   exact ⟨tP, tD, av, cv, rfl, V.out, B.out⟩
