/- A part of the proof. -/
import Derived.ScopeJumps
import Derived.WalkMore
import Derived.Test.YtbajcecncgdpmaaGreatDoorPk33
import Derived.Test.YtbajcecncgdpmaaGreatDoorPk30
import Derived.Test.YtbajcecncgdpmaaGreatDoorPk39
set_option maxHeartbeats 4000000
set_option maxRecDepth 100000
set_option linter.unusedVariables false
namespace Go.Proofs.YtbajcecncgdpmaaGreatDoor
open Go.RowKit Go.Maps
namespace Lk
open Gr (Gram checkN)
open Im
open Au
open Bt (Upto)
theorem zNf {p : Nat -> Prop} (h : ∃ n, p n) : ∃ n, p n /\ ∀ k, k < n -> ¬ p k := by
 obtain ⟨n, hn⟩ := h
 induction n using Nat.strongRecOn with
 | _ n ih =>
  by_cases hk : ∃ k, k < n /\ p k
  ·obtain ⟨k, h1, h2⟩ := hk
   exact ih k h1 h2
  ·exact ⟨n, hn, fun k h1 h2 => hk ⟨k, h1, h2⟩⟩
open Classical in
theorem zHj {P : Program} {a : Act} {w : World} {Q : Exit -> Act -> World -> Prop} {c body : Code} {γ : Type} (l : Nat) (J : γ -> Act -> World -> Prop) (μ : γ -> Nat) (hf : findLabel c l = some (Code.skip.seq body))
  (pass : ∀ g a w, J g a w -> body.wp P (Exit.jump l (fun a' w' => ∃ g', J g' a' w' /\ μ g' < μ g) Q) a w)
  (first : (∀ g a w, J g a w -> body.wp P (Exit.jump l (fun a' w' => ∃ g', J g' a' w') Q) a w) -> c.wp P (Exit.jump l (fun a' w' => ∃ g', J g' a' w') Q) a w) : (Code.scope c).wp P Q a w := by
 have hex : ∀ a w, (∃ g, J g a w) -> ∃ n, (∃ g, J g a w /\ μ g = n) /\ ∀ k, k < n -> ¬ ∃ g, J g a w /\ μ g = k := fun a w ⟨g, hg⟩ => zNf ⟨μ g, g, hg, rfl⟩
 let m : Act -> World -> Nat := fun a w => if h : ∃ g, J g a w then (hex a w h).choose else 0
 have hm : ∀ a w (h : ∃ g, J g a w), (∃ g, J g a w /\ μ g = m a w) /\ ∀ k, k < m a w -> ¬ ∃ g, J g a w /\ μ g = k := fun a w h => by
  have := (hex a w h).choose_spec
  show (∃ g, J g a w /\ μ g = (if h : ∃ g, J g a w then (hex a w h).choose else 0)) /\ ∀ k, k < (if h : ∃ g, J g a w then (hex a w h).choose else 0) -> _
  rw [dif_pos h]
  exact this
 refine wp_scope_jumps l (fun a w => ∃ g, J g a w) m hf (first fun g a w h => ?_) fun a w h => ?_
 ·refine wp_mono (pass g a w h) fun e a' w' hq => ?_
  cases e with
  | goto l' => exact ⟨hq.1, hq.2.imp fun _ k => k.1⟩
  | _ => exact hq
 ·obtain ⟨g, hg, hn⟩ := (hm a w h).1
  refine wp_seq (wp_skip ?_)
  refine wp_mono (pass g a w hg) fun e a' w' hq => ?_
  cases e with
  | goto l' =>
   obtain ⟨h1, g', h2, h3⟩ := hq
   refine ⟨h1, ⟨g', h2⟩, ?_⟩
   have := hm a' w' ⟨g', h2⟩
   rcases Nat.lt_or_ge (m a' w') (m a w) with r | r
   ·exact r
   ·exact absurd ⟨g', h2, rfl⟩ (this.2 (μ g') (by omega))
  | _ => exact hq
def Kps (N M : Nt) : Prop := M.pls = N.pls /\ M.Ys = N.Ys /\ M.wv = N.wv /\ M.D = N.D /\ M.E = N.E
theorem Kps.trans {N M L : Nt} (h : Kps N M) (k : Kps M L) : Kps N L := ⟨k.1.trans h.1, k.2.1.trans h.2.1, k.2.2.1.trans h.2.2.1, k.2.2.2.1.trans h.2.2.2.1, k.2.2.2.2.trans h.2.2.2.2⟩
theorem Kps.give (m : Nat) (N : Nt) (k : Nat) (F : Nat -> Bool) : Kps N (N.give m k F) := ⟨rfl, rfl, rfl, rfl, rfl⟩
theorem Kps.pop (N : Nt) (k : Nat) : Kps N (N.pop k) := ⟨rfl, rfl, rfl, rfl, rfl⟩
theorem Kps.go (m : Nat) (N : Nt) (k : Nat) (y : Way) : Kps N (N.go m k y) := by
 obtain ⟨h1, h2, h3, h4, h5⟩ := zRS m N k y
 exact ⟨h1, h2, h5, h3, h4⟩
theorem Kps.lk {G : Gram} {q : Whole} {N M : Nt} (h : Kps N M) (k : Lk1 G q N) : Lk1 G q M := by
 obtain ⟨h1, h2, _⟩ := h
 refine ⟨by rw [h1]; exact k.nd, by rw [h1]; exact k.can, ?_⟩
 rw [h1, h2]
 exact k.sound
theorem Kps.lkd {G : Gram} {q : Whole} {N M : Nt} (h : Kps N M) {i : Nat} {x : Itm} (k : Lkd G q N i x) : Lkd G q M i x := by
 obtain ⟨h1, h2, _⟩ := h
 unfold Lkd
 rw [h1, h2]
 exact k
theorem LkI.sp3 {G : Gram} {q : Whole} {N : Nt} {cnt m : Nat} (h : LkI G q N cnt) (hm : m <= 4096) : Sp3 G q m N N.Ys := by
 refine ⟨fun k hk => ⟨hm, fun t _ => (h.frs k hk).1 t⟩, fun k i c hk t ht => ?_, by rw [h.qs]; exact List.nodup_nil, fun k => ?_, fun k hk hw => ?_, fun k hk => .inr (.inl (h.frs k hk).1)⟩
 ·rw [(h.frs k (zAX hk)).1 t] at ht
  cases ht
 ·rw [h.qs]
  constructor
  ·intro e; cases e
  ·rintro ⟨hk, hw⟩
   rw [(h.frs k hk).2] at hw
   cases hw
 ·rw [(h.frs k hk).2] at hw
  cases hw
theorem zMV {G : Gram} (hT : G.terms.length <= 1000) (k d : Nat) : Upto (zMU G k d) (G.terms.length + 1) := ⟨by omega, fun u hu => by
 unfold zMU
 have : decide (u < G.terms.length + 1) = false := decide_eq_false (by omega)
 rw [this, Bool.false_and]⟩
theorem YOk.upto {K : Fk} {G : Gram} {y : Way} (h : YOk K G y) (hT : G.terms.length <= 1000) : Upto y.f (G.terms.length + 1) := by
 rcases h with ⟨_, e⟩ | ⟨k, d, _, _, _, e⟩
 ·rw [e]
  exact ⟨by omega, fun _ _ => rfl⟩
 ·rw [e]
  exact zMV hT k d
theorem YOk.ptr {K : Fk} {G : Gram} {y : Way} (h : YOk K G y) : ∃ pa, y.v = .pointer pa := by
 rcases h with ⟨e, _⟩ | ⟨k, d, _, _, e, _⟩ <;> exact ⟨_, e⟩
section
variable {W : World} {K : Fk} {G : Gram} {q : Whole} {N : Nt} {lab : Nat -> Lb} {cv qv : Value} {w : World}
theorem NP.E_ge (h : NP W K G q N lab cv qv w) {k : Nat} (hk : k < N.pls.length) : W.heap.size <= N.E k := by
 have e := h.lE k hk
 rcases h.low (N.E k) (by rw [e]; intro e; cases e) with r | r | r
 ·rw [r, h.lp] at e; cases e
 ·rw [r, h.lm] at e; cases e
 ·exact r
theorem NP.given (h : NP W K G q N lab cv qv w) (FX : Fix W K G q) {y : Way} (hy : YOk K G y) (hto : y.to < N.pls.length) : Gvn N y.to y.v y.f w := by
 rcases hy with ⟨e1, e2⟩ | ⟨k, d, hk, hd, e1, e2⟩
 ·rw [e1, e2]
  exact .inl ⟨0, .nil _⟩
 ·rw [e1, e2]
  obtain ⟨a, c, _, f⟩ := (FX.at_ w h.fr).tails k hk
  obtain ⟨_, _, _, _, hs⟩ := f d hd
  obtain ⟨a', c', _, f'⟩ := (FX.at_ W (.refl _ _)).tails k hk
  obtain ⟨_, _, _, _, hs'⟩ := f' d hd
  have h1 := hs'.inp
  have h2 := hs'.ind
  have h3 := h.E_ge hto
  exact .inl ⟨_, .at_ hs (by omega) (by omega)⟩
theorem NP.given2 (h : NP W K G q N lab cv qv w) {k tt : Nat} (hk : k < N.pls.length) (hto : tt < N.pls.length) : Gvn N tt (.pointer (some ⟨N.D k, 0, none⟩)) (N.S k) w := by
 by_cases e : k = tt
 ·subst e
  exact .inr ⟨rfl, rfl⟩
 ·refine .inl ⟨_, .at_ (h.sets k hk) (fun e2 => ?_) (fun e2 => ?_)⟩
  ·have := h.lP k hk
   rw [e2, h.lE tt hto] at this
   cases this
  ·have := h.lE k hk
   rw [e2, h.lE tt hto] at this
   injection this with this
   exact e this.symm
end
theorem zOs {α : Type} (f : Nat -> α) (s : Nat) (x y : α) : upd (upd f s x) s y = upd f s y := by
 funext r
 by_cases e : r = s
 ·subst e
  rw [upd_same, upd_same]
 ·rw [zAC e, zAC e, zAC e]
theorem zOr {α : Type} (f : Nat -> α) (s : Nat) : upd f s (f s) = f := by
 funext r
 by_cases e : r = s
 ·subst e
  rw [upd_same]
 ·rw [zAC e]
theorem zFy.lt {G : Gram} {q : Whole} {a : List Pl} {i : Nat} {x : Itm} {y : Way} (h : zFy G q a i x y) : y.to < a.length := by
 rcases h with ⟨_, _, h, _⟩ | ⟨_, h, _⟩ <;> exact zAX h
theorem zOy {G : Gram} {q : Whole} (hv : checkN G = 0) {M L : Nt} {m k : Nat} (lk : Lk1 G q M) (hK : Kps M L) (hk : k < M.pls.length) {j : Nat} (hj : j < (M.Ys k).length) (sp : Sp3 G q m L (upd M.Ys k ((M.Ys k).take j))) (hne : ∃ t, L.S k t = true) (hf : Upto ((M.Ys k)[j]).f m) :
  (M.Ys k)[j].to < L.pls.length /\ Sp3 G q m (L.give m (M.Ys k)[j].to (M.Ys k)[j].f) (upd M.Ys k ((M.Ys k).take j)) /\ Sp3 G q m (L.go m k (M.Ys k)[j]) (upd M.Ys k ((M.Ys k).take (j + 1))) /\ (∃ t, (L.go m k (M.Ys k)[j]).S k t = true) /\ (L.go m k (M.Ys k)[j]).num m <= L.num m := by
 have lkL := hK.lk lk
 have hkL : k < L.pls.length := by rw [hK.1]; exact hk
 have hmem : (M.Ys k)[j] ∈ L.Ys k := by rw [hK.2.1]; exact List.getElem_mem hj
 obtain ⟨⟨jj, d⟩, hp⟩ : ∃ p, L.pls[k]? = some p := ⟨_, List.getElem?_eq_getElem hkL⟩
 obtain ⟨x, _, _, _, hw⟩ := lkL.sound k jj d hp _ hmem
 have hto := hw.lt
 obtain ⟨t0, ht0⟩ := hne
 have hla := sp.snd k jj d hp t0 ht0
 have key : ∀ i c, L.pls[(M.Ys k)[j].to]? = some (i, c) -> _ := fun i c hc => zR1 hv lkL hp hmem hla hc
 obtain ⟨⟨i, c⟩, hq⟩ : ∃ p, L.pls[(M.Ys k)[j].to]? = some p := ⟨_, List.getElem?_eq_getElem hto⟩
 have s1 := sp.give hq (key i c hq).1
 have s2 := sp.go hkL ⟨t0, ht0⟩ hto hf (fun i c hc => (key i c hc).1) (fun he i c j' d' hc hd => by
  rw [hp] at hd
  injection hd with hd
  injection hd with e1 e2
  subst e1 e2
  exact (key i c hc).2 he)
 refine ⟨hto, s1, ?_, ⟨t0, zSY _ _ _ _ ht0⟩, zRk sp hto s1.qlen⟩
 rw [upd_same, zOs] at s2
 rw [List.take_succ_eq_append_getElem hj]
 exact s2
structure Ps (W : World) (K : Fk) (G : Gram) (q : Whole) (S : Nat -> Prop) (w0 : World) (N : Nt) (k0 : Nat) (M : Nt) (X : Nat -> List Way) (T : Nat -> Prop) (w : World) : Prop where
 at_ : NAt W K G q M T w
 fr : Sep.Fr S w0 w
 ext : Sep.Ext T S w0
 kp : Kps N M
 sp : Sp3 G q (G.terms.length + 1) M X
 zero : M.S k0 0 = true
section
variable {W : World} {K : Fk} {G : Gram} {q : Whole} {S : Nat -> Prop} {w0 : World} {N : Nt} {k0 : Nat} {M L : Nt} {X Y : Nat -> List Way} {T U : Nat -> Prop} {w w' : World}
theorem Ps.went (h : Ps W K G q S w0 N k0 M X T w) (hb : Below w.heap.size w w') : Ps W K G q S w0 N k0 M X T w' :=
 ⟨h.at_.went hb, h.fr.trans (.of_below hb) h.ext, h.ext, h.kp, h.sp, h.zero⟩
theorem Ps.turn (h : Ps W K G q S w0 N k0 M X T w) (hL : NAt W K G q L U w') (f : Sep.Fr T w w') (x : Sep.Ext U T w) (kp : Kps M L) (sp : Sp3 G q (G.terms.length + 1) L Y) (z : L.S k0 0 = true) : Ps W K G q S w0 N k0 L Y U w' :=
 ⟨hL, h.fr.trans f h.ext, h.ext.trans x h.fr.size, h.kp.trans kp, sp, z⟩
end
end Lk
namespace Fi
open Gr
open Bt (Tab els)
theorem zLM {l : List Int} {B : Nat -> Bool} {W w : World} {e : Ending} {w' : World} (hE : (els B).map Bt.iv = ivs l) (hb : Below W.heap.size W w) (h : Bt.Listed B w e w') : Listed l W e w' := by
 obtain ⟨v, rfl, ho, hb2⟩ := h
 have hl : (els B).length = l.length := by
  have := congrArg List.length hE
  simpa [ivs] using this
 rw [hE, hl] at ho
 obtain ⟨a, c, rfl⟩ := Sep.zAZ ho
 exact ⟨a, c, rfl, Sep.Reads.of_row ho, zDL ho hb.size, Gr.step hb hb2⟩
theorem zPh {P : Int -> Bool} {n : Nat} (h : Rng P n) (hn : n <= 4096) : (els (rw' P)).map Bt.iv = ivs (lst P n) := by
 rw [← zRI h hn]
 unfold ivs
 rw [List.map_map]
 rfl
theorem zLO (n : Nat) : lst (fun _ => false) n = [] := zFe fun _ _ => rfl
def zSF (l : List Int) (b : Bool) (w : World) (e : Ending) (w' : World) : Prop :=
 ∃ a c, e = .returned (.tuple #[.slice a l.length c, .bool b]) /\ Sep.Reads a (ivs l) w' /\ New a w /\ Below w.heap.size w w'
theorem zNZ {C : Int -> Bool} {F : Int -> Int -> Bool} {L : List Int} : jn no0 F (L.take (zA9 C L)) = rw' (zAP C F L) := by
 funext i
 unfold jn rw'
 rw [zBP]
 rfl
theorem zHQ {C : Int -> Bool} (l : List Int) (t : Int) : zAP C (fun _ _ => false) l t = false := by
 induction l with
 | nil => rfl
 | cons a l ih =>
  unfold zAP
  rw [ih]
  simp
theorem zSZ {t a b : Nat} : ¬ Iab t a b .o := fun h => h
theorem zNg {nl : Bool} {t n : Nat} {P D : Ix -> Nat} {v : Value} {C : Int -> Bool} {F B : Int -> Int -> Bool} {O : Nat -> Bool} (w : World) (h : VS nl (Iab t n n) P D v t n C F B O w) (hT : nl = false -> TOk t n C F B) (htab : Tab w) (ht : t <= 4000) (L : List Int) (a : Option Addr) (c : Nat) (hR : Sep.Reads a (ivs L) w) (hL : LOk L c) :
  Calls Tryz.prog 90 #[v, .slice a L.length c] w (zSF (lst (zAP C F L) (t + 1)) (!nl && allC C L) w) := by
 rcases h with ⟨rfl, rfl, rfl, rfl, rfl⟩ | ⟨rfl, p, q1, q2, rfl, h2⟩
 ·have e : lst (zAP (fun _ => false) (fun _ _ => false) L) (t + 1) = [] := zFe fun i _ => zHQ _ _
  rw [e]
  clear hT htab hR hL
  go_enter Tryz.func90, Tryz.ntmps90
  go_wp2
  go_ret2
  exact ⟨none, 0, rfl, .nil _ _, (fun x h => by cases h), .refl _ _⟩
 ·have TB := zSt (fun w1 (b : Below w.heap.size w w1) => htab.below b htab.pos)
  have T := zSt (hT rfl)
  have H := zSt h2
  have TM := zSt (zOl w h2)
  have HDC := zSt (fun w1 (b : Below w.heap.size w w1) => zCg w1 (h2.went b) T.out.c L a c (Sep.Reads.below hR b (Nat.le_refl _)) hL)
  have JOC := zSt (fun I' P' D' w1 (k : SAt I' P' D' p q1 q2 t n (tv C F B no0) w1) (hk : I' .o) (hb : Below w.heap.size w w1) (hd : w.heap.size <= D' .o) => zHO w w1 k T.out .o hk rfl hb hd (L.take (zA9 C L)) a c (zCP hR _) (hL.take _))
  rw [take_len] at JOC
  unfold zCb at HDC
  have E := zSt (zPh (zBR (C := C) T.out.f1 L) (show t + 1 <= 4096 by omega))
  clear hT htab h2 hR
  have hcap := hL.cap
  clear hL
  generalize allC C L = al at *
  rw [Bool.not_false, Bool.true_and]
  go_enter Tryz.func90, Tryz.ntmps90
  go_wp2_with (first
   | (go_at_call 115; refine TM.out.mono ?_; rintro e w1 ⟨pN, dN, rfl, hp1, hd1, hs1, hb1, _⟩; have B1 := zSt hb1; obtain ⟨I', P', D', hk', hI', rfl, rfl⟩ := H.out.more zSZ hb1 hs1 hp1 hd1; have K1 := zSt hk'; have O1 := zSt hI'; have D1 := zSt hd1; clear hp1 hd1 hs1 hb1 hk' hI')
   | (go_at_call 117; refine (HDC.out _ B1.out).mono ?_; rintro e w2 ⟨rfl, hb⟩; have B2 := zSt (Gr.step B1.out hb); have K2 := zSt (K1.out.went hb); clear hb)
   | (go_at_call 118; refine (JOC.out _ _ _ _ K2.out O1.out B2.out D1.out).mono ?_; rintro e w3 ⟨b, rfl, hg, hs3, hk3⟩; have B3 := zSt (zCd B2.out D1.out hk3); have S3 := zSt hs3; clear hg hs3 hk3)
   | (go_at_call 61; refine (Bt.zCN _ (.at_ S3.out) (TB.out _ B3.out)).mono ?_; rintro e w4 hl; have LL := zSt (zLM (l := lst (zAP C F L) (t + 1)) (by rw [show jn (tv C F B no0 .o) F (L.take (zA9 C L)) = rw' (zAP C F L) from zNZ]; exact E.out) B3.out hl); obtain ⟨v, rfl, _, _⟩ := hl))
  go_ret2
  obtain ⟨a4, c4, e4, h4⟩ := LL.out
  injection e4 with e4
  subst e4
  exact ⟨a4, c4, rfl, h4⟩
end Fi
namespace Lk
open Gr (Gram ivs cell_later boxed step)
open Im
open Au
open Fi (zAP allC canB fstB folB zD9 VS TOk Iab Ix)
open Bt (SetAt)
open Rw (zAL)
theorem zK5 : (Tryz.prog.info? 115).map (fun i => (i.zero, i.size, i.bytes)) = some (some (.agg #[.pointer none, .bool false]), 2, 16) := by kernel_rfl
noncomputable def tlF (G : Gram) (L : List Int) (d : Nat) : Nat -> Bool := fun u => decide (u < G.terms.length + 1) && zAP (canB G) (fstB G) (L.drop (d + 1)) (u : Int)
noncomputable def tlE (G : Gram) (L : List Int) (d : Nat) : Bool := allC (canB G) (L.drop (d + 1))
theorem zRv (G : Gram) (L : List Int) (d : Nat) : inL (G.terms.length + 1) (Fi.lst (zAP (canB G) (fstB G) (L.drop (d + 1))) (G.terms.length + 1)) = tlF G L d := by
 funext u
 unfold inL tlF
 rw [Bool.eq_iff_iff, decide_eq_true_iff, Bool.and_eq_true, decide_eq_true_iff, Fi.zCB]
 constructor
 ·rintro ⟨h1, _, _, h2⟩
  exact ⟨h1, h2⟩
 ·rintro ⟨h1, h2⟩
  exact ⟨h1, by omega, by omega, h2⟩
def tcs (p : Nat × Bool) : List Value := [.pointer (some ⟨p.1, 0, none⟩), .bool p.2]
structure TlV (G : Gram) (L : List Int) (m : Nat) (tP tD : Nat -> Nat) (j : Nat) (v : Value) (w : World) : Prop where
 row : w.ownsRow m 115 2 v j ((List.range j).flatMap fun d => tcs (tP d, tlE G L d))
 sets : ∀ d, d < j -> SetAt (tP d) (tD d) (G.terms.length + 1) (tlF G L d) w
 low : ∀ d, d < j -> m <= tP d /\ m <= tD d
 off : ∀ d, d < j -> v.ownBlock ≠ some (tP d) /\ v.ownBlock ≠ some (tD d)
theorem TlV.nil (G : Gram) (L : List Int) (m : Nat) (tP tD : Nat -> Nat) (w : World) : TlV G L m tP tD 0 (.slice none 0 0) w :=
 ⟨World.ownsRow_nil _ _ _ _, fun d hd => absurd hd (Nat.not_lt_zero d), fun d hd => absurd hd (Nat.not_lt_zero d), fun d hd => absurd hd (Nat.not_lt_zero d)⟩
theorem zDG {α : Type} {f g : α -> List Value} : ∀ {l : List α}, (∀ x ∈ l, f x = g x) -> l.flatMap f = l.flatMap g
 | [], _ => rfl
 | a :: l, h => by rw [List.flatMap_cons, List.flatMap_cons, h a (List.mem_cons_self ..), zDG fun x hx => h x (List.mem_cons_of_mem _ hx)]
theorem TlV.snoc {G : Gram} {L : List Int} {m j : Nat} {tP tD : Nat -> Nat} {v v' : Value} {w w1 w2 : World} (h : TlV G L m tP tD j v w) {P D : Nat} (hP : w.heap.size <= P) (hD : w.heap.size <= D) (hs : SetAt P D (G.terms.length + 1) (tlF G L j) w1) (hb : Below w.heap.size w w1) (hm : m <= w.heap.size)
  (hown : w2.ownsRow m 115 2 v' (j + 1) (((List.range j).flatMap fun d => tcs (tP d, tlE G L d)) ++ tcs (P, tlE G L j))) (hg : w1.grownBy w2 v.ownBlock) (hv : v'.ownBlock = v.ownBlock \/ v'.ownBlock = some w1.heap.size) :
  TlV G L m (upd tP j P) (upd tD j D) (j + 1) v' w2 := by
 have hs1 := hb.size
 have old : ∀ b, b < w1.heap.size -> v.ownBlock ≠ some b -> w2.heap[b]? = w1.heap[b]? := fun b hb2 e => hg.block b hb2 fun e2 => e e2.symm
 have off' : ∀ b, b < w1.heap.size -> v.ownBlock ≠ some b -> v'.ownBlock ≠ some b := fun b hb2 e e2 => by
  rcases hv with r | r
  ·exact e (r.symm.trans e2)
  ·have := r.symm.trans e2
   injection this with this
   omega
 have newv : ∀ b, w.heap.size <= b -> v.ownBlock ≠ some b := fun b hb2 e => by
  have := (h.row.lt b e).2
  omega
 refine ⟨?_, fun d hd => ?_, fun d hd => ?_, fun d hd => ?_⟩
 ·have e : ((List.range (j + 1)).flatMap fun d => tcs (upd tP j P d, tlE G L d)) = ((List.range j).flatMap fun d => tcs (tP d, tlE G L d)) ++ tcs (P, tlE G L j) := by
   rw [List.range_succ, List.flatMap_append]
   congr 1
   ·refine zDG fun d hd => ?_
    have := List.mem_range.1 hd
    rw [zAC (by omega)]
   ·show tcs (upd tP j P j, tlE G L j) ++ [] = _
    rw [upd_same, List.append_nil]
  rw [e]
  exact hown
 ·by_cases e : d = j
  ·subst e
   rw [upd_same, upd_same]
   exact hs.keep hg.size (old P hs.inp (newv P hP)) (old D hs.ind (newv D hD))
  ·have hd' : d < j := by omega
   rw [zAC e, zAC e]
   have k := (h.sets d hd').below hb (h.sets d hd').inp (h.sets d hd').ind
   exact k.keep hg.size (old _ k.inp (h.off d hd').1) (old _ k.ind (h.off d hd').2)
 ·by_cases e : d = j
  ·subst e
   rw [upd_same, upd_same]
   omega
  ·rw [zAC e, zAC e]
   exact h.low d (by omega)
 ·by_cases e : d = j
  ·subst e
   rw [upd_same, upd_same]
   exact ⟨off' P hs.inp (newv P hP), off' D hs.ind (newv D hD)⟩
  ·have hd' : d < j := by omega
   rw [zAC e, zAC e]
   have k := h.sets d hd'
   exact ⟨off' _ (by have := k.inp; omega) (h.off d hd').1, off' _ (by have := k.ind; omega) (h.off d hd').2⟩
theorem zOe {a : Option Addr} {X : List Int} {w : World} (h : Sep.Reads a (ivs X) w) {k c : Nat} (hk : k <= X.length) (hc : X.length <= c) :
  ∃ a1 c1, (∀ W, (Instr.slice 37 (.slice a X.length c) (some (.int .i64 (k : Int))) none none).run Tryz.prog W = .ok (.slice a1 (X.drop k).length c1) W) /\ Sep.Reads a1 (ivs (X.drop k)) w /\ (X.drop k).length <= c1 := by
 refine ⟨if c = k then a else a.map (·.add (k * 1)), c - k, fun W => ?_, fun j hj => ?_, by rw [List.length_drop]; omega⟩
 ·rw [run_slice_l W 37 a X.length c zSV .i64 (k : Int) (by omega) (by omega), zSp]
  simp [Result.andThen_ok, sliced]
 ·rw [zK7, List.length_drop] at hj
  have hck : ¬ c = k := by omega
  obtain ⟨b, o, e, hx⟩ := h (k + j) (by rw [zK7]; omega)
  refine ⟨b, o + k, ?_, ?_⟩
  ·rw [if_neg hck, e]
   simp [Addr.add]
  ·rw [show o + k + j = o + (k + j) by omega, hx]
   simp [zNY]
def zJ5 (G : Gram) (L : List Int) (w : World) (e : Ending) (w' : World) : Prop := ∃ tP tD a c, e = .returned (.slice a L.length c) /\ TlV G L w.heap.size tP tD L.length (.slice a L.length c) w' /\ Below w.heap.size w w'
theorem zOj (T : TypeId) (base P q : Nat) (b : Bool) (w : World) (hq : q = w.heap.size) (hb : base <= q) : (w.alloc (.cells #[.pointer (some ⟨P, 0, none⟩), .bool b] T)).ownsRow base T 2 (.slice (some ⟨q, 0, none⟩) 1 1) 1 (tcs (P, b)) := by
 subst hq
 exact World.ownsRow_lit w #[.pointer (some ⟨P, 0, none⟩), .bool b] 1 hb (by decide) (by simp)
theorem zHp {G : Gram} {P D : Ix -> Nat} {vS : Value} {O : Nat -> Bool} {p : Nat} (w : World) (hS : VS false (Iab G.terms.length (Gr.top G + 1) (Gr.top G + 1)) P D vS G.terms.length (Gr.top G + 1) (canB G) (fstB G) (folB G) O w) (hT : TOk G.terms.length (Gr.top G + 1) (canB G) (fstB G) (folB G)) (htab : Bt.Tab w) (h0 : 0 < w.heap.size) (hTs : G.terms.length <= 1000)
  (hp : w.cell? ⟨p, 1, none⟩ = some (.int .i64 (G.terms.length : Int))) (L : List Int) (a : Option Addr) (c : Nat) (hR : Sep.Reads a (ivs L) w) (hl : L.length <= 1000) (hc : L.length <= c) (hL : ∀ x ∈ L, x <= 9223372036854775807) :
  Calls Tryz.prog 54 #[.pointer (some ⟨p, 0, none⟩), .slice a L.length c, vS] w (zJ5 G L w) := by
 have LI := zSt (fun w1 (b : Below w.heap.size w w1) (X : List Int) a1 c1 hr hx => Fi.zNg w1 (hS.went b) (fun _ => hT) (htab.below b h0) (by omega) X a1 c1 hr hx)
 have SE := zSt (fun w1 (b : Below w.heap.size w w1) (X : List Int) a1 c1 hr hx hb => zHk G.terms.length p X a1 c1 w1 hTs (cell_later b hp) hr hx hb)
 have RD := zSt (fun w1 (b : Below w.heap.size w w1) => Sep.Reads.below hR b (Nat.le_refl _))
 have FI := zSt hL
 obtain ⟨i0, hj, hz0, hz1, hz2'⟩ := info_parts zK5
 clear hS hT htab hp hR hL
 go_enter Tryz.func54, Tryz.ntmps54
 go_wp2
 go_loopw [7, 13] (fun v t wr => ∃ (j : Nat) (tP tD : Nat -> Nat) (av : Option Addr) (cv : Nat), t = .int .i64 j /\ j <= L.length /\ v = .slice av j cv /\ TlV G L w.heap.size tP tD j v wr /\ Below w.heap.size w wr) (fun _ t _ => L.length - (intOf t).toNat)
 case atStart => exact ⟨0, fun _ => 0, fun _ => 0, none, 0, rfl, Nat.zero_le _, rfl, TlV.nil _ _ _ _ _ _, .refl _ _⟩
 case round =>
  obtain ⟨j, tP, tD, av, cv, rfl, hj1, rfl, hV, hB⟩ := hrel
  have V := zSt hV
  have B := zSt hB
  clear hV hB
  by_cases hlt : j < L.length
  ·obtain ⟨a1, c1, e1, t1, t2⟩ := zOe (RD.out wr B.out) (k := j + 1) (by omega) hc
   have hwr : IntKind.i64.wrap ((j : Int) + 1) = (j : Int) + 1 := IntWalk.i64_in _ (by omega)
   rw [show ((j + 1 : Nat) : Int) = (j : Int) + 1 by omega] at e1
   have hdl : (L.drop (j + 1)).length <= 1000 := by rw [List.length_drop]; omega
   have hcc := Fi.zD9 (zAP (canB G) (fstB G) (L.drop (j + 1))) (G.terms.length + 1)
   have hx1 := zSt (show ∀ t ∈ Fi.lst (zAP (canB G) (fstB G) (L.drop (j + 1))) (G.terms.length + 1), t <= 9223372036854775807 from fun t ht => by
    have := (Fi.zCB.1 ht).2.1
    omega)
   have TI := zSt (zRv G L j)
   have hLX := zSt (LI.out wr B.out (L.drop (j + 1)) a1 c1 t1 ⟨fun x hx => FI.out x (List.mem_of_mem_drop hx), by omega, t2⟩)
   have hEE := zSt (show (!false && allC (canB G) (L.drop (j + 1))) = tlE G L j from rfl)
   rw [hEE.out] at hLX
   generalize (L.drop (j + 1)).length = dl at *
   generalize hUU : Fi.lst (zAP (canB G) (fstB G) (L.drop (j + 1))) (G.terms.length + 1) = UU at *
   have SN := zSt (fun (P D : Nat) (w1 w2 : World) (v' : Value) h1 h2 h3 h4 h5 h6 h7 => V.out.snoc (P := P) (D := D) (w1 := w1) (w2 := w2) (v' := v') h1 h2 h3 h4 B.out.size h5 h6 h7)
   have VR := zSt V.out.row
   have hbm := B.out.size
   clear t1 t2 V
   generalize hte : tlE G L j = te at *
   generalize hro : ((List.range j).flatMap fun d => tcs (tP d, tlE G L d)) = ro at *
   go_wp2_with (first
    | (go_at_call 90; (with_reducible refine (hLX.out).mono ?_); rintro e w2 ⟨a2, c2, rfl, r2, _, b2⟩; have B2 := zSt (Gr.step B.out b2); have BB2 := zSt b2; have S2 := zSt (SE.out w2 B2.out UU a2 c2 r2 (by omega) hx1.out); clear r2 b2)
    | (go_at_call 59; (with_reducible refine (S2.out).mono ?_); rintro e w3 ⟨P3, D3, rfl, hP3, hD3, hs3, b3⟩; have B3 := zSt (Gr.step BB2.out b3); have hz2 := BB2.out.size; have hz3 := b3.size; have TS := zSt hs3; have VX := zSt (Sep.zAE VR.out fun g hg => (Gr.step B3.out (boxed w3 (.cells #[.pointer (some ⟨P3, 0, none⟩), .bool te] 115))).block g (VR.out.lt g hg).2); have ON := zSt (zOj 115 w.heap.size P3 w3.heap.size te w3 rfl (by omega)); have hsx : (w3.alloc (.cells #[.pointer (some ⟨P3, 0, none⟩), .bool te] 115)).heap.size = w3.heap.size + 1 := (by simp); clear hs3 b3)
    | (at_builtin; refine zAL _ rfl _ _ 108 rfl w.heap.size 115 i0 (.agg #[.pointer none, .bool false]) 2 16 Tryz.underlying108 hj hz0 hz1 hz2' rfl (by decide) (.slice av j cv) j ro rfl VX.out w.heap.size _ 1 (tcs (P3, te)) rfl ON.out (by simp [tcs, Value.oneCell']) (by unfold maxLen; omega) (by omega) (by omega) ?_; intro v' w' hown hg hloc; have V4 := zSt (SN.out P3 D3 _ w' v' (by omega) (by omega) (by have := (TS.out.below (boxed w3 (.cells #[.pointer (some ⟨P3, 0, none⟩), .bool te] 115)) TS.out.inp TS.out.ind); rw [TI.out] at this; exact this) (Gr.step B3.out (boxed _ _)) hown hg hloc); have W4 := zSt (zA6 (m := w.heap.size) hg (by omega) fun k hk => (VR.out.lt k hk).1); obtain ⟨a7, c7, rfl⟩ := Rw.zAH hown; clear hown hg hloc))
   go_roundw
   case rel => exact ⟨j + 1, _, _, a7, c7, by go_num, by omega, rfl, V4.out, (Gr.step B.out (Gr.step B3.out (boxed _ _))).trans W4.out⟩
   case measure => simp [intOf]; omega
  ·have hE : j = L.length := by omega
   subst hE
   go_wp2
   go_ret
   exact ⟨tP, tD, av, cv, rfl, V.out, B.out⟩
end Lk
namespace Fi
open Gr
def inB (x : Int) (B : List Int) : Bool := B.any fun y => decide (x = y)
def zBE (A B : List Int) : Bool := A.all fun x => inB x B
theorem zNS (x : Int) (B : List Int) : inB x (B.take 0) = false := by rw [List.take_zero]; rfl
theorem zNR {x : Int} {B : List Int} {k : Nat} (hk : k < B.length) : inB x (B.take (k + 1)) = (inB x (B.take k) || decide (x = B[k])) := by
 rw [zC8 hk]
 unfold inB
 rw [List.any_append]
 simp
theorem zGw {A B : List Int} {i : Nat} (hi : i < A.length) (h : zBE (A.take i) B = true) (hx : inB A[i] B = true) : zBE (A.take (i + 1)) B = true := by
 rw [zC8 hi]
 unfold zBE at h ⊢
 rw [List.all_append, h]
 simp [hx]
theorem zHw {A B : List Int} {i : Nat} (hi : i < A.length) (hx : inB A[i] B = false) : zBE A B = false := by
 cases e : zBE A B with
 | false => rfl
 | true =>
  unfold zBE at e
  rw [List.all_eq_true] at e
  rw [e _ (List.getElem_mem hi)] at hx
  cases hx
theorem zDM (A B : List Int) (a b : Option Addr) (c d : Nat) (w : World) (hA : Sep.Reads a (ivs A) w) (hB : Sep.Reads b (ivs B) w) (ha : A.length <= 100000) (hb : B.length <= 100000) :
  Calls Tryz.prog 13 #[.slice a A.length c, .slice b B.length d] w (Is (.bool (zBE A B)) w) := by
 have RA := zSt (fun w1 (k : Below w.heap.size w w1) => Sep.Reads.below hA k (Nat.le_refl _))
 have RB := zSt (fun w1 (k : Below w.heap.size w w1) => Sep.Reads.below hB k (Nat.le_refl _))
 clear hA hB
 go_enter Tryz.func13, Tryz.ntmps13
 go_wp2
 go_loopw [5] (fun i wr => ∃ k : Nat, k <= A.length /\ i = .int .i64 k /\ zBE (A.take k) B = true /\ Below w.heap.size w wr) (fun i _ => A.length - (intOf i).toNat)
 case atStart => exact ⟨0, Nat.zero_le _, rfl, rfl, .refl _ _⟩
 case round =>
  obtain ⟨k, hk, rfl, hW, hw⟩ := hrel
  have WW := zSt hW
  have BW := zSt hw
  clear hW hw
  by_cases hlt : k < A.length
  ·obtain ⟨b1, o1, rfl, hc1⟩ := zBf (RA.out _ BW.out) hlt
   have WS := zSt (fun h => zGw hlt WW.out h)
   have WN := zSt (fun h => zHw (B := B) hlt h)
   generalize A[k] = x at *
   have CA := zSt (fun w' (b : Below wr.heap.size wr w') => cell_later b hc1)
   have RBR := zSt (fun w' (b : Below wr.heap.size wr w') => RB.out w' (Gr.step BW.out b))
   have BWR := zSt (fun w' (b : Below wr.heap.size wr w') => Gr.step BW.out b)
   have STP := zSt (fun w1 w2 (b : Below wr.heap.size wr w1) (c : Below w1.heap.size w1 w2) => Gr.step b c)
   have B00 := zSt (Below.refl wr.heap.size wr)
   clear hc1 WW BW RB
   go_wp2
   go_loopw [6, 7] (fun m i wr2 => ∃ j : Nat, j <= B.length /\ i = .int .i64 j /\ m = .bool (inB x (B.take j)) /\ Below wr.heap.size wr wr2) (fun _ i _ => B.length - (intOf i).toNat)
   case atStart => exact ⟨0, Nat.zero_le _, rfl, by rw [zNS], B00.out⟩
   case round =>
    clear B00
    obtain ⟨j, hj, rfl, rfl, hw2⟩ := hrel
    have B2 := zSt hw2
    clear hw2
    by_cases hlt2 : j < B.length
    ·obtain ⟨b2, o2, rfl, hc2⟩ := zBf (RBR.out _ B2.out) hlt2
     have hc1 := CA.out _ B2.out
     have SB := zSt (zNR (x := x) hlt2)
     generalize B[j] = y at *
     generalize inB x (B.take j) = g at *
     cases g with
     | true =>
      have S2 := zSt (show inB x (B.take (j + 1)) = true from SB.out)
      clear SB
      go_wp2_with fail
      go_quiet (fail)
      have B3 := zSt (STP.out _ _ B2.out (zA1 _ nq))
      go_wp2
      go_roundw
      case rel => exact ⟨j + 1, by omega, by go_num, by rw [S2.out], B3.out⟩
      case measure => simp [intOf]; omega
     | false =>
      have S2 := zSt (show inB x (B.take (j + 1)) = decide (x = y) from by rw [SB.out, Bool.false_or])
      clear SB
      go_wp2_with fail
      go_quiet (fail)
      have B3 := zSt (STP.out _ _ B2.out (zA1 _ nq))
      go_wp2
      go_roundw
      case rel => exact ⟨j + 1, by omega, by go_num, by rw [S2.out]; first | rfl | (congr 1; rw [Bool.eq_iff_iff]; simp), B3.out⟩
      case measure => simp [intOf]; omega
    ·have E : B.take j = B := List.take_of_length_le (by omega)
     rw [E]
     clear E
     have B3 := zSt (BWR.out _ B2.out)
     generalize inB x B = g at *
     cases g with
     | true =>
      have W2 := zSt (WS.out rfl)
      clear WS WN
      go_wp2
      go_roundw
      case rel => exact ⟨k + 1, by omega, by go_num, W2.out, B3.out⟩
      case measure => simp [intOf]; omega
     | false =>
      have W2 := zSt (WN.out rfl)
      clear WS WN
      go_wp2
      go_ret
      exact ⟨by rw [W2.out]; rfl, B3.out⟩
  ·have E : A.take k = A := List.take_of_length_le (by omega)
   rw [E] at WW
   go_wp2
   go_ret
   exact ⟨by rw [WW.out]; rfl, BW.out⟩
