/- A part of the proof. -/
import Derived.Test.YtbajcecncgdpmaaGreatDoorPk22
import Derived.Test.YtbajcecncgdpmaaGreatDoorPk20
import Derived.Test.YtbajcecncgdpmaaGreatDoorPk15
set_option linter.unusedVariables false
namespace Go.Proofs.YtbajcecncgdpmaaGreatDoor
open Go.RowKit Go.Maps
namespace Lk
open Im
def P64 (p : Pl) : Prop := (Lit.int .i64 (p.1 : Int)).wf = true /\ W64 p.2
def pv (p : Pl) : Value := .agg #[.int .i64 (p.1 : Int), .int .i64 p.2.1, .int .i64 p.2.2]
def pk (p : Pl) : Lit := .string (keyBytes [.int .i64 (p.1 : Int), .int .i64 p.2.1, .int .i64 p.2.2])
theorem zSd {x y : Pl} (hx : P64 x) (hy : P64 y) (h : pk x = pk y) : x = y := by
 unfold pk at h
 simp only [Lit.string.injEq] at h
 have := keyBytes_inj (l := [.int .i64 (x.1 : Int), .int .i64 x.2.1, .int .i64 x.2.2]) (l' := [.int .i64 (y.1 : Int), .int .i64 y.2.1, .int .i64 y.2.2]) (by simp [Alike, Lit.sameKind])
  (fun a ha => by
   simp only [List.mem_cons, List.not_mem_nil, or_false] at ha
   rcases ha with rfl | rfl | rfl
   ·exact hx.1
   ·exact hx.2.1
   ·exact hx.2.2)
  (fun a ha => by
   simp only [List.mem_cons, List.not_mem_nil, or_false] at ha
   rcases ha with rfl | rfl | rfl
   ·exact hy.1
   ·exact hy.2.1
   ·exact hy.2.2) h
 simp at this
 obtain ⟨h1, h2, h3⟩ := this
 obtain ⟨a, b, c⟩ := x
 obtain ⟨a', b', c'⟩ := y
 dsimp only at h1 h2 h3
 subst h2 h3
 have : a = a' := by omega
 rw [this]
structure Kp (P : Program) (K : TypeId) : Prop where
 law : Keyed P K
 key : ∀ x, P64 x -> keyOf P K (pv x) = some (pk x)
theorem zTp {P : Program} {K : TypeId} (fa fb ga gb : Field) (law : Keyed P K) (hu : P.underlying K = some (.struct #[fa, fb])) (ha : P.underlying fa.type = some (.int .i64)) (hb : P.underlying fb.type = some (.struct #[ga, gb]))
  (hga : P.underlying ga.type = some (.int .i64)) (hgb : P.underlying gb.type = some (.int .i64)) (hkt : P.keyType K = true) (hcells : P.cellsOf K = 3) (cb2 : P.cellsOf fb.type = 2)
  (ca : P.cellsOf fa.type = 1) (cga : P.cellsOf ga.type = 1) (cgb : P.cellsOf gb.type = 1) (oa : fa.offset = 0) (ob : fb.offset = 1) (oga : ga.offset = 0) (ogb : gb.offset = 1)
  (na : (fa.name != "_") = true) (nb : (fb.name != "_") = true) (nga : (ga.name != "_") = true) (ngb : (gb.name != "_") = true) (n : Nat) (hn : P.types.size = n + 2) : Kp P K := by
 refine ⟨law, fun x hx => ?_⟩
 unfold keyOf pv
 rw [hu]
 simp only [hkt, Bool.true_and]
 rw [if_pos (by simp [Value.formed, hu, hcells])]
 rw [hn]
 simp [Program.keyLits, hu, hcells, ca, cb2, cga, cgb, oa, ob, oga, ogb, ha, hb, hga, hgb, na, nb, hx.1, hx.2.1, hx.2.2, Value.cells, pk]
 rw [if_pos (by
  intro i hi
  rcases (by omega : i = 0 \/ i = 1) with rfl | rfl
  ·simpa using nga
  ·simpa using ngb)]
 rfl
section
variable {P : Program} {K T E : TypeId}
def PMap (P : Program) (K E : TypeId) (b n : Nat) (X : Pl -> Option Int) (w : World) : Prop :=
 ∃ D : DataW Unit, w.ownsMap P K (plainElem P E) b n D /\ ∀ x, P64 x -> has D (pk x) = (X x).isSome /\ D.atKey (pk x) (.lit (.int .i64 0)) = .lit (.int .i64 ((X x).getD 0))
theorem PMap.made (w : World) (P : Program) (K E : TypeId) : PMap P K E w.heap.size 0 (fun _ => none) (w.alloc (.map #[] 0)) :=
 ⟨_, World.ownsMap_made w P K _, fun x _ => ⟨rfl, rfl⟩⟩
theorem PMap.eq {b n : Nat} {X Y : Pl -> Option Int} {w : World} (h : PMap P K E b n X w) (e : ∀ x, X x = Y x) : PMap P K E b n Y w := by
 obtain ⟨D, h, k⟩ := h
 exact ⟨D, h, fun x hx => by rw [← e x]; exact k x hx⟩
theorem PMap.keep {b n : Nat} {X : Pl -> Option Int} {w w' : World} (h : PMap P K E b n X w) (hb : w'.heap[b]? = w.heap[b]?) : PMap P K E b n X w' := by
 obtain ⟨D, h, k⟩ := h
 exact ⟨D, Sep.ownsMap_at h hb, k⟩
theorem PMap.store {b n : Nat} {X : Pl -> Option Int} {w : World} (h : PMap P K E b n X w) (k : Kp P K) (ht : P.underlying T = some (.map K E)) (he : P.underlying E = some (.int .i64)) (hn : n < maxLen) {x : Pl} (hx : P64 x) {t : Int} (hw : (Lit.int .i64 t).wf = true) :
  ∃ w', (Instr.mapUpdate T (.map (some b)) (pv x) (.int .i64 t)).run P w = .ok () w' /\ PMap P K E b (n + 1) (fun y => if y = x then some t else X y) w' /\ w.mapTurned w' b := by
 obtain ⟨D, ho, kd⟩ := h
 obtain ⟨w', hrun, h1, h2⟩ := ho.store k.law ht hn (k.key x hx) (plainElem_int he hw)
 refine ⟨w', hrun, ⟨_, h1, fun y hy => ?_⟩, h2⟩
 by_cases e : y = x
 ·subst e
  show _ = (if y = y then some t else X y).isSome /\ _ = DataW.lit (Lit.int .i64 ((if y = y then some t else X y).getD 0))
  rw [if_pos rfl, has_put_same ho.isMap (k.law.key (k.key y hy)), atKey_put_same ho.isMap (k.law.key (k.key y hy))]
  exact ⟨rfl, rfl⟩
 ·have hne : pk y ≠ pk x := fun q => e (zSd hy hx q)
  show _ = (if y = x then some t else X y).isSome /\ _ = DataW.lit (Lit.int .i64 ((if y = x then some t else X y).getD 0))
  rw [if_neg e, has_put_other hne, atKey_put_other hne]
  exact kd y hy
theorem PMap.look {b n : Nat} {X : Pl -> Option Int} {w : World} (h : PMap P K E b n X w) (k : Kp P K) (ht : P.underlying T = some (.map K E)) (he : P.underlying E = some (.int .i64)) (hz : (zeroValue E).run P w = .ok (.int .i64 0) w) {x : Pl} (hx : P64 x) :
  (Instr.lookup T (.map (some b)) (pv x) true).run P w = .ok (.tuple #[.int .i64 ((X x).getD 0), .bool (X x).isSome]) w := by
 obtain ⟨D, ho, kd⟩ := h
 have hzd : plainElem (H := Unit) P E (.int .i64 0) = some (.lit (.int .i64 0), []) := plainElem_int he (by decide)
 obtain ⟨v, ps, hrun, hR⟩ := ho.look_ok k.law ht hz hzd (k.key x hx)
 rw [(kd x hx).2] at hR
 rw [(kd x hx).1] at hrun
 have hv : v = .int .i64 ((X x).getD 0) := by
  unfold plainElem at hR
  rw [he] at hR
  cases v <;> simp at hR
  simp_all
 rw [hrun, hv]
end
def numX (L : List Pl) (p : Pl) : Option Int := if p ∈ L then some (L.idxOf p : Int) else none
theorem zO5 {L : List Pl} {p : Pl} (h : p ∈ L) : numX L p = some (L.idxOf p : Int) /\ L[L.idxOf p]? = some p := by
 refine ⟨if_pos h, ?_⟩
 have := List.idxOf_lt_length_of_mem h
 rw [List.getElem?_eq_getElem this]
 exact congrArg some (List.getElem_idxOf _)
theorem zMO {L : List Pl} {p : Pl} (h : p ∉ L) : numX L p = none := if_neg h
theorem zKm {L : List Pl} {p : Pl} (h : p ∉ L) (y : Pl) : numX (L ++ [p]) y = if y = p then some (L.length : Int) else numX L y := by
 unfold numX
 by_cases e : y = p
 ·subst e
  rw [if_pos (List.mem_append_right _ (List.mem_singleton.2 rfl)), if_pos rfl, List.idxOf_append, if_neg h]
  simp
 ·rw [if_neg e]
  by_cases hy : y ∈ L
  ·rw [if_pos (List.mem_append_left _ hy), if_pos hy, List.idxOf_append, if_pos hy]
  ·rw [if_neg hy, if_neg]
   rw [List.mem_append, List.mem_singleton]
   exact fun q => q.elim hy e
end Lk
namespace Lk
open Gr (Gram zAD checkN top ivs)
open Im
open Au
open Fi (zAO allC canB fstB)
open Bt (SetAt)
open Rw (Bk)
structure Fk where
 aS : Option Addr
 cS : Nat
 bR : Nat
 cR : Nat
 bB : Nat
 cB : Nat
 bT : Nat
 cT : Nat
 tP : Nat -> Nat -> Nat
 tD : Nat -> Nat -> Nat
 p : Nat
 mb : Nat
noncomputable def zL9 (G : Gram) (k d : Nat) : Nat -> Bool := fun u => decide (u < G.terms.length + 1) && zAO (canB G) (fstB G) ((zAD G (k : Int)).2.drop (d + 1)) (u : Int)
noncomputable def zQW (G : Gram) (k d : Nat) : Bool := allC (canB G) ((zAD G (k : Int)).2.drop (d + 1))
def nivs (l : List Nat) : List Value := l.map fun (k : Nat) => .int .i64 (k : Int)
theorem zD1 (l : List Nat) : (nivs l).length = l.length := by simp [nivs]
structure FixAt (K : Fk) (G : Gram) (q : Whole) (w : World) : Prop where
 sts : StaA K.aS (states q) w
 rules : ∀ k : Nat, k <= G.rules.length -> ∃ a c, w.cell? ⟨K.bR, k * 2, none⟩ = some (.int .i64 (zAD G (k : Int)).1) /\ w.cell? ⟨K.bR, k * 2 + 1, none⟩ = some (.slice a (zAD G (k : Int)).2.length c) /\ Sep.Reads a (ivs (zAD G (k : Int)).2) w
 lefts : ∀ s : Nat, s <= top G -> ∃ a c, w.cell? ⟨K.bB, s, none⟩ = some (.slice a (byL G (s : Int)).length c) /\ Sep.Reads a (nivs (byL G (s : Int))) w
 tails : ∀ k : Nat, k <= G.rules.length -> ∃ a c, w.cell? ⟨K.bT, k, none⟩ = some (.slice a (zAD G (k : Int)).2.length c) /\ ∀ d, d < (zAD G (k : Int)).2.length -> ∃ b, a = some ⟨b, 0, none⟩ /\ w.cell? ⟨b, d * 2, none⟩ = some (.pointer (some ⟨K.tP k d, 0, none⟩)) /\ w.cell? ⟨b, d * 2 + 1, none⟩ = some (.bool (zQW G k d)) /\ SetAt (K.tP k d) (K.tD k d) (G.terms.length + 1) (zL9 G k d) w
def PM (K : Fk) : Nat -> Prop := fun b => b = K.p \/ b = K.mb
structure Fix (W : World) (K : Fk) (G : Gram) (q : Whole) : Prop where
 ok : checkN G = 0
 done : Done G q
 small : Small (states q)
 len : q.1.length <= 2000
 at_ : ∀ w, Sep.Fr (PM K) W w -> FixAt K G q w
 plt : K.p < W.heap.size
 mlt : K.mb < W.heap.size
 pm : K.p ≠ K.mb
inductive Lb : Type
 | no : Lb
 | box : Lb
 | map : Lb
 | row : Lb
 | sP : Nat -> Lb
 | sE : Nat -> Lb
 | way : Nat -> Lb
 | que : Lb
def yc (y : Way) : List Value := [y.v, .bool y.e, .int .i64 (y.to : Int)]
theorem zEq (y : Way) : (yc y).length = 3 := rfl
def cc (N : Nt) (k : Nat) : List Value := [.pointer (some ⟨N.D k, 0, none⟩), N.wv k, .bool (N.Wt k)]
theorem zC1 (N : Nt) (k : Nat) : (cc N k).length = 3 := rfl
def cells (N : Nt) : List Value := (List.range N.pls.length).flatMap (cc N)
def YOk (K : Fk) (G : Gram) (y : Way) : Prop := (y.v = .pointer none /\ y.f = fun _ => false) \/ ∃ k d : Nat, k <= G.rules.length /\ d < (zAD G (k : Int)).2.length /\ y.v = .pointer (some ⟨K.tP k d, 0, none⟩) /\ y.f = zL9 G k d
def nb (K : Fk) (G : Gram) (n : Nat) (cv qv : Value) : Array Value := #[.slice K.aS n K.cS, .int .i64 (G.terms.length : Int), .slice (some ⟨K.bR, 0, none⟩) (G.rules.length + 1) K.cR, .slice (some ⟨K.bB, 0, none⟩) (top G + 1) K.cB, .slice (some ⟨K.bT, 0, none⟩) (G.rules.length + 1) K.cT, cv, .map (some K.mb), qv]
abbrev NMap (b n : Nat) (X : Pl -> Option Int) (w : World) : Prop := PMap Tryz.prog 124 3 b n X w
structure NP (W : World) (K : Fk) (G : Gram) (q : Whole) (N : Nt) (lab : Nat -> Lb) (cv qv : Value) (w : World) : Prop where
 fr : Sep.Fr (PM K) W w
 box : Bk K.p (nb K G (states q).length cv qv) 73 w
 row : w.ownsRow W.heap.size 122 3 cv N.pls.length (cells N)
 ways : ∀ k, k < N.pls.length -> w.ownsRow W.heap.size 117 3 (N.wv k) (N.Ys k).length ((N.Ys k).flatMap yc)
 yok : ∀ k, k < N.pls.length -> ∀ y ∈ N.Ys k, YOk K G y
 sets : ∀ k, k < N.pls.length -> SetAt (N.D k) (N.E k) (G.terms.length + 1) (N.S k) w
 map : NMap K.mb N.pls.length (numX N.pls) w
 queue : w.ownsRow W.heap.size 3 1 qv N.qs.length (nivs N.qs)
 lp : lab K.p = .box
 lm : lab K.mb = .map
 lr : ∀ g, cv.ownBlock = some g -> lab g = .row
 lw : ∀ k, k < N.pls.length -> ∀ g, (N.wv k).ownBlock = some g -> lab g = .way k
 lP : ∀ k, k < N.pls.length -> lab (N.D k) = .sP k
 lE : ∀ k, k < N.pls.length -> lab (N.E k) = .sE k
 lq : ∀ g, qv.ownBlock = some g -> lab g = .que
 low : ∀ b, lab b ≠ .no -> b = K.p \/ b = K.mb \/ W.heap.size <= b
 inn : ∀ b, lab b ≠ .no -> b < w.heap.size
section
variable {W : World} {K : Fk} {G : Gram} {q : Whole} {N : Nt} {lab : Nat -> Lb} {cv qv : Value} {w w' : World} {ch : Lb -> Prop}
abbrev Ch (ch : Lb -> Prop) (lab : Nat -> Lb) (w w' : World) : Prop := Sep.Fr (fun b => ch (lab b)) w w'
theorem NP.lab_lt (h : NP W K G q N lab cv qv w) {b : Nat} {L : Lb} (e : lab b = L) (hn : L ≠ .no) : b < w.heap.size := h.inn b (e ▸ hn)
theorem NP.keep (h : NP W K G q N lab cv qv w) (f : Ch ch lab w w') {b : Nat} {L : Lb} (e : lab b = L) (hn : L ≠ .no) (hc : ¬ ch L) : w'.heap[b]? = w.heap[b]? := f.block b (h.lab_lt e hn) (by rw [e]; exact hc)
theorem NP.fr' (h : NP W K G q N lab cv qv w) (f : Ch ch lab w w') (hc : ¬ ch .no) : Sep.Fr (PM K) W w' :=
 ⟨f.os.trans h.fr.os, f.tape.trans h.fr.tape, f.output.trans h.fr.output, Nat.le_trans h.fr.size f.size, fun b hb hp => by
  have hl : lab b = .no := by
   cases e : lab b with
   | no => rfl
   | _ =>
    exfalso
    rcases h.low b (by rw [e]; intro h; cases h) with r | r | r
    ·exact hp (.inl r)
    ·exact hp (.inr r)
    ·omega
  rw [f.block b (Nat.lt_of_lt_of_le hb h.fr.size) (by rw [hl]; exact hc)]
  exact h.fr.block b hb hp⟩
theorem NP.box' (h : NP W K G q N lab cv qv w) (f : Ch ch lab w w') (hc : ¬ ch .box) : Bk K.p (nb K G (states q).length cv qv) 73 w' := (h.keep f h.lp (by intro h; cases h) hc).trans h.box
theorem NP.row' (h : NP W K G q N lab cv qv w) (f : Ch ch lab w w') (hc : ¬ ch .row) : w'.ownsRow W.heap.size 122 3 cv N.pls.length (cells N) := Sep.zAC h.row fun g hg => h.keep f (h.lr g hg) (by intro h; cases h) hc
theorem NP.ways' (h : NP W K G q N lab cv qv w) (f : Ch ch lab w w') {k : Nat} (hk : k < N.pls.length) (hc : ¬ ch (.way k)) : w'.ownsRow W.heap.size 117 3 (N.wv k) (N.Ys k).length ((N.Ys k).flatMap yc) := Sep.zAC (h.ways k hk) fun g hg => h.keep f (h.lw k hk g hg) (by intro h; cases h) hc
theorem NP.sets' (h : NP W K G q N lab cv qv w) (f : Ch ch lab w w') {k : Nat} (hk : k < N.pls.length) (hP : ¬ ch (.sP k)) (hE : ¬ ch (.sE k)) : SetAt (N.D k) (N.E k) (G.terms.length + 1) (N.S k) w' := (h.sets k hk).keep f.size (h.keep f (h.lP k hk) (by intro h; cases h) hP) (h.keep f (h.lE k hk) (by intro h; cases h) hE)
theorem NP.map' (h : NP W K G q N lab cv qv w) (f : Ch ch lab w w') (hc : ¬ ch .map) : NMap K.mb N.pls.length (numX N.pls) w' := h.map.keep (h.keep f h.lm (by intro h; cases h) hc)
theorem NP.queue' (h : NP W K G q N lab cv qv w) (f : Ch ch lab w w') (hc : ¬ ch .que) : w'.ownsRow W.heap.size 3 1 qv N.qs.length (nivs N.qs) := Sep.zAC h.queue fun g hg => h.keep f (h.lq g hg) (by intro h; cases h) hc
theorem NP.went (h : NP W K G q N lab cv qv w) (hb : Below w.heap.size w w') : NP W K G q N lab cv qv w' := by
 have f : Ch (fun _ => False) lab w w' := .of_below hb
 exact ⟨h.fr' f id, h.box' f id, h.row' f id, fun k hk => h.ways' f hk id, h.yok, fun k hk => h.sets' f hk id id, h.map' f id, h.queue' f id, h.lp, h.lm, h.lr, h.lw, h.lP, h.lE, h.lq, h.low, fun b hn => Nat.lt_of_lt_of_le (h.inn b hn) hb.size⟩
def lab1 (lab : Nat -> Lb) (g : Nat) (L : Lb) : Nat -> Lb := fun b => if b = g then L else lab b
theorem zCe (lab : Nat -> Lb) (g : Nat) (L : Lb) : lab1 lab g L g = L := if_pos rfl
theorem zAp {lab : Nat -> Lb} {g b : Nat} {L : Lb} (h : b ≠ g) : lab1 lab g L b = lab b := if_neg h
theorem NP.eight (h : NP W K G q N lab cv qv w) : w.cell? ⟨K.p, 0, none⟩ = some (.slice K.aS (states q).length K.cS) /\ w.cell? ⟨K.p, 1, none⟩ = some (.int .i64 (G.terms.length : Int)) /\ w.cell? ⟨K.p, 2, none⟩ = some (.slice (some ⟨K.bR, 0, none⟩) (G.rules.length + 1) K.cR) /\ w.cell? ⟨K.p, 3, none⟩ = some (.slice (some ⟨K.bB, 0, none⟩) (top G + 1) K.cB) /\ w.cell? ⟨K.p, 4, none⟩ = some (.slice (some ⟨K.bT, 0, none⟩) (G.rules.length + 1) K.cT) /\ w.cell? ⟨K.p, 5, none⟩ = some cv /\ w.cell? ⟨K.p, 6, none⟩ = some (.map (some K.mb)) /\ w.cell? ⟨K.p, 7, none⟩ = some qv :=
 ⟨h.box.cell rfl, h.box.cell rfl, h.box.cell rfl, h.box.cell rfl, h.box.cell rfl, h.box.cell rfl, h.box.cell rfl, h.box.cell rfl⟩
theorem zDQ {α : Type} (f : α -> List Value) (hf : ∀ x, (f x).length = 3) : ∀ (L : List α) (j : Nat) (hj : j < L.length) (i : Nat) (hi : i < 3), (L.flatMap f)[j * 3 + i]? = (f L[j])[i]?
 | t :: T, 0, hj, i, hi => by
  rw [List.flatMap_cons, List.getElem?_append_left (by rw [hf]; omega)]
  simp
 | t :: T, j + 1, hj, i, hi => by
  rw [List.flatMap_cons, List.getElem?_append_right (by rw [hf]; omega), hf, show (j + 1) * 3 + i - 3 = j * 3 + i by omega, zDQ f hf T j (by simpa using hj) i hi]
  simp
theorem zHX {α : Type} (f : α -> List Value) (hf : ∀ x, (f x).length = 3) (L : List α) : (L.flatMap f).length = L.length * 3 := by
 induction L with
 | nil => rfl
 | cons a L ih => rw [List.flatMap_cons, List.length_append, hf, ih, List.length_cons]; omega
theorem zCR (N : Nt) {k : Nat} (hk : k < N.pls.length) (i : Nat) (hi : i < 3) : (cells N)[k * 3 + i]? = (cc N k)[i]? := by
 unfold cells
 rw [zDQ (cc N) (zC1 N) _ k (by simpa using hk) i hi, List.getElem_range]
theorem NP.cell (h : NP W K G q N lab cv qv w) {k : Nat} (hk : k < N.pls.length) : ∃ g c, cv = .slice (some ⟨g, 0, none⟩) N.pls.length c /\ lab g = .row /\ W.heap.size <= g /\ w.cell? ⟨g, k * 3, none⟩ = some (.pointer (some ⟨N.D k, 0, none⟩)) /\ w.cell? ⟨g, k * 3 + 1, none⟩ = some (N.wv k) /\ w.cell? ⟨g, k * 3 + 2, none⟩ = some (.bool (N.Wt k)) /\ ∀ j, w.frozen? ⟨g, j, none⟩ = false := by
 have hc := h.row
 rcases h.row.2 with ⟨_, h0⟩ | ⟨g, cap, cur, e, hbs, hg, _⟩
 ·omega
 ·have rd := World.ownsRow.cells h.row (g := g) (by rw [e]; rfl)
  refine ⟨g, cap, e, h.lr g (by rw [e]; rfl), hbs, ?_, ?_, ?_, fun j => by simp [World.frozen?, hg]⟩
  ·have := rd (k * 3 + 0) _ (by rw [zCR N hk 0 (by omega)]; rfl)
   rw [WideShapes.add_plain] at this
   simpa using this
  ·have := rd (k * 3 + 1) _ (by rw [zCR N hk 1 (by omega)]; rfl)
   rw [WideShapes.add_plain] at this
   simpa using this
  ·have := rd (k * 3 + 2) _ (by rw [zCR N hk 2 (by omega)]; rfl)
   rw [WideShapes.add_plain] at this
   simpa using this
theorem zGu {N M : Nt} (hp : M.pls.length = N.pls.length) {k i : Nat} (hk : k < N.pls.length) (hi : i < 3) {u : Value} (ho : ∀ a, a ≠ k -> cc M a = cc N a) (he : cc M k = (cc N k).set i u) : (cells N).set (k * 3 + i) u = cells M := by
 apply List.ext_getElem?
 intro j
 have hl : (cells N).length = N.pls.length * 3 := by unfold cells; rw [zHX _ (zC1 N), List.length_range]
 by_cases hj : j < N.pls.length * 3
 ·have ha : j / 3 < N.pls.length := by omega
  have e2 := zCR M (k := j / 3) (by omega) (j % 3) (by omega)
  have e1 := zCR N (k := j / 3) ha (j % 3) (by omega)
  rw [show j / 3 * 3 + j % 3 = j by omega] at e1 e2
  rw [e2, List.getElem?_set]
  by_cases ek : j / 3 = k
  ·rw [ek, he, List.getElem?_set]
   by_cases ei : i = j % 3
   ·rw [if_pos (by omega), if_pos ei, if_pos (by omega), if_pos (by rw [zC1]; omega)]
   ·rw [if_neg (by omega), if_neg ei, e1, ek]
  ·rw [if_neg (by omega), e1, ho _ ek]
 ·rw [List.getElem?_eq_none (by rw [List.length_set]; omega), List.getElem?_eq_none]
  unfold cells
  rw [zHX _ (zC1 M), List.length_range]
  omega
theorem NP.way (h : NP W K G q N lab cv qv w) {k : Nat} (hk : k < N.pls.length) {j : Nat} (hj : j < (N.Ys k).length) : ∃ g c, N.wv k = .slice (some ⟨g, 0, none⟩) (N.Ys k).length c /\ lab g = .way k /\ w.cell? ⟨g, j * 3, none⟩ = some (N.Ys k)[j].v /\ w.cell? ⟨g, j * 3 + 1, none⟩ = some (.bool (N.Ys k)[j].e) /\ w.cell? ⟨g, j * 3 + 2, none⟩ = some (.int .i64 ((N.Ys k)[j].to : Int)) := by
 have hr := h.ways k hk
 rcases hr.2 with ⟨_, h0⟩ | ⟨g, cap, cur, e, hbs, hg, _⟩
 ·omega
 ·have rd := World.ownsRow.cells hr (g := g) (by rw [e]; rfl)
  refine ⟨g, cap, e, h.lw k hk g (by rw [e]; rfl), ?_, ?_, ?_⟩
  ·have := rd (j * 3 + 0) _ (by rw [zDQ yc zEq _ j hj 0 (by omega)]; rfl)
   rw [WideShapes.add_plain] at this
   simpa using this
  ·have := rd (j * 3 + 1) _ (by rw [zDQ yc zEq _ j hj 1 (by omega)]; rfl)
   rw [WideShapes.add_plain] at this
   simpa using this
  ·have := rd (j * 3 + 2) _ (by rw [zDQ yc zEq _ j hj 2 (by omega)]; rfl)
   rw [WideShapes.add_plain] at this
   simpa using this
theorem NP.look (h : NP W K G q N lab cv qv w) (k : Kp Tryz.prog 124) (hz : ∀ w : World, (zeroValue 3).run Tryz.prog w = .ok (.int .i64 0) w) {x : Pl} (hx : P64 x) :
  (Instr.lookup 68 (.map (some K.mb)) (pv x) true).run Tryz.prog w = .ok (.tuple #[.int .i64 ((numX N.pls x).getD 0), .bool (numX N.pls x).isSome]) w :=
 h.map.look k Tryz.underlying68 Tryz.underlying3 (hz w) hx
end
end Lk
namespace Lk
open Gr (Gram)
open Im
open Au
open Bt (SetAt Keeps)
open Rw (Bk)
structure Stp (lab lab' : Nat -> Lb) (w w' : World) : Prop where
 fr : Sep.Fr (fun b => lab b ≠ .no) w w'
 ext : ∀ b, lab' b ≠ .no -> lab b ≠ .no \/ w.heap.size <= b
theorem Stp.trans {l m n : Nat -> Lb} {a b c : World} (h : Stp l m a b) (k : Stp m n b c) : Stp l n a c :=
 ⟨h.fr.trans k.fr h.ext, fun x hx => by
  rcases k.ext x hx with r | r
  ·exact h.ext x r
  ·exact .inr (Nat.le_trans h.fr.size r)⟩
theorem Stp.of_below (lab : Nat -> Lb) {w w' : World} (hb : Below w.heap.size w w') : Stp lab lab w w' := ⟨.of_below hb, fun _ h => .inl h⟩
section
variable {W : World} {K : Fk} {G : Gram} {q : Whole} {N M : Nt} {lab lab' : Nat -> Lb} {cv qv cv' qv' : Value} {w w' : World} {ch : Lb -> Prop}
theorem NP.step (h : NP W K G q N lab cv qv w) (f : Ch ch lab w w') (hno : ¬ ch .no) (ag : ∀ b, b < w.heap.size -> lab' b = lab b) (hin : ∀ b, lab' b ≠ .no -> b < w'.heap.size)
  (box : Bk K.p (nb K G (states q).length cv' qv') 73 w') (row : w'.ownsRow W.heap.size 122 3 cv' M.pls.length (cells M)) (ways : ∀ k, k < M.pls.length -> w'.ownsRow W.heap.size 117 3 (M.wv k) (M.Ys k).length ((M.Ys k).flatMap yc)) (yok : ∀ k, k < M.pls.length -> ∀ y ∈ M.Ys k, YOk K G y)
  (sets : ∀ k, k < M.pls.length -> SetAt (M.D k) (M.E k) (G.terms.length + 1) (M.S k) w') (map : NMap K.mb M.pls.length (numX M.pls) w') (queue : w'.ownsRow W.heap.size 3 1 qv' M.qs.length (nivs M.qs))
  (lr : ∀ g, cv'.ownBlock = some g -> lab' g = .row) (lw : ∀ k, k < M.pls.length -> ∀ g, (M.wv k).ownBlock = some g -> lab' g = .way k) (lP : ∀ k, k < M.pls.length -> lab' (M.D k) = .sP k) (lE : ∀ k, k < M.pls.length -> lab' (M.E k) = .sE k) (lq : ∀ g, qv'.ownBlock = some g -> lab' g = .que) :
  NP W K G q M lab' cv' qv' w' /\ Stp lab lab' w w' := by
 have hp := h.lab_lt h.lp (by intro e; cases e)
 have hm := h.lab_lt h.lm (by intro e; cases e)
 refine ⟨⟨h.fr' f hno, box, row, ways, yok, sets, map, queue, (ag _ hp).trans h.lp, (ag _ hm).trans h.lm, lr, lw, lP, lE, lq, fun b hb => ?_, hin⟩, ?_, fun b hb => ?_⟩
 ·by_cases hl : b < w.heap.size
  ·rw [ag b hl] at hb
   exact h.low b hb
  ·have := h.fr.size
   exact .inr (.inr (by omega))
 ·exact f.mono fun b hb => fun e => hno (e ▸ hb)
 ·by_cases hl : b < w.heap.size
  ·rw [ag b hl] at hb
   exact .inl hb
  ·exact .inr (by omega)
theorem zBC (h : NP W K G q N lab cv qv w) (ag : ∀ b, b < w.heap.size -> lab' b = lab b) {b : Nat} {L : Lb} (e : lab b = L) (hn : L ≠ .no) : lab' b = L := (ag b (h.lab_lt e hn)).trans e
theorem NP.lead (h : NP W K G q N lab cv qv w) {k : Nat} (hk : k < N.pls.length) {y : Way} (hy : YOk K G y) {w1 w2 : World} (hb : Below w.heap.size w w1) {v' : Value}
  (hown : w2.ownsRow W.heap.size 117 3 v' ((N.Ys k).length + 1) ((N.Ys k).flatMap yc ++ yc y)) (hg : w1.grownBy w2 (N.wv k).ownBlock) (hv : v'.ownBlock = (N.wv k).ownBlock \/ v'.ownBlock = some w1.heap.size) {g c : Nat} (hcv : cv = .slice (some ⟨g, 0, none⟩) N.pls.length c) :
  ∃ lab', NP W K G q (N.lead k y v') lab' cv qv (w2.setCell ⟨g, k * 3 + 1, none⟩ v') /\ Stp lab lab' w (w2.setCell ⟨g, k * 3 + 1, none⟩ v') := by
 subst hcv
 have hgr := h.lr g rfl
 have f : Ch (fun L => L = .way k \/ L = .row) lab w (w2.setCell ⟨g, k * 3 + 1, none⟩ v') := by
  refine Sep.Fr.setCell (S := fun b => lab b = .way k \/ lab b = .row) ?_ _ (.inr hgr) _
  exact Sep.Fr.grown (Sep.Fr.of_below hb) hg fun b hb2 => .inl (.inl (h.lw k hk b hb2))
 have no : ¬ ((fun L => L = Lb.way k \/ L = Lb.row) Lb.no) := by rintro (e | e) <;> cases e
 have hgv : ∀ b, v'.ownBlock = some b -> b < w2.heap.size /\ W.heap.size <= b := fun b e => ⟨(hown.lt b e).2, (hown.lt b e).1⟩
 have hs : (w2.setCell ⟨g, k * 3 + 1, none⟩ v').heap.size = w2.heap.size := by simp [World.setCell]
 have hgn : v'.ownBlock ≠ some g := fun e => by
  rcases hv with r | r
  ·have := h.lw k hk g (r.symm.trans e)
   rw [hgr] at this
   cases this
  ·have e2 := r.symm.trans e
   injection e2 with e2
   have := h.lab_lt hgr (by intro e; cases e)
   have := hb.size
   omega
 have f2 : Ch (fun L => L = .way k) lab w w2 := Sep.Fr.grown (Sep.Fr.of_below hb) hg fun b hb2 => .inl (h.lw k hk b hb2)
 have hrow2 : w2.ownsRow W.heap.size 122 3 (.slice (some ⟨g, 0, none⟩) N.pls.length c) N.pls.length (cells N) := h.row' f2 (by intro e; cases e)
 obtain ⟨lab', hl', ag, hin⟩ : ∃ lab' : Nat -> Lb, (∀ b, v'.ownBlock = some b -> lab' b = .way k) /\ (∀ b, b < w.heap.size -> lab' b = lab b) /\ ∀ b, lab' b ≠ .no -> b < w2.heap.size := by
  rcases hv with r | r
  ·exact ⟨lab, fun b e => h.lw k hk b (r.symm.trans e), fun _ _ => rfl, fun b hb3 => Nat.lt_of_lt_of_le (h.inn b hb3) (Nat.le_trans hb.size hg.size)⟩
  ·refine ⟨lab1 lab w1.heap.size (.way k), fun b e => ?_, fun b hb3 => zAp (by have := hb.size; omega), fun b hb3 => ?_⟩
   ·have e2 := r.symm.trans e
    injection e2 with e2
    rw [← e2]
    exact zCe _ _ _
   ·by_cases e : b = w1.heap.size
    ·exact e ▸ (hgv _ r).1
    ·rw [zAp e] at hb3
     exact Nat.lt_of_lt_of_le (h.inn b hb3) (Nat.le_trans hb.size hg.size)
 refine ⟨lab', h.step f no ag (fun b hb3 => by rw [hs]; exact hin b hb3) (h.box' f (by rintro (e | e) <;> cases e)) ?_ (fun a ha => ?_) (fun a ha z hz => ?_) (fun a ha => h.sets' f ha (by rintro (e | e) <;> cases e) (by rintro (e | e) <;> cases e)) (h.map' f (by rintro (e | e) <;> cases e)) (h.queue' f (by rintro (e | e) <;> cases e)) (fun b e => zBC h ag (h.lr b e) (by intro e; cases e)) (fun a ha b e => ?_) (fun a ha => zBC h ag (h.lP a ha) (by intro e; cases e)) (fun a ha => zBC h ag (h.lE a ha) (by intro e; cases e)) (fun b e => zBC h ag (h.lq b e) (by intro e; cases e))⟩
 ·have := (World.ownsRow.stored hrow2 (k * 3 + 1) v').1
  have e := zGu (N := N) (M := N.lead k y v') rfl hk (i := 1) (u := v') (by omega) (fun a ha => by
   show [_, upd N.wv k v' a, _] = _
   rw [zAB ha]
   rfl) (by
   show [_, upd N.wv k v' k, _] = _
   rw [upd_same]
   rfl)
  rw [e] at this
  exact this
 ·show (w2.setCell ⟨g, k * 3 + 1, none⟩ v').ownsRow _ _ 3 (upd N.wv k v' a) (upd N.Ys k (N.Ys k ++ [y]) a).length ((upd N.Ys k (N.Ys k ++ [y]) a).flatMap yc)
  by_cases e : a = k
  ·subst e
   rw [upd_same, upd_same, List.length_append, List.flatMap_append]
   refine Sep.zAC (w := w2) (by simpa using hown) fun b hb3 => Below.heap_setCell _ _ _ _ fun e2 => ?_
   exact hgn (hb3.trans (congrArg some e2))
  ·rw [zAB e, zAB e]
   refine h.ways' f ha ?_
   rintro (e2 | e2)
   ·injection e2 with e2
    exact e e2
   ·cases e2
 ·have hz' : z ∈ upd N.Ys k (N.Ys k ++ [y]) a := hz
  by_cases e : a = k
  ·subst e
   rw [upd_same] at hz'
   rcases List.mem_append.1 hz' with r | r
   ·exact h.yok a ha z r
   ·rw [List.mem_singleton] at r
    exact r ▸ hy
  ·rw [zAB e] at hz'
   exact h.yok a ha z hz'
 ·have e' : (upd N.wv k v' a).ownBlock = some b := e
  by_cases ea : a = k
  ·subst ea
   rw [upd_same] at e'
   exact hl' b e'
  ·rw [zAB ea] at e'
   exact zBC h ag (h.lw a ha b e') (by intro e; cases e)
theorem NP.wrote (h : NP W K G q N lab cv qv w) {k : Nat} (hk : k < N.pls.length) {B : Nat -> Bool} (hs : SetAt (N.D k) (N.E k) (G.terms.length + 1) B w') (hK : Keeps (N.E k) w w') :
  NP W K G q { N with S := upd N.S k B } lab cv qv w' /\ Stp lab lab w w' := by
 have f : Ch (fun L => L = .sE k) lab w w' := ⟨hK.os, hK.tape, hK.output, hK.size, fun b hb hc => hK.block b hb fun e => hc (e ▸ h.lE k hk)⟩
 refine h.step f (by intro e; cases e) (fun _ _ => rfl) (fun b hb => Nat.lt_of_lt_of_le (h.inn b hb) hK.size) (h.box' f (by intro e; cases e)) (h.row' f (by intro e; cases e)) (fun a ha => h.ways' f ha (by intro e; cases e)) h.yok (fun a ha => ?_) (h.map' f (by intro e; cases e)) (h.queue' f (by intro e; cases e)) h.lr h.lw h.lP h.lE h.lq
 show SetAt (N.D a) (N.E a) _ (upd N.S k B a) w'
 by_cases e : a = k
 ·subst e
  rw [upd_same]
  exact hs
 ·rw [zAB e]
  exact h.sets' f ha (by intro e; cases e) (by intro e2; injection e2 with e2; exact e e2)
theorem NP.wait (h : NP W K G q N lab cv qv w) {k : Nat} (hk : k < N.pls.length) {g c : Nat} (hcv : cv = .slice (some ⟨g, 0, none⟩) N.pls.length c) (b : Bool) :
  NP W K G q { N with Wt := upd N.Wt k b } lab cv qv (w.setCell ⟨g, k * 3 + 2, none⟩ (.bool b)) /\ Stp lab lab w (w.setCell ⟨g, k * 3 + 2, none⟩ (.bool b)) := by
 subst hcv
 have hgr := h.lr g rfl
 have f : Ch (fun L => L = .row) lab w (w.setCell ⟨g, k * 3 + 2, none⟩ (.bool b)) := Sep.Fr.setCell (S := fun b => lab b = .row) (.refl _ _) _ hgr _
 have hs : (w.setCell ⟨g, k * 3 + 2, none⟩ (.bool b)).heap.size = w.heap.size := by simp [World.setCell]
 refine h.step f (by intro e; cases e) (fun _ _ => rfl) (fun b hb => by rw [hs]; exact h.inn b hb) (h.box' f (by intro e; cases e)) ?_ (fun a ha => h.ways' f ha (by intro e; cases e)) h.yok (fun a ha => h.sets' f ha (by intro e; cases e) (by intro e; cases e)) (h.map' f (by intro e; cases e)) (h.queue' f (by intro e; cases e)) h.lr h.lw h.lP h.lE h.lq
 have := (World.ownsRow.stored h.row (k * 3 + 2) (.bool b)).1
 have e := zGu (N := N) (M := { N with Wt := upd N.Wt k b }) rfl hk (i := 2) (u := .bool b) (by omega) (fun a ha => by
  show [_, _, Value.bool (upd N.Wt k b a)] = _
  rw [zAB ha]
  rfl) (by
  show [_, _, Value.bool (upd N.Wt k b k)] = _
  rw [upd_same]
  rfl)
 rw [e] at this
 exact this
theorem zQH (K : Fk) (G : Gram) (n : Nat) (cv qv u : Value) : (nb K G n cv qv).setIfInBounds 7 u = nb K G n cv u := by simp [nb]
theorem zTF (K : Fk) (G : Gram) (n : Nat) (cv qv u : Value) : (nb K G n cv qv).setIfInBounds 5 u = nb K G n u qv := by simp [nb]
theorem zII (K : Fk) (G : Gram) (n : Nat) (cv qv : Value) : (nb K G n cv qv).size = 8 := rfl
theorem NP.push (h : NP W K G q N lab cv qv w) {w1 w2 : World} (hb : Below w.heap.size w w1) {k : Nat} (hown : w2.ownsRow W.heap.size 3 1 qv' (N.qs.length + 1) (nivs N.qs ++ [.int .i64 (k : Int)])) (hg : w1.grownBy w2 qv.ownBlock) (hv : qv'.ownBlock = qv.ownBlock \/ qv'.ownBlock = some w1.heap.size) :
  ∃ lab', NP W K G q { N with qs := N.qs ++ [k] } lab' cv qv' (w2.setCell ⟨K.p, 7, none⟩ qv') /\ Stp lab lab' w (w2.setCell ⟨K.p, 7, none⟩ qv') := by
 have f2 : Ch (fun L => L = .que) lab w w2 := Sep.Fr.grown (Sep.Fr.of_below hb) hg fun b hb2 => .inl (h.lq b hb2)
 have f : Ch (fun L => L = .que \/ L = .box) lab w (w2.setCell ⟨K.p, 7, none⟩ qv') := Sep.Fr.setCell (S := fun b => lab b = .que \/ lab b = .box) (f2.mono fun b e => .inl e) _ (.inr h.lp) _
 have no : ¬ ((fun L => L = Lb.que \/ L = Lb.box) Lb.no) := by rintro (e | e) <;> cases e
 have hs : (w2.setCell ⟨K.p, 7, none⟩ qv').heap.size = w2.heap.size := by simp [World.setCell]
 have hgn : qv'.ownBlock ≠ some K.p := fun e => by
  rcases hv with r | r
  ·have := h.lq K.p (r.symm.trans e)
   rw [h.lp] at this
   cases this
  ·have e2 := r.symm.trans e
   injection e2 with e2
   have := h.lab_lt h.lp (by intro e; cases e)
   have := hb.size
   omega
 obtain ⟨lab', hl', ag, hin⟩ : ∃ lab' : Nat -> Lb, (∀ b, qv'.ownBlock = some b -> lab' b = .que) /\ (∀ b, b < w.heap.size -> lab' b = lab b) /\ ∀ b, lab' b ≠ .no -> b < w2.heap.size := by
  rcases hv with r | r
  ·exact ⟨lab, fun b e => h.lq b (r.symm.trans e), fun _ _ => rfl, fun b hb3 => Nat.lt_of_lt_of_le (h.inn b hb3) (Nat.le_trans hb.size hg.size)⟩
  ·refine ⟨lab1 lab w1.heap.size .que, fun b e => ?_, fun b hb3 => zAp (by have := hb.size; omega), fun b hb3 => ?_⟩
   ·have e2 := r.symm.trans e
    injection e2 with e2
    rw [← e2]
    exact zCe _ _ _
   ·by_cases e : b = w1.heap.size
    ·exact e ▸ (hown.lt _ r).2
    ·rw [zAp e] at hb3
     exact Nat.lt_of_lt_of_le (h.inn b hb3) (Nat.le_trans hb.size hg.size)
 refine ⟨lab', h.step f no ag (fun b hb3 => by rw [hs]; exact hin b hb3) ?_ (h.row' f (by rintro (e | e) <;> cases e)) (fun a ha => h.ways' f ha (by rintro (e | e) <;> cases e)) h.yok (fun a ha => h.sets' f ha (by rintro (e | e) <;> cases e) (by rintro (e | e) <;> cases e)) (h.map' f (by rintro (e | e) <;> cases e)) ?_ (fun b e => zBC h ag (h.lr b e) (by intro e; cases e)) (fun a ha b e => zBC h ag (h.lw a ha b e) (by intro e; cases e)) (fun a ha => zBC h ag (h.lP a ha) (by intro e; cases e)) (fun a ha => zBC h ag (h.lE a ha) (by intro e; cases e)) hl'⟩
 ·have hx : Bk K.p (nb K G (states q).length cv qv) 73 w2 := h.box' f2 (by intro e; cases e)
  have := hx.set (j := 7) (by rw [zII]; omega) qv'
  rw [zQH] at this
  exact this
 ·show (w2.setCell ⟨K.p, 7, none⟩ qv').ownsRow _ _ 1 qv' (N.qs ++ [k]).length (nivs (N.qs ++ [k]))
  rw [List.length_append, show nivs (N.qs ++ [k]) = nivs N.qs ++ [.int .i64 (k : Int)] by simp [nivs]]
  exact Sep.zAC hown fun b hb3 => Below.heap_setCell _ _ _ _ fun e2 => hgn (hb3.trans (congrArg some e2))
theorem NP.shift (h : NP W K G q N lab cv qv w) {a : Option Addr} {c : Nat} (hq : qv = .slice a N.qs.length c) (h0 : 0 < N.qs.length) :
  NP W K G q { N with qs := N.qs.dropLast } lab cv (.slice a (N.qs.length - 1) c) (w.setCell ⟨K.p, 7, none⟩ (.slice a (N.qs.length - 1) c)) /\ Stp lab lab w (w.setCell ⟨K.p, 7, none⟩ (.slice a (N.qs.length - 1) c)) := by
 have f : Ch (fun L => L = .box) lab w (w.setCell ⟨K.p, 7, none⟩ (.slice a (N.qs.length - 1) c)) := Sep.Fr.setCell (S := fun b => lab b = .box) (.refl _ _) _ h.lp _
 have hs : (w.setCell ⟨K.p, 7, none⟩ (.slice a (N.qs.length - 1) c)).heap.size = w.heap.size := by simp [World.setCell]
 have hqr := h.queue
 have hlq := h.lq
 rw [hq] at hqr hlq
 rcases hqr.2 with ⟨_, h1⟩ | ⟨g, cap, cur, e, hbs, hg, hnc, hcm, hcs, htake⟩
 ·omega
 ·simp only [Value.slice.injEq, true_and] at e
  obtain ⟨rfl, rfl⟩ := e
  have hgb : lab g = .que := hlq g rfl
  refine h.step f (by intro e; cases e) (fun _ _ => rfl) (fun b hb => by rw [hs]; exact h.inn b hb) ?_ (h.row' f (by intro e; cases e)) (fun a ha => h.ways' f ha (by intro e; cases e)) h.yok (fun a ha => h.sets' f ha (by intro e; cases e) (by intro e; cases e)) (h.map' f (by intro e; cases e)) ?_ h.lr h.lw h.lP h.lE (fun b e => ?_)
  ·have := h.box.set (j := 7) (by rw [zII]; omega) (.slice (some ⟨g, 0, none⟩) (N.qs.length - 1) c)
   rw [zQH] at this
   exact this
  ·show (w.setCell ⟨K.p, 7, none⟩ (.slice (some ⟨g, 0, none⟩) (N.qs.length - 1) c)).ownsRow _ _ 1 (.slice (some ⟨g, 0, none⟩) (N.qs.length - 1) c) N.qs.dropLast.length (nivs N.qs.dropLast)
   have hgp : g ≠ K.p := fun e => by rw [e, h.lp] at hgb; cases hgb
   refine Sep.zAC (w := w) ?_ fun b hb3 => Below.heap_setCell _ _ _ _ fun e2 => ?_
   ·rw [List.length_dropLast]
    refine ⟨by rw [zD1, List.length_dropLast]; omega, .inr ⟨g, c, cur, rfl, hbs, hg, by omega, hcm, hcs, ?_⟩⟩
    have e1 : nivs N.qs.dropLast = (nivs N.qs).take (N.qs.length - 1) := by
     unfold nivs
     rw [List.dropLast_eq_take, List.map_take]
    rw [e1, ← htake, List.take_take]
    congr 1
    omega
   ·simp only [Value.ownBlock, Option.some.injEq] at hb3
    exact hgp (hb3.trans e2)
  ·exact hlq b (by simpa [Value.ownBlock] using e)
theorem NP.more (h : NP W K G q N lab cv qv w) {x : Pl} (hx : x ∉ N.pls) {w1 w2 w3 : World} (hm : NMap K.mb (N.pls.length + 1) (fun y => if y = x then some (N.pls.length : Int) else numX N.pls y) w1) (ht : w.mapTurned w1 K.mb)
  {P D : Nat} (hs : SetAt P D (G.terms.length + 1) (fun _ => false) w2) (hP : w1.heap.size <= P) (hD : w1.heap.size <= D) (hb : Below w1.heap.size w1 w2) {w2' : World} (hb2 : Below w2.heap.size w2 w2') {cv' : Value}
  (hown : w3.ownsRow W.heap.size 122 3 cv' (N.pls.length + 1) (cells N ++ [.pointer (some ⟨P, 0, none⟩), .slice none 0 0, .bool false])) (hg : w2'.grownBy w3 cv.ownBlock) (hv : cv'.ownBlock = cv.ownBlock \/ cv'.ownBlock = some w2'.heap.size) :
  ∃ lab', NP W K G q (N.cell x P D) lab' cv' qv (w3.setCell ⟨K.p, 5, none⟩ cv') /\ Stp lab lab' w (w3.setCell ⟨K.p, 5, none⟩ cv') := by
 have hsz := (zBY ht).size
 have hsz2 := hb.size
 have hsz3 := hb2.size
 have hsz4 := hg.size
 have fm : Ch (fun L => L = .map) lab w w1 := (zBY ht).mono fun b e => by rw [e]; exact h.lm
 have f1 : Ch (fun L => L = .map) lab w w2' := (fm.trans (T := fun _ => False) (Sep.Fr.of_below hb) (fun b e => e.elim)).trans (T := fun _ => False) (Sep.Fr.of_below hb2) (fun b e => e.elim)
 have f2 : Ch (fun L => L = .map \/ L = .row) lab w w3 := Sep.Fr.grown (f1.mono fun b e => .inl e) hg fun b e => .inl (.inr (h.lr b e))
 have f : Ch (fun L => L = .map \/ L = .row \/ L = .box) lab w (w3.setCell ⟨K.p, 5, none⟩ cv') := Sep.Fr.setCell (S := fun b => lab b = .map \/ lab b = .row \/ lab b = .box) (f2.mono fun b e => e.imp id .inl) _ (.inr (.inr h.lp)) _
 have no : ¬ ((fun L => L = Lb.map \/ L = Lb.row \/ L = Lb.box) Lb.no) := by rintro (e | e | e) <;> cases e
 have hsc : (w3.setCell ⟨K.p, 5, none⟩ cv').heap.size = w3.heap.size := by simp [World.setCell]
 have hpl := h.lab_lt h.lp (by intro e; cases e)
 have hml := h.lab_lt h.lm (by intro e; cases e)
 have hgn : cv'.ownBlock ≠ some K.p := fun e => by
  rcases hv with r | r
  ·have := h.lr K.p (r.symm.trans e)
   rw [h.lp] at this
   cases this
  ·have e2 := r.symm.trans e
   injection e2 with e2
   omega
 have st : ∀ b, b < w2'.heap.size -> cv.ownBlock ≠ some b -> b ≠ K.p -> (w3.setCell ⟨K.p, 5, none⟩ cv').heap[b]? = w2'.heap[b]? := fun b hb3 e e2 => (Below.heap_setCell _ _ _ _ e2).trans (hg.block b hb3 fun e3 => e e3.symm)
 have nrow : ∀ b, w.heap.size <= b -> cv.ownBlock ≠ some b := fun b hb3 e => by
  have := h.lab_lt (h.lr b e) (by intro e; cases e)
  omega
 have hPD := hs.apart
 obtain ⟨lab', hl', hlP, hlD, ag, hin⟩ : ∃ lab' : Nat -> Lb, (∀ b, cv'.ownBlock = some b -> lab' b = .row) /\ lab' P = .sP N.pls.length /\ lab' D = .sE N.pls.length /\ (∀ b, b < w.heap.size -> lab' b = lab b) /\ ∀ b, lab' b ≠ .no -> b < w3.heap.size := by
  have hPl := hs.inp
  have hDl := hs.ind
  have base : ∀ b, b < w.heap.size -> lab1 (lab1 lab P (.sP N.pls.length)) D (.sE N.pls.length) b = lab b := fun b hb3 => by
   rw [zAp (by omega), zAp (by omega)]
  have bin : ∀ b, lab1 (lab1 lab P (.sP N.pls.length)) D (.sE N.pls.length) b ≠ .no -> b < w3.heap.size := fun b hb3 => by
   by_cases e : b = D
   ·omega
   ·rw [zAp e] at hb3
    by_cases e2 : b = P
    ·omega
    ·rw [zAp e2] at hb3
     have := h.inn b hb3
     omega
  have bP : lab1 (lab1 lab P (.sP N.pls.length)) D (.sE N.pls.length) P = .sP N.pls.length := by rw [zAp hPD, zCe]
  rcases hv with r | r
  ·exact ⟨_, fun b e => (base b (h.lab_lt (h.lr b (r.symm.trans e)) (by intro e; cases e))).trans (h.lr b (r.symm.trans e)), bP, zCe _ _ _, base, bin⟩
  ·have hr := (hown.lt _ r).2
   refine ⟨lab1 (lab1 (lab1 lab P (.sP N.pls.length)) D (.sE N.pls.length)) w2'.heap.size .row, fun b e => ?_, ?_, ?_, fun b hb3 => ?_, fun b hb3 => ?_⟩
   ·have e2 := r.symm.trans e
    injection e2 with e2
    rw [← e2]
    exact zCe _ _ _
   ·rw [zAp (by omega)]
    exact bP
   ·rw [zAp (by omega)]
    exact zCe _ _ _
   ·rw [zAp (by omega)]
    exact base b hb3
   ·by_cases e : b = w2'.heap.size
    ·exact e ▸ hr
    ·rw [zAp e] at hb3
     exact bin b hb3
 have hlen : (N.cell x P D).pls.length = N.pls.length + 1 := by
  show (N.pls ++ [x]).length = _
  simp
 refine ⟨lab', h.step f no ag (fun b hb3 => by rw [hsc]; exact hin b hb3) ?_ ?_ (fun a ha => ?_) (fun a ha z hz => ?_) (fun a ha => ?_) ?_ (h.queue' f (by rintro (e | e | e) <;> cases e)) hl' (fun a ha b e => ?_) (fun a ha => ?_) (fun a ha => ?_) (fun b e => zBC h ag (h.lq b e) (by intro e; cases e))⟩
 ·have hx : Bk K.p (nb K G (states q).length cv qv) 73 w3 := h.box' f2 (by rintro (e | e) <;> cases e)
  have := hx.set (j := 5) (by rw [zII]; omega) cv'
  rw [zTF] at this
  exact this
 ·rw [hlen]
  have e1 : cells (N.cell x P D) = cells N ++ [.pointer (some ⟨P, 0, none⟩), .slice none 0 0, .bool false] := by
   unfold cells
   rw [hlen, List.range_succ, List.flatMap_append]
   congr 1
   ·have : ∀ l : List Nat, (∀ k ∈ l, k < N.pls.length) -> l.flatMap (cc (N.cell x P D)) = l.flatMap (cc N) := fun l hl => by
     induction l with
     | nil => rfl
     | cons a l ih =>
      have ha := hl a (List.mem_cons_self ..)
      rw [List.flatMap_cons, List.flatMap_cons, ih fun k hk => hl k (List.mem_cons_of_mem _ hk)]
      congr 1
      show [Value.pointer (some ⟨upd N.D N.pls.length P a, 0, none⟩), upd N.wv N.pls.length (.slice none 0 0) a, Value.bool (upd N.Wt N.pls.length false a)] = cc N a
      rw [zAB (by omega), zAB (by omega), zAB (by omega)]
      rfl
    exact this _ fun k hk => List.mem_range.1 hk
   ·show [Value.pointer (some ⟨upd N.D N.pls.length P N.pls.length, 0, none⟩), upd N.wv N.pls.length (.slice none 0 0) N.pls.length, Value.bool (upd N.Wt N.pls.length false N.pls.length)] ++ [] = _
    rw [upd_same, upd_same, upd_same]
    rfl
  rw [e1]
  exact Sep.zAC hown fun b hb3 => Below.heap_setCell _ _ _ _ fun e2 => hgn (hb3.trans (congrArg some e2))
 ·rw [hlen] at ha
  show (w3.setCell ⟨K.p, 5, none⟩ cv').ownsRow _ _ 3 (upd N.wv N.pls.length (.slice none 0 0) a) (upd N.Ys N.pls.length [] a).length ((upd N.Ys N.pls.length [] a).flatMap yc)
  by_cases e : a = N.pls.length
  ·subst e
   rw [upd_same, upd_same]
   exact World.ownsRow_nil _ _ _ _
  ·rw [zAB e, zAB e]
   exact h.ways' f (by omega) (by rintro (e | e | e) <;> cases e)
 ·rw [hlen] at ha
  have hz' : z ∈ upd N.Ys N.pls.length [] a := hz
  by_cases e : a = N.pls.length
  ·subst e
   rw [upd_same] at hz'
   cases hz'
  ·rw [zAB e] at hz'
   exact h.yok a (by omega) z hz'
 ·rw [hlen] at ha
  show SetAt (upd N.D N.pls.length P a) (upd N.E N.pls.length D a) _ (upd N.S N.pls.length (fun _ => false) a) _
  by_cases e : a = N.pls.length
  ·subst e
   rw [upd_same, upd_same, upd_same]
   have h1 := hs.inp
   have h2 := hs.ind
   refine hs.keep (by rw [hsc]; omega) ?_ ?_
   ·exact (st P (by omega) (nrow P (by omega)) (by omega)).trans (hb2.block P h1)
   ·exact (st D (by omega) (nrow D (by omega)) (by omega)).trans (hb2.block D h2)
  ·rw [zAB e, zAB e, zAB e]
   exact h.sets' f (by omega) (by rintro (e | e | e) <;> cases e) (by rintro (e | e | e) <;> cases e)
 ·have e1 : NMap K.mb (N.pls.length + 1) (numX (N.pls ++ [x])) w1 := hm.eq fun y => (zKm hx y).symm
  rw [hlen]
  refine e1.keep ?_
  have hne : cv.ownBlock ≠ some K.mb := fun e => by
   have := h.lr K.mb e
   rw [h.lm] at this
   cases this
  have hpm : K.mb ≠ K.p := fun e => by
   have := h.lm
   rw [e, h.lp] at this
   cases this
  exact (st K.mb (by omega) hne hpm).trans ((hb2.block K.mb (by omega)).trans (hb.block K.mb (by omega)))
 ·rw [hlen] at ha
  have e' : (upd N.wv N.pls.length (.slice none 0 0) a).ownBlock = some b := e
  by_cases ea : a = N.pls.length
  ·subst ea
   rw [upd_same] at e'
   cases e'
  ·rw [zAB ea] at e'
   exact zBC h ag (h.lw a (by omega) b e') (by intro e; cases e)
 ·rw [hlen] at ha
  show lab' (upd N.D N.pls.length P a) = _
  by_cases e : a = N.pls.length
  ·subst e
   rw [upd_same]
   exact hlP
  ·rw [zAB e]
   exact zBC h ag (h.lP a (by omega)) (by intro e; cases e)
 ·rw [hlen] at ha
  show lab' (upd N.E N.pls.length D a) = _
  by_cases e : a = N.pls.length
  ·subst e
   rw [upd_same]
   exact hlD
  ·rw [zAB e]
   exact zBC h ag (h.lE a (by omega)) (by intro e; cases e)
end
def NAt (W : World) (K : Fk) (G : Gram) (q : Whole) (N : Nt) (S : Nat -> Prop) (w : World) : Prop := ∃ lab cv qv, NP W K G q N lab cv qv w /\ S = fun b => lab b ≠ .no
def NWr (W : World) (K : Fk) (G : Gram) (q : Whole) (M : Nt) (r : Value) (S : Nat -> Prop) (w : World) (e : Ending) (w' : World) : Prop := e = .returned r /\ ∃ T, NAt W K G q M T w' /\ Sep.Fr S w w' /\ Sep.Ext T S w
theorem NAt.went {W : World} {K : Fk} {G : Gram} {q : Whole} {N : Nt} {S : Nat -> Prop} {w w' : World} (h : NAt W K G q N S w) (hb : Below w.heap.size w w') : NAt W K G q N S w' := by
 obtain ⟨lab, cv, qv, h, e⟩ := h
 exact ⟨lab, cv, qv, h.went hb, e⟩
theorem NAt.inn {W : World} {K : Fk} {G : Gram} {q : Whole} {N : Nt} {S : Nat -> Prop} {w : World} (h : NAt W K G q N S w) : Sep.Inn S w := by
 obtain ⟨lab, cv, qv, h, rfl⟩ := h
 exact h.inn
theorem NAt.fr {W : World} {K : Fk} {G : Gram} {q : Whole} {N : Nt} {S : Nat -> Prop} {w : World} (h : NAt W K G q N S w) : Sep.Fr (PM K) W w := by
 obtain ⟨lab, cv, qv, h, e⟩ := h
 exact h.fr
end Lk
namespace Au
open Im
open It (zLr isIn num zG2 zGh)
structure Ka (P : Program) (K : TypeId) : Prop where
 law : Keyed P K
 key : ∀ x, W64 x -> keyOf P K (iv x) = some (ik x)
theorem zTV {P : Program} {K E : TypeId} (law : Keyed P K) (hu : P.underlying K = some (.array 2 E)) (he : P.underlying E = some (.int .i64)) (hkt : P.keyType K = true) (hcells : P.cellsOf K = 2) (ce : P.cellsOf E = 1) (n : Nat) (hn : P.types.size = n + 1) : Ka P K := by
 refine ⟨law, fun x hx => ?_⟩
 unfold keyOf iv
 rw [hu]
 simp only [hkt, Bool.true_and]
 rw [if_pos (by simp [Value.formed, hu, hcells])]
 rw [hn]
 have hr : List.range 2 = [0, 1] := rfl
 simp [Program.keyLits, hu, hcells, ce, he, hx.1, hx.2, Value.cells, ik, hr]
section
variable {P : Program} {K T E : TypeId}
def TMap (P : Program) (K E : TypeId) (b n : Nat) (X : Itm -> Option Int) (w : World) : Prop :=
 ∃ D : DataW Unit, w.ownsMap P K (plainElem P E) b n D /\ ∀ x, W64 x -> has D (ik x) = (X x).isSome /\ D.atKey (ik x) (.lit (.int .i64 0)) = .lit (.int .i64 ((X x).getD 0))
theorem TMap.made (w : World) (P : Program) (K E : TypeId) : TMap P K E w.heap.size 0 (fun _ => none) (w.alloc (.map #[] 0)) :=
 ⟨_, World.ownsMap_made w P K _, fun x _ => ⟨rfl, rfl⟩⟩
theorem TMap.mono {b n n' : Nat} {X : Itm -> Option Int} {w : World} (h : TMap P K E b n X w) (hn : n <= n') : TMap P K E b n' X w := by
 obtain ⟨D, h, k⟩ := h
 exact ⟨D, h.mono hn, k⟩
theorem TMap.eq {b n : Nat} {X Y : Itm -> Option Int} {w : World} (h : TMap P K E b n X w) (e : ∀ x, X x = Y x) : TMap P K E b n Y w := by
 obtain ⟨D, h, k⟩ := h
 exact ⟨D, h, fun x hx => by rw [← e x]; exact k x hx⟩
theorem TMap.keep {b n : Nat} {X : Itm -> Option Int} {w w' : World} (h : TMap P K E b n X w) (hb : w'.heap[b]? = w.heap[b]?) : TMap P K E b n X w' := by
 obtain ⟨D, h, k⟩ := h
 exact ⟨D, Sep.ownsMap_at h hb, k⟩
theorem TMap.store {b n : Nat} {X : Itm -> Option Int} {w : World} (h : TMap P K E b n X w) (k : Ka P K) (ht : P.underlying T = some (.map K E)) (he : P.underlying E = some (.int .i64)) (hn : n < maxLen) {x : Itm} (hx : W64 x) {t : Int} (hw : (Lit.int .i64 t).wf = true) :
  ∃ w', (Instr.mapUpdate T (.map (some b)) (iv x) (.int .i64 t)).run P w = .ok () w' /\ TMap P K E b (n + 1) (fun y => if y = x then some t else X y) w' /\ w.mapTurned w' b := by
 obtain ⟨D, ho, kd⟩ := h
 obtain ⟨w', hrun, h1, h2⟩ := ho.store k.law ht hn (k.key x hx) (plainElem_int he hw)
 refine ⟨w', hrun, ⟨_, h1, fun y hy => ?_⟩, h2⟩
 by_cases e : y = x
 ·subst e
  show _ = (if y = y then some t else X y).isSome /\ _ = DataW.lit (Lit.int .i64 ((if y = y then some t else X y).getD 0))
  rw [if_pos rfl, has_put_same ho.isMap (k.law.key (k.key y hy)), atKey_put_same ho.isMap (k.law.key (k.key y hy))]
  exact ⟨rfl, rfl⟩
 ·have hne : ik y ≠ ik x := fun q => e (zM5 hy hx q)
  show _ = (if y = x then some t else X y).isSome /\ _ = DataW.lit (Lit.int .i64 ((if y = x then some t else X y).getD 0))
  rw [if_neg e, has_put_other hne, atKey_put_other hne]
  exact kd y hy
theorem zCn {ops : Array Oper} {rest : List Oper} {o : Oper} {a : Act} {Q : Exit -> Act -> World -> Prop} (w : World) (hg : o.guard = none) (m y : Operand) (hop : o.op = Op.lookup T m y true) (k : Ka P K) (ht : P.underlying T = some (.map K E)) (he : P.underlying E = some (.int .i64))
  (hz : (zeroValue E).run P w = .ok (.int .i64 0) w) (b n : Nat) (X : Itm -> Option Int) (hm : a.eval m = .map (some b)) (h : TMap P K E b n X w) (x : Itm) (hy : a.eval y = iv x) (hx : W64 x)
  (hK : wpList P ops Q rest (a.put o.dst (.tuple #[.int .i64 ((X x).getD 0), .bool (X x).isSome])) w) : wpList P ops Q (o :: rest) a w := by
 obtain ⟨D, ho, kd⟩ := h
 refine wpList_lookup_own_ok_int w hg m y T hop K E .i64 k.law ht he hz b n D hm ho _ _ hy (k.key x hx) fun d hat _ => ?_
 rw [(kd x hx).2] at hat
 simp only [DataW.lit.injEq, Lit.int.injEq, true_and] at hat
 subst hat
 rw [(kd x hx).1]
 exact hK
def SMap (P : Program) (K E : TypeId) (b n : Nat) (L : List ByteArray) (w : World) : Prop := ∃ D : DataW Unit, w.ownsMap P K (plainElem P E) b n D /\ zLr L D
theorem SMap.made (w : World) (P : Program) (K E : TypeId) : SMap P K E w.heap.size 0 [] (w.alloc (.map #[] 0)) := ⟨_, World.ownsMap_made w P K _, zG2⟩
theorem SMap.lt {b n : Nat} {L : List ByteArray} {w : World} (h : SMap P K E b n L w) : b < w.heap.size := by
 obtain ⟨D, h, _⟩ := h
 exact h.lt
theorem SMap.keep {b n : Nat} {L : List ByteArray} {w w' : World} (h : SMap P K E b n L w) (hb : w'.heap[b]? = w.heap[b]?) : SMap P K E b n L w' := by
 obtain ⟨D, h, k⟩ := h
 exact ⟨D, Sep.ownsMap_at h hb, k⟩
theorem zCo {ops : Array Oper} {rest : List Oper} {o : Oper} {a : Act} {Q : Exit -> Act -> World -> Prop} (w : World) (hg : o.guard = none) (m y : Operand) (hop : o.op = Op.lookup T m y true) (law : Keyed P K) (hk : P.underlying K = some .string) (ht : P.underlying T = some (.map K E)) (he : P.underlying E = some (.int .i64))
  (hz : (zeroValue E).run P w = .ok (.int .i64 0) w) (b n : Nat) (L : List ByteArray) (hm : a.eval m = .map (some b)) (h : SMap P K E b n L w) (s : ByteArray) (hy : a.eval y = .string s) (hs : s.size <= maxLen)
  (hK : wpList P ops Q rest (a.put o.dst (.tuple #[.int .i64 (num L s), .bool (isIn L s)])) w) : wpList P ops Q (o :: rest) a w := by
 obtain ⟨D, ho, kd⟩ := h
 refine wpList_lookup_own_ok_int w hg m y T hop K E .i64 law ht he hz b n D hm ho _ _ hy (WideMaps.keyOf_string_mk hk hs) fun d hat _ => ?_
 rw [(kd s).2] at hat
 simp only [DataW.lit.injEq, Lit.int.injEq, true_and] at hat
 subst hat
 rw [(kd s).1]
 exact hK
theorem zEe {ops : Array Oper} {rest : List Oper} {o : Oper} {a : Act} {Q : Exit -> Act -> World -> Prop} (w : World) (hg : o.guard = none) (m y v : Operand) (hop : o.op = Op.mapUpdate T m y v) (law : Keyed P K) (hk : P.underlying K = some .string) (ht : P.underlying T = some (.map K E)) (he : P.underlying E = some (.int .i64))
  (b n : Nat) (L : List ByteArray) (hm : a.eval m = .map (some b)) (h : SMap P K E b n L w) (hn : n < maxLen) (s : ByteArray) (hy : a.eval y = .string s) (hs : s.size <= maxLen) (hnew : isIn L s = false) (z : Int) (hv : a.eval v = .int .i64 z) (hzl : z = (L.length : Int)) (hl : L.length < 9223372036854775808)
  (hK : ∀ w', SMap P K E b (n + 1) (L ++ [s]) w' -> w.grownBy w' (some b) -> wpList P ops Q rest (a.put o.dst undef) w') : wpList P ops Q (o :: rest) a w := by
 obtain ⟨D, ho, kd⟩ := h
 subst hzl
 refine wpList_mapUpdate_own w hg m y v T hop K E law ht (plainElem P E) b n D hm ho hn _ _ _ hy hv (WideMaps.keyOf_string_mk hk hs) _ [] (plainElem_int he (by simp only [Lit.wf, IntKind.min, IntKind.max, IntKind.signed, IntKind.bits, Bool.and_eq_true, decide_eq_true_eq, if_true]; omega)) fun w' h1 h2 => hK w' ⟨_, h1, zGh ho.isMap (law.key (WideMaps.keyOf_string_mk hk hs)) kd hnew⟩ h2
end
