/-
  The walk of the statement on items in another order, and on an item more. No condition.
  Package item: Step and Kernel: what of a list's right items is stepped to, what no closure adds; in order.
  Package item: Kernel: what no closure adds, in order.
  The statements' own function awake. No condition.
  The walk of the statement on closures of closures. No condition.
-/
import Derived.Test.YtjjmoonajijnmaaItemClose
import Derived.Shelf.SlSortCmp.QuietGrown
import Derived.Test.YtjjmoonajijnmaaItemMain
import Derived.Test.YtjjmoonajijnmaaItemSame
import Derived.Test.YtjjmoonajijnmaaMMuch
import Derived.Deep.DeepCutAuto
import Derived.Deep.RegionLaw
namespace Go.Proofs.Ytjjmoonajijnmaa.Im
open Go.RowKit Go.Maps
open Go.Proofs.Ytjjmoonajijnmaa.Gr (Gram Sh gv GAt Bx Box boxed drawn checkN cell_new cell_old cell_later free_new free_old)
set_option linter.unusedVariables false

/-- What the items that came have made: f of those of which Q says yes. -/
structure Put (X Lf Q : Itm → Prop) (f : Itm → Itm) (Z : Itm → Prop) : Prop where
  mem : ∀ x, Z x ↔ ∃ y, X y ∧ ¬ Lf y ∧ W64 y ∧ Q y ∧ x = f y
theorem Put.start {X Q : Itm → Prop} {f : Itm → Itm} : Put X X Q f (fun _ => False) := ⟨fun x => ⟨False.elim, fun ⟨_, h1, h2, _⟩ => absurd h1 h2⟩⟩
theorem Put.hit {X Lf Q Z : Itm → Prop} {f : Itm → Itm} {x : Itm} (p : Put X Lf Q f Z) (hX : X x) (hw : W64 x) (hq : Q x) : Put X (fun y => Lf y ∧ y ≠ x) Q f (fun y => Z y ∨ y = f x) := by
  refine ⟨fun z => ?_⟩
  rw [p.mem]
  constructor
  · rintro (⟨y, h1, h2, h3⟩ | e)
    · exact ⟨y, h1, fun k => h2 k.1, h3⟩
    · exact ⟨x, hX, fun k => k.2 rfl, hw, hq, e⟩
  · rintro ⟨y, h1, h2, h3, h4, h5⟩
    by_cases e : y = x
    · subst e
      exact .inr h5
    · exact .inl ⟨y, h1, fun k => h2 ⟨k, e⟩, h3, h4, h5⟩
theorem Put.miss {X Lf Q Z : Itm → Prop} {f : Itm → Itm} {x : Itm} (p : Put X Lf Q f Z) (hq : ¬ Q x) : Put X (fun y => Lf y ∧ y ≠ x) Q f Z := by
  refine ⟨fun z => ?_⟩
  rw [p.mem]
  constructor
  · rintro ⟨y, h1, h2, h3⟩
    exact ⟨y, h1, fun k => h2 k.1, h3⟩
  · rintro ⟨y, h1, h2, h3, h4, h5⟩
    by_cases e : y = x
    · subst e
      exact absurd h4 hq
    · exact ⟨y, h1, fun k => h2 ⟨k, e⟩, h3, h4, h5⟩
theorem Put.done {X Lf Q Z : Itm → Prop} {f : Itm → Itm} (p : Put X Lf Q f Z) (h : Over Lf) (x : Itm) : Z x ↔ ∃ y, X y ∧ W64 y ∧ Q y ∧ x = f y := by
  rw [p.mem]
  exact ⟨fun ⟨y, h1, _, h3⟩ => ⟨y, h1, h3⟩, fun ⟨y, h1, h3, h4⟩ => ⟨y, h1, h y h3, h3, h4⟩⟩

/-- The item has s behind its dot. -/
def Hs (G : Gram) (s : Int) (y : Itm) : Prop := behB G y = true ∧ behV G y = s
def nx (y : Itm) : Itm := (y.1, y.2 + 1)
theorem step_set {G : Gram} {L : List Itm} {s : Int} {Lf Z : Itm → Prop} (p : Put (VSet G L) Lf (Hs G s) nx Z) (h : Over Lf) (x : Itm) : Z x ↔ checkN G = 0 ∧ StepP G L s x := by
  rw [p.done h]
  constructor
  · rintro ⟨y, ⟨h1, h2, h3⟩, _, ⟨h4, h5⟩, h6⟩
    exact ⟨h1, y, h2, h4, h5, h6⟩
  · rintro ⟨h1, y, h2, h4, h5, h6⟩
    have h3 := (beh_iff.1 h4).1
    exact ⟨y, ⟨h1, h2, h3⟩, right_w64 h1 h3, ⟨h4, h5⟩, h6⟩
/-- An item of the kernel. -/
def Kr (G : Gram) (y : Itm) : Prop := 0 < y.2 ∨ y.1 = (G.rules.length : Int)
theorem ker_set {G : Gram} {L : List Itm} {Lf Z : Itm → Prop} (p : Put (VSet G L) Lf (Kr G) id Z) (h : Over Lf) (x : Itm) : Z x ↔ checkN G = 0 ∧ KerP G L x := by
  rw [p.done h]
  constructor
  · rintro ⟨y, ⟨h1, h2, h3⟩, _, h4, h6⟩
    subst h6
    exact ⟨h1, h2, h3, h4⟩
  · rintro ⟨h1, h2, h3, h4⟩
    exact ⟨x, ⟨h1, h2, h3⟩, right_w64 h1 h3, h4, rfl⟩

end Go.Proofs.Ytjjmoonajijnmaa.Im

namespace Go.Proofs.Ytjjmoonajijnmaa.Im
open Go.RowKit Go.Maps
open Go.Proofs.Ytjjmoonajijnmaa.Gr (Gram Sh gv GAt Bx Box boxed drawn checkN cell_new cell_old cell_later free_new free_old)
set_option linter.unusedVariables false

theorem augmented_grow (h : Sh) (G : Gram) (w : World) (k : GAt h G w) :
    Calls Try.prog 40 #[gv h G] w fun e w' => e = .returned (.int .i64 (G.rules.length : Int)) ∧ ∃ q os', w' = Go.Sort.grow (w.drewN q) os' := by
  have t := k.r2
  clear k
  unfold gv
  go_enter Try.func40, Try.ntmps40
  go_wp2
  go_ret
  exact ⟨rfl, (Gw.refl w).alloc _⟩

end Go.Proofs.Ytjjmoonajijnmaa.Im

namespace Go.Proofs.Ytjjmoonajijnmaa.Im
open Go.RowKit Go.Maps
open Go.Proofs.Ytjjmoonajijnmaa.Gr (Gram Sh gv GAt Bx Box boxed drawn checkN check_all formB plnS Fits cell_new cell_old cell_later free_new free_old)
set_option linter.unusedVariables false

/-- The grammar of awake. -/
def GA : Gram := { terms := [⟨#[65]⟩, ⟨#[66]⟩], nons := [⟨#[115]⟩, ⟨#[116]⟩], rules := [(3, [4, 1]), (4, [2])], start := 3 }
theorem ga_check : checkN GA = 0 := by
  refine check_all (by decide +kernel) ?_ (by decide +kernel) (by decide +kernel) (by decide +kernel) (by decide +kernel)
  have h1 : plnS ⟨#[65]⟩ = true := by decide +kernel
  have h2 : plnS ⟨#[66]⟩ = true := by decide +kernel
  have h3 : plnS ⟨#[115]⟩ = true := by decide +kernel
  have h4 : plnS ⟨#[116]⟩ = true := by decide +kernel
  simp [formB, GA, h1, h2, h3, h4]

/-- Its closure. -/
def cA : List Itm := [(0, 0), (1, 0), (2, 0)]
theorem ca_is : Is cA (Clo GA [(2, 0)]) := by
  have r2 : Clo GA [(2, 0)] (2, 0) := .of (List.mem_singleton.2 rfl) (by decide +kernel)
  have r0 : Clo GA [(2, 0)] (((0 : Nat) : Int), 0) := .next r2 (by decide +kernel) (by decide +kernel)
  have r1 : Clo GA [(2, 0)] (((1 : Nat) : Int), 0) := .next r0 (by decide +kernel) (by decide +kernel)
  refine ⟨?_, fun x => ⟨fun h => ?_, fun h => ?_⟩⟩
  · unfold Srt cA
    simp [ltP]
  · simp only [cA, List.mem_cons, List.not_mem_nil, or_false] at h
    rcases h with rfl | rfl | rfl
    · exact r0
    · exact r1
    · exact r2
  · induction h with
    | of h _ =>
      rw [List.mem_singleton] at h
      subst h
      simp [cA]
    | next _ _ h ih =>
      rename_i y r _ _
      simp only [cA, List.mem_cons, List.not_mem_nil, or_false] at ih
      rcases ih with rfl | rfl | rfl
      · have e : Gr.ofN GA (behV GA (0, 0)) = [1] := by decide +kernel
        rw [e, List.mem_singleton] at h
        subst h
        simp [cA]
      · have e : Gr.ofN GA (behV GA (1, 0)) = [] := by decide +kernel
        rw [e] at h
        cases h
      · have e : Gr.ofN GA (behV GA (2, 0)) = [0] := by decide +kernel
        rw [e, List.mem_singleton] at h
        subst h
        simp [cA]
theorem sa_is : Is [(0, 1)] (StepP GA cA 4) := by
  refine ⟨srt_one _, fun x => ?_⟩
  rw [List.mem_singleton]
  constructor
  · rintro rfl
    exact ⟨(0, 0), by simp [cA], by decide +kernel, by decide +kernel, rfl⟩
  · rintro ⟨y, h1, h2, h3, rfl⟩
    simp only [cA, List.mem_cons, List.not_mem_nil, or_false] at h1
    rcases h1 with rfl | rfl | rfl
    · rfl
    · exact absurd h3 (by decide +kernel)
    · exact absurd h3 (by decide +kernel)
theorem ka_is : Is [(2, 0)] (KerP GA cA) := by
  refine ⟨srt_one _, fun x => ?_⟩
  rw [List.mem_singleton]
  constructor
  · rintro rfl
    exact ⟨by simp [cA], by decide +kernel, .inr rfl⟩
  · rintro ⟨h1, _, h3⟩
    simp only [cA, List.mem_cons, List.not_mem_nil, or_false] at h1
    rcases h1 with rfl | rfl | rfl
    · exact absurd h3 (by simp [GA])
    · exact absurd h3 (by simp [GA])
    · rfl
theorem ba_is : bhdV GA (1, 0) = 2 ∧ bhdB GA (1, 0) = true := by
  unfold bhdV bhdB
  rw [ga_check]
  decide +kernel
theorem ra_is : rgtB GA (2, 1) = true := by
  unfold rgtB
  rw [ga_check]
  decide +kernel

/-- The world behind the literals of awake, and where they lie. -/
def lw (W : World) : World :=
  ((((W.alloc (.cells #[.string ⟨#[65]⟩, .string ⟨#[66]⟩] 9)).alloc (.cells #[.string ⟨#[115]⟩, .string ⟨#[116]⟩] 9)).alloc (.cells #[.int .i64 4, .int .i64 1] 3)).alloc (.cells #[.int .i64 2] 3)).alloc
    (.cells #[.int .i64 3, .slice (some ⟨W.heap.size + 1 + 1, 0, none⟩) 2 2, .int .i64 4, .slice (some ⟨W.heap.size + 1 + 1 + 1, 0, none⟩) 1 1] 47)
def ah (W : World) : Sh := ⟨some ⟨W.heap.size, 0, none⟩, 2, some ⟨W.heap.size + 1, 0, none⟩, 2, some ⟨W.heap.size + 1 + 1 + 1 + 1, 0, none⟩, 2⟩
theorem lw_below (W : World) : Below W.heap.size W (lw W) := Gr.step (Gr.step (Gr.step (Gr.step (boxed _ _) (boxed _ _)) (boxed _ _)) (boxed _ _)) (boxed _ _)
theorem lw_size (W : World) : (lw W).heap.size = W.heap.size + 5 := by simp [lw]
theorem fitz (x : Int) (h : -1000 ≤ x) (k : x ≤ 1000) : Fits x := ⟨by omega, by omega⟩
theorem lw_at (W : World) : GAt (ah W) GA (lw W) := by
  refine ⟨fun i hi => ?_, fun i hi => ?_, fun i hi => ?_, by simp [ah, GA], by simp [GA], by simp [GA], by simp [ah, GA], by simp [GA], ⟨?_, ?_, fitz _ (by decide) (by decide), ?_, ?_⟩⟩
  · have h2 : i < 2 := hi
    refine ⟨W.heap.size, 0, rfl, ?_⟩
    have : i = 0 ∨ i = 1 := by omega
    rcases this with rfl | rfl <;> exact cell_old (cell_old (cell_old (cell_old (cell_new rfl rfl))))
  · have h2 : i < 2 := hi
    refine ⟨W.heap.size + 1, 0, rfl, ?_⟩
    have : i = 0 ∨ i = 1 := by omega
    rcases this with rfl | rfl <;> exact cell_old (cell_old (cell_old (cell_new (by simp) rfl)))
  · have h2 : i < 2 := hi
    have : i = 0 ∨ i = 1 := by omega
    rcases this with rfl | rfl
    · refine ⟨W.heap.size + 1 + 1 + 1 + 1, 0, some ⟨W.heap.size + 1 + 1, 0, none⟩, 2, rfl, cell_new (by simp) rfl, cell_new (by simp) rfl, fun j hj => ?_, by simp [GA], by simp [GA]⟩
      have h3 : j < 2 := hj
      refine ⟨W.heap.size + 1 + 1, 0, rfl, ?_⟩
      have : j = 0 ∨ j = 1 := by omega
      rcases this with rfl | rfl <;> exact cell_old (cell_old (cell_new (by simp) rfl))
    · refine ⟨W.heap.size + 1 + 1 + 1 + 1, 0, some ⟨W.heap.size + 1 + 1 + 1, 0, none⟩, 1, rfl, cell_new (by simp) rfl, cell_new (by simp) rfl, fun j hj => ?_, by simp [GA], by simp [GA]⟩
      have h3 : j < 1 := hj
      obtain rfl : j = 0 := by omega
      exact ⟨W.heap.size + 1 + 1 + 1, 0, rfl, cell_old (cell_new (by simp) rfl)⟩
  · intro s hs
    simp only [GA, List.mem_cons, List.not_mem_nil, or_false] at hs
    rcases hs with rfl | rfl <;> simp [ByteArray.size]
  · intro s hs
    simp only [GA, List.mem_cons, List.not_mem_nil, or_false] at hs
    rcases hs with rfl | rfl <;> simp [ByteArray.size]
  · intro r hr
    simp only [GA, List.mem_cons, List.not_mem_nil, or_false] at hr
    rcases hr with rfl | rfl <;> exact fitz _ (by decide) (by decide)
  · intro r hr x hx
    simp only [GA, List.mem_cons, List.not_mem_nil, or_false] at hr
    rcases hr with rfl | rfl
    · simp only [List.mem_cons, List.not_mem_nil, or_false] at hx
      rcases hx with rfl | rfl <;> exact fitz _ (by decide) (by decide)
    · simp only [List.mem_cons, List.not_mem_nil, or_false] at hx
      subst hx
      exact fitz _ (by decide) (by decide)

/-- A list comes back that reads so. -/
def Got (L : List Itm) (n : Nat) (w : World) (e : Ending) (w' : World) : Prop := ∃ a c, e = .returned (.slice a n c) ∧ ItsA a L w' ∧ Below w.heap.size w w'
theorem got_of {P Q : Itm → Prop} {L : List Itm} {w : World} {e : Ending} {w' : World} (h : ListIs P w e w') (hi : ∀ x, P x ↔ Q x) (k : Is L Q) : Got L L.length w e w' := by
  obtain ⟨Y, a, c, h1, h2, h3, h4⟩ := h
  obtain rfl : Y = L := (h2.iff hi).uniq k
  exact ⟨a, c, h1, h3.reads, h4⟩
theorem ca_64 : ∀ x ∈ cA, W64 x := fun x hx => right_w64 ga_check (clo_right ((ca_is.2 x).1 hx))
theorem c_begin (W w : World) (k : GAt (ah W) GA w) : Calls Try.prog 26 #[gv (ah W) GA] w (Got [(2, 0)] 1 w) :=
  (begin_any _ _ w k).mono fun e w' h => got_of h (fun x => ⟨fun q => q.2, fun q => ⟨ga_check, q⟩⟩) ⟨srt_one _, fun x => by rw [List.mem_singleton]; rfl⟩
theorem c_close (W w : World) (k : GAt (ah W) GA w) (a : Option Addr) (c : Nat) (h : ItsA a [(2, 0)] w) : Calls Try.prog 54 #[gv (ah W) GA, .slice a 1 c] w (Got cA 3 w) :=
  (close_any _ _ [(2, 0)] a c w k h (fun x hx => by rw [List.mem_singleton] at hx; subst hx; exact ⟨by decide, by decide⟩) (by simp)).mono fun e w' h => got_of h (fun x => ⟨fun q => q.2, fun q => ⟨ga_check, q⟩⟩) ca_is
/-- The grammar's value, and its box. -/
abbrev gl (W : World) : Value := .agg #[.slice (some ⟨W.heap.size, 0, none⟩) 2 2, .slice (some ⟨W.heap.size + 1, 0, none⟩) 2 2, .slice (some ⟨W.heap.size + 1 + 1 + 1 + 1, 0, none⟩) 2 2, .int .i64 3]
theorem aw_box {W w : World} (X : Bx (lw W) (ah W) GA w) : w.cell? ⟨W.heap.size + 1 + 1 + 1 + 1 + 1, 0, none⟩ = some (.slice (some ⟨W.heap.size, 0, none⟩) 2 2) ∧ w.cell? ⟨W.heap.size + 1 + 1 + 1 + 1 + 1, 1, none⟩ = some (.slice (some ⟨W.heap.size + 1, 0, none⟩) 2 2) ∧
    w.cell? ⟨W.heap.size + 1 + 1 + 1 + 1 + 1, 2, none⟩ = some (.slice (some ⟨W.heap.size + 1 + 1 + 1 + 1, 0, none⟩) 2 2) ∧ w.cell? ⟨W.heap.size + 1 + 1 + 1 + 1 + 1, 3, none⟩ = some (.int .i64 3) := by
  have h := X.box
  rw [lw_size] at h
  exact ⟨h.x0, h.x1, h.x2, h.x3⟩

end Go.Proofs.Ytjjmoonajijnmaa.Im

namespace Go.Proofs.Ytjjmoonajijnmaa.Im
open Go.RowKit Go.Maps
open Go.Proofs.Ytjjmoonajijnmaa.Gr (Gram Sh gv GAt Bx boxed drawn checkN much_any cell_new cell_old cell_later)
set_option linter.unusedVariables false

theorem is_small {G : Gram} {Y : List Itm} {P : Itm → Prop} (hv : checkN G = 0) (h : Is Y P) (hr : ∀ x, P x → rightB G x = true) : Y.length ≤ 2709 ∧ ∀ x ∈ Y, W64 x :=
  ⟨Nat.le_trans (srt_len h.1 fun x hx => hr x ((h.2 x).1 hx)) (all_small hv), fun x hx => right_w64 hv (hr x ((h.2 x).1 hx))⟩
theorem same_self (X : List Itm) (a b : Option Addr) (c d : Nat) (w : World) (hX : ItsA a X w) (hY : ItsA b X w) (hl : X.length ≤ 2709) :
    Calls Try.prog 22 #[.slice a X.length c, .slice b X.length d] w (Gr.Is (.bool true) w) := by
  have := rsame_any X X a b c d w hX hY (by omega)
  rw [decide_eq_true rfl] at this
  exact this

end Go.Proofs.Ytjjmoonajijnmaa.Im

namespace Go.Proofs.Ytjjmoonajijnmaa.Im
open Go.RowKit Go.Maps
open Go.Proofs.Ytjjmoonajijnmaa.Gr (Gram Sh gv GAt Bx boxed drawn checkN much_any cell_new cell_old cell_later)
set_option linter.unusedVariables false

theorem build_no_items (w : World) : (Instr.buildSlice 23 0 #[]).run Try.prog w = .ok (.slice (some ⟨w.heap.size, 0, none⟩) 0 0) (w.alloc (.cells #[] 51)) := by kernel_rfl

theorem heap_new (w : World) (o : Obj) : (w.alloc o).heap[w.heap.size]? = some o := World.alloc_heap_new _ _
theorem heap_at {w : World} {o : Obj} {q : Nat} (h : q = w.heap.size) : (w.alloc o).heap[q]? = some o := by
  subst h
  exact heap_new _ _
theorem heap_old {w : World} {o o' : Obj} {q : Nat} (h : w.heap[q]? = some o') : (w.alloc o).heap[q]? = some o' := by
  rw [Below.heap_alloc _ _ _ (Array.getElem?_eq_some_iff.1 h).1]
  exact h
theorem lit_of {w : World} {base q : Nat} {x : Itm} (hq : w.heap[q]? = some (.cells #[.int .i64 x.1, .int .i64 x.2] 51 (0, 0))) (hb : base ≤ q) : w.ownsRow base 51 2 (.slice (some ⟨q, 0, none⟩) 1 1) 1 (ic x) :=
  ⟨by simp [ic], .inr ⟨q, 1, _, rfl, hb, hq, Nat.le_refl _, by unfold maxLen; omega, by simp, by simp [ic]⟩⟩
/-- Behind the closure of the list with an item more. -/
def OneMore (G : Gram) (M : List Itm) (W : World) (s : Value) (wx : World) : Prop := ∃ (E : List Itm) (a : Option Addr) (c : Nat), s = .slice a E.length c ∧ Is E (Clo G M) ∧ ItsA a E wx ∧ Below W.heap.size W wx

/-- Is the item among the first k? -/
def inB (x : Itm) (E : List Itm) (k : Nat) : Bool := decide (x ∈ E.take k)
theorem in_zero (x : Itm) (E : List Itm) : inB x E 0 = false := by simp [inB]
theorem in_hit {x : Itm} {E : List Itm} {k : Nat} (h : inB x E k = true) : inB x E (k + 1) = true := by
  unfold inB at *
  rw [decide_eq_true_iff] at *
  rw [List.take_add_one]
  exact List.mem_append.2 (.inl h)
theorem in_miss {x : Itm} {E : List Itm} {k : Nat} (hk : k < E.length) (h : inB x E k = false) : inB x E (k + 1) = eqB x E[k] := by
  unfold inB eqB at *
  rw [decide_eq_false_iff_not] at h
  rw [List.take_add_one, List.getElem?_eq_getElem hk, decide_eq_decide, List.mem_append, Option.toList_some, List.mem_singleton]
  exact ⟨fun q => q.elim (fun q => absurd q h) id, .inr⟩
theorem in_all {x : Itm} {E : List Itm} (h : x ∈ E) : inB x E E.length = true := by
  unfold inB
  rw [List.take_length, decide_eq_true_iff]
  exact h

end Go.Proofs.Ytjjmoonajijnmaa.Im
