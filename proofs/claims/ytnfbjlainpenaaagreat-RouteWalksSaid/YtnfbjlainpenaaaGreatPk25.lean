/- A part of the proof. -/
import Derived.Test.YtnfbjlainpenaaaGreatPk24
set_option linter.unusedVariables false
namespace Go.Proofs.YtnfbjlainpenaaaGreat
namespace Im
open Gr (Gram checkN zAc zAv zCm zAW ofN zCo zBc zBA)
theorem zB4 {G : Gram} (h : zAv G = false) : G.rules.length <= 300 /\ ∀ r ∈ G.rules, r.2.length <= 8 := by
 unfold zAv at h
 simp only [Bool.or_eq_false_iff, decide_eq_false_iff_not, List.any_eq_false, decide_eq_true_eq] at h
 exact ⟨by omega, fun r hr => by have := h.2 r hr; omega⟩
theorem zDd {G : Gram} (h : checkN G = 0) {r : Nat} (hr : r <= G.rules.length) : rlen G (r : Int) <= 8 := by
 have hm := zB4 (zAc h).1
 unfold rlen
 by_cases e : r = G.rules.length
 ·subst e
  rw [(zBA G).2]
  simp
 ·have hr' : r < G.rules.length := by omega
  rw [(zBc hr').2]
  exact hm.2 _ (List.getElem_mem hr')
theorem zAS {G : Gram} (h : checkN G = 0) : (allI G).length <= 2709 := by
 have h1 := zLN (G := G) (B := 8) fun r hr => zDd h hr
 have h2 := (zB4 (zAc h).1).1
 have h3 : (G.rules.length + 1) * (8 + 1) <= 301 * 9 := Nat.mul_le_mul (by omega) (by omega)
 omega
theorem zBQ {G : Gram} (h : checkN G = 0) {x : Itm} (hx : zAC G x = true) : 0 <= x.1 /\ x.1 <= 300 /\ 0 <= x.2 /\ x.2 <= 8 := by
 obtain ⟨⟨h1, h2⟩, h3, h4⟩ := zAU.1 hx
 have hm := (zB4 (zAc h).1).1
 obtain ⟨r, hr⟩ := Int.eq_ofNat_of_zero_le h1
 have := zDd h (r := r) (by omega)
 rw [hr] at h4
 omega
theorem zGa {n : Int} (h : -1000 <= n) (k : n <= 1000) : (Lit.int .i64 n).wf = true := by
 simp only [Lit.wf, IntKind.min, IntKind.max, IntKind.signed, IntKind.bits, Bool.and_eq_true, decide_eq_true_eq, if_true]
 omega
theorem zBb {G : Gram} (h : checkN G = 0) {x : Itm} (hx : zAC G x = true) : W64 x := by
 have := zBQ h hx
 exact ⟨zGa (by omega) (by omega), zGa (by omega) (by omega)⟩
theorem zIV {G : Gram} (h : checkN G = 0) : ofN G 0 = [] := by
 rw [List.eq_nil_iff_forall_not_mem]
 intro r hr
 obtain ⟨h1, h2⟩ := zCo.1 hr
 have := zAW.1 (zCm (zAc h).2.2.2.1 h1)
 omega
theorem zKB {G : Gram} (h : checkN G = 0) {x : Itm} (hx : ¬ behB G x = true) : ofN G (behV G x) = [] := by
 unfold behV
 rw [if_neg hx]
 exact zIV h
theorem zHs {G : Gram} {x y z : Itm} (h : Clo G [x] y) (k : Clo G [y] z) : Clo G [x] z := by
 induction k with
 | of h1 h2 =>
  rw [List.mem_singleton] at h1
  subst h1
  exact h
 | next _ h2 h3 ih => exact .next ih h2 h3
theorem zFr {G : Gram} {x : Itm} (h : zAC G x = true) : Clo G [x] x := .of (List.mem_singleton.2 rfl) h
theorem zLV {G : Gram} {x : Itm} (h : zAC G x = true) {r : Nat} (hr : r ∈ ofN G (behV G x)) (hv : checkN G = 0) : Clo G [x] ((r : Int), 0) := by
 by_cases hb : behB G x = true
 ·exact .next (zFr h) hb hr
 ·rw [zKB hv hb] at hr
  cases hr
structure Sprd (G : Gram) (X : Itm -> Prop) (x : Itm) (Y : Itm -> Prop) : Prop where
 old : ∀ y, X y -> Y y
 own : Y x
 new : ∀ y, Y y -> X y \/ Clo G [x] y
 shut : ∀ y, Y y -> ¬ X y -> ∀ r ∈ ofN G (behV G y), Y ((r : Int), 0)
theorem Sprd.none {G : Gram} {X Y : Itm -> Prop} {x : Itm} (h : X x) (e : ∀ y, Y y ↔ X y \/ y = x) : Sprd G X x Y := by
 have e' : ∀ y, Y y ↔ X y := fun y => (e y).trans ⟨fun k => k.elim id fun k => k ▸ h, .inl⟩
 exact ⟨fun y hy => (e' y).2 hy, (e' x).2 h, fun y hy => .inl ((e' y).1 hy), fun y hy hn => absurd ((e' y).1 hy) hn⟩
structure Part (G : Gram) (X : Itm -> Prop) (x : Itm) (K : List Nat) (j : Nat) (Z : Itm -> Prop) : Prop where
 old : ∀ y, X y -> Z y
 own : Z x
 new : ∀ y, Z y -> X y \/ Clo G [x] y
 kids : ∀ i (h : i < K.length), i < j -> Z ((K[i] : Int), 0)
 shut : ∀ y, Z y -> ¬ X y -> y ≠ x -> ∀ r ∈ ofN G (behV G y), Z ((r : Int), 0)
theorem Part.start {G : Gram} {X Z : Itm -> Prop} {x : Itm} {K : List Nat} (hr : zAC G x = true) (e : ∀ y, Z y ↔ X y \/ y = x) : Part G X x K 0 Z :=
 ⟨fun y hy => (e y).2 (.inl hy), (e x).2 (.inr rfl), fun y hy => ((e y).1 hy).imp id fun k => by rw [k]; exact zFr hr, fun i _ hi => by omega, fun y hy hn hne => absurd ((e y).1 hy) fun k => k.elim hn hne⟩
theorem Part.step {G : Gram} {X Z Y : Itm -> Prop} {x : Itm} {j : Nat} (hv : checkN G = 0) (hr : zAC G x = true) (p : Part G X x (ofN G (behV G x)) j Z) (hj : j < (ofN G (behV G x)).length) (s : Sprd G Z (((ofN G (behV G x))[j] : Int), 0) Y) : Part G X x (ofN G (behV G x)) (j + 1) Y := by
 refine ⟨fun y hy => s.old y (p.old y hy), s.old x p.own, fun y hy => ?_, fun i hi hij => ?_, fun y hy hn hne r hk => ?_⟩
 ·rcases s.new y hy with k | k
  ·exact p.new y k
  ·exact .inr (zHs (zLV hr (List.getElem_mem hj) hv) k)
 ·by_cases e : i = j
  ·subst e
   exact s.own
  ·exact s.old _ (p.kids i hi (by omega))
 ·rcases Classical.em (Z y) with k | k
  ·exact s.old _ (p.shut y k hn hne r hk)
  ·exact s.shut y hy k r hk
theorem Part.done {G : Gram} {X Z : Itm -> Prop} {x : Itm} (p : Part G X x (ofN G (behV G x)) (ofN G (behV G x)).length Z) : Sprd G X x Z := by
 refine ⟨p.old, p.own, p.new, fun y hy hn r hk => ?_⟩
 by_cases e : y = x
 ·subst e
  obtain ⟨i, hi, e⟩ := List.getElem_of_mem hk
  rw [← e]
  exact p.kids i hi hi
 ·exact p.shut y hy hn e r hk
theorem Part.right {G : Gram} {X Z : Itm -> Prop} {x : Itm} {K : List Nat} {j : Nat} (p : Part G X x K j Z) (h : ∀ y, X y -> zAC G y = true) (y : Itm) (hy : Z y) : zAC G y = true := (p.new y hy).elim (h y) zA0
structure Way (G : Gram) (L : List Itm) (Lf Z : Itm -> Prop) : Prop where
 sub : ∀ y, Z y -> Clo G L y
 met : ∀ y, y ∈ L -> zAC G y = true -> ¬ Lf y -> Z y
 shut : ∀ y, Z y -> ∀ r ∈ ofN G (behV G y), Z ((r : Int), 0)
theorem Way.start {G : Gram} {L : List Itm} {X Z : Itm -> Prop} (hX : ∀ y, y ∈ L -> zAC G y = true -> X y) (hz : ∀ y, ¬ Z y) : Way G L X Z :=
 ⟨fun y hy => absurd hy (hz y), fun y h1 h2 h3 => absurd (hX y h1 h2) h3, fun y hy => absurd hy (hz y)⟩
theorem Way.step {G : Gram} {L : List Itm} {Lf Z Y : Itm -> Prop} {x : Itm} (p : Way G L Lf Z) (hx : x ∈ L) (hr : zAC G x = true) (s : Sprd G Z x Y) : Way G L (fun y => Lf y /\ y ≠ x) Y := by
 refine ⟨fun y hy => ?_, fun y h1 h2 h3 => ?_, fun y hy r hk => ?_⟩
 ·rcases s.new y hy with k | k
  ·exact p.sub y k
  ·exact zJq (fun z hz => by rw [List.mem_singleton] at hz; rw [hz]; exact hx) k
 ·by_cases e : y = x
  ·rw [e]
   exact s.own
  ·exact s.old y (p.met y h1 h2 fun k => h3 ⟨k, e⟩)
 ·rcases Classical.em (Z y) with k | k
  ·exact s.old _ (p.shut y k r hk)
  ·exact s.shut y hy k r hk
theorem Way.done {G : Gram} {L : List Itm} {Lf Z : Itm -> Prop} (p : Way G L Lf Z) (h : ∀ y, y ∈ L -> zAC G y = true -> ¬ Lf y) (y : Itm) : Z y ↔ Clo G L y := by
 refine ⟨p.sub y, fun k => ?_⟩
 induction k with
 | of h1 h2 => exact p.met _ h1 h2 (h _ h1 h2)
 | next _ h2 h3 ih => exact p.shut _ ih _ h3
theorem Way.right {G : Gram} {L : List Itm} {Lf Z : Itm -> Prop} (p : Way G L Lf Z) (y : Itm) (hy : Z y) : zAC G y = true := zA0 (p.sub y hy)
end Im
namespace Au
open Go.RowKit Go.Maps
open Im
open It (zHZ isIn num zEk zEl)
structure Ka (P : Program) (K : TypeId) : Prop where
 law : Keyed P K
 key : ∀ x, W64 x -> keyOf P K (iv x) = some (ik x)
theorem zNI {P : Program} {K E : TypeId} (law : Keyed P K) (hu : P.underlying K = some (.array 2 E)) (he : P.underlying E = some (.int .i64)) (hkt : P.keyType K = true) (hcells : P.cellsOf K = 2) (ce : P.cellsOf E = 1) (n : Nat) (hn : P.types.size = n + 1) : Ka P K := by
 refine ⟨law, fun x hx => ?_⟩
 unfold keyOf iv
 rw [hu]
 simp only [hkt, Bool.true_and]
 rw [if_pos (by simp [Value.formed, hu, hcells])]
 rw [hn]
 have hr : List.range 2 = [0, 1] := rfl
 simp [Program.keyLits, hu, hcells, ce, he, hx.1, hx.2, Value.cells, ik, hr]
section
variable {P : Program} {K T E : TypeId}
def TMap (P : Program) (K E : TypeId) (b n : Nat) (X : Itm -> Option Int) (w : World) : Prop :=
 ∃ D : DataW Unit, w.ownsMap P K (plainElem P E) b n D /\ ∀ x, W64 x -> has D (ik x) = (X x).isSome /\ D.atKey (ik x) (.lit (.int .i64 0)) = .lit (.int .i64 ((X x).getD 0))
theorem TMap.made (w : World) (P : Program) (K E : TypeId) : TMap P K E w.heap.size 0 (fun _ => none) (w.alloc (.map #[] 0)) :=
 ⟨_, World.ownsMap_made w P K _, fun x _ => ⟨rfl, rfl⟩⟩
theorem TMap.mono {b n n' : Nat} {X : Itm -> Option Int} {w : World} (h : TMap P K E b n X w) (hn : n <= n') : TMap P K E b n' X w := by
 obtain ⟨D, h, k⟩ := h
 exact ⟨D, h.mono hn, k⟩
theorem TMap.eq {b n : Nat} {X Y : Itm -> Option Int} {w : World} (h : TMap P K E b n X w) (e : ∀ x, X x = Y x) : TMap P K E b n Y w := by
 obtain ⟨D, h, k⟩ := h
 exact ⟨D, h, fun x hx => by rw [← e x]; exact k x hx⟩
theorem TMap.keep {b n : Nat} {X : Itm -> Option Int} {w w' : World} (h : TMap P K E b n X w) (hb : w'.heap[b]? = w.heap[b]?) : TMap P K E b n X w' := by
 obtain ⟨D, h, k⟩ := h
 exact ⟨D, Sep.ownsMap_at h hb, k⟩
theorem TMap.store {b n : Nat} {X : Itm -> Option Int} {w : World} (h : TMap P K E b n X w) (k : Ka P K) (ht : P.underlying T = some (.map K E)) (he : P.underlying E = some (.int .i64)) (hn : n < maxLen) {x : Itm} (hx : W64 x) {t : Int} (hw : (Lit.int .i64 t).wf = true) :
  ∃ w', (Instr.mapUpdate T (.map (some b)) (iv x) (.int .i64 t)).run P w = .ok () w' /\ TMap P K E b (n + 1) (fun y => if y = x then some t else X y) w' /\ w.mapTurned w' b := by
 obtain ⟨D, ho, kd⟩ := h
 obtain ⟨w', hrun, h1, h2⟩ := ho.store k.law ht hn (k.key x hx) (plainElem_int he hw)
 refine ⟨w', hrun, ⟨_, h1, fun y hy => ?_⟩, h2⟩
 by_cases e : y = x
 ·subst e
  show _ = (if y = y then some t else X y).isSome /\ _ = DataW.lit (Lit.int .i64 ((if y = y then some t else X y).getD 0))
  rw [if_pos rfl, has_put_same ho.isMap (k.law.key (k.key y hy)), atKey_put_same ho.isMap (k.law.key (k.key y hy))]
  exact ⟨rfl, rfl⟩
 ·have hne : ik y ≠ ik x := fun q => e (zIF hy hx q)
  show _ = (if y = x then some t else X y).isSome /\ _ = DataW.lit (Lit.int .i64 ((if y = x then some t else X y).getD 0))
  rw [if_neg e, has_put_other hne, atKey_put_other hne]
  exact kd y hy
theorem zBo {ops : Array Oper} {rest : List Oper} {o : Oper} {a : Act} {Q : Exit -> Act -> World -> Prop} (w : World) (hg : o.guard = none) (m y : Operand) (hop : o.op = Op.lookup T m y true) (k : Ka P K) (ht : P.underlying T = some (.map K E)) (he : P.underlying E = some (.int .i64))
  (hz : (zeroValue E).run P w = .ok (.int .i64 0) w) (b n : Nat) (X : Itm -> Option Int) (hm : a.eval m = .map (some b)) (h : TMap P K E b n X w) (x : Itm) (hy : a.eval y = iv x) (hx : W64 x)
  (hK : wpList P ops Q rest (a.put o.dst (.tuple #[.int .i64 ((X x).getD 0), .bool (X x).isSome])) w) : wpList P ops Q (o :: rest) a w := by
 obtain ⟨D, ho, kd⟩ := h
 refine wpList_lookup_own_ok_int w hg m y T hop K E .i64 k.law ht he hz b n D hm ho _ _ hy (k.key x hx) fun d hat _ => ?_
 rw [(kd x hx).2] at hat
 simp only [DataW.lit.injEq, Lit.int.injEq, true_and] at hat
 subst hat
 rw [(kd x hx).1]
 exact hK
def SMap (P : Program) (K E : TypeId) (b n : Nat) (L : List ByteArray) (w : World) : Prop := ∃ D : DataW Unit, w.ownsMap P K (plainElem P E) b n D /\ zHZ L D
theorem SMap.made (w : World) (P : Program) (K E : TypeId) : SMap P K E w.heap.size 0 [] (w.alloc (.map #[] 0)) := ⟨_, World.ownsMap_made w P K _, zEk⟩
theorem SMap.lt {b n : Nat} {L : List ByteArray} {w : World} (h : SMap P K E b n L w) : b < w.heap.size := by
 obtain ⟨D, h, _⟩ := h
 exact h.lt
theorem SMap.keep {b n : Nat} {L : List ByteArray} {w w' : World} (h : SMap P K E b n L w) (hb : w'.heap[b]? = w.heap[b]?) : SMap P K E b n L w' := by
 obtain ⟨D, h, k⟩ := h
 exact ⟨D, Sep.ownsMap_at h hb, k⟩
theorem zBn {ops : Array Oper} {rest : List Oper} {o : Oper} {a : Act} {Q : Exit -> Act -> World -> Prop} (w : World) (hg : o.guard = none) (m y : Operand) (hop : o.op = Op.lookup T m y true) (law : Keyed P K) (hk : P.underlying K = some .string) (ht : P.underlying T = some (.map K E)) (he : P.underlying E = some (.int .i64))
  (hz : (zeroValue E).run P w = .ok (.int .i64 0) w) (b n : Nat) (L : List ByteArray) (hm : a.eval m = .map (some b)) (h : SMap P K E b n L w) (s : ByteArray) (hy : a.eval y = .string s) (hs : s.size <= maxLen)
  (hK : wpList P ops Q rest (a.put o.dst (.tuple #[.int .i64 (num L s), .bool (isIn L s)])) w) : wpList P ops Q (o :: rest) a w := by
 obtain ⟨D, ho, kd⟩ := h
 refine wpList_lookup_own_ok_int w hg m y T hop K E .i64 law ht he hz b n D hm ho _ _ hy (WideMaps.keyOf_string_mk hk hs) fun d hat _ => ?_
 rw [(kd s).2] at hat
 simp only [DataW.lit.injEq, Lit.int.injEq, true_and] at hat
 subst hat
 rw [(kd s).1]
 exact hK
theorem zC4 {ops : Array Oper} {rest : List Oper} {o : Oper} {a : Act} {Q : Exit -> Act -> World -> Prop} (w : World) (hg : o.guard = none) (m y v : Operand) (hop : o.op = Op.mapUpdate T m y v) (law : Keyed P K) (hk : P.underlying K = some .string) (ht : P.underlying T = some (.map K E)) (he : P.underlying E = some (.int .i64))
  (b n : Nat) (L : List ByteArray) (hm : a.eval m = .map (some b)) (h : SMap P K E b n L w) (hn : n < maxLen) (s : ByteArray) (hy : a.eval y = .string s) (hs : s.size <= maxLen) (hnew : isIn L s = false) (z : Int) (hv : a.eval v = .int .i64 z) (hzl : z = (L.length : Int)) (hl : L.length < 9223372036854775808)
  (hK : ∀ w', SMap P K E b (n + 1) (L ++ [s]) w' -> w.grownBy w' (some b) -> wpList P ops Q rest (a.put o.dst undef) w') : wpList P ops Q (o :: rest) a w := by
 obtain ⟨D, ho, kd⟩ := h
 subst hzl
 refine wpList_mapUpdate_own w hg m y v T hop K E law ht (plainElem P E) b n D hm ho hn _ _ _ hy hv (WideMaps.keyOf_string_mk hk hs) _ [] (plainElem_int he (by simp only [Lit.wf, IntKind.min, IntKind.max, IntKind.signed, IntKind.bits, Bool.and_eq_true, decide_eq_true_eq, if_true]; omega)) fun w' h1 h2 => hK w' ⟨_, h1, zEl ho.isMap (law.key (WideMaps.keyOf_string_mk hk hs)) kd hnew⟩ h2
end
