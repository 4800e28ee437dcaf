/-
  A map of items (a set) that is ranged over: which are still to come; how many there are at most; the laws at the operations, fenced or not. The program and its types are parameters.
-/
import Derived.Test.YtjjmoonajijnmaaItemMap
import Derived.Maps.RangeWalk
import Derived.Sort.MapsRangeIn
import Derived.Sort.KeysCollected
import Derived.RangeFuncSeq
namespace Go.Proofs.Ytjjmoonajijnmaa.Im
open Go.RowKit Go.Maps
set_option linter.unusedVariables false

section
variable {H : Type} {P : Program} {K T E : TypeId} {R : Value → Option (DataW H × List MemPlace)}

/-- What the datum has. -/
def Dat (u : DataW H) (D : DataW H) (X : Itm → Prop) : Prop := ∀ x, W64 x → (X x ∧ ∀ z, D.atKey (ik x) z = u) ∨ (¬ X x ∧ ∀ z, D.atKey (ik x) z = z)
theorem Dat.has {u D : DataW H} {X : Itm → Prop} (h : Dat u D X) {x : Itm} (hx : W64 x) : has D (ik x) = true ↔ X x := by
  rcases h x hx with ⟨q, e⟩ | ⟨q, e⟩
  · exact ⟨fun _ => q, fun _ => has_true_of_atKey e⟩
  · exact ⟨fun k => (by rw [has_false_of_atKey e] at k; exact Bool.noConfusion k), fun k => absurd k q⟩

/-- No more entries than items that may be there. -/
theorem MSet.tight {u : DataW H} {b n : Nat} {X : Itm → Prop} {w : World} (h : MSet P K R u b n X w) (k : Kt P K) (M : List Itm) (hM : ∀ x, W64 x → X x → x ∈ M) : MSet P K R u b M.length X w := by
  obtain ⟨D, ho, kd⟩ := h
  obtain ⟨es, eD, hpw, _⟩ := ho.entries k.law
  obtain ⟨es', eD', hko⟩ := ho.keysOf
  obtain rfl : es = es' := by rw [eD] at eD'; simpa using eD'
  have hk : ∀ p ∈ es, ∃ x, W64 x ∧ p.1 = ik x := fun p hp => by
    obtain ⟨v, hv⟩ := hko p hp
    obtain ⟨x, hx, _, e⟩ := k.inv _ _ hv
    exact ⟨x, hx, e⟩
  have hX : ∀ p ∈ es, ∀ x, W64 x → p.1 = ik x → X x := fun p hp x hx e => by
    refine (Dat.has kd hx).1 ?_
    rw [eD, has_eq, List.any_eq_true]
    refine ⟨p, hp, ?_⟩
    rw [e]
    exact WideAt.sameKey_self (k.law.key (k.key x hx))
  have hlen : es.length ≤ M.length := by
    have key : ∀ (l : List (Lit × DataW H)), (∀ p ∈ l, p ∈ es) → l.Pairwise (fun p q => p.1 ≠ q.1) → ∃ s : List Itm, s.length = l.length ∧ s.Nodup ∧ ∀ x ∈ s, W64 x ∧ ∃ p ∈ l, p.1 = ik x := by
      intro l
      induction l with
      | nil => exact fun _ _ => ⟨[], rfl, List.nodup_nil, fun x hx => by cases hx⟩
      | cons p l ih =>
        intro hl hp
        have hp' := List.pairwise_cons.1 hp
        obtain ⟨s, e1, e2, e3⟩ := ih (fun q hq => hl q (List.mem_cons_of_mem _ hq)) hp'.2
        obtain ⟨x, hx, ex⟩ := hk p (hl p (List.mem_cons_self ..))
        refine ⟨x :: s, by simp [e1], List.nodup_cons.2 ⟨fun hs => ?_, e2⟩, fun y hy => ?_⟩
        · obtain ⟨_, q, hq, eq⟩ := e3 x hs
          exact hp'.1 q hq (ex.trans eq.symm)
        · rcases List.mem_cons.1 hy with e | hy
          · subst e
            exact ⟨hx, p, List.mem_cons_self .., ex⟩
          · obtain ⟨h1, q, hq, eq⟩ := e3 y hy
            exact ⟨h1, q, List.mem_cons_of_mem _ hq, eq⟩
    obtain ⟨s, e1, e2, e3⟩ := key es (fun _ h => h) hpw
    rw [← e1]
    exact nodup_len e2 fun x hx => by
      obtain ⟨h1, p, hp, e⟩ := e3 x hx
      exact hM x h1 (hX p hp x h1 e)
  obtain ⟨ms, clock, h1, h2, h3, h4⟩ := ho
  refine ⟨D, ⟨ms, clock, h1, h2, ?_, h4⟩, kd⟩
  rw [eD] at h4
  have e5 : es.length = ms.size := by
    have h4' := h4
    simp only [DataW.map.injEq] at h4'
    rw [h4', length_sorted]
    simp
  omega

/-- None is still to come. -/
def Over (Lf : Itm → Prop) : Prop := ∀ x, W64 x → ¬ Lf x
/-- 'for x := range m' under way: Lf: which are still to come; q: how many have come. -/
def MRan (P : Program) (K : TypeId) (R : Value → Option (DataW H × List MemPlace)) (u : DataW H) (b r n q : Nat) (X Lf : Itm → Prop) (w : World) : Prop :=
  ∃ D left cnt, w.ranges P K R b r n D left cnt ∧ Dat u D X ∧ (∀ x, W64 x → (left (ik x) = true ↔ Lf x)) ∧ q + cnt ≤ n
theorem MRan.keep {u : DataW H} {b r n q : Nat} {X Lf : Itm → Prop} {w w' : World} (h : MRan P K R u b r n q X Lf w) (hb : w'.heap[b]? = w.heap[b]?) (hr : w'.heap[r]? = w.heap[r]?) : MRan P K R u b r n q X Lf w' := by
  obtain ⟨D, left, cnt, ⟨es, clock, since, seen, c0, g1, g2, g3, g4, g5, g6⟩, k⟩ := h
  exact ⟨D, left, cnt, ⟨es, clock, since, seen, c0, hb.trans g1, g2, g3, g4, hr.trans g5, g6⟩, k⟩
theorem MRan.lt {u : DataW H} {b r n q : Nat} {X Lf : Itm → Prop} {w : World} (h : MRan P K R u b r n q X Lf w) : b < w.heap.size ∧ r < w.heap.size ∧ r ≠ b := by
  obtain ⟨D, left, cnt, h, _⟩ := h
  exact ⟨h.owns.lt, h.lt, h.ne⟩
theorem MRan.went {u : DataW H} {b r n q : Nat} {X Lf : Itm → Prop} {w w' : World} (h : MRan P K R u b r n q X Lf w) (hb : Below w.heap.size w w') : MRan P K R u b r n q X Lf w' := h.keep (hb.block b h.lt.1) (hb.block r h.lt.2.1)
theorem MRan.left_keep {b r : Nat} {w w' : World} (hb : w'.heap[b]? = w.heap[b]?) (hr : w'.heap[r]? = w.heap[r]?) : w'.rangeLeft b r = w.rangeLeft b r := by
  unfold World.rangeLeft
  rw [hb, hr]
theorem MRan.mset {u : DataW H} {b r n q : Nat} {X Lf : Itm → Prop} {w : World} (h : MRan P K R u b r n q X Lf w) : MSet P K R u b n X w := by
  obtain ⟨D, left, cnt, h, k, _⟩ := h
  exact ⟨D, h.owns, k⟩
theorem MRan.walks {u : DataW H} {b r n q : Nat} {X Lf : Itm → Prop} {w w' : World} (h : MRan P K R u b r n q X Lf w) (hk : KeepsWalks w w') : MRan P K R u b r n q X Lf w' ∧ w'.rangeLeft b r = w.rangeLeft b r := by
  obtain ⟨D, left, cnt, h, k⟩ := h
  have h' := h.of_walks hk
  exact ⟨⟨D, left, cnt, h', k⟩, by rw [h'.left_eq, h.left_eq]⟩
theorem MRan.iter_walk {u : DataW H} {b r n q : Nat} {X Lf : Itm → Prop} {w : World} (h : MRan P K R u b r n q X Lf w) : ∃ o : Obj, w.heap[r]? = some o ∧ o.isWalk = true := by
  obtain ⟨D, left, cnt, h, k⟩ := h
  exact h.iter_walk

theorem MRan.start {u D : DataW H} {b r n : Nat} {X : Itm → Prop} {w : World} (k : Kt P K) (ho : w.ownsMap P K R b n D) (kd : Dat u D X) {w' : World} (h : w'.ranges P K R b r n D (Maps.has D) (Maps.size D)) : MRan P K R u b r n 0 X X w' := by
  refine ⟨D, _, _, h, kd, fun x hx => Dat.has kd hx, ?_⟩
  obtain ⟨ms, clock, h1, h2, h3, h4⟩ := ho
  subst h4
  simp only [Maps.size, length_sorted, List.length_map, Array.length_toList]
  omega
theorem MRan.step {u D : DataW H} {b r n q cnt cnt2 : Nat} {X Lf : Itm → Prop} {w' : World} {left : Lit → Bool} (k : Kt P K) (kd : Dat u D X) (hl : ∀ x, W64 x → (left (ik x) = true ↔ Lf x)) (hq : q + cnt ≤ n) {x : Itm} (hx : W64 x)
    (h : w'.ranges P K R b r n D (fun z => left z && !z.sameKey (ik x)) cnt2) (hc : cnt2 < cnt) : MRan P K R u b r n (q + 1) X (fun y => Lf y ∧ y ≠ x) w' := by
  refine ⟨D, _, _, h, kd, fun y hy => ?_, by omega⟩
  dsimp only
  rw [Bool.and_eq_true, hl y hy]
  refine and_congr_right fun _ => ?_
  constructor
  · intro e1 e2
    subst e2
    rw [WideAt.sameKey_self (k.law.key (k.key y hy))] at e1
    exact Bool.noConfusion e1
  · intro e1
    rw [sameKey_ne fun e2 => e1 (ik_inj hy hx e2)]
    rfl

variable {ops : Array Oper} {rest : List Oper} {o : Oper} {a : Act} {Q : Exit → Act → World → Prop}
/-- 'range m'. -/
theorem wpList_mset_range (w : World) (hg : o.guard = none) (m : Operand) (hop : o.op = Op.range T m) (k : Kt P K) (ht : P.underlying T = some (.map K E)) (u : DataW H) (b n : Nat) (X : Itm → Prop) (hm : a.eval m = .map (some b)) (h : MSet P K R u b n X w)
    (hK : ∀ w', MRan P K R u b w.heap.size n 0 X X w' → w.grownBy w' none → w'.heap.size = w.heap.size + 1 → wpList P ops Q rest (a.put o.dst (.pointer (some ⟨w.heap.size, 0, none⟩))) w') :
    wpList P ops Q (o :: rest) a w := by
  obtain ⟨D, ho, kd⟩ := h
  exact wpList_range_own w hg m T hop K E k.law ht R b n D hm ho fun w' r1 r2 r3 => hK w' (MRan.start k ho kd r1) r2 r3
/-- The step. -/
theorem wpList_mset_next (w : World) (hg : o.guard = none) (it : Operand) (hop : o.op = Op.next it false) (k : Kt P K) (b r n q : Nat) (X Lf : Itm → Prop) (hit : a.eval it = .pointer (some ⟨r, 0, none⟩)) (h : MRan (H := H) P K unitElem (.agg []) b r n q X Lf w)
    (hDone : Over Lf → wpList P ops Q rest (a.put o.dst (.tuple #[.bool false])) w)
    (hMore : ∀ (x : Itm) (w' : World), W64 x → Lf x → X x → MRan (H := H) P K unitElem (.agg []) b r n (q + 1) X (fun y => Lf y ∧ y ≠ x) w' → w'.rangeLeft b r < w.rangeLeft b r → w.grownBy w' (some r) → w'.heap.size = w.heap.size →
      (Instr.entry (.pointer (some ⟨r, 0, none⟩))).run P w' = .ok (.tuple #[iv x, .agg #[]]) w' → wpList P ops Q rest (a.put o.dst (.tuple #[.bool true, iv x, .agg #[]])) w') :
    wpList P ops Q (o :: rest) a w := by
  obtain ⟨D, left, cnt, h, kd, hl, hq⟩ := h
  refine wpList_next_ranges w hg it hop K k.law unitElem iv (fun _ : Unit => .agg #[]) (fun key kl hk => by obtain ⟨x, _, e, _⟩ := k.inv key kl hk; exact ⟨x, e⟩) (fun v y hv => ⟨(), (unitElem_inv hv).1⟩) b r n D left cnt hit h
    (fun _ hl0 => hDone fun x hx => by rw [← hl x hx, hl0]; exact Bool.noConfusion) ?_
  intro x c kl y w' cnt' hkey hlk hv hat hrg hlt hgr hsz hen
  obtain ⟨x', hx, e1, rfl⟩ := k.inv _ _ hkey
  obtain rfl : x = x' := by
    have := e1
    unfold iv at this
    simp at this
    exact Prod.ext this.1 this.2
  exact hMore x w' hx ((hl x hx).1 hlk) ((Dat.has kd hx).1 (has_true_of_atKey hat)) (MRan.step k kd hl hq hx hrg hlt) (by rw [hrg.left_eq, h.left_eq]; exact hlt) hgr hsz hen

variable {F : Fence} {m : Nat}
/-- 'range m', within a fence. -/
theorem wpListIn_mset_range (w : World) (hg : o.guard = none) (mo : Operand) (hop : o.op = Op.range T mo) (k : Kt P K) (ht : P.underlying T = some (.map K E)) (u : DataW H) (b n : Nat) (X : Itm → Prop) (hm : a.eval mo = .map (some b)) (h : MSet P K R u b n X w)
    (hK : ∀ w', MRan P K R u b w.heap.size n 0 X X w' → w.grownBy w' none → w'.heap.size = w.heap.size + 1 → wpListIn F m P ops Q rest (a.put o.dst (.pointer (some ⟨w.heap.size, 0, none⟩))) w') :
    wpListIn F m P ops Q (o :: rest) a w := by
  obtain ⟨D, ho, kd⟩ := h
  exact wpListIn_range_own w hg mo T hop K E k.law ht R b n D hm ho fun w' r1 r2 r3 => hK w' (MRan.start k ho kd r1) r2 r3
/-- The step, within a fence. -/
theorem wpListIn_mset_next (w : World) (hg : o.guard = none) (it : Operand) (hop : o.op = Op.next it false) (k : Kt P K) (b r n q : Nat) (X Lf : Itm → Prop) (hit : a.eval it = .pointer (some ⟨r, 0, none⟩)) (h : MRan (H := H) P K unitElem (.agg []) b r n q X Lf w)
    (hDone : Over Lf → wpListIn F m P ops Q rest (a.put o.dst (.tuple #[.bool false])) w)
    (hMore : ∀ (x : Itm) (w' : World), W64 x → Lf x → X x → MRan (H := H) P K unitElem (.agg []) b r n (q + 1) X (fun y => Lf y ∧ y ≠ x) w' → w'.rangeLeft b r < w.rangeLeft b r → w.grownBy w' (some r) → w'.heap.size = w.heap.size →
      (Instr.entry (.pointer (some ⟨r, 0, none⟩))).run P w' = .ok (.tuple #[iv x, .agg #[]]) w' → wpListIn F m P ops Q rest (a.put o.dst (.tuple #[.bool true, iv x, .agg #[]])) w') :
    wpListIn F m P ops Q (o :: rest) a w := by
  obtain ⟨D, left, cnt, h, kd, hl, hq⟩ := h
  refine wpListIn_next_ranges w hg it hop K k.law unitElem iv (fun _ : Unit => .agg #[]) (fun key kl hk => by obtain ⟨x, _, e, _⟩ := k.inv key kl hk; exact ⟨x, e⟩) (fun v y hv => ⟨(), (unitElem_inv hv).1⟩) b r n D left cnt hit h
    (fun _ hl0 => hDone fun x hx => by rw [← hl x hx, hl0]; exact Bool.noConfusion) ?_
  intro x c kl y w' cnt' hkey hlk hv hat hrg hlt hgr hsz hen
  obtain ⟨x', hx, e1, rfl⟩ := k.inv _ _ hkey
  obtain rfl : x = x' := by
    have := e1
    unfold iv at this
    simp at this
    exact Prod.ext this.1 this.2
  exact hMore x w' hx ((hl x hx).1 hlk) ((Dat.has kd hx).1 (has_true_of_atKey hat)) (MRan.step k kd hl hq hx hrg hlt) (by rw [hrg.left_eq, h.left_eq]; exact hlt) hgr hsz hen
end

end Go.Proofs.Ytjjmoonajijnmaa.Im
