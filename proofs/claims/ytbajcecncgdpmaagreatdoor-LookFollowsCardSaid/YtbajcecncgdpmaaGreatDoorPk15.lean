/- A part of the proof. -/
import Derived.Maps.RangeWalk
import Derived.Sort.MapsRangeIn
import Derived.Sort.KeysCollected
import Derived.RangeFuncSeq
import Derived.Test.YtbajcecncgdpmaaGreatDoorPk14
set_option linter.unusedVariables false
namespace Go.Proofs.YtbajcecncgdpmaaGreatDoor
open Go.RowKit Go.Maps
namespace Im
section
variable {H : Type} {P : Program} {K T E : TypeId} {R : Value -> Option (DataW H × List MemPlace)}
def Dat (u : DataW H) (D : DataW H) (X : Itm -> Prop) : Prop := ∀ x, W64 x -> (X x /\ ∀ z, D.atKey (ik x) z = u) \/ (¬ X x /\ ∀ z, D.atKey (ik x) z = z)
theorem Dat.has {u D : DataW H} {X : Itm -> Prop} (h : Dat u D X) {x : Itm} (hx : W64 x) : has D (ik x) = true ↔ X x := by
 rcases h x hx with ⟨q, e⟩ | ⟨q, e⟩
 ·exact ⟨fun _ => q, fun _ => has_true_of_atKey e⟩
 ·exact ⟨fun k => (by rw [has_false_of_atKey e] at k; exact Bool.noConfusion k), fun k => absurd k q⟩
theorem MSet.tight {u : DataW H} {b n : Nat} {X : Itm -> Prop} {w : World} (h : MSet P K R u b n X w) (k : Kt P K) (M : List Itm) (hM : ∀ x, W64 x -> X x -> x ∈ M) : MSet P K R u b M.length X w := by
 obtain ⟨D, ho, kd⟩ := h
 obtain ⟨es, eD, hpw, _⟩ := ho.entries k.law
 obtain ⟨es', eD', hko⟩ := ho.keysOf
 obtain rfl : es = es' := by rw [eD] at eD'; simpa using eD'
 have hk : ∀ p ∈ es, ∃ x, W64 x /\ p.1 = ik x := fun p hp => by
  obtain ⟨v, hv⟩ := hko p hp
  obtain ⟨x, hx, _, e⟩ := k.inv _ _ hv
  exact ⟨x, hx, e⟩
 have hX : ∀ p ∈ es, ∀ x, W64 x -> p.1 = ik x -> X x := fun p hp x hx e => by
  refine (Dat.has kd hx).1 ?_
  rw [eD, has_eq, List.any_eq_true]
  refine ⟨p, hp, ?_⟩
  rw [e]
  exact WideAt.sameKey_self (k.law.key (k.key x hx))
 have hlen : es.length <= M.length := by
  have key : ∀ (l : List (Lit × DataW H)), (∀ p ∈ l, p ∈ es) -> l.Pairwise (fun p q => p.1 ≠ q.1) -> ∃ s : List Itm, s.length = l.length /\ s.Nodup /\ ∀ x ∈ s, W64 x /\ ∃ p ∈ l, p.1 = ik x := by
   intro l
   induction l with
   | nil => exact fun _ _ => ⟨[], rfl, List.nodup_nil, fun x hx => by cases hx⟩
   | cons p l ih =>
    intro hl hp
    have hp' := List.pairwise_cons.1 hp
    obtain ⟨s, e1, e2, e3⟩ := ih (fun q hq => hl q (List.mem_cons_of_mem _ hq)) hp'.2
    obtain ⟨x, hx, ex⟩ := hk p (hl p (List.mem_cons_self ..))
    refine ⟨x :: s, by simp [e1], List.nodup_cons.2 ⟨fun hs => ?_, e2⟩, fun y hy => ?_⟩
    ·obtain ⟨_, q, hq, eq⟩ := e3 x hs
     exact hp'.1 q hq (ex.trans eq.symm)
    ·rcases List.mem_cons.1 hy with e | hy
     ·subst e
      exact ⟨hx, p, List.mem_cons_self .., ex⟩
     ·obtain ⟨h1, q, hq, eq⟩ := e3 y hy
      exact ⟨h1, q, List.mem_cons_of_mem _ hq, eq⟩
  obtain ⟨s, e1, e2, e3⟩ := key es (fun _ h => h) hpw
  rw [← e1]
  exact zBh e2 fun x hx => by
   obtain ⟨h1, p, hp, e⟩ := e3 x hx
   exact hM x h1 (hX p hp x h1 e)
 obtain ⟨ms, clock, h1, h2, h3, h4⟩ := ho
 refine ⟨D, ⟨ms, clock, h1, h2, ?_, h4⟩, kd⟩
 rw [eD] at h4
 have e5 : es.length = ms.size := by
  have h4' := h4
  simp only [DataW.map.injEq] at h4'
  rw [h4', length_sorted]
  simp
 omega
def Over (Lf : Itm -> Prop) : Prop := ∀ x, W64 x -> ¬ Lf x
def MRan (P : Program) (K : TypeId) (R : Value -> Option (DataW H × List MemPlace)) (u : DataW H) (b r n q : Nat) (X Lf : Itm -> Prop) (w : World) : Prop :=
 ∃ D left cnt, w.ranges P K R b r n D left cnt /\ Dat u D X /\ (∀ x, W64 x -> (left (ik x) = true ↔ Lf x)) /\ q + cnt <= n
theorem MRan.keep {u : DataW H} {b r n q : Nat} {X Lf : Itm -> Prop} {w w' : World} (h : MRan P K R u b r n q X Lf w) (hb : w'.heap[b]? = w.heap[b]?) (hr : w'.heap[r]? = w.heap[r]?) : MRan P K R u b r n q X Lf w' := by
 obtain ⟨D, left, cnt, ⟨es, clock, since, seen, c0, g1, g2, g3, g4, g5, g6⟩, k⟩ := h
 exact ⟨D, left, cnt, ⟨es, clock, since, seen, c0, hb.trans g1, g2, g3, g4, hr.trans g5, g6⟩, k⟩
theorem MRan.lt {u : DataW H} {b r n q : Nat} {X Lf : Itm -> Prop} {w : World} (h : MRan P K R u b r n q X Lf w) : b < w.heap.size /\ r < w.heap.size /\ r ≠ b := by
 obtain ⟨D, left, cnt, h, _⟩ := h
 exact ⟨h.owns.lt, h.lt, h.ne⟩
theorem MRan.went {u : DataW H} {b r n q : Nat} {X Lf : Itm -> Prop} {w w' : World} (h : MRan P K R u b r n q X Lf w) (hb : Below w.heap.size w w') : MRan P K R u b r n q X Lf w' := h.keep (hb.block b h.lt.1) (hb.block r h.lt.2.1)
theorem MRan.left_keep {b r : Nat} {w w' : World} (hb : w'.heap[b]? = w.heap[b]?) (hr : w'.heap[r]? = w.heap[r]?) : w'.rangeLeft b r = w.rangeLeft b r := by
 unfold World.rangeLeft
 rw [hb, hr]
theorem MRan.walks {u : DataW H} {b r n q : Nat} {X Lf : Itm -> Prop} {w w' : World} (h : MRan P K R u b r n q X Lf w) (hk : KeepsWalks w w') : MRan P K R u b r n q X Lf w' /\ w'.rangeLeft b r = w.rangeLeft b r := by
 obtain ⟨D, left, cnt, h, k⟩ := h
 have h' := h.of_walks hk
 exact ⟨⟨D, left, cnt, h', k⟩, by rw [h'.left_eq, h.left_eq]⟩
theorem MRan.iter_walk {u : DataW H} {b r n q : Nat} {X Lf : Itm -> Prop} {w : World} (h : MRan P K R u b r n q X Lf w) : ∃ o : Obj, w.heap[r]? = some o /\ o.isWalk = true := by
 obtain ⟨D, left, cnt, h, k⟩ := h
 exact h.iter_walk
theorem MRan.start {u D : DataW H} {b r n : Nat} {X : Itm -> Prop} {w : World} (k : Kt P K) (ho : w.ownsMap P K R b n D) (kd : Dat u D X) {w' : World} (h : w'.ranges P K R b r n D (Maps.has D) (Maps.size D)) : MRan P K R u b r n 0 X X w' := by
 refine ⟨D, _, _, h, kd, fun x hx => Dat.has kd hx, ?_⟩
 obtain ⟨ms, clock, h1, h2, h3, h4⟩ := ho
 subst h4
 simp only [Maps.size, length_sorted, List.length_map, Array.length_toList]
 omega
theorem MRan.step {u D : DataW H} {b r n q cnt cnt2 : Nat} {X Lf : Itm -> Prop} {w' : World} {left : Lit -> Bool} (k : Kt P K) (kd : Dat u D X) (hl : ∀ x, W64 x -> (left (ik x) = true ↔ Lf x)) (hq : q + cnt <= n) {x : Itm} (hx : W64 x)
  (h : w'.ranges P K R b r n D (fun z => left z && !z.sameKey (ik x)) cnt2) (hc : cnt2 < cnt) : MRan P K R u b r n (q + 1) X (fun y => Lf y /\ y ≠ x) w' := by
 refine ⟨D, _, _, h, kd, fun y hy => ?_, by omega⟩
 dsimp only
 rw [Bool.and_eq_true, hl y hy]
 refine and_congr_right fun _ => ?_
 constructor
 ·intro e1 e2
  subst e2
  rw [WideAt.sameKey_self (k.law.key (k.key y hy))] at e1
  exact Bool.noConfusion e1
 ·intro e1
  rw [sameKey_ne fun e2 => e1 (zKv hy hx e2)]
  rfl
variable {ops : Array Oper} {rest : List Oper} {o : Oper} {a : Act} {Q : Exit -> Act -> World -> Prop}
theorem zDO (w : World) (hg : o.guard = none) (m : Operand) (hop : o.op = Op.range T m) (k : Kt P K) (ht : P.underlying T = some (.map K E)) (u : DataW H) (b n : Nat) (X : Itm -> Prop) (hm : a.eval m = .map (some b)) (h : MSet P K R u b n X w)
  (hK : ∀ w', MRan P K R u b w.heap.size n 0 X X w' -> w.grownBy w' none -> w'.heap.size = w.heap.size + 1 -> wpList P ops Q rest (a.put o.dst (.pointer (some ⟨w.heap.size, 0, none⟩))) w') :
  wpList P ops Q (o :: rest) a w := by
 obtain ⟨D, ho, kd⟩ := h
 exact wpList_range_own w hg m T hop K E k.law ht R b n D hm ho fun w' r1 r2 r3 => hK w' (MRan.start k ho kd r1) r2 r3
theorem zDX (w : World) (hg : o.guard = none) (it : Operand) (hop : o.op = Op.next it false) (k : Kt P K) (b r n q : Nat) (X Lf : Itm -> Prop) (hit : a.eval it = .pointer (some ⟨r, 0, none⟩)) (h : MRan (H := H) P K unitElem (.agg []) b r n q X Lf w)
  (hDone : Over Lf -> wpList P ops Q rest (a.put o.dst (.tuple #[.bool false])) w)
  (hMore : ∀ (x : Itm) (w' : World), W64 x -> Lf x -> X x -> MRan (H := H) P K unitElem (.agg []) b r n (q + 1) X (fun y => Lf y /\ y ≠ x) w' -> w'.rangeLeft b r < w.rangeLeft b r -> w.grownBy w' (some r) -> w'.heap.size = w.heap.size ->
   (Instr.entry (.pointer (some ⟨r, 0, none⟩))).run P w' = .ok (.tuple #[iv x, .agg #[]]) w' -> wpList P ops Q rest (a.put o.dst (.tuple #[.bool true, iv x, .agg #[]])) w') :
  wpList P ops Q (o :: rest) a w := by
 obtain ⟨D, left, cnt, h, kd, hl, hq⟩ := h
 refine wpList_next_ranges w hg it hop K k.law unitElem iv (fun _ : Unit => .agg #[]) (fun key kl hk => by obtain ⟨x, _, e, _⟩ := k.inv key kl hk; exact ⟨x, e⟩) (fun v y hv => ⟨(), (unitElem_inv hv).1⟩) b r n D left cnt hit h
  (fun _ hl0 => hDone fun x hx => by rw [← hl x hx, hl0]; exact Bool.noConfusion) ?_
 intro x c kl y w' cnt' hkey hlk hv hat hrg hlt hgr hsz hen
 obtain ⟨x', hx, e1, rfl⟩ := k.inv _ _ hkey
 obtain rfl : x = x' := by
  have := e1
  unfold iv at this
  simp at this
  exact Prod.ext this.1 this.2
 exact hMore x w' hx ((hl x hx).1 hlk) ((Dat.has kd hx).1 (has_true_of_atKey hat)) (MRan.step k kd hl hq hx hrg hlt) (by rw [hrg.left_eq, h.left_eq]; exact hlt) hgr hsz hen
variable {F : Fence} {m : Nat}
theorem zCm (w : World) (hg : o.guard = none) (mo : Operand) (hop : o.op = Op.range T mo) (k : Kt P K) (ht : P.underlying T = some (.map K E)) (u : DataW H) (b n : Nat) (X : Itm -> Prop) (hm : a.eval mo = .map (some b)) (h : MSet P K R u b n X w)
  (hK : ∀ w', MRan P K R u b w.heap.size n 0 X X w' -> w.grownBy w' none -> w'.heap.size = w.heap.size + 1 -> wpListIn F m P ops Q rest (a.put o.dst (.pointer (some ⟨w.heap.size, 0, none⟩))) w') :
  wpListIn F m P ops Q (o :: rest) a w := by
 obtain ⟨D, ho, kd⟩ := h
 exact wpListIn_range_own w hg mo T hop K E k.law ht R b n D hm ho fun w' r1 r2 r3 => hK w' (MRan.start k ho kd r1) r2 r3
theorem zDB (w : World) (hg : o.guard = none) (it : Operand) (hop : o.op = Op.next it false) (k : Kt P K) (b r n q : Nat) (X Lf : Itm -> Prop) (hit : a.eval it = .pointer (some ⟨r, 0, none⟩)) (h : MRan (H := H) P K unitElem (.agg []) b r n q X Lf w)
  (hDone : Over Lf -> wpListIn F m P ops Q rest (a.put o.dst (.tuple #[.bool false])) w)
  (hMore : ∀ (x : Itm) (w' : World), W64 x -> Lf x -> X x -> MRan (H := H) P K unitElem (.agg []) b r n (q + 1) X (fun y => Lf y /\ y ≠ x) w' -> w'.rangeLeft b r < w.rangeLeft b r -> w.grownBy w' (some r) -> w'.heap.size = w.heap.size ->
   (Instr.entry (.pointer (some ⟨r, 0, none⟩))).run P w' = .ok (.tuple #[iv x, .agg #[]]) w' -> wpListIn F m P ops Q rest (a.put o.dst (.tuple #[.bool true, iv x, .agg #[]])) w') :
  wpListIn F m P ops Q (o :: rest) a w := by
 obtain ⟨D, left, cnt, h, kd, hl, hq⟩ := h
 refine wpListIn_next_ranges w hg it hop K k.law unitElem iv (fun _ : Unit => .agg #[]) (fun key kl hk => by obtain ⟨x, _, e, _⟩ := k.inv key kl hk; exact ⟨x, e⟩) (fun v y hv => ⟨(), (unitElem_inv hv).1⟩) b r n D left cnt hit h
  (fun _ hl0 => hDone fun x hx => by rw [← hl x hx, hl0]; exact Bool.noConfusion) ?_
 intro x c kl y w' cnt' hkey hlk hv hat hrg hlt hgr hsz hen
 obtain ⟨x', hx, e1, rfl⟩ := k.inv _ _ hkey
 obtain rfl : x = x' := by
  have := e1
  unfold iv at this
  simp at this
  exact Prod.ext this.1 this.2
 exact hMore x w' hx ((hl x hx).1 hlk) ((Dat.has kd hx).1 (has_true_of_atKey hat)) (MRan.step k kd hl hq hx hrg hlt) (by rw [hrg.left_eq, h.left_eq]; exact hlt) hgr hsz hen
end
end Im
namespace Lk
open Im
def P64 (p : Pl) : Prop := (Lit.int .i64 (p.1 : Int)).wf = true /\ W64 p.2
def pv (p : Pl) : Value := .agg #[.int .i64 (p.1 : Int), .int .i64 p.2.1, .int .i64 p.2.2]
def pk (p : Pl) : Lit := .string (keyBytes [.int .i64 (p.1 : Int), .int .i64 p.2.1, .int .i64 p.2.2])
theorem zRo {x y : Pl} (hx : P64 x) (hy : P64 y) (h : pk x = pk y) : x = y := by
 unfold pk at h
 simp only [Lit.string.injEq] at h
 have := keyBytes_inj (l := [.int .i64 (x.1 : Int), .int .i64 x.2.1, .int .i64 x.2.2]) (l' := [.int .i64 (y.1 : Int), .int .i64 y.2.1, .int .i64 y.2.2]) (by simp [Alike, Lit.sameKind])
  (fun a ha => by
   simp only [List.mem_cons, List.not_mem_nil, or_false] at ha
   rcases ha with rfl | rfl | rfl
   ·exact hx.1
   ·exact hx.2.1
   ·exact hx.2.2)
  (fun a ha => by
   simp only [List.mem_cons, List.not_mem_nil, or_false] at ha
   rcases ha with rfl | rfl | rfl
   ·exact hy.1
   ·exact hy.2.1
   ·exact hy.2.2) h
 simp at this
 obtain ⟨h1, h2, h3⟩ := this
 obtain ⟨a, b, c⟩ := x
 obtain ⟨a', b', c'⟩ := y
 dsimp only at h1 h2 h3
 subst h2 h3
 have : a = a' := by omega
 rw [this]
structure Kp (P : Program) (K : TypeId) : Prop where
 law : Keyed P K
 key : ∀ x, P64 x -> keyOf P K (pv x) = some (pk x)
theorem zSc {P : Program} {K : TypeId} (fa fb ga gb : Field) (law : Keyed P K) (hu : P.underlying K = some (.struct #[fa, fb])) (ha : P.underlying fa.type = some (.int .i64)) (hb : P.underlying fb.type = some (.struct #[ga, gb]))
  (hga : P.underlying ga.type = some (.int .i64)) (hgb : P.underlying gb.type = some (.int .i64)) (hkt : P.keyType K = true) (hcells : P.cellsOf K = 3) (cb2 : P.cellsOf fb.type = 2)
  (ca : P.cellsOf fa.type = 1) (cga : P.cellsOf ga.type = 1) (cgb : P.cellsOf gb.type = 1) (oa : fa.offset = 0) (ob : fb.offset = 1) (oga : ga.offset = 0) (ogb : gb.offset = 1)
  (na : (fa.name != "_") = true) (nb : (fb.name != "_") = true) (nga : (ga.name != "_") = true) (ngb : (gb.name != "_") = true) (n : Nat) (hn : P.types.size = n + 2) : Kp P K := by
 refine ⟨law, fun x hx => ?_⟩
 unfold keyOf pv
 rw [hu]
 simp only [hkt, Bool.true_and]
 rw [if_pos (by simp [Value.formed, hu, hcells])]
 rw [hn]
 simp [Program.keyLits, hu, hcells, ca, cb2, cga, cgb, oa, ob, oga, ogb, ha, hb, hga, hgb, na, nb, hx.1, hx.2.1, hx.2.2, Value.cells, pk]
 rw [if_pos (by
  intro i hi
  rcases (by omega : i = 0 \/ i = 1) with rfl | rfl
  ·simpa using nga
  ·simpa using ngb)]
 rfl
section
variable {P : Program} {K T E : TypeId}
def PMap (P : Program) (K E : TypeId) (b n : Nat) (X : Pl -> Option Int) (w : World) : Prop :=
 ∃ D : DataW Unit, w.ownsMap P K (plainElem P E) b n D /\ ∀ x, P64 x -> has D (pk x) = (X x).isSome /\ D.atKey (pk x) (.lit (.int .i64 0)) = .lit (.int .i64 ((X x).getD 0))
theorem PMap.made (w : World) (P : Program) (K E : TypeId) : PMap P K E w.heap.size 0 (fun _ => none) (w.alloc (.map #[] 0)) :=
 ⟨_, World.ownsMap_made w P K _, fun x _ => ⟨rfl, rfl⟩⟩
theorem PMap.eq {b n : Nat} {X Y : Pl -> Option Int} {w : World} (h : PMap P K E b n X w) (e : ∀ x, X x = Y x) : PMap P K E b n Y w := by
 obtain ⟨D, h, k⟩ := h
 exact ⟨D, h, fun x hx => by rw [← e x]; exact k x hx⟩
theorem PMap.keep {b n : Nat} {X : Pl -> Option Int} {w w' : World} (h : PMap P K E b n X w) (hb : w'.heap[b]? = w.heap[b]?) : PMap P K E b n X w' := by
 obtain ⟨D, h, k⟩ := h
 exact ⟨D, Sep.ownsMap_at h hb, k⟩
theorem PMap.store {b n : Nat} {X : Pl -> Option Int} {w : World} (h : PMap P K E b n X w) (k : Kp P K) (ht : P.underlying T = some (.map K E)) (he : P.underlying E = some (.int .i64)) (hn : n < maxLen) {x : Pl} (hx : P64 x) {t : Int} (hw : (Lit.int .i64 t).wf = true) :
  ∃ w', (Instr.mapUpdate T (.map (some b)) (pv x) (.int .i64 t)).run P w = .ok () w' /\ PMap P K E b (n + 1) (fun y => if y = x then some t else X y) w' /\ w.mapTurned w' b := by
 obtain ⟨D, ho, kd⟩ := h
 obtain ⟨w', hrun, h1, h2⟩ := ho.store k.law ht hn (k.key x hx) (plainElem_int he hw)
 refine ⟨w', hrun, ⟨_, h1, fun y hy => ?_⟩, h2⟩
 by_cases e : y = x
 ·subst e
  show _ = (if y = y then some t else X y).isSome /\ _ = DataW.lit (Lit.int .i64 ((if y = y then some t else X y).getD 0))
  rw [if_pos rfl, has_put_same ho.isMap (k.law.key (k.key y hy)), atKey_put_same ho.isMap (k.law.key (k.key y hy))]
  exact ⟨rfl, rfl⟩
 ·have hne : pk y ≠ pk x := fun q => e (zRo hy hx q)
  show _ = (if y = x then some t else X y).isSome /\ _ = DataW.lit (Lit.int .i64 ((if y = x then some t else X y).getD 0))
  rw [if_neg e, has_put_other hne, atKey_put_other hne]
  exact kd y hy
theorem PMap.look {b n : Nat} {X : Pl -> Option Int} {w : World} (h : PMap P K E b n X w) (k : Kp P K) (ht : P.underlying T = some (.map K E)) (he : P.underlying E = some (.int .i64)) (hz : (zeroValue E).run P w = .ok (.int .i64 0) w) {x : Pl} (hx : P64 x) :
  (Instr.lookup T (.map (some b)) (pv x) true).run P w = .ok (.tuple #[.int .i64 ((X x).getD 0), .bool (X x).isSome]) w := by
 obtain ⟨D, ho, kd⟩ := h
 have hzd : plainElem (H := Unit) P E (.int .i64 0) = some (.lit (.int .i64 0), []) := plainElem_int he (by decide)
 obtain ⟨v, ps, hrun, hR⟩ := ho.look_ok k.law ht hz hzd (k.key x hx)
 rw [(kd x hx).2] at hR
 rw [(kd x hx).1] at hrun
 have hv : v = .int .i64 ((X x).getD 0) := by
  unfold plainElem at hR
  rw [he] at hR
  cases v <;> simp at hR
  simp_all
 rw [hrun, hv]
end
def numX (L : List Pl) (p : Pl) : Option Int := if p ∈ L then some (L.idxOf p : Int) else none
theorem zNz {L : List Pl} {p : Pl} (h : p ∈ L) : numX L p = some (L.idxOf p : Int) /\ L[L.idxOf p]? = some p := by
 refine ⟨if_pos h, ?_⟩
 have := List.idxOf_lt_length_of_mem h
 rw [List.getElem?_eq_getElem this]
 exact congrArg some (List.getElem_idxOf _)
theorem zLh {L : List Pl} {p : Pl} (h : p ∉ L) : numX L p = none := if_neg h
theorem zLi {L : List Pl} {p : Pl} (h : p ∉ L) (y : Pl) : numX (L ++ [p]) y = if y = p then some (L.length : Int) else numX L y := by
 unfold numX
 by_cases e : y = p
 ·subst e
  rw [if_pos (List.mem_append_right _ (List.mem_singleton.2 rfl)), if_pos rfl, List.idxOf_append, if_neg h]
  simp
 ·rw [if_neg e]
  by_cases hy : y ∈ L
  ·rw [if_pos (List.mem_append_left _ hy), if_pos hy, List.idxOf_append, if_pos hy]
  ·rw [if_neg hy, if_neg]
   rw [List.mem_append, List.mem_singleton]
   exact fun q => q.elim hy e
end Lk
namespace Au
open Im
open It (zJ0 isIn num zGd zGe)
structure Ka (P : Program) (K : TypeId) : Prop where
 law : Keyed P K
 key : ∀ x, W64 x -> keyOf P K (iv x) = some (ik x)
theorem zSb {P : Program} {K E : TypeId} (law : Keyed P K) (hu : P.underlying K = some (.array 2 E)) (he : P.underlying E = some (.int .i64)) (hkt : P.keyType K = true) (hcells : P.cellsOf K = 2) (ce : P.cellsOf E = 1) (n : Nat) (hn : P.types.size = n + 1) : Ka P K := by
 refine ⟨law, fun x hx => ?_⟩
 unfold keyOf iv
 rw [hu]
 simp only [hkt, Bool.true_and]
 rw [if_pos (by simp [Value.formed, hu, hcells])]
 rw [hn]
 have hr : List.range 2 = [0, 1] := rfl
 simp [Program.keyLits, hu, hcells, ce, he, hx.1, hx.2, Value.cells, ik, hr]
section
variable {P : Program} {K T E : TypeId}
def TMap (P : Program) (K E : TypeId) (b n : Nat) (X : Itm -> Option Int) (w : World) : Prop :=
 ∃ D : DataW Unit, w.ownsMap P K (plainElem P E) b n D /\ ∀ x, W64 x -> has D (ik x) = (X x).isSome /\ D.atKey (ik x) (.lit (.int .i64 0)) = .lit (.int .i64 ((X x).getD 0))
theorem TMap.made (w : World) (P : Program) (K E : TypeId) : TMap P K E w.heap.size 0 (fun _ => none) (w.alloc (.map #[] 0)) :=
 ⟨_, World.ownsMap_made w P K _, fun x _ => ⟨rfl, rfl⟩⟩
theorem TMap.mono {b n n' : Nat} {X : Itm -> Option Int} {w : World} (h : TMap P K E b n X w) (hn : n <= n') : TMap P K E b n' X w := by
 obtain ⟨D, h, k⟩ := h
 exact ⟨D, h.mono hn, k⟩
theorem TMap.eq {b n : Nat} {X Y : Itm -> Option Int} {w : World} (h : TMap P K E b n X w) (e : ∀ x, X x = Y x) : TMap P K E b n Y w := by
 obtain ⟨D, h, k⟩ := h
 exact ⟨D, h, fun x hx => by rw [← e x]; exact k x hx⟩
theorem TMap.keep {b n : Nat} {X : Itm -> Option Int} {w w' : World} (h : TMap P K E b n X w) (hb : w'.heap[b]? = w.heap[b]?) : TMap P K E b n X w' := by
 obtain ⟨D, h, k⟩ := h
 exact ⟨D, Sep.ownsMap_at h hb, k⟩
theorem TMap.store {b n : Nat} {X : Itm -> Option Int} {w : World} (h : TMap P K E b n X w) (k : Ka P K) (ht : P.underlying T = some (.map K E)) (he : P.underlying E = some (.int .i64)) (hn : n < maxLen) {x : Itm} (hx : W64 x) {t : Int} (hw : (Lit.int .i64 t).wf = true) :
  ∃ w', (Instr.mapUpdate T (.map (some b)) (iv x) (.int .i64 t)).run P w = .ok () w' /\ TMap P K E b (n + 1) (fun y => if y = x then some t else X y) w' /\ w.mapTurned w' b := by
 obtain ⟨D, ho, kd⟩ := h
 obtain ⟨w', hrun, h1, h2⟩ := ho.store k.law ht hn (k.key x hx) (plainElem_int he hw)
 refine ⟨w', hrun, ⟨_, h1, fun y hy => ?_⟩, h2⟩
 by_cases e : y = x
 ·subst e
  show _ = (if y = y then some t else X y).isSome /\ _ = DataW.lit (Lit.int .i64 ((if y = y then some t else X y).getD 0))
  rw [if_pos rfl, has_put_same ho.isMap (k.law.key (k.key y hy)), atKey_put_same ho.isMap (k.law.key (k.key y hy))]
  exact ⟨rfl, rfl⟩
 ·have hne : ik y ≠ ik x := fun q => e (zKv hy hx q)
  show _ = (if y = x then some t else X y).isSome /\ _ = DataW.lit (Lit.int .i64 ((if y = x then some t else X y).getD 0))
  rw [if_neg e, has_put_other hne, atKey_put_other hne]
  exact kd y hy
theorem zCZ {ops : Array Oper} {rest : List Oper} {o : Oper} {a : Act} {Q : Exit -> Act -> World -> Prop} (w : World) (hg : o.guard = none) (m y : Operand) (hop : o.op = Op.lookup T m y true) (k : Ka P K) (ht : P.underlying T = some (.map K E)) (he : P.underlying E = some (.int .i64))
  (hz : (zeroValue E).run P w = .ok (.int .i64 0) w) (b n : Nat) (X : Itm -> Option Int) (hm : a.eval m = .map (some b)) (h : TMap P K E b n X w) (x : Itm) (hy : a.eval y = iv x) (hx : W64 x)
  (hK : wpList P ops Q rest (a.put o.dst (.tuple #[.int .i64 ((X x).getD 0), .bool (X x).isSome])) w) : wpList P ops Q (o :: rest) a w := by
 obtain ⟨D, ho, kd⟩ := h
 refine wpList_lookup_own_ok_int w hg m y T hop K E .i64 k.law ht he hz b n D hm ho _ _ hy (k.key x hx) fun d hat _ => ?_
 rw [(kd x hx).2] at hat
 simp only [DataW.lit.injEq, Lit.int.injEq, true_and] at hat
 subst hat
 rw [(kd x hx).1]
 exact hK
def SMap (P : Program) (K E : TypeId) (b n : Nat) (L : List ByteArray) (w : World) : Prop := ∃ D : DataW Unit, w.ownsMap P K (plainElem P E) b n D /\ zJ0 L D
theorem SMap.made (w : World) (P : Program) (K E : TypeId) : SMap P K E w.heap.size 0 [] (w.alloc (.map #[] 0)) := ⟨_, World.ownsMap_made w P K _, zGd⟩
theorem SMap.lt {b n : Nat} {L : List ByteArray} {w : World} (h : SMap P K E b n L w) : b < w.heap.size := by
 obtain ⟨D, h, _⟩ := h
 exact h.lt
theorem SMap.keep {b n : Nat} {L : List ByteArray} {w w' : World} (h : SMap P K E b n L w) (hb : w'.heap[b]? = w.heap[b]?) : SMap P K E b n L w' := by
 obtain ⟨D, h, k⟩ := h
 exact ⟨D, Sep.ownsMap_at h hb, k⟩
theorem zCY {ops : Array Oper} {rest : List Oper} {o : Oper} {a : Act} {Q : Exit -> Act -> World -> Prop} (w : World) (hg : o.guard = none) (m y : Operand) (hop : o.op = Op.lookup T m y true) (law : Keyed P K) (hk : P.underlying K = some .string) (ht : P.underlying T = some (.map K E)) (he : P.underlying E = some (.int .i64))
  (hz : (zeroValue E).run P w = .ok (.int .i64 0) w) (b n : Nat) (L : List ByteArray) (hm : a.eval m = .map (some b)) (h : SMap P K E b n L w) (s : ByteArray) (hy : a.eval y = .string s) (hs : s.size <= maxLen)
  (hK : wpList P ops Q rest (a.put o.dst (.tuple #[.int .i64 (num L s), .bool (isIn L s)])) w) : wpList P ops Q (o :: rest) a w := by
 obtain ⟨D, ho, kd⟩ := h
 refine wpList_lookup_own_ok_int w hg m y T hop K E .i64 law ht he hz b n D hm ho _ _ hy (WideMaps.keyOf_string_mk hk hs) fun d hat _ => ?_
 rw [(kd s).2] at hat
 simp only [DataW.lit.injEq, Lit.int.injEq, true_and] at hat
 subst hat
 rw [(kd s).1]
 exact hK
theorem zEQ {ops : Array Oper} {rest : List Oper} {o : Oper} {a : Act} {Q : Exit -> Act -> World -> Prop} (w : World) (hg : o.guard = none) (m y v : Operand) (hop : o.op = Op.mapUpdate T m y v) (law : Keyed P K) (hk : P.underlying K = some .string) (ht : P.underlying T = some (.map K E)) (he : P.underlying E = some (.int .i64))
  (b n : Nat) (L : List ByteArray) (hm : a.eval m = .map (some b)) (h : SMap P K E b n L w) (hn : n < maxLen) (s : ByteArray) (hy : a.eval y = .string s) (hs : s.size <= maxLen) (hnew : isIn L s = false) (z : Int) (hv : a.eval v = .int .i64 z) (hzl : z = (L.length : Int)) (hl : L.length < 9223372036854775808)
  (hK : ∀ w', SMap P K E b (n + 1) (L ++ [s]) w' -> w.grownBy w' (some b) -> wpList P ops Q rest (a.put o.dst undef) w') : wpList P ops Q (o :: rest) a w := by
 obtain ⟨D, ho, kd⟩ := h
 subst hzl
 refine wpList_mapUpdate_own w hg m y v T hop K E law ht (plainElem P E) b n D hm ho hn _ _ _ hy hv (WideMaps.keyOf_string_mk hk hs) _ [] (plainElem_int he (by simp only [Lit.wf, IntKind.min, IntKind.max, IntKind.signed, IntKind.bits, Bool.and_eq_true, decide_eq_true_eq, if_true]; omega)) fun w' h1 h2 => hK w' ⟨_, h1, zGe ho.isMap (law.key (WideMaps.keyOf_string_mk hk hs)) kd hnew⟩ h2
end
