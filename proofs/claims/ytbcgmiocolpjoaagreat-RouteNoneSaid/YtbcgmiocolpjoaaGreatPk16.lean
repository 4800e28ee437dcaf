/- A part of the proof. -/
import Derived.ChangeKeys
import Derived.Test.YtbcgmiocolpjoaaGreatPk15
import Derived.Maps.RangeWalk
import Derived.Sort.MapsRangeIn
import Derived.Sort.KeysCollected
import Derived.RangeFuncSeq
set_option linter.unusedVariables false
namespace Go.Proofs.YtbcgmiocolpjoaaGreat
open Go.RowKit Go.Maps
namespace Im
def W64 (x : Itm) : Prop := (Lit.int .i64 x.1).wf = true /\ (Lit.int .i64 x.2).wf = true
def iv (x : Itm) : Value := .agg #[.int .i64 x.1, .int .i64 x.2]
def ik (x : Itm) : Lit := .string (keyBytes [.int .i64 x.1, .int .i64 x.2])
theorem zJD {x y : Itm} (hx : W64 x) (hy : W64 y) (h : ik x = ik y) : x = y := by
 unfold ik at h
 simp only [Lit.string.injEq] at h
 have := keyBytes_inj (l := [.int .i64 x.1, .int .i64 x.2]) (l' := [.int .i64 y.1, .int .i64 y.2]) (by simp [Alike, Lit.sameKind])
  (fun a ha => by
   simp only [List.mem_cons, List.not_mem_nil, or_false] at ha
   rcases ha with rfl | rfl
   ·exact hx.1
   ·exact hx.2)
  (fun a ha => by
   simp only [List.mem_cons, List.not_mem_nil, or_false] at ha
   rcases ha with rfl | rfl
   ·exact hy.1
   ·exact hy.2) h
 simp at this
 exact Prod.ext this.1 this.2
structure Kt (P : Program) (K : TypeId) : Prop where
 law : Keyed P K
 key : ∀ x, W64 x -> keyOf P K (iv x) = some (ik x)
 inv : ∀ key kl, keyOf P K key = some kl -> ∃ x, W64 x /\ key = iv x /\ kl = ik x
theorem zG0 {P : Program} {d : Nat} {t : TypeId} {v : Value} {l : List Lit} (hu : P.underlying t = some (.int .i64)) (h : P.keyLits (d + 1) t [v] = some l) : ∃ n, v = .int .i64 n /\ (Lit.int .i64 n).wf = true /\ l = [.int .i64 n] := by
 unfold Program.keyLits at h
 rw [hu] at h
 cases v <;> simp at h
 obtain ⟨⟨rfl, hw⟩, rfl⟩ := h
 exact ⟨_, rfl, hw, rfl⟩
theorem zO1 {P : Program} {K : TypeId} (fa fb : Field) (law : Keyed P K) (hu : P.underlying K = some (.struct #[fa, fb])) (ha : P.underlying fa.type = some (.int .i64)) (hb : P.underlying fb.type = some (.int .i64)) (hkt : P.keyType K = true) (hcells : P.cellsOf K = 2)
  (ca : P.cellsOf fa.type = 1) (cb : P.cellsOf fb.type = 1) (oa : fa.offset = 0) (ob : fb.offset = 1) (na : (fa.name != "_") = true) (nb : (fb.name != "_") = true) (n : Nat) (hn : P.types.size = n + 1) : Kt P K := by
 refine ⟨law, fun x hx => ?_, fun key kl h => ?_⟩
 ·unfold keyOf iv
  rw [hu]
  simp only [hkt, Bool.true_and]
  rw [if_pos (by simp [Value.formed, hu, hcells])]
  rw [hn]
  simp [Program.keyLits, hu, hcells, ca, cb, oa, ob, ha, hb, na, nb, hx.1, hx.2, Value.cells, ik]
 ·unfold keyOf at h
  rw [hu] at h
  simp only [hkt, Bool.true_and] at h
  split at h
  ·rename_i hf
   rw [Option.map_eq_some_iff] at h
   obtain ⟨ls, hls, rfl⟩ := h
   cases key <;> simp [Value.formed, hu, hcells] at hf
   rename_i cs
   obtain ⟨cs⟩ := cs
   rcases cs with _ | ⟨a, _ | ⟨b, _ | ⟨c, cs⟩⟩⟩ <;> simp at hf
   rw [hn] at hls
   unfold Program.keyLits at hls
   rw [hu] at hls
   simp [hcells, ca, cb, oa, ob, na, nb, Value.cells] at hls
   cases h1 : P.keyLits (n + 1) fa.type [a] with
   | none => rw [h1] at hls; simp at hls
   | some l1 =>
    cases h2 : P.keyLits (n + 1) fb.type [b] with
    | none => rw [h1, h2] at hls; simp at hls
    | some l2 =>
     rw [h1, h2] at hls
     obtain ⟨x, rfl, wx, rfl⟩ := zG0 ha h1
     obtain ⟨y, rfl, wy, rfl⟩ := zG0 hb h2
     simp at hls
     subst hls
     exact ⟨(x, y), ⟨wx, wy⟩, rfl, rfl⟩
  ·cases h
section
variable {H : Type} {P : Program} {K T E : TypeId} {R : Value -> Option (DataW H × List MemPlace)}
def MSet (P : Program) (K : TypeId) (R : Value -> Option (DataW H × List MemPlace)) (u : DataW H) (b n : Nat) (X : Itm -> Prop) (w : World) : Prop :=
 ∃ D : DataW H, w.ownsMap P K R b n D /\ ∀ x, W64 x -> (X x /\ ∀ z, D.atKey (ik x) z = u) \/ (¬ X x /\ ∀ z, D.atKey (ik x) z = z)
theorem MSet.made (w : World) (P : Program) (K : TypeId) (R : Value -> Option (DataW H × List MemPlace)) (u : DataW H) : MSet P K R u w.heap.size 0 (fun _ => False) (w.alloc (.map #[] 0)) :=
 ⟨_, World.ownsMap_made w P K R, fun x _ => .inr ⟨id, fun z => rfl⟩⟩
theorem MSet.lt {u : DataW H} {b n : Nat} {X : Itm -> Prop} {w : World} (h : MSet P K R u b n X w) : b < w.heap.size := by
 obtain ⟨D, h, _⟩ := h
 exact h.lt
theorem MSet.mono {u : DataW H} {b n n' : Nat} {X : Itm -> Prop} {w : World} (h : MSet P K R u b n X w) (hn : n <= n') : MSet P K R u b n' X w := by
 obtain ⟨D, h, k⟩ := h
 exact ⟨D, h.mono hn, k⟩
theorem MSet.iff {u : DataW H} {b n : Nat} {X Y : Itm -> Prop} {w : World} (h : MSet P K R u b n X w) (e : ∀ x, W64 x -> (X x ↔ Y x)) : MSet P K R u b n Y w := by
 obtain ⟨D, h, k⟩ := h
 exact ⟨D, h, fun x hx => (k x hx).imp (fun q => ⟨(e x hx).1 q.1, q.2⟩) (fun q => ⟨fun y => q.1 ((e x hx).2 y), q.2⟩)⟩
theorem MSet.keep {u : DataW H} {b n : Nat} {X : Itm -> Prop} {w w' : World} (h : MSet P K R u b n X w) (hb : w'.heap[b]? = w.heap[b]?) : MSet P K R u b n X w' := by
 obtain ⟨D, ⟨es, clock, h1, h2⟩, k⟩ := h
 exact ⟨D, ⟨es, clock, hb.trans h1, h2⟩, k⟩
theorem MSet.went {u : DataW H} {b n : Nat} {X : Itm -> Prop} {w w' : World} (h : MSet P K R u b n X w) (hb : Below w.heap.size w w') : MSet P K R u b n X w' := h.keep (hb.block b h.lt)
theorem MSet.look_ok {u : DataW H} {b n : Nat} {X : Itm -> Prop} {w : World} (h : MSet P K R u b n X w) (k : Kt P K) (ht : P.underlying T = some (.map K E)) {z : Value} (hz : (zeroValue E).run P w = .ok z w) {zd : DataW H} {zp : List MemPlace} (hzd : R z = some (zd, zp)) {x : Itm} (hx : W64 x) :
  ∃ (c : Bool) (v : Value) (ps : List MemPlace), (c = true ↔ X x) /\ (Instr.lookup T (.map (some b)) (iv x) true).run P w = .ok (.tuple #[v, .bool c]) w /\ R v = some (if c then u else zd, ps) := by
 obtain ⟨D, ho, kd⟩ := h
 obtain ⟨v, ps, hrun, hR⟩ := ho.look_ok k.law ht hz hzd (k.key x hx)
 rcases kd x hx with ⟨q, hat⟩ | ⟨q, hat⟩
 ·rw [Maps.has_true_of_atKey hat] at hrun
  exact ⟨true, v, ps, ⟨fun _ => q, fun _ => rfl⟩, hrun, by rw [hR, hat]; rfl⟩
 ·rw [Maps.has_false_of_atKey hat] at hrun
  exact ⟨false, v, ps, ⟨fun e => Bool.noConfusion e, fun e => absurd e q⟩, hrun, by rw [hR, hat]; rfl⟩
theorem MSet.store {u : DataW H} {b n : Nat} {X : Itm -> Prop} {w : World} (h : MSet P K R u b n X w) (k : Kt P K) (ht : P.underlying T = some (.map K E)) (hn : n < maxLen) {v : Value} {ps : List MemPlace} (hv : R v = some (u, ps)) {x : Itm} (hx : W64 x) :
  ∃ w', (Instr.mapUpdate T (.map (some b)) (iv x) v).run P w = .ok () w' /\ MSet P K R u b (n + 1) (fun y => X y \/ y = x) w' /\ w.mapTurned w' b := by
 obtain ⟨D, ho, kd⟩ := h
 obtain ⟨w', hrun, h1, h2⟩ := ho.store k.law ht hn (k.key x hx) hv
 refine ⟨w', hrun, ⟨_, h1, fun y hy => ?_⟩, h2⟩
 by_cases e : y = x
 ·subst e
  exact .inl ⟨.inr rfl, fun z => Maps.atKey_put_same ho.isMap (k.law.key (k.key y hy)) u z⟩
 ·have hne : ik y ≠ ik x := fun q => e (zJD hy hx q)
  rcases kd y hy with ⟨q, hat⟩ | ⟨q, hat⟩
  ·exact .inl ⟨.inl q, fun z => (Maps.atKey_put_other hne u z).trans (hat z)⟩
  ·exact .inr ⟨fun r => r.elim q e, fun z => (Maps.atKey_put_other hne u z).trans (hat z)⟩
theorem zFx {o : Oper} {a : Act} {K' : Act -> World -> Prop} {Q : Exit -> Act -> World -> Prop} (w : World) (m y : Operand) (hop : o.op = Op.lookup T m y true) (k : Kt P K) (ht : P.underlying T = some (.map K E))
  (hz : (zeroValue E).run P w = .ok (.agg #[]) w) (b n : Nat) (X : Itm -> Prop) (hm : a.eval m = .map (some b)) (h : MSet (H := H) P K unitElem (.agg []) b n X w) (x : Itm) (hy : a.eval y = iv x) (hx : W64 x)
  (hK : ∀ c : Bool, (c = true ↔ X x) -> K' (a.put o.dst (.tuple #[.agg #[], .bool c])) w) : o.wp P a w K' Q := by
 obtain ⟨c, v, ps, hc, hrun, hR⟩ := h.look_ok k ht hz unitElem_mk hx
 obtain ⟨rfl, _⟩ := unitElem_inv hR
 unfold Oper.wp
 simp [execOp, hop, hm, hy, hrun, Result.andThen]
 exact hK c hc
theorem zGd {o : Oper} {a : Act} {K' : Act -> World -> Prop} {Q : Exit -> Act -> World -> Prop} (w : World) (m y v : Operand) (hop : o.op = Op.mapUpdate T m y v) (k : Kt P K) (ht : P.underlying T = some (.map K E))
  (u : DataW H) (b n : Nat) (X : Itm -> Prop) (hm : a.eval m = .map (some b)) (h : MSet P K R u b n X w) (hn : n < maxLen) (x : Itm) (hy : a.eval y = iv x) (hx : W64 x) (ps : List MemPlace) (hv : R (a.eval v) = some (u, ps))
  (hK : ∀ w', MSet P K R u b (n + 1) (fun y => X y \/ y = x) w' -> w.mapTurned w' b -> K' (a.put o.dst undef) w') : o.wp P a w K' Q := by
 obtain ⟨w', hrun, h1, h2⟩ := h.store k ht hn hv hx
 unfold Oper.wp
 simp [execOp, hop, hm, hy, hrun, Result.andThen]
 exact hK w' h1 h2
theorem zCw {ops : Array Oper} {rest : List Oper} {o : Oper} {a : Act} {w : World} {Q : Exit -> Act -> World -> Prop} (hg : o.guard = none) (h : ∀ K' : Act -> World -> Prop, (∀ a' w', wpList P ops Q rest a' w' -> K' a' w') -> o.wp P a w K' Q) : wpList P ops Q (o :: rest) a w :=
 wpList_plain hg fun K' hK => h K' hK
end
section
variable {H : Type} {P : Program} {K T E : TypeId} {R : Value -> Option (DataW H × List MemPlace)}
def Dat (u : DataW H) (D : DataW H) (X : Itm -> Prop) : Prop := ∀ x, W64 x -> (X x /\ ∀ z, D.atKey (ik x) z = u) \/ (¬ X x /\ ∀ z, D.atKey (ik x) z = z)
theorem Dat.has {u D : DataW H} {X : Itm -> Prop} (h : Dat u D X) {x : Itm} (hx : W64 x) : has D (ik x) = true ↔ X x := by
 rcases h x hx with ⟨q, e⟩ | ⟨q, e⟩
 ·exact ⟨fun _ => q, fun _ => has_true_of_atKey e⟩
 ·exact ⟨fun k => (by rw [has_false_of_atKey e] at k; exact Bool.noConfusion k), fun k => absurd k q⟩
theorem MSet.tight {u : DataW H} {b n : Nat} {X : Itm -> Prop} {w : World} (h : MSet P K R u b n X w) (k : Kt P K) (M : List Itm) (hM : ∀ x, W64 x -> X x -> x ∈ M) : MSet P K R u b M.length X w := by
 obtain ⟨D, ho, kd⟩ := h
 obtain ⟨es, eD, hpw, _⟩ := ho.entries k.law
 obtain ⟨es', eD', hko⟩ := ho.keysOf
 obtain rfl : es = es' := by rw [eD] at eD'; simpa using eD'
 have hk : ∀ p ∈ es, ∃ x, W64 x /\ p.1 = ik x := fun p hp => by
  obtain ⟨v, hv⟩ := hko p hp
  obtain ⟨x, hx, _, e⟩ := k.inv _ _ hv
  exact ⟨x, hx, e⟩
 have hX : ∀ p ∈ es, ∀ x, W64 x -> p.1 = ik x -> X x := fun p hp x hx e => by
  refine (Dat.has kd hx).1 ?_
  rw [eD, has_eq, List.any_eq_true]
  refine ⟨p, hp, ?_⟩
  rw [e]
  exact WideAt.sameKey_self (k.law.key (k.key x hx))
 have hlen : es.length <= M.length := by
  have key : ∀ (l : List (Lit × DataW H)), (∀ p ∈ l, p ∈ es) -> l.Pairwise (fun p q => p.1 ≠ q.1) -> ∃ s : List Itm, s.length = l.length /\ s.Nodup /\ ∀ x ∈ s, W64 x /\ ∃ p ∈ l, p.1 = ik x := by
   intro l
   induction l with
   | nil => exact fun _ _ => ⟨[], rfl, List.nodup_nil, fun x hx => by cases hx⟩
   | cons p l ih =>
    intro hl hp
    have hp' := List.pairwise_cons.1 hp
    obtain ⟨s, e1, e2, e3⟩ := ih (fun q hq => hl q (List.mem_cons_of_mem _ hq)) hp'.2
    obtain ⟨x, hx, ex⟩ := hk p (hl p (List.mem_cons_self ..))
    refine ⟨x :: s, by simp [e1], List.nodup_cons.2 ⟨fun hs => ?_, e2⟩, fun y hy => ?_⟩
    ·obtain ⟨_, q, hq, eq⟩ := e3 x hs
     exact hp'.1 q hq (ex.trans eq.symm)
    ·rcases List.mem_cons.1 hy with e | hy
     ·subst e
      exact ⟨hx, p, List.mem_cons_self .., ex⟩
     ·obtain ⟨h1, q, hq, eq⟩ := e3 y hy
      exact ⟨h1, q, List.mem_cons_of_mem _ hq, eq⟩
  obtain ⟨s, e1, e2, e3⟩ := key es (fun _ h => h) hpw
  rw [← e1]
  exact zBU e2 fun x hx => by
   obtain ⟨h1, p, hp, e⟩ := e3 x hx
   exact hM x h1 (hX p hp x h1 e)
 obtain ⟨ms, clock, h1, h2, h3, h4⟩ := ho
 refine ⟨D, ⟨ms, clock, h1, h2, ?_, h4⟩, kd⟩
 rw [eD] at h4
 have e5 : es.length = ms.size := by
  have h4' := h4
  simp only [DataW.map.injEq] at h4'
  rw [h4', length_sorted]
  simp
 omega
def Over (Lf : Itm -> Prop) : Prop := ∀ x, W64 x -> ¬ Lf x
def MRan (P : Program) (K : TypeId) (R : Value -> Option (DataW H × List MemPlace)) (u : DataW H) (b r n q : Nat) (X Lf : Itm -> Prop) (w : World) : Prop :=
 ∃ D left cnt, w.ranges P K R b r n D left cnt /\ Dat u D X /\ (∀ x, W64 x -> (left (ik x) = true ↔ Lf x)) /\ q + cnt <= n
theorem MRan.keep {u : DataW H} {b r n q : Nat} {X Lf : Itm -> Prop} {w w' : World} (h : MRan P K R u b r n q X Lf w) (hb : w'.heap[b]? = w.heap[b]?) (hr : w'.heap[r]? = w.heap[r]?) : MRan P K R u b r n q X Lf w' := by
 obtain ⟨D, left, cnt, ⟨es, clock, since, seen, c0, g1, g2, g3, g4, g5, g6⟩, k⟩ := h
 exact ⟨D, left, cnt, ⟨es, clock, since, seen, c0, hb.trans g1, g2, g3, g4, hr.trans g5, g6⟩, k⟩
theorem MRan.lt {u : DataW H} {b r n q : Nat} {X Lf : Itm -> Prop} {w : World} (h : MRan P K R u b r n q X Lf w) : b < w.heap.size /\ r < w.heap.size /\ r ≠ b := by
 obtain ⟨D, left, cnt, h, _⟩ := h
 exact ⟨h.owns.lt, h.lt, h.ne⟩
theorem MRan.went {u : DataW H} {b r n q : Nat} {X Lf : Itm -> Prop} {w w' : World} (h : MRan P K R u b r n q X Lf w) (hb : Below w.heap.size w w') : MRan P K R u b r n q X Lf w' := h.keep (hb.block b h.lt.1) (hb.block r h.lt.2.1)
theorem MRan.left_keep {b r : Nat} {w w' : World} (hb : w'.heap[b]? = w.heap[b]?) (hr : w'.heap[r]? = w.heap[r]?) : w'.rangeLeft b r = w.rangeLeft b r := by
 unfold World.rangeLeft
 rw [hb, hr]
theorem MRan.walks {u : DataW H} {b r n q : Nat} {X Lf : Itm -> Prop} {w w' : World} (h : MRan P K R u b r n q X Lf w) (hk : KeepsWalks w w') : MRan P K R u b r n q X Lf w' /\ w'.rangeLeft b r = w.rangeLeft b r := by
 obtain ⟨D, left, cnt, h, k⟩ := h
 have h' := h.of_walks hk
 exact ⟨⟨D, left, cnt, h', k⟩, by rw [h'.left_eq, h.left_eq]⟩
theorem MRan.iter_walk {u : DataW H} {b r n q : Nat} {X Lf : Itm -> Prop} {w : World} (h : MRan P K R u b r n q X Lf w) : ∃ o : Obj, w.heap[r]? = some o /\ o.isWalk = true := by
 obtain ⟨D, left, cnt, h, k⟩ := h
 exact h.iter_walk
theorem MRan.start {u D : DataW H} {b r n : Nat} {X : Itm -> Prop} {w : World} (k : Kt P K) (ho : w.ownsMap P K R b n D) (kd : Dat u D X) {w' : World} (h : w'.ranges P K R b r n D (Maps.has D) (Maps.size D)) : MRan P K R u b r n 0 X X w' := by
 refine ⟨D, _, _, h, kd, fun x hx => Dat.has kd hx, ?_⟩
 obtain ⟨ms, clock, h1, h2, h3, h4⟩ := ho
 subst h4
 simp only [Maps.size, length_sorted, List.length_map, Array.length_toList]
 omega
theorem MRan.step {u D : DataW H} {b r n q cnt cnt2 : Nat} {X Lf : Itm -> Prop} {w' : World} {left : Lit -> Bool} (k : Kt P K) (kd : Dat u D X) (hl : ∀ x, W64 x -> (left (ik x) = true ↔ Lf x)) (hq : q + cnt <= n) {x : Itm} (hx : W64 x)
  (h : w'.ranges P K R b r n D (fun z => left z && !z.sameKey (ik x)) cnt2) (hc : cnt2 < cnt) : MRan P K R u b r n (q + 1) X (fun y => Lf y /\ y ≠ x) w' := by
 refine ⟨D, _, _, h, kd, fun y hy => ?_, by omega⟩
 dsimp only
 rw [Bool.and_eq_true, hl y hy]
 refine and_congr_right fun _ => ?_
 constructor
 ·intro e1 e2
  subst e2
  rw [WideAt.sameKey_self (k.law.key (k.key y hy))] at e1
  exact Bool.noConfusion e1
 ·intro e1
  rw [sameKey_ne fun e2 => e1 (zJD hy hx e2)]
  rfl
variable {ops : Array Oper} {rest : List Oper} {o : Oper} {a : Act} {Q : Exit -> Act -> World -> Prop}
theorem zCq (w : World) (hg : o.guard = none) (m : Operand) (hop : o.op = Op.range T m) (k : Kt P K) (ht : P.underlying T = some (.map K E)) (u : DataW H) (b n : Nat) (X : Itm -> Prop) (hm : a.eval m = .map (some b)) (h : MSet P K R u b n X w)
  (hK : ∀ w', MRan P K R u b w.heap.size n 0 X X w' -> w.grownBy w' none -> w'.heap.size = w.heap.size + 1 -> wpList P ops Q rest (a.put o.dst (.pointer (some ⟨w.heap.size, 0, none⟩))) w') :
  wpList P ops Q (o :: rest) a w := by
 obtain ⟨D, ho, kd⟩ := h
 exact wpList_range_own w hg m T hop K E k.law ht R b n D hm ho fun w' r1 r2 r3 => hK w' (MRan.start k ho kd r1) r2 r3
theorem zC0 (w : World) (hg : o.guard = none) (it : Operand) (hop : o.op = Op.next it false) (k : Kt P K) (b r n q : Nat) (X Lf : Itm -> Prop) (hit : a.eval it = .pointer (some ⟨r, 0, none⟩)) (h : MRan (H := H) P K unitElem (.agg []) b r n q X Lf w)
  (hDone : Over Lf -> wpList P ops Q rest (a.put o.dst (.tuple #[.bool false])) w)
  (hMore : ∀ (x : Itm) (w' : World), W64 x -> Lf x -> X x -> MRan (H := H) P K unitElem (.agg []) b r n (q + 1) X (fun y => Lf y /\ y ≠ x) w' -> w'.rangeLeft b r < w.rangeLeft b r -> w.grownBy w' (some r) -> w'.heap.size = w.heap.size ->
   (Instr.entry (.pointer (some ⟨r, 0, none⟩))).run P w' = .ok (.tuple #[iv x, .agg #[]]) w' -> wpList P ops Q rest (a.put o.dst (.tuple #[.bool true, iv x, .agg #[]])) w') :
  wpList P ops Q (o :: rest) a w := by
 obtain ⟨D, left, cnt, h, kd, hl, hq⟩ := h
 refine wpList_next_ranges w hg it hop K k.law unitElem iv (fun _ : Unit => .agg #[]) (fun key kl hk => by obtain ⟨x, _, e, _⟩ := k.inv key kl hk; exact ⟨x, e⟩) (fun v y hv => ⟨(), (unitElem_inv hv).1⟩) b r n D left cnt hit h
  (fun _ hl0 => hDone fun x hx => by rw [← hl x hx, hl0]; exact Bool.noConfusion) ?_
 intro x c kl y w' cnt' hkey hlk hv hat hrg hlt hgr hsz hen
 obtain ⟨x', hx, e1, rfl⟩ := k.inv _ _ hkey
 obtain rfl : x = x' := by
  have := e1
  unfold iv at this
  simp at this
  exact Prod.ext this.1 this.2
 exact hMore x w' hx ((hl x hx).1 hlk) ((Dat.has kd hx).1 (has_true_of_atKey hat)) (MRan.step k kd hl hq hx hrg hlt) (by rw [hrg.left_eq, h.left_eq]; exact hlt) hgr hsz hen
variable {F : Fence} {m : Nat}
theorem zCB (w : World) (hg : o.guard = none) (mo : Operand) (hop : o.op = Op.range T mo) (k : Kt P K) (ht : P.underlying T = some (.map K E)) (u : DataW H) (b n : Nat) (X : Itm -> Prop) (hm : a.eval mo = .map (some b)) (h : MSet P K R u b n X w)
  (hK : ∀ w', MRan P K R u b w.heap.size n 0 X X w' -> w.grownBy w' none -> w'.heap.size = w.heap.size + 1 -> wpListIn F m P ops Q rest (a.put o.dst (.pointer (some ⟨w.heap.size, 0, none⟩))) w') :
  wpListIn F m P ops Q (o :: rest) a w := by
 obtain ⟨D, ho, kd⟩ := h
 exact wpListIn_range_own w hg mo T hop K E k.law ht R b n D hm ho fun w' r1 r2 r3 => hK w' (MRan.start k ho kd r1) r2 r3
theorem zCb (w : World) (hg : o.guard = none) (it : Operand) (hop : o.op = Op.next it false) (k : Kt P K) (b r n q : Nat) (X Lf : Itm -> Prop) (hit : a.eval it = .pointer (some ⟨r, 0, none⟩)) (h : MRan (H := H) P K unitElem (.agg []) b r n q X Lf w)
  (hDone : Over Lf -> wpListIn F m P ops Q rest (a.put o.dst (.tuple #[.bool false])) w)
  (hMore : ∀ (x : Itm) (w' : World), W64 x -> Lf x -> X x -> MRan (H := H) P K unitElem (.agg []) b r n (q + 1) X (fun y => Lf y /\ y ≠ x) w' -> w'.rangeLeft b r < w.rangeLeft b r -> w.grownBy w' (some r) -> w'.heap.size = w.heap.size ->
   (Instr.entry (.pointer (some ⟨r, 0, none⟩))).run P w' = .ok (.tuple #[iv x, .agg #[]]) w' -> wpListIn F m P ops Q rest (a.put o.dst (.tuple #[.bool true, iv x, .agg #[]])) w') :
  wpListIn F m P ops Q (o :: rest) a w := by
 obtain ⟨D, left, cnt, h, kd, hl, hq⟩ := h
 refine wpListIn_next_ranges w hg it hop K k.law unitElem iv (fun _ : Unit => .agg #[]) (fun key kl hk => by obtain ⟨x, _, e, _⟩ := k.inv key kl hk; exact ⟨x, e⟩) (fun v y hv => ⟨(), (unitElem_inv hv).1⟩) b r n D left cnt hit h
  (fun _ hl0 => hDone fun x hx => by rw [← hl x hx, hl0]; exact Bool.noConfusion) ?_
 intro x c kl y w' cnt' hkey hlk hv hat hrg hlt hgr hsz hen
 obtain ⟨x', hx, e1, rfl⟩ := k.inv _ _ hkey
 obtain rfl : x = x' := by
  have := e1
  unfold iv at this
  simp at this
  exact Prod.ext this.1 this.2
 exact hMore x w' hx ((hl x hx).1 hlk) ((Dat.has kd hx).1 (has_true_of_atKey hat)) (MRan.step k kd hl hq hx hrg hlt) (by rw [hrg.left_eq, h.left_eq]; exact hlt) hgr hsz hen
end
