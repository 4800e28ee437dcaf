/-
  A map whose keys are items (a struct of two numbers), as a set: asked with and without ok, put; what such a key reads as. The program and its types are parameters.
-/
import Derived.Test.YtjjmoonajijnmaaItemPlain
import Derived.Maps.OwnSet
import Derived.ChangeKeys
import Derived.Deep.RegionLaw
namespace Go.Proofs.Ytjjmoonajijnmaa.Im
open Go.RowKit Go.Maps
set_option linter.unusedVariables false

/-- Both numbers fit. -/
def W64 (x : Itm) : Prop := (Lit.int .i64 x.1).wf = true ∧ (Lit.int .i64 x.2).wf = true
/-- As a value, as a key. -/
def iv (x : Itm) : Value := .agg #[.int .i64 x.1, .int .i64 x.2]
def ik (x : Itm) : Lit := .string (keyBytes [.int .i64 x.1, .int .i64 x.2])
theorem ik_inj {x y : Itm} (hx : W64 x) (hy : W64 y) (h : ik x = ik y) : x = y := by
  unfold ik at h
  simp only [Lit.string.injEq] at h
  have := keyBytes_inj (l := [.int .i64 x.1, .int .i64 x.2]) (l' := [.int .i64 y.1, .int .i64 y.2]) (by simp [Alike, Lit.sameKind])
    (fun a ha => by
      simp only [List.mem_cons, List.not_mem_nil, or_false] at ha
      rcases ha with rfl | rfl
      · exact hx.1
      · exact hx.2)
    (fun a ha => by
      simp only [List.mem_cons, List.not_mem_nil, or_false] at ha
      rcases ha with rfl | rfl
      · exact hy.1
      · exact hy.2) h
  simp at this
  exact Prod.ext this.1 this.2

/-- The type K is a struct of two numbers that may be a key. -/
structure Kt (P : Program) (K : TypeId) : Prop where
  law : Keyed P K
  key : ∀ x, W64 x → keyOf P K (iv x) = some (ik x)
  inv : ∀ key kl, keyOf P K key = some kl → ∃ x, W64 x ∧ key = iv x ∧ kl = ik x

theorem lits_int {P : Program} {d : Nat} {t : TypeId} {v : Value} {l : List Lit} (hu : P.underlying t = some (.int .i64)) (h : P.keyLits (d + 1) t [v] = some l) : ∃ n, v = .int .i64 n ∧ (Lit.int .i64 n).wf = true ∧ l = [.int .i64 n] := by
  unfold Program.keyLits at h
  rw [hu] at h
  cases v <;> simp at h
  obtain ⟨⟨rfl, hw⟩, rfl⟩ := h
  exact ⟨_, rfl, hw, rfl⟩

/-- Its facts by the kernel, its law by Keyed.of_law (deep_law_laid ..). -/
theorem kt_of {P : Program} {K : TypeId} (fa fb : Field) (law : Keyed P K) (hu : P.underlying K = some (.struct #[fa, fb])) (ha : P.underlying fa.type = some (.int .i64)) (hb : P.underlying fb.type = some (.int .i64)) (hkt : P.keyType K = true) (hcells : P.cellsOf K = 2)
    (ca : P.cellsOf fa.type = 1) (cb : P.cellsOf fb.type = 1) (oa : fa.offset = 0) (ob : fb.offset = 1) (na : (fa.name != "_") = true) (nb : (fb.name != "_") = true) (n : Nat) (hn : P.types.size = n + 1) : Kt P K := by
  refine ⟨law, fun x hx => ?_, fun key kl h => ?_⟩
  · unfold keyOf iv
    rw [hu]
    simp only [hkt, Bool.true_and]
    rw [if_pos (by simp [Value.formed, hu, hcells])]
    rw [hn]
    simp [Program.keyLits, hu, hcells, ca, cb, oa, ob, ha, hb, na, nb, hx.1, hx.2, Value.cells, ik]
  · unfold keyOf at h
    rw [hu] at h
    simp only [hkt, Bool.true_and] at h
    split at h
    · rename_i hf
      rw [Option.map_eq_some_iff] at h
      obtain ⟨ls, hls, rfl⟩ := h
      cases key <;> simp [Value.formed, hu, hcells] at hf
      rename_i cs
      obtain ⟨cs⟩ := cs
      rcases cs with _ | ⟨a, _ | ⟨b, _ | ⟨c, cs⟩⟩⟩ <;> simp at hf
      rw [hn] at hls
      unfold Program.keyLits at hls
      rw [hu] at hls
      simp [hcells, ca, cb, oa, ob, na, nb, Value.cells] at hls
      cases h1 : P.keyLits (n + 1) fa.type [a] with
      | none => rw [h1] at hls; simp at hls
      | some l1 =>
        cases h2 : P.keyLits (n + 1) fb.type [b] with
        | none => rw [h1, h2] at hls; simp at hls
        | some l2 =>
          rw [h1, h2] at hls
          obtain ⟨x, rfl, wx, rfl⟩ := lits_int ha h1
          obtain ⟨y, rfl, wy, rfl⟩ := lits_int hb h2
          simp at hls
          subst hls
          exact ⟨(x, y), ⟨wx, wy⟩, rfl, rfl⟩
    · cases h

section
variable {H : Type} {P : Program} {K T E : TypeId} {R : Value → Option (DataW H × List MemPlace)}

/-- The keys of the map in block b are just the items of which X says yes, each with the element u. -/
def MSet (P : Program) (K : TypeId) (R : Value → Option (DataW H × List MemPlace)) (u : DataW H) (b n : Nat) (X : Itm → Prop) (w : World) : Prop :=
  ∃ D : DataW H, w.ownsMap P K R b n D ∧ ∀ x, W64 x → (X x ∧ ∀ z, D.atKey (ik x) z = u) ∨ (¬ X x ∧ ∀ z, D.atKey (ik x) z = z)
theorem MSet.made (w : World) (P : Program) (K : TypeId) (R : Value → Option (DataW H × List MemPlace)) (u : DataW H) : MSet P K R u w.heap.size 0 (fun _ => False) (w.alloc (.map #[] 0)) :=
  ⟨_, World.ownsMap_made w P K R, fun x _ => .inr ⟨id, fun z => rfl⟩⟩
theorem MSet.lt {u : DataW H} {b n : Nat} {X : Itm → Prop} {w : World} (h : MSet P K R u b n X w) : b < w.heap.size := by
  obtain ⟨D, h, _⟩ := h
  exact h.lt
theorem MSet.mono {u : DataW H} {b n n' : Nat} {X : Itm → Prop} {w : World} (h : MSet P K R u b n X w) (hn : n ≤ n') : MSet P K R u b n' X w := by
  obtain ⟨D, h, k⟩ := h
  exact ⟨D, h.mono hn, k⟩
theorem MSet.iff {u : DataW H} {b n : Nat} {X Y : Itm → Prop} {w : World} (h : MSet P K R u b n X w) (e : ∀ x, W64 x → (X x ↔ Y x)) : MSet P K R u b n Y w := by
  obtain ⟨D, h, k⟩ := h
  exact ⟨D, h, fun x hx => (k x hx).imp (fun q => ⟨(e x hx).1 q.1, q.2⟩) (fun q => ⟨fun y => q.1 ((e x hx).2 y), q.2⟩)⟩
theorem MSet.keep {u : DataW H} {b n : Nat} {X : Itm → Prop} {w w' : World} (h : MSet P K R u b n X w) (hb : w'.heap[b]? = w.heap[b]?) : MSet P K R u b n X w' := by
  obtain ⟨D, ⟨es, clock, h1, h2⟩, k⟩ := h
  exact ⟨D, ⟨es, clock, hb.trans h1, h2⟩, k⟩
theorem MSet.went {u : DataW H} {b n : Nat} {X : Itm → Prop} {w w' : World} (h : MSet P K R u b n X w) (hb : Below w.heap.size w w') : MSet P K R u b n X w' := h.keep (hb.block b h.lt)

/-- 'm[x]', without ok. -/
theorem MSet.look {u : DataW H} {b n : Nat} {X : Itm → Prop} {w : World} (h : MSet P K R u b n X w) (k : Kt P K) (ht : P.underlying T = some (.map K E)) {z : Value} (hz : (zeroValue E).run P w = .ok z w) {zd : DataW H} {zp : List MemPlace} (hzd : R z = some (zd, zp)) {x : Itm} (hx : W64 x) :
    ∃ (c : Bool) (v : Value) (ps : List MemPlace), (c = true ↔ X x) ∧ (Instr.lookup T (.map (some b)) (iv x) false).run P w = .ok v w ∧ R v = some (if c then u else zd, ps) := by
  obtain ⟨D, ho, kd⟩ := h
  obtain ⟨v, ps, hrun, hR⟩ := ho.lookup k.law ht hz hzd (k.key x hx)
  rcases kd x hx with ⟨q, hat⟩ | ⟨q, hat⟩
  · exact ⟨true, v, ps, ⟨fun _ => q, fun _ => rfl⟩, hrun, by rw [hR, hat]; rfl⟩
  · exact ⟨false, v, ps, ⟨fun e => Bool.noConfusion e, fun e => absurd e q⟩, hrun, by rw [hR, hat]; rfl⟩
/-- 'v, ok := m[x]'. -/
theorem MSet.look_ok {u : DataW H} {b n : Nat} {X : Itm → Prop} {w : World} (h : MSet P K R u b n X w) (k : Kt P K) (ht : P.underlying T = some (.map K E)) {z : Value} (hz : (zeroValue E).run P w = .ok z w) {zd : DataW H} {zp : List MemPlace} (hzd : R z = some (zd, zp)) {x : Itm} (hx : W64 x) :
    ∃ (c : Bool) (v : Value) (ps : List MemPlace), (c = true ↔ X x) ∧ (Instr.lookup T (.map (some b)) (iv x) true).run P w = .ok (.tuple #[v, .bool c]) w ∧ R v = some (if c then u else zd, ps) := by
  obtain ⟨D, ho, kd⟩ := h
  obtain ⟨v, ps, hrun, hR⟩ := ho.look_ok k.law ht hz hzd (k.key x hx)
  rcases kd x hx with ⟨q, hat⟩ | ⟨q, hat⟩
  · rw [Maps.has_true_of_atKey hat] at hrun
    exact ⟨true, v, ps, ⟨fun _ => q, fun _ => rfl⟩, hrun, by rw [hR, hat]; rfl⟩
  · rw [Maps.has_false_of_atKey hat] at hrun
    exact ⟨false, v, ps, ⟨fun e => Bool.noConfusion e, fun e => absurd e q⟩, hrun, by rw [hR, hat]; rfl⟩
/-- 'm[x] = v'. -/
theorem MSet.store {u : DataW H} {b n : Nat} {X : Itm → Prop} {w : World} (h : MSet P K R u b n X w) (k : Kt P K) (ht : P.underlying T = some (.map K E)) (hn : n < maxLen) {v : Value} {ps : List MemPlace} (hv : R v = some (u, ps)) {x : Itm} (hx : W64 x) :
    ∃ w', (Instr.mapUpdate T (.map (some b)) (iv x) v).run P w = .ok () w' ∧ MSet P K R u b (n + 1) (fun y => X y ∨ y = x) w' ∧ w.mapTurned w' b := by
  obtain ⟨D, ho, kd⟩ := h
  obtain ⟨w', hrun, h1, h2⟩ := ho.store k.law ht hn (k.key x hx) hv
  refine ⟨w', hrun, ⟨_, h1, fun y hy => ?_⟩, h2⟩
  by_cases e : y = x
  · subst e
    exact .inl ⟨.inr rfl, fun z => Maps.atKey_put_same ho.isMap (k.law.key (k.key y hy)) u z⟩
  · have hne : ik y ≠ ik x := fun q => e (ik_inj hy hx q)
    rcases kd y hy with ⟨q, hat⟩ | ⟨q, hat⟩
    · exact .inl ⟨.inl q, fun z => (Maps.atKey_put_other hne u z).trans (hat z)⟩
    · exact .inr ⟨fun r => r.elim q e, fun z => (Maps.atKey_put_other hne u z).trans (hat z)⟩

/-! ### At the operation -/

/-- 'm[x]' where the elements are bools, all true. -/
theorem wp_mset_bool {o : Oper} {a : Act} {K' : Act → World → Prop} {Q : Exit → Act → World → Prop} (w : World) (m y : Operand) (hop : o.op = Op.lookup T m y false) (k : Kt P K) (ht : P.underlying T = some (.map K E)) (he : P.underlying E = some .bool)
    (hz : (zeroValue E).run P w = .ok (.bool false) w) (b n : Nat) (X : Itm → Prop) (hm : a.eval m = .map (some b)) (h : MSet (H := H) P K (plainElem P E) (.lit (.bool true)) b n X w) (x : Itm) (hy : a.eval y = iv x) (hx : W64 x)
    (hK : ∀ c : Bool, (c = true ↔ X x) → K' (a.put o.dst (.bool c)) w) : o.wp P a w K' Q := by
  obtain ⟨c, v, ps, hc, hrun, hR⟩ := h.look k ht hz (plainElem_bool he false) hx
  have hv : v = .bool c := by
    unfold plainElem at hR
    rw [he] at hR
    cases v <;> simp at hR
    cases c <;> simp_all
  subst hv
  unfold Oper.wp
  simp [execOp, hop, hm, hy, hrun, Result.andThen]
  exact hK c hc
/-- '_, ok := m[x]' where the elements are bools, all true. -/
theorem wp_mset_bool_ok {o : Oper} {a : Act} {K' : Act → World → Prop} {Q : Exit → Act → World → Prop} (w : World) (m y : Operand) (hop : o.op = Op.lookup T m y true) (k : Kt P K) (ht : P.underlying T = some (.map K E)) (he : P.underlying E = some .bool)
    (hz : (zeroValue E).run P w = .ok (.bool false) w) (b n : Nat) (X : Itm → Prop) (hm : a.eval m = .map (some b)) (h : MSet (H := H) P K (plainElem P E) (.lit (.bool true)) b n X w) (x : Itm) (hy : a.eval y = iv x) (hx : W64 x)
    (hK : ∀ c : Bool, (c = true ↔ X x) → K' (a.put o.dst (.tuple #[.bool c, .bool c])) w) : o.wp P a w K' Q := by
  obtain ⟨c, v, ps, hc, hrun, hR⟩ := h.look_ok k ht hz (plainElem_bool he false) hx
  have hv : v = .bool c := by
    unfold plainElem at hR
    rw [he] at hR
    cases v <;> simp at hR
    cases c <;> simp_all
  subst hv
  unfold Oper.wp
  simp [execOp, hop, hm, hy, hrun, Result.andThen]
  exact hK c hc
/-- '_, ok := m[x]' where the elements are of type struct{}. -/
theorem wp_mset_unit {o : Oper} {a : Act} {K' : Act → World → Prop} {Q : Exit → Act → World → Prop} (w : World) (m y : Operand) (hop : o.op = Op.lookup T m y true) (k : Kt P K) (ht : P.underlying T = some (.map K E))
    (hz : (zeroValue E).run P w = .ok (.agg #[]) w) (b n : Nat) (X : Itm → Prop) (hm : a.eval m = .map (some b)) (h : MSet (H := H) P K unitElem (.agg []) b n X w) (x : Itm) (hy : a.eval y = iv x) (hx : W64 x)
    (hK : ∀ c : Bool, (c = true ↔ X x) → K' (a.put o.dst (.tuple #[.agg #[], .bool c])) w) : o.wp P a w K' Q := by
  obtain ⟨c, v, ps, hc, hrun, hR⟩ := h.look_ok k ht hz unitElem_mk hx
  obtain ⟨rfl, _⟩ := unitElem_inv hR
  unfold Oper.wp
  simp [execOp, hop, hm, hy, hrun, Result.andThen]
  exact hK c hc
/-- 'm[x] = v'. -/
theorem wp_mset_put {o : Oper} {a : Act} {K' : Act → World → Prop} {Q : Exit → Act → World → Prop} (w : World) (m y v : Operand) (hop : o.op = Op.mapUpdate T m y v) (k : Kt P K) (ht : P.underlying T = some (.map K E))
    (u : DataW H) (b n : Nat) (X : Itm → Prop) (hm : a.eval m = .map (some b)) (h : MSet P K R u b n X w) (hn : n < maxLen) (x : Itm) (hy : a.eval y = iv x) (hx : W64 x) (ps : List MemPlace) (hv : R (a.eval v) = some (u, ps))
    (hK : ∀ w', MSet P K R u b (n + 1) (fun y => X y ∨ y = x) w' → w.mapTurned w' b → K' (a.put o.dst undef) w') : o.wp P a w K' Q := by
  obtain ⟨w', hrun, h1, h2⟩ := h.store k ht hn hv hx
  unfold Oper.wp
  simp [execOp, hop, hm, hy, hrun, Result.andThen]
  exact hK w' h1 h2
theorem wpList_of_wp {ops : Array Oper} {rest : List Oper} {o : Oper} {a : Act} {w : World} {Q : Exit → Act → World → Prop} (hg : o.guard = none) (h : ∀ K' : Act → World → Prop, (∀ a' w', wpList P ops Q rest a' w' → K' a' w') → o.wp P a w K' Q) : wpList P ops Q (o :: rest) a w :=
  wpList_plain hg fun K' hK => h K' hK
theorem step_of_wp {ops : Array Oper} {o : Oper} {a : Act} {w : World} {K' : Act → World → Prop} {Q : Exit → Act → World → Prop} {F : Prop} (hg : o.guard = none) (h : o.wp P a w K' Q) : if Region.wanted o (yielded ops a.tmps) = true then Oper.wp P o a w K' Q else F := by
  have hw : Region.wanted o (yielded ops a.tmps) = true := by simp [Region.wanted, hg]
  rw [if_pos hw]
  exact h
end

end Go.Proofs.Ytjjmoonajijnmaa.Im
