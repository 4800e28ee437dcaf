/-
  A map whose keys are arrays of two numbers and whose elements are numbers (targets), and one whose keys are texts (the numbers of states): asked with ok, put. The program and its types are parameters.
-/
import Derived.Test.YtjjmoonajijnmaaItemMap
import Derived.Test.YtjjmoonajijnmaaInternPlain
namespace Go.Proofs.Ytjjmoonajijnmaa.Au
open Go.RowKit Go.Maps
open Go.Proofs.Ytjjmoonajijnmaa.Im
open Go.Proofs.Ytjjmoonajijnmaa.It (MapIs isIn num num_le mapIs_nil mapIs_put data_inj)
set_option linter.unusedVariables false

/-- The type K is an array of two numbers that may be a key. -/
structure Ka (P : Program) (K : TypeId) : Prop where
  law : Keyed P K
  key : ∀ x, W64 x → keyOf P K (iv x) = some (ik x)
theorem ka_of {P : Program} {K E : TypeId} (law : Keyed P K) (hu : P.underlying K = some (.array 2 E)) (he : P.underlying E = some (.int .i64)) (hkt : P.keyType K = true) (hcells : P.cellsOf K = 2) (ce : P.cellsOf E = 1) (n : Nat) (hn : P.types.size = n + 1) : Ka P K := by
  refine ⟨law, fun x hx => ?_⟩
  unfold keyOf iv
  rw [hu]
  simp only [hkt, Bool.true_and]
  rw [if_pos (by simp [Value.formed, hu, hcells])]
  rw [hn]
  have hr : List.range 2 = [0, 1] := rfl
  simp [Program.keyLits, hu, hcells, ce, he, hx.1, hx.2, Value.cells, ik, hr]

section
variable {P : Program} {K T E : TypeId}

/-- The map in block b holds for each pair just what X tells. -/
def TMap (P : Program) (K E : TypeId) (b n : Nat) (X : Itm → Option Int) (w : World) : Prop :=
  ∃ D : DataW Unit, w.ownsMap P K (plainElem P E) b n D ∧ ∀ x, W64 x → has D (ik x) = (X x).isSome ∧ D.atKey (ik x) (.lit (.int .i64 0)) = .lit (.int .i64 ((X x).getD 0))
theorem TMap.made (w : World) (P : Program) (K E : TypeId) : TMap P K E w.heap.size 0 (fun _ => none) (w.alloc (.map #[] 0)) :=
  ⟨_, World.ownsMap_made w P K _, fun x _ => ⟨rfl, rfl⟩⟩
theorem TMap.lt {b n : Nat} {X : Itm → Option Int} {w : World} (h : TMap P K E b n X w) : b < w.heap.size := by
  obtain ⟨D, h, _⟩ := h
  exact h.lt
theorem TMap.mono {b n n' : Nat} {X : Itm → Option Int} {w : World} (h : TMap P K E b n X w) (hn : n ≤ n') : TMap P K E b n' X w := by
  obtain ⟨D, h, k⟩ := h
  exact ⟨D, h.mono hn, k⟩
theorem TMap.eq {b n : Nat} {X Y : Itm → Option Int} {w : World} (h : TMap P K E b n X w) (e : ∀ x, X x = Y x) : TMap P K E b n Y w := by
  obtain ⟨D, h, k⟩ := h
  exact ⟨D, h, fun x hx => by rw [← e x]; exact k x hx⟩
theorem TMap.keep {b n : Nat} {X : Itm → Option Int} {w w' : World} (h : TMap P K E b n X w) (hb : w'.heap[b]? = w.heap[b]?) : TMap P K E b n X w' := by
  obtain ⟨D, h, k⟩ := h
  exact ⟨D, Sep.ownsMap_at h hb, k⟩
theorem TMap.store {b n : Nat} {X : Itm → Option Int} {w : World} (h : TMap P K E b n X w) (k : Ka P K) (ht : P.underlying T = some (.map K E)) (he : P.underlying E = some (.int .i64)) (hn : n < maxLen) {x : Itm} (hx : W64 x) {t : Int} (hw : (Lit.int .i64 t).wf = true) :
    ∃ w', (Instr.mapUpdate T (.map (some b)) (iv x) (.int .i64 t)).run P w = .ok () w' ∧ TMap P K E b (n + 1) (fun y => if y = x then some t else X y) w' ∧ w.mapTurned w' b := by
  obtain ⟨D, ho, kd⟩ := h
  obtain ⟨w', hrun, h1, h2⟩ := ho.store k.law ht hn (k.key x hx) (plainElem_int he hw)
  refine ⟨w', hrun, ⟨_, h1, fun y hy => ?_⟩, h2⟩
  by_cases e : y = x
  · subst e
    show _ = (if y = y then some t else X y).isSome ∧ _ = DataW.lit (Lit.int .i64 ((if y = y then some t else X y).getD 0))
    rw [if_pos rfl, has_put_same ho.isMap (k.law.key (k.key y hy)), atKey_put_same ho.isMap (k.law.key (k.key y hy))]
    exact ⟨rfl, rfl⟩
  · have hne : ik y ≠ ik x := fun q => e (ik_inj hy hx q)
    show _ = (if y = x then some t else X y).isSome ∧ _ = DataW.lit (Lit.int .i64 ((if y = x then some t else X y).getD 0))
    rw [if_neg e, has_put_other hne, atKey_put_other hne]
    exact kd y hy

/-- 'v, ok := m[x]'. -/
theorem wpList_tmap_ok {ops : Array Oper} {rest : List Oper} {o : Oper} {a : Act} {Q : Exit → Act → World → Prop} (w : World) (hg : o.guard = none) (m y : Operand) (hop : o.op = Op.lookup T m y true) (k : Ka P K) (ht : P.underlying T = some (.map K E)) (he : P.underlying E = some (.int .i64))
    (hz : (zeroValue E).run P w = .ok (.int .i64 0) w) (b n : Nat) (X : Itm → Option Int) (hm : a.eval m = .map (some b)) (h : TMap P K E b n X w) (x : Itm) (hy : a.eval y = iv x) (hx : W64 x)
    (hK : wpList P ops Q rest (a.put o.dst (.tuple #[.int .i64 ((X x).getD 0), .bool (X x).isSome])) w) : wpList P ops Q (o :: rest) a w := by
  obtain ⟨D, ho, kd⟩ := h
  refine wpList_lookup_own_ok_int w hg m y T hop K E .i64 k.law ht he hz b n D hm ho _ _ hy (k.key x hx) fun d hat _ => ?_
  rw [(kd x hx).2] at hat
  simp only [DataW.lit.injEq, Lit.int.injEq, true_and] at hat
  subst hat
  rw [(kd x hx).1]
  exact hK
/-- 'm[x] = t'. -/
theorem wp_tmap_put {o : Oper} {a : Act} {K' : Act → World → Prop} {Q : Exit → Act → World → Prop} (w : World) (m y v : Operand) (hop : o.op = Op.mapUpdate T m y v) (k : Ka P K) (ht : P.underlying T = some (.map K E)) (he : P.underlying E = some (.int .i64))
    (b n : Nat) (X : Itm → Option Int) (hm : a.eval m = .map (some b)) (h : TMap P K E b n X w) (hn : n < maxLen) (x : Itm) (hy : a.eval y = iv x) (hx : W64 x) (t : Int) (hv : a.eval v = .int .i64 t) (hw : (Lit.int .i64 t).wf = true)
    (hK : ∀ w', TMap P K E b (n + 1) (fun y => if y = x then some t else X y) w' → w.mapTurned w' b → K' (a.put o.dst undef) w') : o.wp P a w K' Q := by
  obtain ⟨w', hrun, h1, h2⟩ := h.store k ht he hn hx hw
  unfold Oper.wp
  simp [execOp, hop, hm, hy, hv, hrun, Result.andThen]
  exact hK w' h1 h2

/-! ### Texts -/

/-- The map in block b bears the places of these texts. -/
def SMap (P : Program) (K E : TypeId) (b n : Nat) (L : List ByteArray) (w : World) : Prop := ∃ D : DataW Unit, w.ownsMap P K (plainElem P E) b n D ∧ MapIs L D
theorem SMap.made (w : World) (P : Program) (K E : TypeId) : SMap P K E w.heap.size 0 [] (w.alloc (.map #[] 0)) := ⟨_, World.ownsMap_made w P K _, mapIs_nil⟩
theorem SMap.lt {b n : Nat} {L : List ByteArray} {w : World} (h : SMap P K E b n L w) : b < w.heap.size := by
  obtain ⟨D, h, _⟩ := h
  exact h.lt
theorem SMap.keep {b n : Nat} {L : List ByteArray} {w w' : World} (h : SMap P K E b n L w) (hb : w'.heap[b]? = w.heap[b]?) : SMap P K E b n L w' := by
  obtain ⟨D, h, k⟩ := h
  exact ⟨D, Sep.ownsMap_at h hb, k⟩
theorem wpList_smap_ok {ops : Array Oper} {rest : List Oper} {o : Oper} {a : Act} {Q : Exit → Act → World → Prop} (w : World) (hg : o.guard = none) (m y : Operand) (hop : o.op = Op.lookup T m y true) (law : Keyed P K) (hk : P.underlying K = some .string) (ht : P.underlying T = some (.map K E)) (he : P.underlying E = some (.int .i64))
    (hz : (zeroValue E).run P w = .ok (.int .i64 0) w) (b n : Nat) (L : List ByteArray) (hm : a.eval m = .map (some b)) (h : SMap P K E b n L w) (s : ByteArray) (hy : a.eval y = .string s) (hs : s.size ≤ maxLen)
    (hK : wpList P ops Q rest (a.put o.dst (.tuple #[.int .i64 (num L s), .bool (isIn L s)])) w) : wpList P ops Q (o :: rest) a w := by
  obtain ⟨D, ho, kd⟩ := h
  refine wpList_lookup_own_ok_int w hg m y T hop K E .i64 law ht he hz b n D hm ho _ _ hy (WideMaps.keyOf_string_mk hk hs) fun d hat _ => ?_
  rw [(kd s).2] at hat
  simp only [DataW.lit.injEq, Lit.int.injEq, true_and] at hat
  subst hat
  rw [(kd s).1]
  exact hK
/-- A text more. -/
theorem wpList_smap_put {ops : Array Oper} {rest : List Oper} {o : Oper} {a : Act} {Q : Exit → Act → World → Prop} (w : World) (hg : o.guard = none) (m y v : Operand) (hop : o.op = Op.mapUpdate T m y v) (law : Keyed P K) (hk : P.underlying K = some .string) (ht : P.underlying T = some (.map K E)) (he : P.underlying E = some (.int .i64))
    (b n : Nat) (L : List ByteArray) (hm : a.eval m = .map (some b)) (h : SMap P K E b n L w) (hn : n < maxLen) (s : ByteArray) (hy : a.eval y = .string s) (hs : s.size ≤ maxLen) (hnew : isIn L s = false) (z : Int) (hv : a.eval v = .int .i64 z) (hzl : z = (L.length : Int)) (hl : L.length < 9223372036854775808)
    (hK : ∀ w', SMap P K E b (n + 1) (L ++ [s]) w' → w.grownBy w' (some b) → wpList P ops Q rest (a.put o.dst undef) w') : wpList P ops Q (o :: rest) a w := by
  obtain ⟨D, ho, kd⟩ := h
  subst hzl
  refine wpList_mapUpdate_own w hg m y v T hop K E law ht (plainElem P E) b n D hm ho hn _ _ _ hy hv (WideMaps.keyOf_string_mk hk hs) _ [] (plainElem_int he (by simp only [Lit.wf, IntKind.min, IntKind.max, IntKind.signed, IntKind.bits, Bool.and_eq_true, decide_eq_true_eq, if_true]; omega)) fun w' h1 h2 => hK w' ⟨_, h1, mapIs_put ho.isMap (law.key (WideMaps.keyOf_string_mk hk hs)) kd hnew⟩ h2
end

end Go.Proofs.Ytjjmoonajijnmaa.Au
