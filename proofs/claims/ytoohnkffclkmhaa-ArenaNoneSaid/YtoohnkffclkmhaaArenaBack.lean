/-
  Package arena: descend: the way through an inner node is put on the list. slices.Backward hands the last element first.
-/
import Derived.Test.YtoohnkffclkmhaaArenaAt
import Derived.Test.YtoohnkffclkmhaaRange
import Derived.Test.YtoohnkffclkmhaaGramOf
import Derived.OwnWalkIn
import Derived.TacticsInMore
import Derived.LoopNIn
import Derived.LoopIn
import Derived.RangeFuncLeaves
namespace Go.Proofs.Ytoohnkffclkmhaa.Tr
open Go.RowKit Go.Maps
open Go.Proofs.Ytoohnkffclkmhaa.Sep
open Go.Proofs.Ytoohnkffclkmhaa.Rg
open Go.Proofs.Ytoohnkffclkmhaa.Rw (Bk)
open Go.Proofs.Ytoohnkffclkmhaa.Gr (cell_later boxed drawn Is bool_of int_of ivs iv)
attribute [local go_sem] Oper.semAt_some
set_option linter.unusedVariables false
set_option linter.unusedSimpArgs false

theorem wpListIn_append_rows {F : Fence} {fu : Nat} {P : Program} (w : World) {ops : Array Oper} {rest : List Oper} {o : Oper} {a : Act} {Q : Exit → Act → World → Prop} (hgd : o.guard = none) (s x : Operand) (t : TypeId)
    (ho : o.op = .call { callee := .builtin .append, args := #[s, x], argTypes := #[t, t] })
    (base : Nat) (e : TypeId) (i : TypeInfo) (z : Value) (size bytes : Nat) (ht : P.underlying t = some (.slice e)) (hi : P.info? e = some i) (hz : i.zero = some z)
    (hsize : i.size = size) (hby : i.bytes = bytes) (hzs : z.cells.size = size) (hpos : 0 < size) (v : Value) (n : Nat) (xs : List Value) (hs : a.eval s = v) (hown : w.ownsRow base e size v n xs)
    (base2 : Nat) (v2 : Value) (m : Nat) (ys : List Value) (hx : a.eval x = v2) (hown2 : w.ownsRow base2 e size v2 m ys) (h1 : ∀ u ∈ ys, u.oneCell' = true)
    (h63 : n + m ≤ maxLen) (hbytes : (n + m) * bytes ≤ 140737488355328) (hbase : base ≤ w.heap.size)
    (h : ∀ v' w', w'.ownsRow base e size v' (n + m) (xs ++ ys) → w.grownBy w' v.ownBlock → (v'.ownBlock = v.ownBlock ∨ v'.ownBlock = some w.heap.size) → wpListIn F fu P ops Q rest (a.put o.dst v') w') : wpListIn F fu P ops Q (o :: rest) a w := by
  refine wpListIn_plain hgd fun K hK' => ?_
  obtain ⟨v', w', hr, h2, h3, h4⟩ := Rw.run_append_rows (P := P) w t o.type base e i z size bytes ht hi hz hsize hby hzs hpos v n xs hown base2 v2 m ys hown2 h1 h63 hbytes hbase
  unfold Oper.wpIn
  refine ⟨?_, ?_⟩
  · simp [Oper.about, ho, resolve, Target.leads, Sem.run_pure]
  · rw [Oper.semAt_plain F _ _ (by rw [ho]; intro c hc'; cases hc')]
    simp [execOp, ho, resolve, invoke, builtin, hs, hx, hr, Result.andThen]
    exact hK' _ _ (h v' w' h2 h3 h4)

theorem yields_later {P : Program} {g : Nat} {lb : Array Value} {encs : Nat → Array Value} {N : Nat} {O : Nat → Prop} {w w1 : World} (h : Rg.Yields P g lb encs N O w) (hb : Below w.heap.size w w1) : Rg.Yields P g lb encs N O w1 :=
  fun l J Jx S X W hF => h l J Jx S X W ((Fr.of_below hb).trans hF (Ext.refl _ _))

/-- A row of cells in a block. -/
theorem cells_of {w : World} {b : Nat} {cs : Array Value} {T : TypeId} (h : w.heap[b]? = some (.cells cs T (0, 0))) {k : Nat} (hk : k < cs.size) : w.cell? ⟨b, k, none⟩ = some cs[k] := by
  unfold World.cell?
  simp only [h]
  exact Array.getElem?_eq_getElem hk
theorem set_heap {w : World} {b k : Nat} {cs : Array Value} {T : TypeId} (h : w.heap[b]? = some (.cells cs T (0, 0))) (v : Value) : (w.setCell ⟨b, k, none⟩ v).heap[b]? = some (.cells (cs.setIfInBounds k v) T (0, 0)) := by
  rw [setCell_eq_setRow w b k cs T (0, 0) v h]
  exact setRow_heap w b cs _ T (0, 0) h
theorem free_of {w : World} {b k : Nat} {cs : Array Value} {T : TypeId} (h : w.heap[b]? = some (.cells cs T (0, 0))) : w.frozen? ⟨b, k, none⟩ = false := by
  simp [World.frozen?, h]

/-! ### slices.Backward -/

def encB (ks : List Int) : Nat → Array Value := fun k => #[.int .i64 ((ks.length : Int) - 1 - (k : Int)), .int .i64 (ks.reverse.getD k 0)]
/-- The blocks that it reads. -/
def oB (b : Nat) (a : Option Addr) (ks : List Int) : Nat → Prop := fun k => k = b ∨ (0 < ks.length ∧ ∃ o, a = some ⟨k, o, none⟩)

set_option maxHeartbeats 4000000 in
set_option maxRecDepth 100000 in
theorem back_yields (ks : List Int) (a : Option Addr) (c b : Nat) (w0 : World) (h1 : w0.heap[b]? = some (.cells #[.slice a ks.length c] 25 (0, 0))) (ha : Reads a (ivs ks) w0) (hl : ks.length ≤ 1000) :
    Rg.Yields Try.prog 63 #[.pointer (some ⟨b, 0, none⟩)] (encB ks) ks.length (oB b a ks) w0 := by
  intro l J Jx S X W hF hO hin hiX hJ hJx hY h0
  have hOi : Inn (oB b a ks) w0 := by
    rintro k (rfl | ⟨hp, o, rfl⟩)
    · exact (Array.getElem?_eq_some_iff.1 h1).1
    · obtain ⟨b', o', e, hc⟩ := ha 0 (by simpa [ivs] using hp)
      injection e with e
      injection e with e1 e2 e3
      subst e1
      exact World.block_lt_of_cell? w0 ⟨_, _, none⟩ hc
  have hOW := hOi.le hF.size
  have RD := Lib.hid (show ∀ (J' : Nat → (Nat → Prop) → World → Prop) (k : Nat) (S1 : Nat → Prop) (W1 : World), St J' S (oB b a ks) W k S1 W1 → W1.cell? ⟨b, 0, none⟩ = some (.slice a ks.length c) ∧ Reads a (ivs ks) W1 from
    fun J' k S1 W1 st => by
      have hh : ∀ x, oB b a ks x → W1.heap[x]? = w0.heap[x]? := fun x hx => (st.same hOW hO hx).trans (hF.block x (hOi x hx) fun hs => hO x hs hx)
      refine ⟨cells_of (cs := #[.slice a ks.length c]) ((hh b (.inl rfl)).trans h1) (k := 0) (by simp), fun i hi => ?_⟩
      obtain ⟨b', o', e, hc⟩ := ha i hi
      exact ⟨b', o', e, (World.cell?_of_block (a := ⟨b', o' + i, none⟩) (hh b' (.inr ⟨by rw [ivs, List.length_map] at hi; omega, o', e⟩))).trans hc⟩)
  have YD := Lib.hid (show ∀ (k : Nat) (hk : k < ks.length) (S1 : Nat → Prop) (W1 : World), St J S (oB b a ks) W k S1 W1 → YieldAt Fence.wide 0 Try.prog l #[.int .i64 ((ks.length : Int) - 1 - (k : Int)), .int .i64 (ks[ks.length - 1 - k]'(by omega))] W1 (Said X J Jx k S1 W1) from
    fun k hk S1 W1 st => by
      have h := hY k S1 W1 hk st.j st.inn
      unfold encB at h
      rw [List.getD_eq_getElem?_getD, List.getElem?_eq_getElem (by simpa using hk), List.getElem_reverse] at h
      exact h)
  have S0 := Lib.hid (St.start (O := oB b a ks) h0 hin hO)
  have TH := Lib.hid (show ∀ (k : Nat) (S1 S' : Nat → Prop) (W1 W2 : World), St J S (oB b a ks) W k S1 W1 → Ext S' S1 W1 → Fr S1 W1 W2 → Inn S' W2 → J (k + 1) S' W2 → St J S (oB b a ks) W (k + 1) S' W2 from fun k S1 S' W1 W2 st he hf hi hj => st.then hOW he hf hi hj)
  have DN := Lib.hid (show ∀ (S1 : Nat → Prop) (W1 : World), St J S (oB b a ks) W ks.length S1 W1 → ∀ v, (∃ v', Ending.returned v = .returned v') ∧ ∃ S', Inn S' W1 ∧ ((Ext S' S W ∧ Fr S W W1 ∧ J ks.length S' W1) ∨ (Ext S' (Or2 S X) W ∧ Fr (Or2 S X) W W1 ∧ ∃ k, k ≤ ks.length ∧ Jx k S' W1)) from
    fun S1 W1 st v => ⟨⟨v, rfl⟩, S1, st.inn, .inl ⟨st.ext, st.fr, st.j⟩⟩)
  have XN := Lib.hid (show ∀ (k : Nat) (S1 S' : Nat → Prop) (W1 W2 : World), k < ks.length → St J S (oB b a ks) W k S1 W1 → Ext S' (Or2 S1 X) W1 → Fr (Or2 S1 X) W1 W2 → Inn S' W2 → Jx (k + 1) S' W2 → ∀ v, (∃ v', Ending.returned v = .returned v') ∧ ∃ S', Inn S' W2 ∧ ((Ext S' S W ∧ Fr S W W2 ∧ J ks.length S' W2) ∨ (Ext S' (Or2 S X) W ∧ Fr (Or2 S X) W W2 ∧ ∃ k, k ≤ ks.length ∧ Jx k S' W2)) from
    fun k S1 S' W1 W2 hk st he hf hi hj v => by
      have s2 := st.stop he hf hi hj
      exact ⟨⟨v, rfl⟩, S', s2.inn, .inr ⟨s2.ext, s2.fr, k + 1, hk, hj⟩⟩)
  obtain ⟨c0, _⟩ := RD.out _ _ _ _ S0.out
  clear hY h0 hin ha h1 hOi hOW hF hO
  refine calls_up (n := 9) (o := none) ?_
  refine callsIn_of_wp Try.func63 rfl trivial ?_ rfl
  simp only [Try.ntmps63, List.size_toArray, List.length_cons, List.length_nil, Nat.reduceAdd, Nat.reduceSub, Array.replicate_succ, Array.replicate_zero, List.push_toArray, List.append_toArray, List.nil_append, List.cons_append]
  gi_wp2
  gi_loopw [3] (fun v wr => ∃ (k : Nat) (S1 : Nat → Prop), v = .int .i64 ((ks.length : Int) - 1 - (k : Int)) ∧ k ≤ ks.length ∧ St J S (oB b a ks) W k S1 wr) (fun v _ => (intOf v + 1).toNat)
  case atStart => exact ⟨0, _, by simp, Nat.zero_le _, S0.out⟩
  case round =>
    clear c0
    obtain ⟨k, S2, rfl, hk, st⟩ := hrel
    have ST := Lib.hid st
    clear st
    obtain ⟨c0, hR⟩ := RD.out _ _ _ _ ST.out
    by_cases hlt : k < ks.length
    · obtain ⟨b1, o1, rfl, hc1⟩ := hR (ks.length - 1 - k) (by rw [ivs, List.length_map]; omega)
      simp only [ivs, iv, List.getElem_map] at hc1
      obtain ⟨fn, tm, asg, bd, hy, hRd⟩ := YD.out k hlt _ _ ST.out
      obtain ⟨j, hj⟩ : ∃ j : Nat, j = ks.length - 1 - k := ⟨_, rfl⟩
      have hjk : (ks.length : Int) - 1 - (k : Int) = (j : Int) := by omega
      simp only [← hj] at hc1 hy
      generalize ks[j] = xk at hc1 hy
      rw [hjk] at hy ⊢
      have hjl : j < ks.length := by omega
      have HJ := Lib.hid hjk
      clear hR hj hjk
      gi_wp2
      refine (round_any hRd).mono ?_
      rintro e w4 ⟨S6, hin, (⟨rfl, he, hf, hj4⟩ | ⟨rfl, he, hf, hj4⟩)⟩
      · have S7 := Lib.hid (TH.out _ _ _ _ _ ST.out he hf hin hj4)
        clear hy hRd he hf hin hj4 c0 hc1
        gi_wp2
        go_roundw
        case rel => exact ⟨k + 1, S6, by have := HJ.out; congr 1; omega, by omega, S7.out⟩
        case measure => first | (simp [intOf]; omega) | simp [intOf]
      · have EX := Lib.hid (XN.out _ _ _ _ _ hlt ST.out he hf hin hj4)
        clear hy hRd he hf hin hj4 c0 hc1
        gi_wp2
        refine bodyPost_ret (results_none rfl _ _ _) rfl ?_
        exact EX.out _
    · obtain rfl : k = ks.length := by omega
      have EN := Lib.hid (DN.out _ _ ST.out)
      clear c0 hR
      gi_wp2
      go_end0
      exact EN.out _

end Go.Proofs.Ytoohnkffclkmhaa.Tr
