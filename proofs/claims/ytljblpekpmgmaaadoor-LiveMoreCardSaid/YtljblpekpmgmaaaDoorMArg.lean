/-
  append of whatever list of elements of several cells, nil included, to a row of the call's own; a row without elements. No condition but that the sizes fit.
  The statement's own function within, on two lists of which the first one's numbers are all in the other.
  A rule among the arguments, and that a grammar's rules are fewer than what fills the form's reach. Condition: each list is within the form's reach.
-/
import Derived.Test.YtljblpekpmgmaaaDoorLiveKeep
import Derived.Test.YtljblpekpmgmaaaDoorGramOpen
import Derived.Test.YtljblpekpmgmaaaDoorRowKit
namespace Go.Proofs.YtljblpekpmgmaaaDoor.Lv
open Go.RowKit Go.Maps
open Go.Proofs.YtljblpekpmgmaaaDoor.Gr
set_option linter.unusedVariables false

/-- Whether it is among the first k. -/
def amid (x : Int) (B : List Int) (k : Nat) : Bool := decide (x ∈ B.take k)
theorem amid_zero (x : Int) (B : List Int) : amid x B 0 = false := by simp [amid]
theorem amid_hit {x : Int} {B : List Int} {k : Nat} (hk : k < B.length) (h : amid x B k = true ∨ x = B[k]) : amid x B (k + 1) = true := by
  unfold amid at *
  rw [List.take_succ_eq_append_getElem hk]
  simp only [decide_eq_true_eq] at *
  rcases h with h | h
  · exact List.mem_append_left _ h
  · exact List.mem_append_right _ (by simp [h])
theorem amid_miss {x : Int} {B : List Int} {k : Nat} (hk : k < B.length) (h : amid x B k = false) (h2 : x ≠ B[k]) : amid x B (k + 1) = false := by
  unfold amid at *
  rw [List.take_succ_eq_append_getElem hk]
  simp only [decide_eq_false_iff_not, List.mem_append, List.mem_singleton, not_or] at *
  exact ⟨h, h2⟩
theorem amid_end {x : Int} {B : List Int} (h : x ∈ B) : amid x B B.length = true := by
  unfold amid
  rw [List.take_length, decide_eq_true_iff]
  exact h

set_option maxRecDepth 100000 in
set_option maxHeartbeats 4000000 in
theorem within_any (A B : List Int) (a b : Option Addr) (ca cb : Nat) (w : World) (hA : Sep.Reads a (ivs A) w) (hB : Sep.Reads b (ivs B) w) (hl : A.length ≤ 100000) (hm : B.length ≤ 100000) (hs : ∀ x ∈ A, x ∈ B) :
    Calls Tryd.prog 13 #[.slice a A.length ca, .slice b B.length cb] w (Is (.bool true) w) := by
  have RA := Lib.hid (fun w1 (b : Below w.heap.size w w1) => hA.below b (Nat.le_refl _))
  have RB := Lib.hid (fun w1 (b : Below w.heap.size w w1) => hB.below b (Nat.le_refl _))
  have HS := Lib.hid hs
  clear hA hB hs
  go_enter Tryd.func13, Tryd.ntmps13
  go_wp2
  go_loopw [5] (fun i wr => ∃ j : Nat, j ≤ A.length ∧ i = .int .i64 j ∧ Below w.heap.size w wr) (fun i _ => A.length - (intOf i).toNat)
  case atStart => exact ⟨0, Nat.zero_le _, rfl, .refl _ _⟩
  case round =>
    obtain ⟨j, hj, rfl, hW⟩ := hrel
    have HW := Lib.hid hW
    by_cases hlt : j < A.length
    · obtain ⟨b1, o1, rfl, hc⟩ := int_at (RA.out _ hW) hlt
      have HC := Lib.hid (fun w1 (b : Below wr.heap.size wr w1) => cell_later b hc)
      have HX := Lib.hid (HS.out _ (List.getElem_mem hlt))
      generalize A[j] = x at hc HC HX
      clear hW hc
      have HLT := Lib.hid hlt
      have R0 := Lib.hid (Below.refl wr.heap.size wr)
      have HW0 := HW
      obtain ⟨w0, hw0⟩ : ∃ w0, w0 = wr := ⟨wr, rfl⟩
      rw [← hw0] at HC HW0 R0
      have RB0 := Lib.hid (fun w1 (b : Below w0.heap.size w0 w1) => RB.out w1 (Gr.step HW0.out b))
      have W0 := Lib.hid hw0
      clear hw0
      go_wp2
      go_loopw [6, 7] (fun t i wt => ∃ k : Nat, k ≤ B.length ∧ i = .int .i64 k ∧ t = .bool (amid x B k) ∧ Below w0.heap.size w0 wt) (fun _ i _ => B.length - (intOf i).toNat)
      case atStart => exact ⟨0, Nat.zero_le _, rfl, by rw [amid_zero], by rw [W0.out]; exact .refl _ _⟩
      case round =>
        clear R0 W0 HW
        obtain ⟨k, hk, rfl, rfl, hW⟩ := hrel
        have HW := Lib.hid hW
        by_cases hlk : k < B.length
        · obtain ⟨b2, o2, rfl, hd⟩ := int_at (RB0.out _ hW) hlk
          have hc := HC.out _ hW
          have AH := Lib.hid (fun h => amid_hit (x := x) hlk h)
          have AM := Lib.hid (fun h1 h2 => amid_miss (x := x) hlk h1 h2)
          have hlt := HLT.out
          generalize B[k] = y at hd AH AM
          clear hW
          cases ht : amid x B k with
          | true =>
            have A2 := Lib.hid (AH.out (.inl ht))
            clear ht
            go_wp2
            go_quiet (fail)
            go_wp2
            go_roundw
            case rel => exact ⟨k + 1, by omega, by go_num, by rw [A2.out], HW.out.trans ⟨rfl, rfl, rfl, Nat.le_refl _, fun _ _ => rfl⟩⟩
            case measure => simp [intOf]; omega
          | false =>
            by_cases hxy : x = y
            · have A2 := Lib.hid (AH.out (.inr hxy))
              have hb : (x == y) = true := by simpa using hxy
              clear ht hxy
              go_wp2
              go_quiet (fail)
              go_wp2
              go_roundw
              case rel => exact ⟨k + 1, by omega, by go_num, by rw [A2.out], HW.out.trans ⟨rfl, rfl, rfl, Nat.le_refl _, fun _ _ => rfl⟩⟩
              case measure => simp [intOf]; omega
            · have A2 := Lib.hid (AM.out ht hxy)
              have hb : (x == y) = false := by simpa using hxy
              clear ht hxy
              go_wp2
              go_quiet (fail)
              go_wp2
              go_roundw
              case rel => exact ⟨k + 1, by omega, by go_num, by rw [A2.out], HW.out.trans ⟨rfl, rfl, rfl, Nat.le_refl _, fun _ _ => rfl⟩⟩
              case measure => simp [intOf]; omega
        · have hE : k = B.length := by omega
          subst hE
          have AE := Lib.hid (amid_end HX.out)
          rw [AE.out]
          clear hW
          go_wp2
          go_roundw
          case rel => exact ⟨j + 1, by have := HLT.out; omega, by go_num, Gr.step HW0.out HW.out⟩
          case measure => have := HLT.out; simp [intOf]; omega
    · clear hW
      go_wp2
      go_ret
      exact ⟨rfl, HW.out⟩

end Go.Proofs.YtljblpekpmgmaaaDoor.Lv

namespace Go.Proofs.YtljblpekpmgmaaaDoor.Lv
open Go.RowKit Go.Maps Go.ChangeShapes Go.WideShapes Go.Deep Go.Joins
open Go.Proofs.YtljblpekpmgmaaaDoor.Gr
set_option linter.unusedVariables false

/-- A rule that lies among the arguments. -/
structure RuleArg (r : Int × List Int) (ra : Option Addr) (rc : Nat) (W : World) : Prop where
  reads : Sep.Reads ra (ivs r.2) W
  len : r.2.length ≤ rc
  far : r.2.length ≤ 17592186044416
  left : Fits r.1
  right : ∀ x ∈ r.2, Fits x
theorem RuleArg.rv {r : Int × List Int} {ra : Option Addr} {rc : Nat} {W : World} (h : RuleArg r ra rc W) : RV r.2 (.slice ra r.2.length rc) W := ⟨ra, rc, rfl, h.reads, h.len, h.far⟩

section
variable {H : Type} {enc : TypeId × Value → H} {w : World}

/-- A rule. -/
theorem rule_of {r : Reach} {b0 : Nat} {v : Value} {d : DataW H} {p : List MemPlace} (hv : Value.okWide Tryd.prog w r b0 38 v) (h : DataW.Trod enc Tryd.prog w 0 (fun _ => true) true 38 v d p) (hz : Within Tryd.prog 38 d) :
    ∃ (r : Int × List Int) (ra : Option Addr) (rc : Nat), v = .agg #[.int .i64 r.1, .slice ra r.2.length rc] ∧ RuleArg r ra rc w := by
  obtain ⟨v0, v1, y0, y1, n, rfl, rfl, _, h0, h1⟩ := open_agg2 Tryd.underlying38 (by kernel_rfl) (by kernel_rfl) hv h
  obtain ⟨k, hk, _, hw⟩ := DataW.trod_int Tryd.underlying3 h0
  obtain ⟨ra, rc, L, rfl, r1, l1, m1, s1⟩ := ints_of h1 (within_field hz Tryd.underlying38 (j := 1) (t' := 36) rfl rfl)
  simp at hk
  subst hk
  exact ⟨(k, L), ra, rc, rfl, ⟨r1, l1, Nat.le_trans l1 m1, fits_of hw, s1⟩⟩

/-- A list of rules is shorter than what fills the reach. -/
theorem rules_lt {fuel : Nat} {a : Option Addr} {n c : Nat} {x : DataW H × List MemPlace} (h : DataW.trod enc Tryd.prog w 0 (fun _ => true) true fuel 23 [.slice a n c] = some x) (hz : ∀ m ∈ x.1.weights Tryd.prog 23, m ≤ reachBytes) : n < 4398046511104 := by
  rcases open_slice_pairs Tryd.underlying23 Tryd.underlying38 (by kernel_rfl) rfl rfl (by kernel_rfl) (by kernel_rfl) h with ⟨hcs, _⟩ | ⟨a', len, cap, m, n', V0, V1, D0, D1, P0, P1, hcs, _, hl, hm, hmm, rfl, hi⟩
  · simp at hcs
    obtain ⟨rfl, rfl, rfl⟩ := hcs
    omega
  · simp at hcs
    obtain ⟨rfl, rfl, rfl⟩ := hcs
    simp only [if_true] at hmm
    subst hmm
    have hcap := hz (((List.range n).length + (List.range (m - n)).length) * 32) (by
      simp only [DataW.weights, Tryd.underlying23, bytes_rule, List.mem_cons]
      left
      simp)
    have := reachBytes_lt
    simp at hcap
    omega
theorem gram_lt {r : Reach} {b0 : Nat} {sh : Sh} {G : Gram} {ts : List TypeId} {ds : List (DataW H)} {j : Nat} {d : DataW H} {p : List MemPlace} (hv : Value.okWide Tryd.prog w r b0 25 (gv sh G)) (h : DataW.Trod enc Tryd.prog w 0 (fun _ => true) true 25 (gv sh G) d p)
    (hz : (DataW.weightsEach Tryd.prog ts ds).all (· ≤ reachBytes) = true) (ht : ts[j]? = some 25) (hd : ds[j]? = some d) : G.rules.length < 4398046511104 := by
  obtain ⟨v0, v1, v2, v3, y0, y1, y2, y3, n, e, rfl, _, h0, h1, h2, h3⟩ := open_agg4 Tryd.underlying25 (by kernel_rfl) (by kernel_rfl) hv h
  simp only [Value.agg.injEq, Array.mk.injEq, List.cons.injEq, and_true] at e
  obtain ⟨_, _, rfl, _⟩ := e
  refine rules_lt h2 fun m hm => ?_
  have h4 : m ∈ DataW.weights Tryd.prog 25 (.agg [y0.1, y1.1, y2.1, y3.1]) := by
    simp only [DataW.weights, Tryd.underlying25]
    exact DataW.weights_mem_each (j := 2) rfl rfl m hm
  have := List.all_eq_true.1 hz m (DataW.weights_mem_each ht hd m h4)
  simpa using this
end

end Go.Proofs.YtljblpekpmgmaaaDoor.Lv

namespace Go.Proofs.YtljblpekpmgmaaaDoor.Rw
open Go.RowKit Go.Maps
set_option linter.unusedVariables false

/-- append of whatever list of elements of several cells, nil included, to a row of the call's own. -/
theorem run_append_lie {P : Program} (w : World) (t ty : TypeId) (base : Nat) (e : TypeId) (i : TypeInfo) (z : Value) (size bytes : Nat) (ht : P.underlying t = some (.slice e)) (hi : P.info? e = some i) (hz : i.zero = some z)
    (hsize : i.size = size) (hby : i.bytes = bytes) (hzs : z.cells.size = size) (hpos : 0 < size) (v : Value) (n : Nat) (xs : List Value) (hown : w.ownsRow base e size v n xs)
    (a : Option Addr) (m c : Nat) (news : List Value) (hl : news.length = m * size) (hr : ∀ ad, a = some ad → ∀ j u, news[j]? = some u → w.cell? (ad.add j) = some u) (hn : a = none → m = 0) (h1 : ∀ u ∈ news, u.oneCell' = true)
    (h63 : n + m ≤ maxLen) (hbytes : (n + m) * bytes ≤ 140737488355328) (hbase : base ≤ w.heap.size) :
    ∃ v' w', (Builtin.append_ #[t, t] ty #[v, .slice a m c]).run P w = .ok v' w' ∧ w'.ownsRow base e size v' (n + m) (xs ++ news) ∧ w.grownBy w' v.ownBlock ∧ (v'.ownBlock = v.ownBlock ∨ v'.ownBlock = some w.heap.size) := by
  cases a with
  | some ad =>
    obtain ⟨v', w', h2, h3, h4, _, h5⟩ := run_append_own_at (P := P) w base t ty e i z size bytes ht hi hz hsize hby hzs hpos v n xs hown ad m c news hl (hr ad rfl) h1 h63 hbytes hbase
    exact ⟨v', w', h2, h3, h4, h5⟩
  | none =>
    obtain rfl := hn rfl
    have h0 : news = [] := List.eq_nil_of_length_eq_zero (by simpa using hl)
    subst h0
    refine ⟨v, w, ?_, by simpa using hown, ⟨rfl, rfl, rfl, Nat.le_refl _, fun _ _ _ => rfl⟩, .inl rfl⟩
    rcases hown.2 with ⟨rfl, rfl⟩ | ⟨g, cap, cur, rfl, hbg, hg, hnc, hcm, hcs, htake⟩
    · simp [Builtin.append_, run_underlying ht, sizeOf, typeInfo, hi, Builtin.lenOf, Builtin.firstCells]
    · simp [Builtin.append_, run_underlying ht, sizeOf, typeInfo, hi, Builtin.lenOf, Builtin.firstCells, loadCells, storeCells, hnc]

theorem wp_append_lie {P : Program} (w : World) {o : Oper} {a : Act} {K : Act → World → Prop} {Q : Exit → Act → World → Prop} (s x : Operand) (t : TypeId)
    (ho : o.op = .call { callee := .builtin .append, args := #[s, x], argTypes := #[t, t] })
    (base : Nat) (e : TypeId) (i : TypeInfo) (z : Value) (size bytes : Nat) (ht : P.underlying t = some (.slice e)) (hi : P.info? e = some i) (hz : i.zero = some z)
    (hsize : i.size = size) (hby : i.bytes = bytes) (hzs : z.cells.size = size) (hpos : 0 < size) (v : Value) (n : Nat) (xs : List Value) (hs : a.eval s = v) (hown : w.ownsRow base e size v n xs)
    (ad : Option Addr) (m c : Nat) (news : List Value) (hx : a.eval x = .slice ad m c) (hl : news.length = m * size) (hr : ∀ p, ad = some p → ∀ j u, news[j]? = some u → w.cell? (p.add j) = some u) (hn : ad = none → m = 0) (h1 : ∀ u ∈ news, u.oneCell' = true)
    (h63 : n + m ≤ maxLen) (hbytes : (n + m) * bytes ≤ 140737488355328) (hbase : base ≤ w.heap.size)
    (h : ∀ v' w', w'.ownsRow base e size v' (n + m) (xs ++ news) → w.grownBy w' v.ownBlock → (v'.ownBlock = v.ownBlock ∨ v'.ownBlock = some w.heap.size) → K (a.put o.dst v') w') : o.wp P a w K Q := by
  obtain ⟨v', w', hr, h2, h3, h4⟩ := run_append_lie (P := P) w t o.type base e i z size bytes ht hi hz hsize hby hzs hpos v n xs hown ad m c news hl hr hn h1 h63 hbytes hbase
  unfold Oper.wp execOp
  simp only [ho, resolve, invoke, builtin, Sem.run_bind, Sem.run_pure, Result.andThen_ok, List.map_toArray, List.map_cons, List.map_nil, hs, hx, hr]
  exact h v' w' h2 h3 h4

theorem step_append_lie {P : Program} (w : World) {ops : Array Oper} {o : Oper} {a : Act} {K : Act → World → Prop} {Q : Exit → Act → World → Prop} {E : Prop} (hgd : o.guard = none) (s x : Operand) (t : TypeId)
    (ho : o.op = .call { callee := .builtin .append, args := #[s, x], argTypes := #[t, t] })
    (base : Nat) (e : TypeId) (i : TypeInfo) (z : Value) (size bytes : Nat) (ht : P.underlying t = some (.slice e)) (hi : P.info? e = some i) (hz : i.zero = some z)
    (hsize : i.size = size) (hby : i.bytes = bytes) (hzs : z.cells.size = size) (hpos : 0 < size) (v : Value) (n : Nat) (xs : List Value) (hs : a.eval s = v) (hown : w.ownsRow base e size v n xs)
    (ad : Option Addr) (m c : Nat) (news : List Value) (hx : a.eval x = .slice ad m c) (hl : news.length = m * size) (hr : ∀ p, ad = some p → ∀ j u, news[j]? = some u → w.cell? (p.add j) = some u) (hn : ad = none → m = 0) (h1 : ∀ u ∈ news, u.oneCell' = true)
    (h63 : n + m ≤ maxLen) (hbytes : (n + m) * bytes ≤ 140737488355328) (hbase : base ≤ w.heap.size)
    (h : ∀ v' w', w'.ownsRow base e size v' (n + m) (xs ++ news) → w.grownBy w' v.ownBlock → (v'.ownBlock = v.ownBlock ∨ v'.ownBlock = some w.heap.size) → K (a.put o.dst v') w') :
    if Region.wanted o (yielded ops a.tmps) = true then Oper.wp P o a w K Q else E := by
  have hw : Region.wanted o (yielded ops a.tmps) = true := by simp [Region.wanted, hgd]
  rw [if_pos hw]
  exact wp_append_lie w s x t ho base e i z size bytes ht hi hz hsize hby hzs hpos v n xs hs hown ad m c news hx hl hr hn h1 h63 hbytes hbase h

/-- A row without elements. -/
theorem row_none {w : World} {base q size : Nat} {e : TypeId} (hq : w.heap[q]? = some (.cells #[] e (0, 0))) (hb : base ≤ q) : w.ownsRow base e size (.slice (some ⟨q, 0, none⟩) 0 0) 0 [] :=
  ⟨by simp, .inr ⟨q, 0, #[], rfl, hb, hq, Nat.le_refl _, by unfold maxLen; omega, by simp, by simp⟩⟩

end Go.Proofs.YtljblpekpmgmaaaDoor.Rw
