/-
  Package live: liveRules: the rules that hold nothing dead, in a row of the call's own; their right sides are the grammar's. Condition: the set is full, the grammar's sizes are within bounds.
-/
import Derived.Test.YtljblpekpmgmaaaGreatDoorLiveTell
import Derived.Test.YtljblpekpmgmaaaGreatDoorRowKit
namespace Go.Proofs.YtljblpekpmgmaaaGreatDoor.Lv
open Go.RowKit Go.Maps
open Go.Proofs.YtljblpekpmgmaaaGreatDoor.Gr
open Go.Proofs.YtljblpekpmgmaaaGreatDoor.Rw (gc gc_length two_at info_rule2 rule2_one wpList_append_rows Bk row_shape)
open Go.Proofs.YtljblpekpmgmaaaGreatDoor.Bt (SetAt SetV has Keeps Upto Tab els)
set_option linter.unusedVariables false

/-- A right side that lies where it lay at the beginning. -/
def RV (l : List Int) (v : Value) (W : World) : Prop := ∃ ra rc, v = .slice ra l.length rc ∧ Sep.Reads ra (ivs l) W ∧ l.length ≤ rc ∧ l.length ≤ 17592186044416
/-- Rules in a row of the call's own, whose right sides are older. -/
def GShare (W : World) (base : Nat) (X : List (Int × List Int)) (v : Value) (w : World) : Prop :=
  ∃ L : List ((Int × List Int) × Value), L.map Prod.fst = X ∧ w.ownsRow base 39 2 v L.length (L.flatMap gc) ∧ ∀ x ∈ L, RV x.1.2 x.2 W

theorem GShare.nil (W : World) (base : Nat) (w : World) : GShare W base [] (.slice none 0 0) w := ⟨[], rfl, World.ownsRow_nil _ _ _ _, fun x hx => by cases hx⟩
theorem GShare.at_ {W : World} {base : Nat} {X : List (Int × List Int)} {v : Value} {w w' : World} (h : GShare W base X v w) (hb : ∀ g, v.ownBlock = some g → w'.heap[g]? = w.heap[g]?) : GShare W base X v w' := by
  obtain ⟨L, h1, h2, h3⟩ := h
  exact ⟨L, h1, Sep.ownsRow_at h2 hb, h3⟩
theorem GShare.went {W : World} {base : Nat} {X : List (Int × List Int)} {v : Value} {w w' : World} (h : GShare W base X v w) (hb : Below w.heap.size w w') : GShare W base X v w' :=
  h.at_ fun g hg => by obtain ⟨L, h1, h2, h3⟩ := h; exact hb.block g (h2.lt g hg).2
theorem GShare.snoc {W : World} {base : Nat} {L : List ((Int × List Int) × Value)} {v' : Value} {d : Int × List Int} {nv : Value} {w' : World} (hL : ∀ x ∈ L, RV x.1.2 x.2 W) (hN : RV d.2 nv W)
    (h : w'.ownsRow base 39 2 v' (L.length + 1) (L.flatMap gc ++ gc (d, nv))) : GShare W base (L.map Prod.fst ++ [d]) v' w' := by
  refine ⟨L ++ [(d, nv)], by simp, ?_, fun x hx => ?_⟩
  · rw [List.length_append, List.flatMap_append]
    simpa using h
  · rcases List.mem_append.1 hx with h1 | h1
    · exact hL x h1
    · rw [List.mem_singleton] at h1
      subst h1
      exact hN
theorem GShare.len {W : World} {base : Nat} {X : List (Int × List Int)} {v : Value} {w : World} (h : GShare W base X v w) : ∃ a c, v = .slice a X.length c ∧ X.length ≤ c := by
  obtain ⟨L, rfl, h2, h3⟩ := h
  rcases h2.2 with ⟨rfl, h0⟩ | ⟨g, cap, cur, rfl, _, _, h5, _⟩
  · exact ⟨none, 0, by rw [List.length_map, h0], by rw [List.length_map, h0]; exact Nat.le_refl _⟩
  · exact ⟨_, cap, by rw [List.length_map], by rw [List.length_map]; exact h5⟩
/-- They read as a grammar's rules. -/
theorem GShare.rules {W : World} {base : Nat} {X : List (Int × List Int)} {a : Option Addr} {c : Nat} {w : World} (h : GShare W base X (.slice a X.length c) w) (hb : Below W.heap.size W w) : RulesAt a X w := by
  obtain ⟨L, rfl, h2, h3⟩ := h
  intro i hi
  have hi' : i < L.length := by simpa using hi
  have hm := List.getElem_mem hi'
  rcases h2.2 with ⟨_, h0⟩ | ⟨g, cap, cur, he, _⟩
  · omega
  · simp only [Value.slice.injEq] at he
    obtain ⟨rfl, _, _⟩ := he
    have hc := World.ownsRow.cells h2 (g := g) rfl
    obtain ⟨ra, rc, hv, hr, hl1, hl2⟩ := h3 _ hm
    refine ⟨g, 0, ra, rc, rfl, ?_, ?_, ?_, ?_, ?_⟩
    · rw [List.getElem_map]
      have := hc (i * 2 + 0) _ (two_at gc gc_length L i hi' 0 (by omega))
      rw [WideShapes.add_plain] at this
      simpa using this
    · rw [List.getElem_map, ← hv]
      have := hc (i * 2 + 1) _ (two_at gc gc_length L i hi' 1 (by omega))
      rw [WideShapes.add_plain] at this
      simpa using this
    · rw [List.getElem_map]
      exact Sep.Reads.below hr hb (Nat.le_refl _)
    · rw [List.getElem_map]
      exact hl1
    · rw [List.getElem_map]
      exact hl2

theorem fine_any {G : Gram} {B : Nat → Bool} (hf : Full (Prod G) B) (r : Int × List Int) : Fine G r ↔ r.2.any (deadB G B) = false := by
  unfold Fine
  rw [List.any_eq_false]
  constructor
  · intro h x hx
    unfold deadB
    cases hn : nonB G x with
    | false => simp
    | true => simp [(hf x).2 (h x hx hn)]
  · intro h x hx hn
    have := h x hx
    unfold deadB at this
    rw [hn] at this
    exact (hf x).1 (by simpa using this)

/-- The rules that are kept come back; nothing that was there is written. -/
def KeptL (G : Gram) (W0 w : World) (e : Ending) (w' : World) : Prop := ∃ v, e = .returned v ∧ GShare W0 (w.heap.size + 1) (keepR G) v w' ∧ Below w.heap.size w w'
def KLoop (W0 W : World) (h : Sh) (G : Gram) (v i : Value) (w : World) : Prop :=
  ∃ j : Nat, j ≤ G.rules.length ∧ i = .int .i64 j ∧ GShare W0 (W.heap.size + 1) (keepTo G j) v w ∧ Bx W h G w
theorem keepTo_le (G : Gram) (k : Nat) : (keepTo G k).length ≤ k := by
  unfold keepTo
  exact Nat.le_trans (List.length_filter_le _ _) (by rw [List.length_take]; omega)

set_option maxRecDepth 100000 in
set_option maxHeartbeats 8000000 in
theorem liveRules_any (h : Sh) (G : Gram) (p d n : Nat) (B : Nat → Bool) (W0 w : World) (k : GAt h G W0) (hb0 : Below W0.heap.size W0 w) (hS : SetAt p d n B w) (hr : G.rules.length ≤ 300) (hf : Full (Prod G) B) :
    Calls Tryz.prog 26 #[gv h G, .pointer (some ⟨p, 0, none⟩)] w (KeptL G W0 w) := by
  obtain ⟨i0, hii, hz0, hz1, hz2⟩ := info_parts info_rule2
  obtain ⟨a1, c1, a2, c2, a3, c3⟩ := h
  have hr1 := k.r1
  have X := Lib.hid (Bx.start ⟨a1, c1, a2, c2, a3, c3⟩ G w 25)
  have AD := Lib.hid (fun w1 (b : Below w.heap.size w w1) L a c ha hl hx => anyDead_any ⟨a1, c1, a2, c2, a3, c3⟩ G L a c p d n B w1 (k.went (Gr.step hb0 b)) (set_went hS b) ha hl hx)
  have B0 := Lib.hid hb0
  have RU := Lib.hid k.rules
  have OK := Lib.hid k.ok
  have FA := Lib.hid (fine_any hf)
  have S0 := Lib.hid (GShare.nil W0 (w.heap.size + 1) (w.alloc (.cells #[.slice a1 G.terms.length c1, .slice a2 G.nons.length c2, .slice a3 G.rules.length c3, .int .i64 G.start] 25)))
  have KE := Lib.hid (keepTo_end G)
  obtain ⟨x0, x1, x2, x3⟩ := X.out.box
  try dsimp only at x0 x1 x2 x3
  clear k hS hf hb0
  unfold gv
  dsimp only
  go_enter Tryz.func26, Tryz.ntmps26
  go_wp2
  clear x0 x1 x2 x3
  go_loopw [5, 11] (fun v i wr => KLoop W0 w ⟨a1, c1, a2, c2, a3, c3⟩ G v i wr) (fun _ i _ => G.rules.length - (intOf i).toNat)
  case atStart => exact ⟨0, Nat.zero_le _, rfl, S0.out, X.out⟩
  case round =>
    clear X S0
    obtain ⟨j, hj, rfl, hG, hX⟩ := hrel
    have X := Lib.hid hX
    have KL := Lib.hid (keepTo_le G j)
    obtain ⟨x0, x1, x2, x3⟩ := hX.box
    try dsimp only at x0 x1 x2 x3
    clear hX
    by_cases hlt : j < G.rules.length
    · obtain ⟨b, o, ra, rc, e, h1, h2, h3, h4, h5⟩ := RU.out j hlt
      try dsimp only at e
      subst e
      have HF := Lib.hid (fun x hx => (OK.out.right _ (List.getElem_mem hlt) x hx).2)
      have FF := Lib.hid (FA.out G.rules[j])
      have KH := Lib.hid (fun hx => keepTo_hit hlt hx)
      have KM := Lib.hid (fun hx => keepTo_miss hlt hx)
      replace h1 := cell_later (Gr.step B0.out X.out.below) h1
      replace h2 := cell_later (Gr.step B0.out X.out.below) h2
      generalize G.rules[j] = r at h1 h2 h3 h4 h5 HF FF KH KM
      have HV := Lib.hid (show RV r.2 (.slice ra r.2.length rc) W0 from ⟨ra, rc, rfl, h3, h4, h5⟩)
      have bx := boxed wr (.cells #[.int .i64 r.1, .slice ra r.2.length rc] 39)
      have AC := Lib.hid (AD.out (wr.alloc (.cells #[.int .i64 r.1, .slice ra r.2.length rc] 39)) (Gr.step X.out.below bx) r.2 ra rc (Sep.Reads.below h3 (Gr.step B0.out (Gr.step X.out.below bx)) (Nat.le_refl _)) h5 HF.out)
      have X1 := Lib.hid (X.out.went bx)
      have hw : w.heap.size < wr.heap.size := X.out.size
      have Q0 := Lib.hid (show (wr.alloc (.cells #[.int .i64 r.1, .slice ra r.2.length rc] 39)).cell? ⟨wr.heap.size, 0, none⟩ = some (.int .i64 r.1) from cell_new rfl rfl)
      have Q1 := Lib.hid (show (wr.alloc (.cells #[.int .i64 r.1, .slice ra r.2.length rc] 39)).cell? ⟨wr.heap.size, 1, none⟩ = some (.slice ra r.2.length rc) from cell_new rfl rfl)
      obtain ⟨L, hX, hO, hT⟩ := hG
      obtain ⟨av, cv, rfl⟩ := row_shape hO
      have OW := Lib.hid (Sep.ownsRow_at hO fun g hg => bx.block g (hO.lt g hg).2)
      have TW := Lib.hid hT
      have HXL := Lib.hid hX
      have hLl : L.length ≤ j := by
        have := congrArg List.length hX
        rw [List.length_map] at this
        have := KL.out
        omega
      clear h3 bx hT hX hO KL
      cases hd : r.2.any (deadB G B) with
      | true =>
        have K2 := Lib.hid (show GShare W0 (w.heap.size + 1) (keepTo G (j + 1)) (.slice av L.length cv) (wr.alloc (.cells #[.int .i64 r.1, .slice ra r.2.length rc] 39)) by
          rw [KM.out (fun hx => by rw [FF.out.1 hx] at hd; cases hd)]
          exact ⟨L, HXL.out, OW.out, TW.out⟩)
        rw [hd] at AC
        clear hd
        go_wp2_with (first
          | (go_at_call 56; refine AC.out.mono ?_; rintro e w3 ⟨rfl, hb⟩; have X3 := Lib.hid (X1.out.went hb); have K3 := Lib.hid (K2.out.went hb); clear hb)
          | (at_builtin; fail))
        go_roundw
        case rel => exact ⟨j + 1, by omega, by go_num, K3.out, X3.out⟩
        case measure => simp [intOf]; omega
      | false =>
        have KH2 := Lib.hid (KH.out (FF.out.2 hd))
        rw [hd] at AC
        have hrl : r.2.length ≤ 17592186044416 := h5
        clear hd h5
        go_wp2_with (first
          | (go_at_call 56; refine AC.out.mono ?_; rintro e w3 ⟨rfl, hb⟩; have X3 := Lib.hid (X1.out.went hb); have O3 := Lib.hid (Sep.ownsRow_at OW.out fun g hg => hb.block g (OW.out.lt g hg).2); have q0 := cell_later hb Q0.out; have q1 := cell_later hb Q1.out; have hs3 := X3.out.size; clear hb)
          | (at_builtin; refine wpList_append_rows _ rfl _ _ 23 rfl (w.heap.size + 1) 39 i0 (.agg #[.int .i64 0, .slice none 0 0]) 2 32 Tryz.underlying23 hii hz0 hz1 hz2 rfl (by decide) (.slice av L.length cv) L.length (L.flatMap gc) rfl (Sep.ownsRow_at O3.out fun g hg => (boxed _ _).block g (O3.out.lt g hg).2) (w.heap.size + 1) (.slice (some ⟨w3.heap.size, 0, none⟩) 1 1) 1 (gc (r, .slice ra r.2.length rc)) rfl (rule2_one (w.heap.size + 1) w3.heap.size (r, .slice ra r.2.length rc) w3 rfl (by omega)) (by simp [gc, Value.oneCell']) (by unfold maxLen; omega) (by omega) (by simp; omega) ?_; intro v4 w4 hown4 hg4 hloc4; have S4 := Lib.hid (GShare.snoc TW.out HV.out hown4); have X4 := Lib.hid ((X3.out.went (boxed _ _)).grown hg4 fun q hq => (O3.out.lt q hq).1); clear hown4 hg4 hloc4))
        go_roundw
        case rel => exact ⟨j + 1, by omega, by go_num, by rw [KH2.out, ← HXL.out]; exact S4.out, X4.out⟩
        case measure => simp [intOf]; omega
    · have hE : j = G.rules.length := by omega
      subst hE
      rw [KE.out] at hG
      have G2 := Lib.hid hG
      clear hG
      have hw : w.heap.size < wr.heap.size := X.out.size
      go_wp2
      go_ret
      exact ⟨_, rfl, G2.out, X.out.below⟩

end Go.Proofs.YtljblpekpmgmaaaGreatDoor.Lv
