/-
  Package arena: walk: the visits of a node and of all below it go to yield, in their order.
-/
import Derived.Test.YtoohnkffclkmhaaArenaDesc
import Derived.Test.YtoohnkffclkmhaaArenaMake
import Derived.Sort.LoopGhostIn
import Derived.RegionIn
import Derived.BigRegionIn
namespace Go.Proofs.Ytoohnkffclkmhaa.Tr
open Go.RowKit Go.Maps Go.Shelf
open Go.Proofs.Ytoohnkffclkmhaa.Sep
open Go.Proofs.Ytoohnkffclkmhaa.Rg
open Go.Proofs.Ytoohnkffclkmhaa.Rw (Bk)
open Go.Proofs.Ytoohnkffclkmhaa.Gr (cell_later boxed drawn Is bool_of int_of ivs iv)
attribute [local go_sem] Oper.semAt_some
set_option linter.unusedVariables false
set_option linter.unusedSimpArgs false

/-! ### A tree, or none -/

def TrO (pv : Value) (S K : Nat → Prop) (L : List Nv) (w : World) : Prop :=
  (pv = .pointer none ∧ L = [] ∧ (∀ k, ¬ S k) ∧ ∀ k, ¬ K k) ∨ ∃ p v, pv = .pointer (some ⟨p, 0, none⟩) ∧ TrM p S K L v w
section
variable {pv : Value} {S K F : Nat → Prop} {L : List Nv} {w w' : World}
theorem TrO.fr (h : TrO pv S K L w) (hf : Fr F w w') (hS : Off F S) (hK : Off F K) : TrO pv S K L w' := by
  rcases h with h | ⟨p, v, e, h⟩
  · exact .inl h
  · exact .inr ⟨p, v, e, h.fr hf hS hK⟩
theorem TrO.went (h : TrO pv S K L w) (hb : Below w.heap.size w w') : TrO pv S K L w' := h.fr (F := fun _ => False) (.of_below hb) (fun _ h => h.elim) fun _ h => h.elim
theorem TrO.inn (h : TrO pv S K L w) : Inn S w ∧ Inn K w := by
  rcases h with ⟨_, _, h1, h2⟩ | ⟨p, v, e, h⟩
  · exact ⟨fun k hk => absurd hk (h1 k), fun k hk => absurd hk (h2 k)⟩
  · exact ⟨h.inn, h.kin⟩
theorem TrO.ptr (h : TrO pv S K L w) : ∃ a, pv = .pointer a := by
  rcases h with ⟨e, _⟩ | ⟨p, v, e, _⟩
  · exact ⟨_, e⟩
  · exact ⟨_, e⟩
theorem TrO.few (h : TrO pv S K L w) : L.length ≤ 1000 := by
  rcases h with ⟨_, e, _⟩ | ⟨p, v, _, h⟩
  · rw [e]
    exact Nat.zero_le _
  · exact h.few
theorem has_o (h : TrO pv S K L w) (i : Int) : Calls Try.prog 22 #[pv, .int .i64 i] w (Is (.bool (inP (L.map Prod.fst) i)) w) := by
  rcases h with ⟨rfl, rfl, _⟩ | ⟨p, v, rfl, h⟩
  · have e : inP (([] : List Nv).map Prod.fst) i = false := by unfold inP; rw [decide_eq_false_iff_not]; simp
    rw [e]
    exact has_nil i w
  · exact has_any ⟨L, v, rfl, h⟩ i
end

def nv0 : Nv := (leafD 0 0, .slice none 0 0)
def visI (T : List Nd) (i : Int) : List (Nat × Bool) := if 0 ≤ i then vis T i.toNat else []
def encW (L : List Nv) (i : Int) : Nat → Array Value := fun k => #[ndv (L.getD ((visI (L.map Prod.fst) i).getD k (0, false)).1 nv0), .bool ((visI (L.map Prod.fst) i).getD k (0, false)).2]
def oW (S K : Nat → Prop) (bt bi : Nat) : Nat → Prop := fun k => S k ∨ K k ∨ k = bt ∨ k = bi
/-- What one place of the list stands for. -/
def visE (T : List Nd) (x : Int × Bool) : List (Nat × Bool) := if x.2 then [(x.1.toNat, true)] else vis T x.1.toNat
def rest (T : List Nd) (stk : List (Int × Bool)) : List (Nat × Bool) := stk.reverse.flatMap (visE T)
theorem rest_snoc (T : List Nd) (stk : List (Int × Bool)) (x : Int × Bool) : rest T (stk ++ [x]) = visE T x ++ rest T stk := by simp [rest]
theorem visI_out {T : List Nd} {i : Int} (h : inP T i = false) : visI T i = [] := by
  unfold visI
  split
  · rename_i h0
    refine vis_none ?_
    unfold inP at h
    rw [decide_eq_false_iff_not] at h
    omega
  · rfl
theorem visI_in {T : List Nd} {j : Nat} : visI T (j : Int) = vis T j := by simp [visI]
/-- The place on top goes; behind an inner node that is entered the way through it comes. -/
theorem visE_one {T : List Nd} {j : Nat} {n : Nd} {c : Bool} (hn : T[j]? = some n) (h : (n.inner && !c) = false) : visE T ((j : Int), c) = [(j, c)] := by
  unfold visE
  cases c with
  | true => simp
  | false => simp at h; simpa using vis_leaf hn h
theorem visE_in {T : List Nd} (hw : Wf T) {j : Nat} {n : Nd} {c : Bool} (hn : T[j]? = some n) (h : (n.inner && !c) = true) (stk : List (Int × Bool)) : visE T ((j : Int), c) ++ rest T stk = (j, c) :: rest T (stkL (stk ++ [((j : Int), true)]) n.kids n.kids.length) := by
  simp only [Bool.and_eq_true, Bool.not_eq_true'] at h
  obtain ⟨h1, rfl⟩ := h
  rw [stkL_full]
  unfold visE rest
  simp only [Bool.false_eq_true, if_false, Int.toNat_natCast]
  rw [vis_inner hw hn h1]
  have e : (n.kids.map fun y => (y, false)).flatMap (visE T) = n.kids.flatMap fun k => vis T k.toNat := by
    rw [List.flatMap_map]
    exact flatMap_same fun k _ => by simp [visE]
  simp [visE] at e ⊢
  have e2 : n.kids.flatMap (fun k => vis T k.toNat) = (n.kids.map fun y => (y, false)).flatMap (visE T) := by
    rw [List.flatMap_map]
    exact flatMap_same fun k _ => by simp [visE]
  have e3 : ∀ M : List Int, (M.map fun y => (y, false)).flatMap (visE T) = M.flatMap fun k => vis T k.toNat := fun M => by
    rw [List.flatMap_map]
    exact flatMap_same fun k _ => by simp [visE]
  first | rfl | (congr 1; simp [e3, visE]) | simp [e3, visE]

/-- Where walk stands: k visits have gone to yield; stk: what is to come. -/
structure WSt (J : Nat → (Nat → Prop) → World → Prop) (S O : Nat → Prop) (W : World) (L : List Nv) (V : List (Nat × Bool)) (k : Nat) (S1 : Nat → Prop) (v : Value) (stk : List (Int × Bool)) (wr : World) : Prop where
  st : St J S O W k S1 wr
  row : wr.ownsRow W.heap.size 84 2 v stk.length (stk.flatMap vc)
  free : ∀ b, v.ownBlock = some b → ¬ S1 b
  rest : V.drop k = rest (L.map Prod.fst) stk
  ins : ∀ x ∈ stk, ∃ j : Nat, x.1 = (j : Int) ∧ j < L.length

section
variable {J : Nat → (Nat → Prop) → World → Prop} {S O S1 : Nat → Prop} {W wr w' : World} {L : List Nv} {V : List (Nat × Bool)} {k : Nat} {v : Value} {stk : List (Int × Bool)}
theorem WSt.went (h : WSt J S O W L V k S1 v stk wr) (hJ : Holds W.heap.size J) (hb : Below wr.heap.size wr w') : WSt J S O W L V k S1 v stk w' :=
  ⟨h.st.went hJ hb, ownsRow_at h.row fun g hg => hb.block g (h.row.lt g hg).2, h.free, h.rest, h.ins⟩
/-- How long the list may be. -/
theorem rest_len (T : List Nd) (stk : List (Int × Bool)) (h : ∀ x ∈ stk, ∃ j : Nat, x.1 = (j : Int) ∧ j < T.length) : stk.length ≤ (rest T stk).length := by
  unfold rest
  have e0 : stk.length = stk.reverse.length := by simp
  rw [e0]
  clear e0
  have h' : ∀ x ∈ stk.reverse, ∃ j : Nat, x.1 = (j : Int) ∧ j < T.length := fun x hx => h x (List.mem_reverse.1 hx)
  generalize stk.reverse = M at h'
  induction M with
  | nil => simp
  | cons x r ih =>
    have h1 : 1 ≤ (visE T x).length := by
      obtain ⟨j, e, hj⟩ := h' x (List.mem_cons_self ..)
      unfold visE
      split
      · simp
      · rw [e, Int.toNat_natCast]
        cases hin : T[j].inner with
        | false => rw [vis_leaf (List.getElem?_eq_getElem hj) hin]; simp
        | true =>
          unfold vis visF
          simp [hj, hin]
    have := ih fun y hy => h' y (List.mem_cons_of_mem _ hy)
    rw [List.flatMap_cons, List.length_append, List.length_cons]
    omega
theorem WSt.len (h : WSt J S O W L V k S1 v stk wr) : stk.length ≤ V.length - k := by
  have := rest_len (L.map Prod.fst) stk (by simpa using h.ins)
  rw [← h.rest, List.length_drop] at this
  exact this
end

theorem row_cap2 {w : World} {base n c size : Nat} {e : TypeId} {a : Option Addr} {xs : List Value} (h : w.ownsRow base e size (.slice a n c) n xs) : n ≤ c := by
  rcases h.2 with ⟨h1, _⟩ | ⟨g, cap, cur, h1, _, _, h3, _⟩
  · simp only [Value.slice.injEq] at h1
    omega
  · simp only [Value.slice.injEq] at h1
    omega

set_option maxHeartbeats 8000000 in
set_option maxRecDepth 100000 in
theorem walk_yields (pv : Value) (S0 K : Nat → Prop) (L : List Nv) (i : Int) (bt bi : Nat) (w0 : World) (h : TrO pv S0 K L w0) (hw : Wf (L.map Prod.fst)) (hfi : Gr.Fits i)
    (h1 : w0.heap[bt]? = some (.cells #[pv] 23 (0, 0))) (h2 : w0.heap[bi]? = some (.cells #[.int .i64 i] 3 (0, 0))) (hN : (visI (L.map Prod.fst) i).length ≤ 1000000) :
    Rg.Yields Try.prog 44 #[.pointer (some ⟨bt, 0, none⟩), .pointer (some ⟨bi, 0, none⟩)] (encW L i) (visI (L.map Prod.fst) i).length (oW S0 K bt bi) w0 := by
  intro l J Jx S X W hF hO hin hiX hJ hJx hY h0
  obtain ⟨i0, hj, hz0, hz1, hz2⟩ := info_parts info_visit
  have hOi : Inn (oW S0 K bt bi) w0 := by
    rintro k (hk | hk | rfl | rfl)
    · exact h.inn.1 k hk
    · exact h.inn.2 k hk
    · exact (Array.getElem?_eq_some_iff.1 h1).1
    · exact (Array.getElem?_eq_some_iff.1 h2).1
  have hOW := hOi.le hF.size
  obtain ⟨V, hV⟩ : ∃ V, V = visI (L.map Prod.fst) i := ⟨_, rfl⟩
  rw [← hV] at hN hY ⊢
  have RD := Lib.hid (show ∀ (J' : Nat → (Nat → Prop) → World → Prop) (k : Nat) (S1 : Nat → Prop) (W1 : World), St J' S (oW S0 K bt bi) W k S1 W1 → W1.cell? ⟨bt, 0, none⟩ = some pv ∧ W1.cell? ⟨bi, 0, none⟩ = some (.int .i64 i) ∧ TrO pv S0 K L W1 from
    fun J' k S1 W1 st => by
      have hh : ∀ x, oW S0 K bt bi x → W1.heap[x]? = w0.heap[x]? := fun x hx => (st.same hOW hO hx).trans (hF.block x (hOi x hx) fun hs => hO x hs hx)
      refine ⟨cells_of (cs := #[pv]) ((hh bt (.inr (.inr (.inl rfl)))).trans h1) (k := 0) (by simp), cells_of (cs := #[.int .i64 i]) ((hh bi (.inr (.inr (.inr rfl)))).trans h2) (k := 0) (by simp), ?_⟩
      exact h.fr (hF.trans st.fr (.refl _ _)) (fun x hs hx => hO x hs (.inl hx)) fun x hs hx => hO x hs (.inr (.inl hx)))
  have YD := Lib.hid (show ∀ (k j : Nat) (c : Bool) (hjl : j < L.length) (S1 : Nat → Prop) (W1 : World), V[k]? = some (j, c) → St J S (oW S0 K bt bi) W k S1 W1 → YieldAt Fence.wide 0 Try.prog l #[ndv L[j], .bool c] W1 (Said X J Jx k S1 W1) from
    fun k j c hjl S1 W1 hx st => by
      have h := hY k S1 W1 (List.getElem?_eq_some_iff.1 hx).1 st.j st.inn
      unfold encW at h
      have e1 : V.getD k (0, false) = (j, c) := by rw [List.getD_eq_getElem?_getD, hx]; rfl
      rw [← hV, e1] at h
      have e2 : L.getD j nv0 = L[j] := by rw [List.getD_eq_getElem?_getD, List.getElem?_eq_getElem hjl]; rfl
      dsimp only at h
      rw [e2] at h
      exact h)
  have S0' := Lib.hid (St.start (O := oW S0 K bt bi) h0 hin hO)
  have TH := Lib.hid (show ∀ (k : Nat) (S1 S' : Nat → Prop) (W1 W2 : World), St J S (oW S0 K bt bi) W k S1 W1 → Ext S' S1 W1 → Fr S1 W1 W2 → Inn S' W2 → J (k + 1) S' W2 → St J S (oW S0 K bt bi) W (k + 1) S' W2 from fun k S1 S' W1 W2 st he hf hi hj => st.then hOW he hf hi hj)
  have DN := Lib.hid (show ∀ (k : Nat) (S1 : Nat → Prop) (W1 : World), k = V.length → St J S (oW S0 K bt bi) W k S1 W1 → ∀ v, (∃ v', Ending.returned v = .returned v') ∧ ∃ S', Inn S' W1 ∧ ((Ext S' S W ∧ Fr S W W1 ∧ J V.length S' W1) ∨ (Ext S' (Or2 S X) W ∧ Fr (Or2 S X) W W1 ∧ ∃ k, k ≤ V.length ∧ Jx k S' W1)) from
    fun k S1 W1 e st v => ⟨⟨v, rfl⟩, S1, st.inn, .inl ⟨st.ext, st.fr, e ▸ st.j⟩⟩)
  have XN := Lib.hid (show ∀ (k : Nat) (x : Nat × Bool) (S1 S' : Nat → Prop) (W1 W2 : World), V[k]? = some x → St J S (oW S0 K bt bi) W k S1 W1 → Ext S' (Or2 S1 X) W1 → Fr (Or2 S1 X) W1 W2 → Inn S' W2 → Jx (k + 1) S' W2 → ∀ v, (∃ v', Ending.returned v = .returned v') ∧ ∃ S', Inn S' W2 ∧ ((Ext S' S W ∧ Fr S W W2 ∧ J V.length S' W2) ∨ (Ext S' (Or2 S X) W ∧ Fr (Or2 S X) W W2 ∧ ∃ k, k ≤ V.length ∧ Jx k S' W2)) from
    fun k x S1 S' W1 W2 hk st he hf hi hj v => by
      have s2 := st.stop he hf hi hj
      exact ⟨⟨v, rfl⟩, S', s2.inn, .inr ⟨s2.ext, s2.fr, k + 1, (List.getElem?_eq_some_iff.1 hk).1, hj⟩⟩)
  have HS := Lib.hid (fun W1 (t : TrO pv S0 K L W1) => has_o t i)
  have KW := Lib.hid (show ∀ b, K b → b < W.heap.size from fun b hb => hOW b (.inr (.inl hb)))
  have WW := Lib.hid (show ∀ (k : Nat) (S1 : Nat → Prop) (W1 W2 : World), St J S (oW S0 K bt bi) W k S1 W1 → Below W1.heap.size W1 W2 → St J S (oW S0 K bt bi) W k S1 W2 from fun k S1 W1 W2 st h => st.went hJ h)
  obtain ⟨c0, c1, t0⟩ := RD.out _ _ _ _ S0'.out
  obtain ⟨pa, rfl⟩ := h.ptr
  clear hY h0 hin hF hO h1 h2 hOi hOW h
  refine calls_up (n := 9) (o := none) ?_
  refine callsIn_of_wp Try.func44 rfl trivial ?_ rfl
  simp only [Try.ntmps44, List.size_toArray, List.length_cons, List.length_nil, Nat.reduceAdd, Nat.reduceSub, Array.replicate_succ, Array.replicate_zero, List.push_toArray, List.append_toArray, List.nil_append, List.cons_append]
  cases hi : inP (L.map Prod.fst) i
  case false =>
    rw [hi] at HS
    have hV0 : V = [] := by rw [hV, visI_out hi]
    have W1' := Lib.hid (show ∀ w1, Below W.heap.size W w1 → WSt J S (oW S0 K bt bi) W L V 0 S (.slice none 0 0) [] w1 from fun w1 hb => ⟨WW.out _ _ _ _ S0'.out hb, World.ownsRow_nil _ _ _ _, fun b e => by simp [Value.ownBlock] at e, by rw [hV0]; rfl, fun x hx => by cases hx⟩)
    clear hi
    gi_wp2_with (refine ⟨trivial, ?_⟩; gi_at_call 22; refine (calls_any (HS.out _ t0)).mono ?_; rintro e w1 ⟨rfl, hb⟩; have WS := Lib.hid (W1'.out _ hb); clear hb t0 c0 c1)
    gi_loopg [4] (V.length + 1) (fun g v wr => ∃ (k : Nat) (S1 : Nat → Prop) (stk : List (Int × Bool)), g = V.length + 1 - k ∧ k ≤ V.length ∧ WSt J S (oW S0 K bt bi) W L V k S1 v stk wr)
    case atStart => exact ⟨0, _, _, rfl, Nat.zero_le _, WS.out⟩
    case round =>
      clear WS
      obtain ⟨k, S1, stk, rfl, hk, hst⟩ := hrel
      have hlen := hst.len
      have hsh := Rw.row_shape hst.row
      have hn0 : stk.length = 0 := by rw [hV0] at hlen; simpa using hlen
      obtain rfl := List.eq_nil_of_length_eq_zero hn0
      obtain ⟨a, c, rfl⟩ := hsh
      have EN := Lib.hid (DN.out _ _ _ (by rw [hV0] at hk ⊢; simpa using hk) hst.st)
      clear hst hlen
      gi_wp2
      go_end0
      exact EN.out _
  case true =>
    obtain ⟨j, rfl, hjl⟩ := inP_iff.1 hi
    rw [hi] at HS
    rw [visI_in] at hV
    have hjl' : j < L.length := by simpa using hjl
    have W1' := Lib.hid (show ∀ (w1 w3 : World) (v : Value), Below W.heap.size W w1 → w3.ownsRow W.heap.size 84 2 v 1 ([] ++ vc ((j : Int), false)) → (w1.alloc (.cells #[.int .i64 (j : Int), .bool false] 84)).grownBy w3 (Value.slice none 0 0).ownBlock → WSt J S (oW S0 K bt bi) W L V 0 S v [((j : Int), false)] w3 from fun w1 w3 v hb hown hg => by
      have hb3 : Below W.heap.size W w3 := (hb.trans ((boxed w1 _).mono hb.size)).grown hg (by have := hb.size; rw [World.size_alloc]; omega) fun k e => by simp [Value.ownBlock] at e
      refine ⟨WW.out _ _ _ _ S0'.out hb3, hown, fun b e hS => ?_, ?_, ?_⟩
      · have := (hown.lt b e).1
        have := S0'.out.inn b hS
        omega
      · rw [hV]
        simp [rest, visE]
      · intro x hx
        rw [List.mem_singleton] at hx
        subst hx
        exact ⟨j, rfl, hjl'⟩)
    have ON := Lib.hid (show ∀ w1 : World, W.heap.size ≤ w1.heap.size → (w1.alloc (.cells #[.int .i64 (j : Int), .bool false] 84)).ownsRow W.heap.size 84 2 (.slice (some ⟨w1.heap.size, 0, none⟩) 1 1) 1 (vc ((j : Int), false)) from fun w1 hs =>
      World.ownsRow_lit w1 #[.int .i64 (j : Int), .bool false] 1 hs (by decide) (by simp))
    have VO := Lib.hid (vc_one ((j : Int), false))
    have CC := Lib.hid (fun w1 (hb : Below W.heap.size W w1) => (RD.out _ _ _ _ (WW.out _ _ _ _ S0'.out hb)).2.1)
    clear hi hjl
    gi_wp2_with (first
      | (refine ⟨trivial, ?_⟩; gi_at_call 22; refine (calls_any (HS.out _ t0)).mono ?_; rintro e w1 ⟨rfl, hb⟩; have HB := Lib.hid hb; clear c0 c1 t0; have c1 := CC.out _ hb; have hsz := hb.size; clear hb)
      | (gi_at_builtin; refine wpListIn_append_rows _ rfl _ _ 82 rfl W.heap.size 84 i0 (.agg #[.int .i64 0, .bool false]) 2 16 Try.underlying82 hj hz0 hz1 hz2 rfl (by decide) (.slice none 0 0) 0 [] rfl (World.ownsRow_nil _ _ _ _) W.heap.size (.slice (some ⟨w1.heap.size, 0, none⟩) 1 1) 1 (vc ((j : Int), false)) rfl (ON.out _ hsz) VO.out (by unfold maxLen; omega) (by omega) (by rw [World.size_alloc]; omega) ?_; intro v4 w4 hown4 hg4 hloc4; have WS := Lib.hid (W1'.out w1 w4 v4 HB.out hown4 hg4); obtain ⟨a4, c4, rfl⟩ := Rw.row_shape hown4; clear hown4 hg4 hloc4 c1 hsz))
    gi_loopg [4] (V.length + 1) (fun g v wr => ∃ (k : Nat) (S1 : Nat → Prop) (stk : List (Int × Bool)), g = V.length + 1 - k ∧ k ≤ V.length ∧ WSt J S (oW S0 K bt bi) W L V k S1 v stk wr)
    case atStart => exact ⟨0, _, _, rfl, Nat.zero_le _, WS.out⟩
    case round =>
      clear WS
      obtain ⟨k, S1, stk, rfl, hk, hst⟩ := hrel
      have hlen := hst.len
      have hsh := Rw.row_shape hst.row
      rcases List.eq_nil_or_concat stk with rfl | ⟨stk0, x, hcc⟩
      · obtain ⟨a, c, rfl⟩ := hsh
        have hkN : k = V.length := by
          have := hst.rest
          simp [rest] at this
          omega
        have EN := Lib.hid (DN.out _ _ _ hkN hst.st)
        clear hst hlen
        gi_wp2
        go_end0
        exact EN.out _
      · rw [List.concat_eq_append] at hcc
        subst hcc
        clear hsh
        obtain ⟨j, hxj, hjl⟩ := hst.ins x (by simp)
        obtain ⟨xi, c⟩ := x
        dsimp only at hxj
        subst hxj
        rw [List.length_append, List.length_singleton] at hlen
        have hrow := hst.row
        rw [List.length_append, List.length_singleton, List.flatMap_append, List.flatMap_singleton] at hrow
        obtain ⟨g, cp, rfl, hgb, hglt⟩ := World.ownsRow.form hrow (by omega)
        have hx0 : (stk0.flatMap vc).length = stk0.length * 2 := rows_len vc_len stk0
        have y0 : wr.cell? ⟨g, stk0.length * 2, none⟩ = some (.int .i64 (j : Int)) := by
          rw [hrow.cellAt _ (by omega), List.getElem?_append_right (by omega), hx0, Nat.sub_self]
          rfl
        have y1 : wr.cell? ⟨g, stk0.length * 2 + 1, none⟩ = some (.bool c) := by
          rw [hrow.cellAt _ (by omega), List.getElem?_append_right (by omega), hx0, show stk0.length * 2 + 1 - stk0.length * 2 = 1 by omega]
          rfl
        have hpop := ownsRow_pop hx0 hrow
        have hcap := row_cap2 hrow
        have hn : (L.map Prod.fst)[j]? = some L[j].1 := by rw [List.getElem?_map, List.getElem?_eq_getElem hjl]; rfl
        obtain ⟨_, _, ht⟩ := RD.out _ _ _ _ hst.st
        rcases ht with ⟨_, hL0, _⟩ | ⟨p, vT, hpe, hm⟩
        · rw [hL0] at hjl
          cases hjl
        injection hpe with hpe
        subst hpe
        obtain ⟨aT, cT, rfl⟩ := hm.shape
        have hkid := hm.kids L[j] (List.getElem_mem hjl)
        have hr := hst.rest
        rw [rest_snoc] at hr
        have hfree := hst.free
        have hins : ∀ x ∈ stk0, ∃ j : Nat, x.1 = (j : Int) ∧ j < L.length := fun x hx => hst.ins x (List.mem_append_left _ hx)
        have hfewL := hm.few
        have NX := Lib.hid (show ∀ (W1 : World), Below wr.heap.size wr W1 → W1.cell? ⟨bt, 0, none⟩ = some (.pointer (some ⟨p, 0, none⟩)) ∧ TrM p S0 K L (.slice aT L.length cT) W1 ∧ St J S (oW S0 K bt bi) W k S1 W1 from fun W1 hb =>
          ⟨(RD.out _ _ _ _ (WW.out _ _ _ _ hst.st hb)).1, hm.went hb, WW.out _ _ _ _ hst.st hb⟩)
        have PO := Lib.hid hpop
        have PR := Lib.hid (show ∀ y r, V.drop k = y :: r → V[k]? = some y ∧ V.drop (k + 1) = r ∧ k < V.length from fun y r e => by
          have hkl : k < V.length := by
            by_cases hk2 : k < V.length
            · exact hk2
            · rw [List.drop_eq_nil_of_le (by omega)] at e
              cases e
          rw [List.drop_eq_getElem_cons hkl] at e
          injection e with e1 e2
          exact ⟨by rw [List.getElem?_eq_getElem hkl, e1], e2, hkl⟩)
        have hm0 : stk0.length ≤ 1000000 := by omega
        obtain ⟨g1, c1, hv1, -, -, -, -, -, -, -⟩ := hm.at hjl
        injection hv1 with hv1 hv2 hv3
        subst hv1
        subst hv3
        clear hst hrow hgb hlen hpop hm hx0
        have hjT : (j : Int) < (L.length : Int) := by omega
        have A1 := boxed wr (.cells #[.int .i64 (j : Int), .bool c] 84)
        obtain ⟨z0, tm, st1⟩ := NX.out _ A1
        have z1 := tm.cell
        have z2 : (wr.alloc (.cells #[.int .i64 (j : Int), .bool c] 84)).cell? ⟨wr.heap.size, 0, none⟩ = some (.int .i64 (j : Int)) := (Bk.new wr _ _ _ rfl).cell (j := 0) rfl
        obtain ⟨g2, c2, hv1, n0, n1, n2, n3, n4, n5, -⟩ := tm.at hjl
        injection hv1 with hv1 hv2 hv3
        injection hv1 with hv1
        injection hv1 with hv1
        subst hv1
        clear hv2 hv3 tm st1
        generalize hx : L[j] = x at *
        obtain ⟨n, kv⟩ := x
        dsimp only at n0 n1 n2 n3 n4 n5 hn
        obtain ⟨a2, c3, hkv, -, -⟩ := hkid.at_
        dsimp only at hkv
        subst hkv
        have hm1 : (stk0.length : Int) + 1 - 1 = (stk0.length : Int) := by omega
        clear hv2
        gi_wp2
        have Q1 := Lib.hid (Bk.new wr #[.int .i64 (j : Int), .bool c] 84 _ rfl)
        have A1' := Lib.hid A1
        have sz1 := Lib.hid (show (wr.alloc (.cells #[.int .i64 (j : Int), .bool c] 84)).heap.size = wr.heap.size + 1 by simp)
        clear A1
        generalize wr.alloc (.cells #[.int .i64 (j : Int), .bool c] 84) = w2 at *
        have z2 := Q1.out.cell (j := 0) rfl
        have B3 := boxed w2 (.cells #[.int .i64 0, .int .i64 0, .int .i64 0, .slice none 0 0, .bool false, .bool false] 51)
        have z0' := cell_later B3 z0
        have z1' := cell_later B3 z1
        have z2' := cell_later B3 z2
        have n0' := cell_later B3 n0
        have n1' := cell_later B3 n1
        have n2' := cell_later B3 n2
        have n3' := cell_later B3 n3
        have n4' := cell_later B3 n4
        have n5' := cell_later B3 n5
        gi_region
        have B3' : Below w2.heap.size w2 (w2.alloc (.cells #[.int .i64 n.sym, .int .i64 n.leaf, .int .i64 n.rule, .slice a2 n.kids.length c3, .bool n.inner, .bool n.taken] 51)).drew := Gr.step (boxed _ _) (drawn _)
        have Q3 : Bk w2.heap.size #[.int .i64 n.sym, .int .i64 n.leaf, .int .i64 n.rule, .slice a2 n.kids.length c3, .bool n.inner, .bool n.taken] 51 (w2.alloc (.cells #[.int .i64 n.sym, .int .i64 n.leaf, .int .i64 n.rule, .slice a2 n.kids.length c3, .bool n.inner, .bool n.taken] 51)).drew := (Bk.new w2 _ _ _ rfl).went (drawn _)
        have Q13 := Q1.out.went B3'
        have B13 := Gr.step A1'.out B3'
        clear z0 z1 z2 n0 n1 n2 n3 n4 n5 z0' z1' z2' n0' n1' n2' n3' n4' n5' B3 B3' Q1 A1'
        generalize (w2.alloc (.cells #[.int .i64 n.sym, .int .i64 n.leaf, .int .i64 n.rule, .slice a2 n.kids.length c3, .bool n.inner, .bool n.taken] 51)).drew = w3 at *
        obtain ⟨-, -, st3⟩ := NX.out w3 B13
        have hVk : ∃ r, V.drop k = (j, c) :: r ∧ ((n.inner && !c) = false → r = rest (L.map Prod.fst) stk0) ∧ ((n.inner && !c) = true → r = rest (L.map Prod.fst) (stkL (stk0 ++ [((j : Int), true)]) n.kids n.kids.length)) := by
          cases hb : (n.inner && !c) with
          | false => exact ⟨_, by rw [hr, visE_one hn hb]; rfl, fun _ => rfl, (fun e => nomatch e)⟩
          | true => exact ⟨_, by rw [hr, visE_in hw hn hb], (fun e => nomatch e), fun _ => rfl⟩
        obtain ⟨r, hr2, hrA, hrB⟩ := hVk
        obtain ⟨hk1, hk2, hk3⟩ := PR.out _ _ hr2
        have hyd := YD.out k j c hjl S1 w3 hk1 st3
        rw [hx] at hyd
        unfold ndv at hyd
        obtain ⟨fn, tm, asg, bd, hy, hRd⟩ := hyd
        have ROW3 := Lib.hid (ownsRow_at PO.out (w' := w3) fun b e => B13.block b (PO.out.lt b e).2)
        have SI := Lib.hid (show ∀ b, S1 b → b < wr.heap.size from fun b hb => by
          have := NX.out wr (.refl _ _)
          exact this.2.2.inn b hb)
        -- what stands behind yield
        have AF := Lib.hid (show ∀ (S6 : Nat → Prop) (w4 : World), Inn S6 w4 → Ext S6 S1 w3 → Fr S1 w3 w4 → J (k + 1) S6 w4 → St J S (oW S0 K bt bi) W (k + 1) S6 w4 ∧ w4.ownsRow W.heap.size 84 2 (.slice (some ⟨g, 0, none⟩) stk0.length cp) stk0.length (stk0.flatMap vc) ∧ ¬ S6 g ∧
            w4.cell? ⟨wr.heap.size, 0, none⟩ = some (.int .i64 (j : Int)) ∧ w4.cell? ⟨wr.heap.size, 1, none⟩ = some (.bool c) ∧ Bk w2.heap.size #[.int .i64 n.sym, .int .i64 n.leaf, .int .i64 n.rule, .slice a2 n.kids.length c3, .bool n.inner, .bool n.taken] 51 w4 ∧ KidA K (n, .slice a2 n.kids.length c3) w4 from fun S6 w4 hi he hf hj4 => by
          have hg1 := ROW3.out.lt g rfl
          have hgS : ¬ S1 g := hfree g rfl
          have q := Q13.fr hf fun hs => by have := SI.out _ hs; omega
          refine ⟨TH.out _ _ _ _ _ st3 he hf hi hj4, ownsRow_at ROW3.out fun b e => hf.block b (ROW3.out.lt b e).2 fun hs => ?_, fun hs => (he g hs).elim hgS fun h => by omega, q.cell rfl, q.cell rfl, Q3.fr hf fun hs => by have := SI.out _ hs; have := sz1.out; omega, ?_⟩
          · simp only [Value.ownBlock, Option.map_some, Option.some.injEq] at e
            subst e
            exact hgS hs
          · exact hkid.fr ((Fr.of_below (S := S1) B13).trans hf (.refl _ _)) fun b hs hK => st3.off b hs (.inr (.inl hK)))
        have hmm : V.length + 1 - (k + 1) < V.length + 1 - k := by omega
        have hfewK := hkid.few
        dsimp only at hfewK
        have c5 := Q3.cell (j := 0) rfl
        have c6 := Q3.cell (j := 1) rfl
        have c7 := Q3.cell (j := 2) rfl
        have c8 := Q3.cell (j := 3) rfl
        have c9 := Q3.cell (j := 4) rfl
        have c10 := Q3.cell (j := 5) rfl
        have c11 := Q13.cell (j := 1) rfl
        gi_wp2
        refine (round_any hRd).mono ?_
        rintro e w4 ⟨S6, hin6, (⟨rfl, he, hf, hj4⟩ | ⟨rfl, he, hf, hj4⟩)⟩
        · obtain ⟨st4, row4, fr4, q0, q1, q3, hkid4⟩ := AF.out S6 w4 hin6 he hf hj4
          have d0 := q3.cell (j := 0) rfl
          have d1 := q3.cell (j := 1) rfl
          have d2 := q3.cell (j := 2) rfl
          have d3 := q3.cell (j := 3) rfl
          have d4 := q3.cell (j := 4) rfl
          have d5 := q3.cell (j := 5) rfl
          have ST4 := Lib.hid st4
          have RW4 := Lib.hid row4
          clear hy hRd he hf hj4 c5 c6 c7 c8 c9 c10 c11 AF Q3 Q13 q3 ROW3 st3 st4 row4
          cases hb : (n.inner && !c) with
          | false =>
            have hrest := hrA hb
            subst hrest
            have RL := Lib.hid (show WSt J S (oW S0 K bt bi) W L V (k + 1) S6 (.slice (some ⟨g, 0, none⟩) stk0.length cp) stk0 w4 from
              ⟨ST4.out, RW4.out, fun b e => by simp only [Value.ownBlock, Option.map_some, Option.some.injEq] at e; subst e; exact fr4, hk2, hins⟩)
            clear hrA hrB hr2 hr hn hx hkid hkid4 hm1 hm0
            generalize hnin : n.inner = ni at *
            rcases (show ni = false ∨ (ni = true ∧ c = true) by cases ni <;> cases c <;> simp_all) with rfl | ⟨rfl, rfl⟩
            all_goals
              gi_wp2
              gi_roundg (V.length + 1 - (k + 1))
              case measure => exact hmm
              case rel => exact ⟨k + 1, S6, stk0, rfl, hk3, RL.out⟩
          | true =>
            have hrest := hrB hb
            subst hrest
            have hc : n.inner = true ∧ c = false := by simpa using hb
            obtain ⟨hin1, rfl⟩ := hc
            have hgK : ¬ K g := fun hK => by have := KW.out g hK; have := RW4.out.lt g rfl; omega
            have hws : W.heap.size ≤ w4.heap.size := by have := RW4.out.lt g rfl; omega
            have D := Lib.hid (desc_any n a2 c3 (j : Int) W.heap.size (.slice (some ⟨g, 0, none⟩) stk0.length cp) stk0 K w4 hkid4 RW4.out (fun b e => by simp only [Value.ownBlock, Option.map_some, Option.some.injEq] at e; subst e; exact hgK) (by omega) hws)
            unfold ndv at D
            have RL := Lib.hid (show ∀ v5 w5, w5.ownsRow W.heap.size 84 2 v5 (stkL (stk0 ++ [((j : Int), true)]) n.kids n.kids.length).length ((stkL (stk0 ++ [((j : Int), true)]) n.kids n.kids.length).flatMap vc) → Fr (fun b => (Value.slice (some ⟨g, 0, none⟩) stk0.length cp).ownBlock = some b) w4 w5 → (∀ b, v5.ownBlock = some b → (Value.slice (some ⟨g, 0, none⟩) stk0.length cp).ownBlock = some b ∨ w4.heap.size ≤ b) →
                WSt J S (oW S0 K bt bi) W L V (k + 1) S6 v5 (stkL (stk0 ++ [((j : Int), true)]) n.kids n.kids.length) w5 from fun v5 w5 hr5 hf5 ho5 => by
              refine ⟨ST4.out.own hJ hf5 fun x hx => ?_, hr5, fun b e hs => ?_, hk2, fun x hx => ?_⟩
              · simp only [Value.ownBlock, Option.map_some, Option.some.injEq] at hx
                subst hx
                exact ⟨(RW4.out.lt _ rfl).1, fr4⟩
              · rcases ho5 b e with h | h
                · simp only [Value.ownBlock, Option.map_some, Option.some.injEq] at h
                  subst h
                  exact fr4 hs
                · have := hin6 b hs
                  omega
              · rw [stkL_full, List.mem_append, List.mem_append, List.mem_singleton, List.mem_map] at hx
                rcases hx with (hx | rfl) | ⟨y, hy, rfl⟩
                · exact hins x hx
                · exact ⟨j, rfl, hjl⟩
                · have := hw j n hn y (List.mem_reverse.1 hy)
                  exact ⟨y.toNat, by simp; omega, by omega⟩)
            clear hrA hrB hr2 hr hn hx hkid hkid4 hm1 hm0
            rw [hin1] at d4 D
            gi_wp2_with (refine ⟨trivial, ?_⟩; gi_at_call 45; refine (calls_any D.out).mono ?_; rintro e w5 ⟨v5, rfl, hr5, hf5, ho5⟩; have R5 := Lib.hid (RL.out v5 w5 hr5 hf5 ho5); clear hr5 hf5 ho5)
            gi_roundg (V.length + 1 - (k + 1))
            case measure => exact hmm
            case rel => exact ⟨k + 1, S6, _, rfl, hk3, R5.out⟩
        · have EX := Lib.hid (XN.out _ _ _ _ _ _ hk1 st3 he hf hin6 hj4)
          clear hy hRd he hf hj4 c5 c6 c7 c8 c9 c10 c11 AF Q3 Q13 ROW3 st3
          gi_wp2
          refine bodyPost_ret (results_none rfl _ _ _) rfl ?_
          exact EX.out _

end Go.Proofs.Ytoohnkffclkmhaa.Tr
