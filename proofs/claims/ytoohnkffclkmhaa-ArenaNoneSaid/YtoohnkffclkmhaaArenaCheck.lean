/-
  Package arena: Check.
-/
import Derived.Test.YtoohnkffclkmhaaArenaDer
import Derived.Test.YtoohnkffclkmhaaArenaBelow
import Derived.Test.YtoohnkffclkmhaaGramCheck
namespace Go.Proofs.Ytoohnkffclkmhaa.Tr
open Go.RowKit Go.Maps Go.Shelf
open Go.Proofs.Ytoohnkffclkmhaa.Sep
open Go.Proofs.Ytoohnkffclkmhaa.Rg
open Go.Proofs.Ytoohnkffclkmhaa.Rw (Bk)
open Go.Proofs.Ytoohnkffclkmhaa.Gr (Gram Sh gv GAt termB checkN check_any cell_later boxed drawn Is bool_of int_of ivs iv)
attribute [local go_sem] Oper.semAt_some
set_option linter.unusedVariables false
set_option linter.unusedSimpArgs false

def derY (T : List Nd) (G : Gram) (y : Nat × Bool) : Bool := der1 T G (ndAt T y.1)
noncomputable def chkP (T : List Nd) (G : Gram) (i : Int) : Bool := inP T i && (decide (checkN G = 0) && (belI T i).all (derY T G))
/-- What holds between two rounds; what holds where they were stopped. -/
def ckI (T : List Nd) (G : Gram) (V : List (Nat × Bool)) (k : Nat) (S' : Nat → Prop) (W : World) : Prop := S' = (fun _ => False) ∧ (V.take k).all (derY T G) = true
def ckX (T : List Nd) (G : Gram) (V : List (Nat × Bool)) (r : Nat) (c : Code) (k : Nat) (S' : Nat → Prop) (W : World) : Prop := c = .ret ∧ S' = (fun _ => False) ∧ V.all (derY T G) = false ∧ W.heap[r]? = some (.cells #[.bool false] 4 (0, 0))
theorem ckI_holds (B : Nat) (T : List Nd) (G : Gram) (V : List (Nat × Bool)) : Holds B (ckI T G V) := fun k S' T1 A A' h _ _ _ => h
theorem ckX_holds {B r : Nat} (hr : r < B) (T : List Nd) (G : Gram) (V : List (Nat × Bool)) (c : Code) : Holds B (ckX T G V r c) := by
  rintro k S' T1 A A' ⟨rfl, rfl, h1, h2⟩ hi hf hT
  exact ⟨rfl, rfl, h1, fr_kept hf h2 fun h => by have := (hT _ h).1; omega⟩

set_option maxHeartbeats 8000000 in
set_option maxRecDepth 100000 in
theorem chk_any (pv : Value) (S0 K : Nat → Prop) (L : List Nv) (hs : Sh) (G : Gram) (i : Int) (w : World) (h : TrO pv S0 K L w) (hw : Wf (L.map Prod.fst)) (hG : GAt hs G w) (hfi : Gr.Fits i) (hN : (visI (L.map Prod.fst) i).length ≤ 1000000) :
    Calls Try.prog 14 #[pv, gv hs G, .int .i64 i] w (Is (.bool (chkP (L.map Prod.fst) G i)) w) := by
  obtain ⟨wa, hwa⟩ : ∃ wa, w.alloc (.cells #[pv] 23) = wa := ⟨_, rfl⟩
  obtain ⟨wb, hwb⟩ : ∃ wb, wa.alloc (.cells #[.slice hs.a1 G.terms.length hs.c1, .slice hs.a2 G.nons.length hs.c2, .slice hs.a3 G.rules.length hs.c3, .int .i64 G.start] 43) = wb := ⟨_, rfl⟩
  obtain ⟨wc, hwc⟩ : ∃ wc, wb.alloc (.cells #[.bool false] 4) = wc := ⟨_, rfl⟩
  have sa : wa.heap.size = w.heap.size + 1 := by rw [← hwa]; simp
  have sb : wb.heap.size = w.heap.size + 1 + 1 := by rw [← hwb]; simp [sa]
  have sc : wc.heap.size = w.heap.size + 3 := by rw [← hwc]; simp [sb]
  have Ba : Below w.heap.size w wa := hwa ▸ boxed _ _
  have Bb : Below w.heap.size w wb := Gr.step Ba (hwb ▸ boxed _ _)
  have Bc : Below w.heap.size w wc := Gr.step Bb (hwc ▸ boxed _ _)
  have qa : Bk w.heap.size #[pv] 23 wc := ((hwa ▸ Bk.new w _ _ _ rfl : Bk w.heap.size _ _ wa).went (hwb ▸ boxed _ _)).went (hwc ▸ boxed _ _)
  have qb : Bk (w.heap.size + 1) #[.slice hs.a1 G.terms.length hs.c1, .slice hs.a2 G.nons.length hs.c2, .slice hs.a3 G.rules.length hs.c3, .int .i64 G.start] 43 wc := (sa ▸ (hwb ▸ Bk.new wa _ _ _ rfl : Bk wa.heap.size _ _ wb)).went (hwc ▸ boxed _ _)
  have qc : Bk (w.heap.size + 1 + 1) #[.bool false] 4 wc := sb ▸ (hwc ▸ Bk.new wb _ _ _ rfl : Bk wb.heap.size _ _ wc)
  obtain ⟨pa, rfl⟩ := h.ptr
  -- what is there in each later world
  have LT := Lib.hid (show ∀ w1, Below wc.heap.size wc w1 → Below w.heap.size w w1 ∧ TrO (.pointer pa) S0 K L w1 ∧ GAt hs G w1 ∧ Bk w.heap.size #[.pointer pa] 23 w1 ∧ Bk (w.heap.size + 1) #[.slice hs.a1 G.terms.length hs.c1, .slice hs.a2 G.nons.length hs.c2, .slice hs.a3 G.rules.length hs.c3, .int .i64 G.start] 43 w1 ∧ Bk (w.heap.size + 1 + 1) #[.bool false] 4 w1 from fun w1 hb =>
    ⟨Gr.step Bc hb, h.went (Gr.step Bc hb), hG.went (Gr.step Bc hb), qa.went hb, qb.went hb, qc.went hb⟩)
  have HS := Lib.hid (has_o (LT.out wc (.refl _ _)).2.1 i)
  have CK := Lib.hid (fun w1 hb => check_any hs G w1 (LT.out w1 hb).2.2.1)
  have LM0 := Lib.hid (show ∀ (fn : Func) (tmps : Array Value) (R : Ending → World → Prop) (W : World), (∃ v, (results fn tmps).run Try.prog W = .ok v W ∧ R (.returned v) W) → LeavesInM Fence.wide 9 Try.prog fn tmps R [] .returning W from fun fn tmps R W hR => hR)
  have hfew := h.few
  have c0 := qa.cell (j := 0) rfl
  have hchk : ∀ x : Bool, x = x := fun _ => rfl
  unfold chkP gv
  refine (callsIn_wide (n := 9)).1 ?_
  refine callsIn_of_wp_marks Try.func14 rfl trivial ?_ rfl
  simp only [Try.ntmps14, List.size_toArray, List.length_cons, List.length_nil, Nat.reduceAdd, Nat.reduceSub, Array.replicate_succ, Array.replicate_zero, List.push_toArray, List.append_toArray, List.nil_append, List.cons_append]
  cases hi : inP (L.map Prod.fst) i with
  | false =>
    rw [hi] at HS
    rw [Bool.false_and]
    clear Ba Bb Bc qa qb qc h hG hi
    gi_wp2_with (refine ⟨trivial, ?_⟩; gi_at_call 22; refine (calls_any HS.out).mono ?_; rintro e w1 ⟨rfl, hb⟩; obtain ⟨l1, -, -, -, -, l6⟩ := LT.out w1 hb; have L1 := Lib.hid l1; have L6 := Lib.hid l6; have d0 := l6.cell (j := 0) rfl; have d1 := l6.free 0; clear hb l1 l6)
    refine ⟨trivial, ?_⟩
    gi_wp2
    refine LM0.out _ _ _ _ ?_
    refine ⟨.bool false, ?_, rfl, ?_⟩
    · simp [results, Try.results14, go_sem, d0]
    · exact L1.out.trans (((Below.refl _ w1).setCell (p := ⟨w.heap.size + 1 + 1, 0, none⟩) (by simp; omega) _).mono (Nat.le_refl _))
  | true =>
    rw [hi] at HS
    rw [Bool.true_and]
    by_cases hc0 : checkN G = 0
    · rw [decide_eq_true hc0, Bool.true_and]
      rw [hc0] at CK
      obtain ⟨V, hV⟩ : ∃ V, V = belI (L.map Prod.fst) i := ⟨_, rfl⟩
      rw [← hV]
      have hVl : ∀ y ∈ V, y.1 < L.length := fun y hy => by have := belI_lt hw y (hV ▸ hy); simpa using this
      have BA := Lib.hid (fun w1 => below_any pa i w1)
      have ND := Lib.hid (fun (j : Nat) (hjl : j < L.length) => h.node hjl)
      -- one node
      have DE := Lib.hid (show ∀ w1, Below wc.heap.size wc w1 → ∀ (j : Nat) (n : Nd) (a2 : Option Addr) (c2 : Nat) (hjl : j < L.length), L[j] = (n, .slice a2 n.kids.length c2) → Calls Try.prog 25 #[.pointer pa, gv hs G, ndv (n, .slice a2 n.kids.length c2)] w1 (Is (.bool (der1 (L.map Prod.fst) G n)) w1) from fun w1 hb j n a2 c2 hjl hn => by
        obtain ⟨-, ht, hg, -⟩ := LT.out w1 hb
        rcases ht with ⟨_, rfl, _⟩ | ⟨p, v, hp, hm⟩
        · cases hjl
        · rw [hp]
          have hkid := hm.kids L[j] (List.getElem_mem hjl)
          rw [hn] at hkid
          refine der_any hm hs G hg n a2 c2 hkid fun k hk => ?_
          have := hw j L[j].1 (by rw [List.getElem?_map, List.getElem?_eq_getElem hjl]; rfl) k (by rw [hn]; exact hk)
          omega)
      have NX := Lib.hid (show ∀ w5 w6, Below wc.heap.size wc w5 → w6 = (w5.alloc (.cells #[.pointer pa] 23)).alloc (.cells #[.int .i64 i] 3) →
          Rg.Yields Try.prog 40 #[.pointer (some ⟨w5.heap.size, 0, none⟩), .pointer (some ⟨w5.heap.size + 1, 0, none⟩)] (encN L V) V.length (oW S0 K w5.heap.size (w5.heap.size + 1)) w6 ∧ Inn (oW S0 K w5.heap.size (w5.heap.size + 1)) w6 ∧ Below wc.heap.size wc w6 from fun w5 w6 hb e => by
        subst e
        have b1 := boxed w5 (.cells #[.pointer pa] 23)
        have b2 := boxed (w5.alloc (.cells #[.pointer pa] 23)) (.cells #[.int .i64 i] 3)
        have b3 := Gr.step hb (Gr.step b1 b2)
        obtain ⟨-, ht, -⟩ := LT.out _ b3
        have hsz : ((w5.alloc (.cells #[.pointer pa] 23)).alloc (.cells #[.int .i64 i] 3)).heap.size = w5.heap.size + 2 := by simp
        refine ⟨?_, ?_, b3⟩
        · rw [hV]
          refine below_yields (.pointer pa) S0 K L i _ _ _ ht hw hfi ((b2.block _ (by simp)).trans (World.alloc_heap_new _ _)) ?_ hN
          have := World.alloc_heap_new (w5.alloc (.cells #[.pointer pa] 23)) (.cells #[.int .i64 i] 3)
          rwa [World.size_alloc] at this
        · have hti := ht.inn
          rintro x (hx | hx | rfl | rfl)
          · exact hti.1 x hx
          · exact hti.2 x hx
          · omega
          · omega)
      clear Ba Bb Bc qa qb qc h hG hi hV
      gi_wp2_with (first
        | (refine ⟨trivial, ?_⟩; gi_at_call 22; refine (calls_any HS.out).mono ?_; rintro e w1 ⟨rfl, hb⟩; obtain ⟨-, -, -, -, l5, -⟩ := LT.out w1 hb; obtain ⟨d0, d1, d2, d3, -⟩ := l5.four; have B1 := Lib.hid hb; have CK1 := Lib.hid (CK.out w1 hb); clear hb l5)
        | (refine ⟨trivial, ?_⟩; gi_at_call 23; refine (calls_any CK1.out).mono ?_; rintro e w5 ⟨rfl, hb⟩; have B5 := Lib.hid (Gr.step B1.out hb); obtain ⟨-, -, -, l4, -, -⟩ := LT.out w5 B5.out; clear c0; have c0 := l4.cell (j := 0) rfl; clear hb l4)
        | (refine ⟨trivial, ?_⟩; gi_at_call 24; refine (calls_any (BA.out w5)).mono ?_; rintro e w6 ⟨rfl, hw6⟩; have X6 := Lib.hid (NX.out w5 w6 B5.out hw6); clear hw6))
      clear c0 d0 d1 d2 d3 HS CK CK1 NX BA
      obtain ⟨hyl, hoi, hb6⟩ := X6.out
      have hs6 : w.heap.size + 3 ≤ w6.heap.size := by have := hb6.size; omega
      have B6 := Lib.hid hb6
      have hr6 : w.heap.size + 1 + 1 < w6.heap.size := by omega
      refine range_law (n := 9) (gf := 40) (lb := #[.pointer (some ⟨w5.heap.size, 0, none⟩), .pointer (some ⟨w5.heap.size + 1, 0, none⟩)]) rfl (enters_of Try.func40 (by kernel_rfl) rfl) (encs := encN L V) hyl (fun _ => rfl)
        (ckI (L.map Prod.fst) G V) (ckX (L.map Prod.fst) G V (w.heap.size + 1 + 1)) (ckI_holds _ _ _ _) (ckX_holds hr6 _ _ _) (fun _ => False) (fun x => x = w.heap.size + 1 + 1) (fun _ h => h.elim) hoi (fun _ h => h.elim) (fun x e => by subst e; exact hr6) ⟨rfl, by simp⟩ ?round ?done ?stop
      case round =>
        rintro l k S' W hk hl hl2 hnl ⟨rfl, hall⟩ hin he hf
        obtain ⟨y, hy⟩ : ∃ x, V[k]? = some x := ⟨_, List.getElem?_eq_getElem hk⟩
        have hjl := hVl y (List.mem_of_getElem? hy)
        obtain ⟨n, a2, c3, hnd⟩ := ND.out y.1 hjl
        have e1 : V.getD k (0, false) = y := by rw [List.getD_eq_getElem?_getD, hy]; rfl
        have e2 : L.getD y.1 nv0 = (n, .slice a2 n.kids.length c3) := by rw [List.getD_eq_getElem?_getD, List.getElem?_eq_getElem hjl, ← hnd]; rfl
        have hdy : derY (L.map Prod.fst) G y = der1 (L.map Prod.fst) G n := by
          unfold derY
          rw [ndAt_get (by simpa using hjl), List.getElem_map, hnd]
        unfold encN
        rw [e1, e2]
        unfold ndv
        dsimp only
        have bW : Below w6.heap.size w6 W := hf.below (fun x h => h.elim) (Nat.le_refl _)
        have AF := Lib.hid (show ∀ w4, Fr (fun x => x = l) (W.alloc (.cells #[.int .i64 n.sym, .int .i64 n.leaf, .int .i64 n.rule, .slice a2 n.kids.length c3, .bool n.inner, .bool n.taken] 51)) w4 → Below wc.heap.size wc w4 ∧
            Bk W.heap.size #[.int .i64 n.sym, .int .i64 n.leaf, .int .i64 n.rule, .slice a2 n.kids.length c3, .bool n.inner, .bool n.taken] 51 w4 from fun w4 h4 => by
          have b1 := Gr.step (Gr.step B6.out bW) (boxed W (.cells #[.int .i64 n.sym, .int .i64 n.leaf, .int .i64 n.rule, .slice a2 n.kids.length c3, .bool n.inner, .bool n.taken] 51))
          exact ⟨b1.trans (h4.below (fun x e => by subst e; have := B6.out.size; omega) b1.size), (Bk.new W _ _ _ rfl).fr h4 (by omega)⟩)
        have hsW := hf.size
        clear e1 e2 hf hyl hoi hb6 X6 bW hin he
        gi_wp2
        refine ⟨(Fr.refl _ W).alloc _, fun w4 h4 hs4 => ?_⟩
        obtain ⟨b4, q4⟩ := AF.out w4 h4
        obtain ⟨-, -, -, l4, l5, l6⟩ := LT.out w4 b4
        have B4 := Lib.hid b4
        have L6 := Lib.hid l6
        have HS4 := Lib.hid hs4
        have d0 := q4.cell (j := 0) rfl
        have d1 := q4.cell (j := 1) rfl
        have d2 := q4.cell (j := 2) rfl
        have d3 := q4.cell (j := 3) rfl
        have d4 := q4.cell (j := 4) rfl
        have d5 := q4.cell (j := 5) rfl
        have g0 := l4.cell (j := 0) rfl
        obtain ⟨g1, g2, g3, g4, -⟩ := l5.four
        have DE4 := Lib.hid (DE.out w4 b4 y.1 n a2 c3 hjl hnd)
        unfold gv ndv at DE4
        dsimp only at DE4
        cases hd : der1 (L.map Prod.fst) G n with
        | true =>
          rw [hd] at DE4 hdy
          have EN := Lib.hid (show ∀ w5, Below w4.heap.size w4 w5 → ∃ S', Ext S' (fun _ => False) W ∧ Fr (fun x => False ∨ W.heap.size ≤ x) w4 w5 ∧ Inn S' w5 ∧ ckI (L.map Prod.fst) G V (k + 1) S' w5 from fun w5 hb5 =>
            ⟨fun _ => False, .refl _ _, .of_below hb5, fun _ h => h.elim, rfl, by rw [take_snoc hy, List.all_append, hall]; simp [hdy]⟩)
          clear AF q4 b4 l4 l5 l6 hs4 h4 hd
          gi_wp2_with (refine ⟨trivial, ?_⟩; gi_at_call 25; refine (calls_any DE4.out).mono ?_; rintro e w7 ⟨rfl, hb7⟩; have E7 := Lib.hid (EN.out w7 hb7); clear hb7)
          exact E7.out
        | false =>
          rw [hd] at DE4 hdy
          have EN := Lib.hid (show ∀ w5, Below w4.heap.size w4 w5 → w5.cell? ⟨w.heap.size + 1 + 1, 0, none⟩ = some (.bool false) ∧ w5.frozen? ⟨w.heap.size + 1 + 1, 0, none⟩ = false ∧ ∃ S', Ext S' (Or2 (fun _ => False) (fun x => x = w.heap.size + 1 + 1)) W ∧ Fr (fun x => Or2 (fun _ => False) (fun x => x = w.heap.size + 1 + 1) x ∨ W.heap.size ≤ x) w4 (w5.setCell ⟨w.heap.size + 1 + 1, 0, none⟩ (.bool false)) ∧ Inn S' (w5.setCell ⟨w.heap.size + 1 + 1, 0, none⟩ (.bool false)) ∧ ckX (L.map Prod.fst) G V (w.heap.size + 1 + 1) .ret (k + 1) S' (w5.setCell ⟨w.heap.size + 1 + 1, 0, none⟩ (.bool false)) from fun w5 hb5 => by
            have l7 := L6.out.went hb5
            refine ⟨l7.cell rfl, l7.free 0, fun _ => False, fun _ h => h.elim, (Fr.of_below hb5).setCell ⟨w.heap.size + 1 + 1, 0, none⟩ (.inl (.inr rfl)) _, fun _ h => h.elim, rfl, rfl, ?_, l7.set (by simp) _⟩
            rw [← Bool.not_eq_true, List.all_eq_true]
            intro hA
            have := hA y (List.mem_of_getElem? hy)
            rw [hdy] at this
            cases this)
          clear AF q4 b4 l4 l5 l6 hs4 h4 hd
          gi_wp2_with (refine ⟨trivial, ?_⟩; gi_at_call 25; refine (calls_any DE4.out).mono ?_; rintro e w7 ⟨rfl, hb7⟩; obtain ⟨x7, f7, e7⟩ := EN.out w7 hb7; have E7 := Lib.hid e7; clear hb7 e7)
          exact E7.out
      case done =>
        rintro S' W ⟨rfl, hall⟩ hin he hf hD hnD
        rw [List.take_length] at hall
        have bW : Below wc.heap.size wc W := Gr.step B6.out (hf.below (fun x h => h.elim) (Nat.le_refl _))
        obtain ⟨l1, -, -, -, -, l6⟩ := LT.out W bW
        have d0 := l6.cell (j := 0) rfl
        have d1 := l6.free 0
        have hsW := hf.size
        have HA := Lib.hid hall
        have EN := Lib.hid (show ∀ w', Fr (fun x => x ∈ [w6.heap.size]) (W.setCell ⟨w.heap.size + 1 + 1, 0, none⟩ (.bool true)) w' → w'.cell? ⟨w.heap.size + 1 + 1, 0, none⟩ = some (.bool true) ∧ Below w.heap.size w w' from fun w' hf' => by
          have q := (l6.set (by simp) (.bool true)).fr hf' (by rw [List.mem_singleton]; omega)
          have hF2 : Fr (fun x => w.heap.size ≤ x) W (W.setCell ⟨w.heap.size + 1 + 1, 0, none⟩ (.bool true)) := (Fr.refl (fun x => w.heap.size ≤ x) W).setCell ⟨w.heap.size + 1 + 1, 0, none⟩ (by simp; omega) _
          refine ⟨q.cell rfl, l1.trans ((hF2.trans (hf'.mono (T := fun x => w.heap.size ≤ x) fun x hx => ?_) (.refl _ _)).below (fun x h => h) l1.size)⟩
          rw [List.mem_singleton] at hx
          omega)
        have LM := Lib.hid (show ∀ (fn : Func) (tmps : Array Value) (R : Ending → World → Prop), (∀ w', Fr (fun x => x ∈ [w6.heap.size]) (W.setCell ⟨w.heap.size + 1 + 1, 0, none⟩ (.bool true)) w' → ∃ v, (results fn tmps).run Try.prog w' = .ok v w' ∧ R (.returned v) w') → LeavesInM Fence.wide 9 Try.prog fn tmps R [{ target := .collected w6.heap.size, args := #[] }] .returning (W.setCell ⟨w.heap.size + 1 + 1, 0, none⟩ (.bool true)) from
          fun fn tmps R hR => leaves_marks [w6.heap.size] _ (by simp) (fun D hD' => by rw [List.mem_singleton] at hD'; subst hD'; exact fr_kept ((Fr.refl (fun x => x = w.heap.size + 1 + 1) W).setCell ⟨w.heap.size + 1 + 1, 0, none⟩ rfl _) hD (by omega)) hR)
        clear hin he hf hD hnD hyl hoi hb6 X6 bW l1 l6 hall
        gi_wp2
        refine LM.out _ _ _ ?_
        intro w' hf
        obtain ⟨k1, k2⟩ := EN.out w' hf
        exact ⟨.bool true, by simp [results, Try.results14, go_sem, k1], by rw [HA.out], k2⟩
      case stop =>
        rintro c k S' W hk ⟨rfl, rfl, hall, hres⟩ hin he hf hD hnD
        have HA := Lib.hid hall
        have hsW := hf.size
        have EN := Lib.hid (show ∀ w', Fr (fun x => x ∈ [w6.heap.size]) W w' → w'.cell? ⟨w.heap.size + 1 + 1, 0, none⟩ = some (.bool false) ∧ Below w.heap.size w w' from fun w' hf' => by
          have q : Bk (w.heap.size + 1 + 1) #[.bool false] 4 w' := (show Bk (w.heap.size + 1 + 1) #[.bool false] 4 W from hres).fr hf' (by rw [List.mem_singleton]; omega)
          obtain ⟨l1, -⟩ := LT.out w6 B6.out
          refine ⟨q.cell rfl, l1.trans (((hf.mono (T := fun x => w.heap.size ≤ x) fun x hx => ?_).trans (hf'.mono (T := fun x => w.heap.size ≤ x) fun x hx => ?_) (.refl _ _)).below (fun x h => h) l1.size)⟩
          · rcases hx with hx | rfl
            · exact hx.elim
            · show w.heap.size ≤ w.heap.size + 1 + 1
              omega
          · rw [List.mem_singleton] at hx
            omega)
        have LM := Lib.hid (show ∀ (fn : Func) (tmps : Array Value) (R : Ending → World → Prop), (∀ w', Fr (fun x => x ∈ [w6.heap.size]) W w' → ∃ v, (results fn tmps).run Try.prog w' = .ok v w' ∧ R (.returned v) w') → LeavesInM Fence.wide 9 Try.prog fn tmps R [{ target := .collected w6.heap.size, args := #[] }] .returning W from
          fun fn tmps R hR => leaves_marks [w6.heap.size] W (by simp) (fun D hD' => by rw [List.mem_singleton] at hD'; subst hD'; exact hD) hR)
        clear hin he hf hD hnD hyl hoi hb6 X6 hall hres
        gi_wp2
        refine LM.out _ _ _ ?_
        intro w' hf
        obtain ⟨k1, k2⟩ := EN.out w' hf
        exact ⟨.bool false, by simp [results, Try.results14, go_sem, k1], by rw [HA.out], k2⟩
    · rw [decide_eq_false hc0, Bool.false_and]
      clear Ba Bb Bc qa qb qc h hG hi
      generalize checkN G = cn at *
      gi_wp2_with (first
        | (refine ⟨trivial, ?_⟩; gi_at_call 22; refine (calls_any HS.out).mono ?_; rintro e w1 ⟨rfl, hb⟩; obtain ⟨-, -, -, -, l5, -⟩ := LT.out w1 hb; obtain ⟨d0, d1, d2, d3, -⟩ := l5.four; have B1 := Lib.hid hb; have CK1 := Lib.hid (CK.out w1 hb); clear hb l5)
        | (refine ⟨trivial, ?_⟩; gi_at_call 23; refine (calls_any CK1.out).mono ?_; rintro e w5 ⟨rfl, hb⟩; have B5 := Gr.step B1.out hb; obtain ⟨l1, -, -, -, -, l6⟩ := LT.out w5 B5; have L1 := Lib.hid l1; have d4 := l6.cell (j := 0) rfl; have d5 := l6.free 0; clear hb l1 l6 B5))
      refine LM0.out _ _ _ _ ?_
      refine ⟨.bool false, ?_, rfl, ?_⟩
      · simp [results, Try.results14, go_sem, d4]
      · exact L1.out.trans (((Below.refl _ w5).setCell (p := ⟨w.heap.size + 1 + 1, 0, none⟩) (by simp; omega) _).mono (Nat.le_refl _))

end Go.Proofs.Ytoohnkffclkmhaa.Tr
