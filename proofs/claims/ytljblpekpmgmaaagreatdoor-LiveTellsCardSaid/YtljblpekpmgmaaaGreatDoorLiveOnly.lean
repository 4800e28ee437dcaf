/-
  Package live: only: the grammar with the symbols of a set alone. Condition: the set is full of what is kept, the grammar's sizes are within bounds and its numbers are symbols, no rule that is kept holds another symbol or its number is 0.
-/
import Derived.Test.YtljblpekpmgmaaaGreatDoorLiveOn
namespace Go.Proofs.YtljblpekpmgmaaaGreatDoor.Lv
open Go.RowKit Go.Maps
open Go.Proofs.YtljblpekpmgmaaaGreatDoor.Gr
open Go.Proofs.YtljblpekpmgmaaaGreatDoor.Rw (Bk IntsV GRules zg row_shape gc step_append_rows info_rule2 rule2_one)
open Go.Proofs.YtljblpekpmgmaaaGreatDoor.Bt (SetAt SetV has Keeps Upto Tab els)
set_option linter.unusedVariables false
set_option linter.unusedSimpArgs false

theorem str_one (base q : Nat) (x : ByteArray) (w : World) (hq : q = w.heap.size) (hb : base ≤ q) : (w.alloc (.cells #[.string x] 9)).ownsRow base 9 1 (.slice (some ⟨q, 0, none⟩) 1 1) 1 [.string x] := by
  subst hq
  exact World.ownsRow_lit w #[.string x] 1 hb (by decide) (by simp)

def OnLoop (W : World) (h : Sh) (G : Gram) (Q : Int → Prop) (qn : Nat) (i : Value) (w : World) : Prop :=
  ∃ (j : Nat) (a1 : Option Addr) (c1 : Nat) (a2 : Option Addr) (c2 : Nat), j ≤ top G ∧ i = .int .i64 j ∧ On W h G qn (pos (sel Q (up 0 j))) (tnL G (sel Q (up 0 j))) (nnL G (sel Q (up 0 j))) a1 c1 a2 c2 w

/-- Loop 2: the rules so far. -/
structure On2 (W : World) (h : Sh) (G : Gram) (qn : Nat) (f : Int → Int) (T N : List ByteArray) (a1 : Option Addr) (c1 : Nat) (a2 : Option Addr) (c2 : Nat) (base : Nat) (X : List (Int × List Int)) (rv : Value) (w : World) : Prop where
  x : Bx W h G w
  z : Bk (W.heap.size + 1) zg 25 w
  v : Bk (W.heap.size + 1 + 1) #[.slice a1 T.length c1, .slice a2 N.length c2, rv, .int .i64 0] 25 w
  m : Nums qn (top G + 1) f w
  t : Strs (qn + 1) T (.slice a1 T.length c1) w
  n : Strs (qn + 1) N (.slice a2 N.length c2) w
  r : GRules base X rv w
  q : W.heap.size + 1 + 1 < qn
  tb : ∀ g, (Value.slice a1 T.length c1).ownBlock = some g → g < base
  nb : ∀ g, (Value.slice a2 N.length c2).ownBlock = some g → g < base
  qb : qn < base
  bw : base ≤ w.heap.size
section
variable {W : World} {h : Sh} {G : Gram} {qn : Nat} {f : Int → Int} {T N : List ByteArray} {a1 a2 : Option Addr} {c1 c2 base : Nat} {X : List (Int × List Int)} {v : Value} {w : World}
theorem On2.start (k : On W h G qn f T N a1 c1 a2 c2 w) : On2 W h G qn f T N a1 c1 a2 c2 w.heap.size [] (.slice none 0 0) w :=
  ⟨k.x, k.z, k.v, k.m, k.t, k.n, GRules.nil _ _, k.q, fun g hg => (k.t.lt g hg).2, fun g hg => (k.n.lt g hg).2, k.m.lt, Nat.le_refl _⟩
theorem On2.went (k : On2 W h G qn f T N a1 c1 a2 c2 base X v w) {w' : World} (hb : Below w.heap.size w w') : On2 W h G qn f T N a1 c1 a2 c2 base X v w' :=
  ⟨k.x.went hb, k.z.went hb, k.v.went hb, k.m.went hb, Sep.ownsRow_at k.t fun g hg => hb.block g (k.t.lt g hg).2, Sep.ownsRow_at k.n fun g hg => hb.block g (k.n.lt g hg).2, k.r.went hb, k.q, k.tb, k.nb, k.qb, Nat.le_trans k.bw hb.size⟩
/-- A rule more. -/
theorem On2.put (k : On2 W h G qn f T N a1 c1 a2 c2 base X v w) {w3 w4 : World} {d : Int × List Int} {nv : Value} {a4 : Option Addr} {n4 c4 : Nat} (hb : Below w.heap.size w w3) (hr : ∀ g, v.ownBlock = some g → base ≤ g)
    (hg : (w3.alloc (.cells #[.int .i64 d.1, nv] 39)).grownBy w4 v.ownBlock) (hG : GRules base (X ++ [d]) (.slice a4 n4 c4) w4) :
    On2 W h G qn f T N a1 c1 a2 c2 base (X ++ [d]) (.slice a4 n4 c4) (w4.setCell ⟨W.heap.size + 1 + 1, 2, none⟩ (.slice a4 n4 c4)) := by
  have b3 := Gr.step hb (boxed w3 (.cells #[.int .i64 d.1, nv] 39))
  have hq := k.q
  have hqb := k.qb
  have hF : Sep.Fr (fun i => v.ownBlock = some i) w w4 := (Sep.Fr.of_below b3).grown hg fun i hi => .inl hi
  have hF2 : Sep.Fr (fun i => i = W.heap.size + 1 + 1) w4 (w4.setCell ⟨W.heap.size + 1 + 1, 2, none⟩ (.slice a4 n4 c4)) := (Sep.Fr.refl (fun k => k = W.heap.size + 1 + 1) w4).setCell ⟨W.heap.size + 1 + 1, 2, none⟩ rfl _
  have t4 : Strs (qn + 1) T (.slice a1 T.length c1) w4 := Sep.ownsRow_at k.t fun g hg => hF.block g (k.t.lt g hg).2 fun e => by have := hr g e; have := k.tb g hg; omega
  have n4' : Strs (qn + 1) N (.slice a2 N.length c2) w4 := Sep.ownsRow_at k.n fun g hg => hF.block g (k.n.lt g hg).2 fun e => by have := hr g e; have := k.nb g hg; omega
  exact ⟨bx_fr (bx_fr k.x hF fun i hi => by have := hr i hi; omega) hF2 fun i hi => by omega, (k.z.fr hF fun e => by have := hr _ e; omega).fr hF2 (by omega), (k.v.fr hF fun e => by have := hr _ e; omega).set (j := 2) (by simp) _,
    (k.m.at_ hF.size (hF.block _ k.m.lt fun e => by have := hr _ e; omega)).at_ hF2.size (hF2.block _ (Nat.lt_of_lt_of_le k.m.lt hF.size) (by omega)), Sep.ownsRow_at t4 fun g hg => hF2.block g (t4.lt g hg).2 (by have := (t4.lt g hg).1; omega), Sep.ownsRow_at n4' fun g hg => hF2.block g (n4'.lt g hg).2 (by have := (n4'.lt g hg).1; omega),
    hG.set _ _ (show W.heap.size + 1 + 1 < base by omega), k.q, k.tb, k.nb, k.qb, Nat.le_trans k.bw (Nat.le_trans hF.size hF2.size)⟩
end

def OnLoop2 (W : World) (h : Sh) (G : Gram) (l : List Int) (qn : Nat) (a1 : Option Addr) (c1 : Nat) (a2 : Option Addr) (c2 : Nat) (base : Nat) (i : Value) (w : World) : Prop :=
  ∃ (j : Nat) (v : Value), j ≤ G.rules.length ∧ i = .int .i64 j ∧ On2 W h G qn (pos l) (tnL G l) (nnL G l) a1 c1 a2 c2 base (rulesTo G l j) v w

/-! ### The end -/

theorem nameS_size {G : Gram} (h : GOk G) (s : Int) : (nameS G s).size ≤ 140737488355328 := by
  by_cases h0 : s = 0
  · subst h0
    rw [name_zero]
    simp [ByteArray.size]
  · by_cases h1 : 1 ≤ s ∧ s ≤ (top G : Int)
    · obtain ⟨n, rfl⟩ : ∃ n : Nat, s = (n : Int) + 1 := ⟨(s - 1).toNat, by omega⟩
      have hn : n < top G := by omega
      rw [name_in hn]
      exact name_size h (by rw [names_length]; exact hn)
    · rw [name_out (by omega)]
      simp [ByteArray.size]
theorem only_ok {G : Gram} {l : List Int} (h : GOk G) (hl : l.length ≤ 1000) : GOk (onlyG G l) := by
  have hp : ∀ s, Fits (pos l s) := fun s => by have := pos_range (l := l) s; unfold Fits; omega
  refine ⟨fun s hs => ?_, fun s hs => ?_, hp _, fun r hr => ?_, fun r hr x hx => ?_⟩
  · obtain ⟨x, _, rfl⟩ := List.mem_map.1 (show s ∈ (l.filter fun s => termB G s).map (nameS G) from hs)
    exact nameS_size h x
  · obtain ⟨x, _, rfl⟩ := List.mem_map.1 (show s ∈ (l.filter fun s => !termB G s).map (nameS G) from hs)
    exact nameS_size h x
  · obtain ⟨x, _, rfl⟩ := List.mem_map.1 (show r ∈ (G.rules.filter fun r => decide (r.1 ∈ l)).map fun r => (pos l r.1, r.2.map (pos l)) from hr)
    exact hp _
  · obtain ⟨y, _, rfl⟩ := List.mem_map.1 (show r ∈ (G.rules.filter fun r => decide (r.1 ∈ l)).map fun r => (pos l r.1, r.2.map (pos l)) from hr)
    obtain ⟨z, _, rfl⟩ := List.mem_map.1 hx
    exact hp _
theorem row_cap {w : World} {base size n c : Nat} {e : TypeId} {a : Option Addr} {xs : List Value} (h : w.ownsRow base e size (.slice a n c) n xs) : n ≤ c := by
  rcases h.2 with ⟨h1, h2⟩ | ⟨g, cap, cur, h1, _, _, h5, _⟩
  · omega
  · simp only [Value.slice.injEq] at h1
    omega
theorem rulesTo_w {G : Gram} {l : List Int} (hs : Sml G) (k : Nat) : ∀ r ∈ rulesTo G l k, r.2.length ≤ 10000 := fun r hr => by
  unfold rulesTo at hr
  obtain ⟨y, hy, rfl⟩ := List.mem_map.1 hr
  have := hs.w y (List.mem_of_mem_take (List.mem_filter.1 hy).1)
  rw [List.length_map]
  omega
theorem rulesTo_le (G : Gram) (l : List Int) (k : Nat) : (rulesTo G l k).length ≤ k := by
  unfold rulesTo
  rw [List.length_map]
  exact Nat.le_trans (List.length_filter_le _ _) (by rw [List.length_take]; omega)
theorem On2.gnew {W : World} {h : Sh} {G : Gram} {l : List Int} {qn : Nat} {a1 a2 av : Option Addr} {c1 c2 cv base n : Nat} {w : World} (k : On2 W h G qn (pos l) (tnL G l) (nnL G l) a1 c1 a2 c2 base (rulesTo G l G.rules.length) (.slice av n cv) w)
    (hG : GOk G) (hs : Sml G) (hl : l.length ≤ 240) : n = (onlyG G l).rules.length ∧ GNew (W.heap.size + 1 + 1 + 1) ⟨a1, c1, a2, c2, av, cv⟩ (onlyG G l) w := by
  have hr := k.r
  rw [rulesTo_end] at hr
  obtain ⟨a', c', e, hc⟩ := hr.len
  simp only [Value.slice.injEq] at e
  obtain ⟨rfl, rfl, rfl⟩ := e
  refine ⟨rfl, fun w'' hsz hb => ?_⟩
  have hq := k.q
  have hqb := k.qb
  have htn := tn_len G l
  have hF : Sep.Fr (fun i => i < W.heap.size + 1 + 1 + 1) w w'' → True := fun _ => trivial
  have t2 := Sep.ownsRow_at k.t (w' := w'') fun g hg => hb g (by have := (k.t.lt g hg).1; omega) (k.t.lt g hg).2
  have n2 := Sep.ownsRow_at k.n (w' := w'') fun g hg => hb g (by have := (k.n.lt g hg).1; omega) (k.n.lt g hg).2
  have r2 : GRules base (onlyG G l).rules (.slice av (onlyG G l).rules.length cv) w'' := by
    obtain ⟨L, h1, h2, h3, h4⟩ := hr
    exact ⟨L, h1, Sep.ownsRow_at h2 fun g hg => hb g (by have := (h2.lt g hg).1; omega) (h2.lt g hg).2, fun x hx => (h3 x hx).at fun g hg => hb g (by have := (World.ownsRow.lt (h3 x hx) g hg).1; omega) (World.ownsRow.lt (h3 x hx) g hg).2, h4⟩
  have hw : ∀ r ∈ (onlyG G l).rules, r.2.length ≤ 10000 := by rw [← rulesTo_end]; exact rulesTo_w hs _
  have hrl : (onlyG G l).rules.length ≤ G.rules.length := by rw [← rulesTo_end]; exact rulesTo_le _ _ _
  have hrr := hs.r
  have e1 : (onlyG G l).terms = tnL G l := rfl
  have e2 : (onlyG G l).nons = nnL G l := rfl
  exact ⟨by rw [e1]; exact Sep.Reads.of_row t2, by rw [e2]; exact Sep.Reads.of_row n2, Rw.GRules.at r2 hw, by rw [e1]; exact row_cap t2, by rw [e1]; omega, by rw [e2]; omega, hc, by omega, only_ok hG (by omega)⟩
theorem GNew.mono {n n' : Nat} {sh : Sh} {G : Gram} {w : World} (h : GNew n' sh G w) (hn : n ≤ n') : GNew n sh G w := fun w'' hs hb => h w'' hs fun k hk hl => hb k (by omega) hl

/-- A grammar comes back, all in blocks of the call's own; nothing that was there is written. -/
def NewG (G' : Gram) (w : World) (e : Ending) (w' : World) : Prop := ∃ sh, e = .returned (gv sh G') ∧ GNew w.heap.size sh G' w' ∧ Below w.heap.size w w'

set_option maxRecDepth 100000 in
set_option maxHeartbeats 16000000 in
theorem only_any (h : Sh) (G : Gram) (p d : Nat) (B : Nat → Bool) (Q : Int → Prop) (w : World) (k : GAt h G w) (hS : SetAt p d (top G + 1) B w) (hs : Sml G) (hf : Full Q B) :
    Calls Tryz.prog 27 #[gv h G, .pointer (some ⟨p, 0, none⟩)] w (NewG (onlyG G (sel Q (up 0 (top G)))) w) := by
  obtain ⟨i0, hii, hz0, hz1, hz2⟩ := info_parts info_string
  obtain ⟨a3', c3', a5', c5', a6', c6'⟩ := h
  have X := Lib.hid (Bx.start ⟨a3', c3', a5', c5', a6', c6'⟩ G w 25)
  obtain ⟨x0, x1, x2, x3⟩ := X.out.box
  try dsimp only at x0 x1 x2 x3
  have T := Lib.hid (fun w1 (b : Below w.heap.size w w1) => top_any ⟨a3', c3', a5', c5', a6', c6'⟩ G w1 (k.went b))
  have TM := Lib.hid (fun s w1 (b : Below w.heap.size w w1) => term_any ⟨a3', c3', a5', c5', a6', c6'⟩ G s w1 (k.went b))
  have NM := Lib.hid (fun s w1 (b : Below w.heap.size w w1) => name_any ⟨a3', c3', a5', c5', a6', c6'⟩ G s w1 (k.went b))
  have HH := Lib.hid (fun s hs w1 (b : Below w.heap.size w w1) => Bt.has_any w1 (.at_ (set_went hS b)) s hs)
  have SM := Lib.hid hs
  have KG := Lib.hid k
  have F := Lib.hid hf
  have htop : top G ≤ 240 := by have := hs.t; have := hs.n; unfold top; omega
  have hr := hs.r
  have hmk : ∀ w, (Instr.makeSlice 34 (.int .i64 ((top G : Int) + 1)) (.int .i64 ((top G : Int) + 1))).run Tryz.prog w = .ok (.slice (some ⟨w.heap.size, 0, none⟩) (top G + 1) (top G + 1)) (w.alloc (.cells (ivs (List.replicate (top G + 1) 0)).toArray 3)) := fun w => make_ints (top G + 1) (by omega) w
  clear k hS hs hf
  unfold gv
  dsimp only
  go_enter Tryz.func27, Tryz.ntmps27
  go_wp2_with (go_at_call 19; refine (T.out _ ((X.out.alloc _).alloc _).below).mono ?_; rintro e w1 ⟨rfl, hb⟩; have X1 := Lib.hid (((X.out.alloc _).alloc _).went hb); have B1 := Lib.hid hb; have hw1 : w.heap.size < w1.heap.size := X1.out.size; clear hb x0 x1 x2 x3; obtain ⟨x0, x1, x2, x3⟩ := X1.out.box; try dsimp only at x0 x1 x2 x3)
  refine (T.out _ (Gr.step X1.out.below (boxed _ _))).mono ?_
  rintro e w2 ⟨rfl, hb⟩
  have hqn : w.heap.size + 1 + 1 < w1.heap.size := by have := B1.out.size; simp at this; omega
  have O0 := Lib.hid (show On w ⟨a3', c3', a5', c5', a6', c6'⟩ G w1.heap.size (pos (sel Q (up 0 0))) (tnL G (sel Q (up 0 0))) (nnL G (sel Q (up 0 0))) none 0 none 0 w2 from by
    have b1 := Gr.step (boxed w1 (.cells (ivs (List.replicate (top G + 1) 0)).toArray 3)) hb
    have z0 : Bk (w.heap.size + 1) zg 25 w1 := (Bk.new (w.alloc (.cells #[.slice a3' G.terms.length c3', .slice a5' G.nons.length c5', .slice a6' G.rules.length c6', .int .i64 G.start] 25)) zg 25 (w.heap.size + 1) (by simp)).went (Gr.step (boxed _ _) B1.out)
    have v0 : Bk (w.heap.size + 1 + 1) zg 25 w1 := (Bk.new ((w.alloc (.cells #[.slice a3' G.terms.length c3', .slice a5' G.nons.length c5', .slice a6' G.rules.length c6', .int .i64 G.start] 25)).alloc (.cells zg 25)) zg 25 (w.heap.size + 1 + 1) (by simp)).went B1.out
    exact ⟨X1.out.went b1, z0.went b1, v0.went b1, (nums_new (top G + 1) w1).went hb, World.ownsRow_nil _ _ _ _, World.ownsRow_nil _ _ _ _, (fun g hg => by cases hg), hqn⟩)
  clear hb X X1 B1 hmk T x0 x1 x2 x3 hw1
  go_wp2
  generalize hqe : w1.heap.size = qn at *
  clear hqe
  go_loopw [17] (fun i wr => OnLoop w ⟨a3', c3', a5', c5', a6', c6'⟩ G Q qn i wr) (fun i _ => top G - (intOf i).toNat)
  case atStart => exact ⟨0, none, 0, none, 0, Nat.zero_le _, rfl, O0.out⟩
  case round =>
    clear O0
    obtain ⟨j, a1, c1, a2, c2, hj, rfl, hO⟩ := hrel
    have O := Lib.hid hO
    obtain ⟨x0, x1, x2, x3⟩ := hO.x.box
    try dsimp only at x0 x1 x2 x3
    clear hO
    by_cases hlt : j < top G
    · have H := Lib.hid (HH.out ((j : Int) + 1) (by omega) wr O.out.x.below)
      obtain ⟨sn1, sn2⟩ := sel_next Q j
      cases hh : has B ((j : Int) + 1) with
      | false =>
        have O2 := Lib.hid (fun m => show OnLoop w ⟨a3', c3', a5', c5', a6', c6'⟩ G Q qn (.int .i64 ((j + 1 : Nat) : Int)) (wr.drewN m) from ⟨j + 1, a1, c1, a2, c2, hlt, rfl, by
          rw [sn2 fun hq => by rw [(F.out _).2 hq] at hh; cases hh]
          exact O.out.went (drawnN wr m)⟩)
        rw [hh] at H
        clear hh sn1 sn2 x0 x1 x2 x3
        go_wp2_with (go_at_call 20; refine H.out.mono ?_; rintro e w5 ⟨rfl, m, rfl⟩)
        go_roundw
        case rel => exact O2.out m
        case measure => simp [intOf]; omega
      | true =>
        have SE := Lib.hid (sn1 ((F.out _).1 hh))
        have PS := Lib.hid (pos_snoc_self (sel_not Q j))
        have PN := Lib.hid (fun x hx => pos_snoc_ne (l := sel Q (up 0 j)) (s := (j : Int) + 1) (x := x) hx)
        have TL := Lib.hid (tn_len G (sel Q (up 0 j)))
        have hsl := sel_len Q j
        have TT := Lib.hid (TM.out ((j : Int) + 1))
        have TN := Lib.hid (fun ht => tn_snoc (G := G) (l := sel Q (up 0 j)) (s := (j : Int) + 1) ht)
        have NN := Lib.hid (fun ht => nn_snoc (G := G) (l := sel Q (up 0 j)) (s := (j : Int) + 1) ht)
        have NC := Lib.hid (NM.out ((j : Int) + 1))
        rw [hh] at H
        clear hh sn1 sn2
        generalize sel Q (up 0 j) = l at *
        generalize nameS G ((j : Int) + 1) = nm at *
        generalize htl : tnL G l = TT0 at *
        generalize hnl : nnL G l = NN0 at *
        have htn : TT0.length + NN0.length ≤ 240 := by have := TL.out; omega
        have HTL := Lib.hid htl
        have HNL := Lib.hid hnl
        clear htl hnl
        cases ht : termB G ((j : Int) + 1) with
        | true =>
          obtain ⟨e1, e2⟩ := TN.out ht
          rw [ht] at TT
          have E1 := Lib.hid e1
          have E2 := Lib.hid e2
          clear ht e1 e2 TN NN
          go_wp2_with (first
            | (go_at_call 20; refine H.out.mono ?_; rintro e w5 ⟨rfl, m, rfl⟩; have O5 := Lib.hid (O.out.went (drawnN wr m)); clear x0 x1 x2 x3; obtain ⟨x0, x1, x2, x3⟩ := O5.out.x.box; try dsimp only at x0 x1 x2 x3)
            | (go_at_call 57; refine (TT.out _ O5.out.x.below).mono ?_; rintro e w6 ⟨rfl, hb⟩; have O6 := Lib.hid (O5.out.went hb); clear hb x0 x1 x2 x3; obtain ⟨x0, x1, x2, x3⟩ := O6.out.x.box; try dsimp only at x0 x1 x2 x3))
          have hbd := drawn w6
          obtain ⟨y0, y1, y2, y3, yf⟩ := O6.out.v.four
          have hq6 : w.heap.size + 1 + 1 < w6.heap.size := O6.out.v.lt
          have hx6 : w.heap.size < w6.heap.size := by omega
          have hqn6 : qn < w6.heap.size := O6.out.m.lt
          have NC6 := Lib.hid (fun w1 (b : Below w6.heap.size w6 w1) => NC.out w1 (Gr.step O6.out.x.below b))
          go_region_law (first
            | (refine step_append_rows _ (by rfl) _ _ 22 (by rfl) (qn + 1) 9 i0 (.string ByteArray.empty) 1 16 Tryz.underlying22 hii hz0 hz1 hz2 rfl (by decide) (.slice a1 TT0.length c1) TT0.length (TT0.map .string) (by rfl) (Sep.ownsRow_at O6.out.t fun g hg => (Gr.step kB (Gr.boxed _ _)).block g (O6.out.t.lt g hg).2) _ (.slice (some ⟨w3.heap.size, 0, none⟩) 1 1) 1 [.string nm] (by rfl) (str_one (qn + 1) w3.heap.size nm w3 rfl (by omega)) (by simp [Value.oneCell']) (by unfold maxLen; omega) (by omega) (by simp; omega) ?_; intro v4 w4 hown4 hg4 hloc4; obtain ⟨a4, c4, rfl⟩ := row_shape hown4; have O4 := Lib.hid (O6.out.putT kB hown4 hg4 hloc4); have V4 := Lib.hid (((O6.out.v.went kB).went (Gr.boxed w3 (.cells #[.string nm] 9))).grown hg4 (fun k hk => by have := (O6.out.t.lt k hk).1; have := O6.out.q; omega)); obtain ⟨y0, y1, y2, y3, yf⟩ := V4.out.four; have hq4 : w.heap.size + 1 + 1 < w4.heap.size := V4.out.lt; clear hown4 hg4 hloc4)
            | (go_simp; go_at_call 58; (with_reducible refine (NC6.out _ (by assumption)).mono ?_); rintro e w3 ⟨rfl, hb⟩; have kB : Below w6.heap.size w6 w3 := Gr.step (by assumption) hb; obtain ⟨y0, y1, y2, y3, yf⟩ := (O6.out.v.went kB).four; obtain ⟨x0, x1, x2, x3⟩ := (O6.out.x.went kB).box; (try dsimp only at x0 x1 x2 x3); have hs3 : w6.heap.size ≤ w3.heap.size := kB.size; have hq3 : w.heap.size + 1 + 1 < w3.heap.size := (O6.out.v.went kB).lt; have hx3 : w.heap.size < w3.heap.size := (by omega); clear hb))
          all_goals
            have TP := Lib.hid (fun w1 => top_raw a4 a2 none (TT0.length + 1) NN0.length 0 c4 c2 0 0 (by omega) (by omega) w1)
            have hpv : ((TT0.length + 1 : Nat) : Int) + NN0.length = pos (l ++ [(j : Int) + 1]) ((j : Int) + 1) := by rw [PS.out]; have := TL.out; omega
            rw [hpv] at TP
            have PV := Lib.hid (show ∀ x, x ≠ ((j + 1 : Nat) : Int) → pos (l ++ [(j : Int) + 1]) x = pos l x from fun x hx => PN.out x (by omega))
            obtain ⟨wz, hwz⟩ : ∃ wz, w4.setCell ⟨w.heap.size + 1 + 1, 0, none⟩ (.slice a4 (TT0.length + 1) c4) = wz := ⟨_, rfl⟩
            rw [hwz] at O4
            have O7 := Lib.hid (fun w1 (b : Below wz.heap.size wz w1) => show On _ _ _ _ _ _ _ _ _ _ _ (w1.setCell ⟨qn, j + 1, none⟩ (.int .i64 (pos (l ++ [(j : Int) + 1]) ((j : Int) + 1)))) from (O4.out.went b).num (g := pos (l ++ [(j : Int) + 1])) (s := j + 1) (by omega) PV.out)
            have NS := Lib.hid (fun w1 (b : Below wz.heap.size wz w1) => (O4.out.went b).m.holds (j + 1) (by omega))
            have NF := Lib.hid (fun w1 (b : Below wz.heap.size wz w1) => (O4.out.went b).m.free (j + 1))
            obtain ⟨z0, z1, z2, z3, zf⟩ := O4.out.v.four
            have hl1 : (TT0 ++ [nm]).length = TT0.length + 1 := by simp
            rw [hl1] at z0
            clear hl1
            generalize pos (l ++ [(j : Int) + 1]) ((j : Int) + 1) = pv at TP O7
            clear hpv y0 y1 y2 y3 yf
            go_wp2_with fail
            try rw [hwz]
            refine (TP.out _).mono ?_
            rintro e w7 ⟨rfl, hb⟩
            have O8 := Lib.hid (O7.out _ hb)
            have n0 := NS.out _ hb
            have nf := NF.out _ hb
            have hq7 : qn < w7.heap.size := (O4.out.went hb).m.lt
            clear hb
            go_wp2
            go_roundw
            case rel => exact ⟨j + 1, _, _, _, _, by omega, by go_num, by rw [SE.out, E1.out, E2.out]; exact O8.out⟩
            case measure => simp [intOf]; omega
        | false =>
          obtain ⟨e1, e2⟩ := NN.out ht
          rw [ht] at TT
          have E1 := Lib.hid e1
          have E2 := Lib.hid e2
          clear ht e1 e2 TN NN
          go_wp2_with (first
            | (go_at_call 20; refine H.out.mono ?_; rintro e w5 ⟨rfl, m, rfl⟩; have O5 := Lib.hid (O.out.went (drawnN wr m)); clear x0 x1 x2 x3; obtain ⟨x0, x1, x2, x3⟩ := O5.out.x.box; try dsimp only at x0 x1 x2 x3)
            | (go_at_call 57; refine (TT.out _ O5.out.x.below).mono ?_; rintro e w6 ⟨rfl, hb⟩; have O6 := Lib.hid (O5.out.went hb); clear hb x0 x1 x2 x3; obtain ⟨x0, x1, x2, x3⟩ := O6.out.x.box; try dsimp only at x0 x1 x2 x3))
          have hbd := drawn w6
          obtain ⟨y0, y1, y2, y3, yf⟩ := O6.out.v.four
          have hq6 : w.heap.size + 1 + 1 < w6.heap.size := O6.out.v.lt
          have hx6 : w.heap.size < w6.heap.size := by omega
          have hqn6 : qn < w6.heap.size := O6.out.m.lt
          have NC6 := Lib.hid (fun w1 (b : Below w6.heap.size w6 w1) => NC.out w1 (Gr.step O6.out.x.below b))
          go_region_law (first
            | (refine step_append_rows _ (by rfl) _ _ 22 (by rfl) (qn + 1) 9 i0 (.string ByteArray.empty) 1 16 Tryz.underlying22 hii hz0 hz1 hz2 rfl (by decide) (.slice a2 NN0.length c2) NN0.length (NN0.map .string) (by rfl) (Sep.ownsRow_at O6.out.n fun g hg => (Gr.step kB (Gr.boxed _ _)).block g (O6.out.n.lt g hg).2) _ (.slice (some ⟨w3.heap.size, 0, none⟩) 1 1) 1 [.string nm] (by rfl) (str_one (qn + 1) w3.heap.size nm w3 rfl (by omega)) (by simp [Value.oneCell']) (by unfold maxLen; omega) (by omega) (by simp; omega) ?_; intro v4 w4 hown4 hg4 hloc4; obtain ⟨a4, c4, rfl⟩ := row_shape hown4; have O4 := Lib.hid (O6.out.putN kB hown4 hg4 hloc4); have V4 := Lib.hid (((O6.out.v.went kB).went (Gr.boxed w3 (.cells #[.string nm] 9))).grown hg4 (fun k hk => by have := (O6.out.n.lt k hk).1; have := O6.out.q; omega)); obtain ⟨y0, y1, y2, y3, yf⟩ := V4.out.four; have hq4 : w.heap.size + 1 + 1 < w4.heap.size := V4.out.lt; clear hown4 hg4 hloc4)
            | (go_simp; go_at_call 58; (with_reducible refine (NC6.out _ (by assumption)).mono ?_); rintro e w3 ⟨rfl, hb⟩; have kB : Below w6.heap.size w6 w3 := Gr.step (by assumption) hb; obtain ⟨y0, y1, y2, y3, yf⟩ := (O6.out.v.went kB).four; obtain ⟨x0, x1, x2, x3⟩ := (O6.out.x.went kB).box; (try dsimp only at x0 x1 x2 x3); have hs3 : w6.heap.size ≤ w3.heap.size := kB.size; have hq3 : w.heap.size + 1 + 1 < w3.heap.size := (O6.out.v.went kB).lt; have hx3 : w.heap.size < w3.heap.size := (by omega); clear hb))
          all_goals
            have TP := Lib.hid (fun w1 => top_raw a1 a4 none TT0.length (NN0.length + 1) 0 c1 c4 0 0 (by omega) (by omega) w1)
            have hpv : (TT0.length : Int) + ((NN0.length + 1 : Nat) : Int) = pos (l ++ [(j : Int) + 1]) ((j : Int) + 1) := by rw [PS.out]; have := TL.out; omega
            rw [hpv] at TP
            have PV := Lib.hid (show ∀ x, x ≠ ((j + 1 : Nat) : Int) → pos (l ++ [(j : Int) + 1]) x = pos l x from fun x hx => PN.out x (by omega))
            obtain ⟨wz, hwz⟩ : ∃ wz, w4.setCell ⟨w.heap.size + 1 + 1, 1, none⟩ (.slice a4 (NN0.length + 1) c4) = wz := ⟨_, rfl⟩
            rw [hwz] at O4
            have O7 := Lib.hid (fun w1 (b : Below wz.heap.size wz w1) => show On _ _ _ _ _ _ _ _ _ _ _ (w1.setCell ⟨qn, j + 1, none⟩ (.int .i64 (pos (l ++ [(j : Int) + 1]) ((j : Int) + 1)))) from (O4.out.went b).num (g := pos (l ++ [(j : Int) + 1])) (s := j + 1) (by omega) PV.out)
            have NS := Lib.hid (fun w1 (b : Below wz.heap.size wz w1) => (O4.out.went b).m.holds (j + 1) (by omega))
            have NF := Lib.hid (fun w1 (b : Below wz.heap.size wz w1) => (O4.out.went b).m.free (j + 1))
            obtain ⟨z0, z1, z2, z3, zf⟩ := O4.out.v.four
            have hl1 : (NN0 ++ [nm]).length = NN0.length + 1 := by simp
            rw [hl1] at z1
            clear hl1
            generalize pos (l ++ [(j : Int) + 1]) ((j : Int) + 1) = pv at TP O7
            clear hpv y0 y1 y2 y3 yf
            go_wp2_with fail
            try rw [hwz]
            refine (TP.out _).mono ?_
            rintro e w7 ⟨rfl, hb⟩
            have O8 := Lib.hid (O7.out _ hb)
            have n0 := NS.out _ hb
            have nf := NF.out _ hb
            have hq7 : qn < w7.heap.size := (O4.out.went hb).m.lt
            clear hb
            go_wp2
            go_roundw
            case rel => exact ⟨j + 1, _, _, _, _, by omega, by go_num, by rw [SE.out, E1.out, E2.out]; exact O8.out⟩
            case measure => simp [intOf]; omega
    · have hE : j = top G := by omega
      subst hE
      have MEM := Lib.hid (show ∀ x : Int, 1 ≤ x → x ≤ (top G : Int) → (has B x = true ↔ x ∈ sel Q (up 0 (top G))) from fun x h1 h2 => by rw [F.out x, mem_sel, mem_up]; constructor; exact fun h => ⟨by omega, h⟩; exact fun h => h.2)
      have hsl := sel_len Q (top G)
      generalize sel Q (up 0 (top G)) = l at *
      obtain ⟨bs, hbs⟩ : ∃ b, b = wr.heap.size := ⟨_, rfl⟩
      have O2 := Lib.hid (On2.start O.out)
      rw [← hbs] at O2
      have HBS := Lib.hid hbs
      have RU := Lib.hid KG.out.rules
      have KN := Lib.hid (fun j (hj : j < G.rules.length) => rule_known SM.out.known (List.getElem_mem hj))
      have WD := Lib.hid (fun j (hj : j < G.rules.length) => SM.out.w _ (List.getElem_mem hj))
      obtain ⟨j0, hj0, jz0, jz1, jz2⟩ := info_parts info_rule2
      clear hbs O F TM NM hlt
      go_wp2
      clear x0 x1 x2 x3
      go_loopw [56] (fun i wt => OnLoop2 w ⟨a3', c3', a5', c5', a6', c6'⟩ G l qn a1 c1 a2 c2 bs i wt) (fun i _ => G.rules.length - (intOf i).toNat)
      case atStart => exact ⟨0, _, Nat.zero_le _, rfl, O2.out⟩
      case round =>
        clear O2 HBS
        obtain ⟨j, rv, hj, rfl, hO⟩ := hrel
        have O := Lib.hid hO
        obtain ⟨x0, x1, x2, x3⟩ := hO.x.box
        try dsimp only at x0 x1 x2 x3
        clear hO
        by_cases hlt : j < G.rules.length
        · obtain ⟨b, o, ra, rc, e, h1, h2, h3, h4, h5⟩ := RU.out j hlt
          try dsimp only at e
          subst e
          replace h1 := cell_later O.out.x.below h1
          replace h2 := cell_later O.out.x.below h2
          have RR := Lib.hid (fun w1 (b : Below w.heap.size w w1) => Sep.Reads.below h3 b (Nat.le_refl _))
          obtain ⟨k1, k2⟩ := KN.out j hlt
          have hw8 := WD.out j hlt
          have RH := Lib.hid (fun hm => rulesTo_hit (H := G) (l := l) hlt hm)
          have RM := Lib.hid (fun hm => rulesTo_miss (H := G) (l := l) hlt hm)
          generalize G.rules[j] = r at h1 h2 h3 h4 h5 RR k1 k2 hw8 RH RM
          have k3 := non_in k1
          have K2 := Lib.hid k2
          have bx := boxed wr (.cells #[.int .i64 r.1, .slice ra r.2.length rc] 39)
          have R1 := Lib.hid (Bk.new wr #[.int .i64 r.1, .slice ra r.2.length rc] 39 _ rfl)
          have O1 := Lib.hid (O.out.went bx)
          have hw : w.heap.size < wr.heap.size := O.out.x.size
          have H := Lib.hid (HH.out r.1 (by omega) (wr.alloc (.cells #[.int .i64 r.1, .slice ra r.2.length rc] 39)) O1.out.x.below)
          have MM := Lib.hid (MEM.out r.1 k3.1 k3.2)
          clear h3 h4 h5 k1 k2 bx
          cases hh : has B r.1 with
          | false =>
            have RM2 := Lib.hid (RM.out fun hm => by rw [MM.out.2 hm] at hh; cases hh)
            rw [hh] at H
            clear hh RH MM
            go_wp2_with (go_at_call 20; refine H.out.mono ?_; rintro e w5 ⟨rfl, m, rfl⟩; have O5 := Lib.hid (O1.out.went (drawnN _ m)))
            go_roundw
            case rel => exact ⟨j + 1, _, by omega, by go_num, by rw [RM2.out]; exact O5.out⟩
            case measure => simp [intOf]; omega
          | true =>
            have RH2 := Lib.hid (RH.out (MM.out.1 hh))
            rw [hh] at H
            clear hh RM MM
            have hrt := rulesTo_le G l j
            generalize hX0 : rulesTo G l j = X0 at *
            clear hX0
            go_wp2_with (go_at_call 20; refine H.out.mono ?_; rintro e w5 ⟨rfl, m, rfl⟩; have O5 := Lib.hid (O1.out.went (drawnN _ m)); have R5 := Lib.hid (R1.out.went (drawnN _ m)); have hq5 : wr.heap.size < (((wr.alloc (.cells #[.int .i64 r.1, .slice ra r.2.length rc] 39)).drewN m).heap.size) := R5.out.lt; clear x0 x1 x2 x3)
            generalize hW : ((wr.alloc (.cells #[.int .i64 r.1, .slice ra r.2.length rc] 39)).drewN m) = W at *
            clear hW
            have hbd := drawn W
            have RN := Lib.hid (fun w1 (b : Below W.heap.size W w1) => renumbered_any (pos l) r ra rc (some ⟨qn, 0, none⟩) (top G + 1) (top G + 1) w1 (RR.out w1 (Gr.step O5.out.x.below b)) (by omega) (O5.out.went b).m.num (by omega) (by omega) fun x hx => by have := K2.out x hx; omega)
            obtain ⟨L, hX, hLO, hT, hA⟩ := O5.out.r
            obtain ⟨av, cv, rfl⟩ := row_shape hLO
            have hLl : L.length ≤ 300 := by
              have := congrArg List.length hX
              rw [List.length_map] at this
              omega
            have OW := Lib.hid hLO
            have TW := Lib.hid hT
            have AW := Lib.hid hA
            have HXL := Lib.hid hX
            clear hX hLO hT hA
            have hqbs := O5.out.q
            have hqb2 := O5.out.qb
            have hbsW : bs ≤ W.heap.size := O5.out.bw
            obtain ⟨y0, y1, y2, y3, yf⟩ := O5.out.v.four
            obtain ⟨z0, z1, zf⟩ := R5.out.two
            have hq6 : w.heap.size + 1 + 1 < W.heap.size := O5.out.v.lt
            have hqn6 : qn < W.heap.size := O5.out.m.lt
            generalize hrv : (r.2.map (pos l)) = X at RN RH2
            generalize hrx : pos l r.1 = x at RN RH2
            clear hrv hrx
            go_region_law (first
              | (refine step_append_rows _ (by rfl) _ _ 23 (by rfl) bs 39 j0 (.agg #[.int .i64 0, .slice none 0 0]) 2 32 Tryz.underlying23 hj0 jz0 jz1 jz2 rfl (by decide) (.slice av L.length cv) L.length (L.flatMap gc) (by rfl) (Sep.ownsRow_at OW.out fun g hg => (Gr.step kB (Gr.boxed _ _)).block g (OW.out.lt g hg).2) _ (.slice (some ⟨w3.heap.size, 0, none⟩) 1 1) 1 (gc ((x, X), .slice a6 X.length c6)) (by rfl) (rule2_one bs w3.heap.size ((x, X), .slice a6 X.length c6) w3 rfl (by omega)) (by simp [gc, Value.oneCell']) (by unfold maxLen; omega) (by omega) (by first | (simp; done) | (simp; omega)) ?_; intro v4 w4 hown4 hg4 hloc4; obtain ⟨a4, c4, rfl⟩ := row_shape hown4; have G4 := Lib.hid (GRules.snoc (d := (x, X)) OW.out TW.out AW.out kB I3.out hbsW hown4 hg4 hloc4); have O7 := Lib.hid (O5.out.put kB (fun g hg => (OW.out.lt g hg).1) hg4 (by rw [← HXL.out]; exact G4.out)); have V4 := Lib.hid (((O5.out.v.went kB).went (Gr.boxed w3 (.cells #[.int .i64 x, .slice a6 X.length c6] 39))).grown hg4 (fun k hk => by have := (OW.out.lt k hk).1; omega)); obtain ⟨y0, y1, y2, y3, yf⟩ := V4.out.four; have hq4 : w.heap.size + 1 + 1 < w4.heap.size := V4.out.lt; clear hown4 hg4 hloc4)
              | (go_simp; go_at_call 59; (with_reducible refine (RN.out _ (by assumption)).mono ?_); rintro e w3 ⟨a6, c6, rfl, hI, hb⟩; have kB : Below W.heap.size W w3 := Gr.step (by assumption) hb; have I3 := Lib.hid (show IntsV W.heap.size X (.slice a6 X.length c6) w3 from Rw.IntsV.mono hI (Below.size (by assumption))); obtain ⟨y0, y1, y2, y3, yf⟩ := (O5.out.v.went kB).four; obtain ⟨z0, z1, zf⟩ := (R5.out.went kB).two; have hs3 : W.heap.size ≤ w3.heap.size := kB.size; have hq3 : w.heap.size + 1 + 1 < w3.heap.size := (O5.out.v.went kB).lt; have hx3 : wr.heap.size < w3.heap.size := (R5.out.went kB).lt; clear hb hI))
            all_goals
              go_wp2
              go_roundw
              case rel => exact ⟨j + 1, _, by omega, by go_num, by rw [RH2.out]; exact O7.out⟩
              case measure => simp [intOf]; omega
        · have hE : j = G.rules.length := by omega
          subst hE
          obtain ⟨av, cv, rfl, hcv⟩ := O.out.r.len
          have hst := non_in (start_known SM.out.known)
          obtain ⟨sn, hsn⟩ : ∃ sn : Nat, G.start = (sn : Int) := ⟨G.start.toNat, by omega⟩
          have n0 := O.out.m.holds sn (by omega)
          have hsnt : sn < top G + 1 := by omega
          obtain ⟨y0, y1, y2, y3, yf⟩ := O.out.v.four
          obtain ⟨z0, z1, z2, z3, zf⟩ := O.out.z.four
          have hqq := O.out.q
          have hqn6 : qn < wr.heap.size := O.out.m.lt
          obtain ⟨hnn, hGN⟩ := O.out.gnew KG.out.ok SM.out (by omega)
          have GN := Lib.hid hGN
          have HNN := Lib.hid hnn
          have PS := Lib.hid (show pos l (sn : Int) = (onlyG G l).start by rw [← hsn]; rfl)
          have BL := Lib.hid O.out.x.below
          clear hGN hnn hcv hst MEM RU KN WD KG SM
          rw [hsn] at x3
          clear hsn
          generalize (rulesTo G l G.rules.length).length = nr at *
          generalize hps : pos l (sn : Int) = ps at *
          have hl1 : (onlyG G l).terms.length = (tnL G l).length := rfl
          have hl2 : (onlyG G l).nons.length = (nnL G l).length := rfl
          have HL1 := Lib.hid hl1
          have HL2 := Lib.hid hl2
          clear hps hl1 hl2
          go_wp2
          obtain ⟨wz, hwz⟩ : ∃ wz, wr.setCell ⟨w.heap.size + 1 + 1, 3, none⟩ (.int .i64 ps) = wz := ⟨_, rfl⟩
          rw [hwz]
          have hF1 : Sep.Fr (fun k => k = w.heap.size + 1 + 1) wr wz := by rw [← hwz]; exact (Sep.Fr.refl (fun k => k = w.heap.size + 1 + 1) wr).setCell ⟨w.heap.size + 1 + 1, 3, none⟩ rfl _
          obtain ⟨z0, z1, z2, z3, zf⟩ := (O.out.z.fr hF1 (by omega)).four
          have hF2 := Rw.fr_set4 wz (w.heap.size + 1) (.slice a1 (tnL G l).length c1) (.slice a2 (nnL G l).length c2) (.slice av nr cv) (.int .i64 ps)
          have GN2 := (GN.out.fr hF1 (fun k hk => by omega)).fr hF2 (fun k hk => by omega)
          have BL2 := Rw.below_set4 (q := w.heap.size + 1) (BL.out.trans (hF1.below (m := w.heap.size) (fun k hk => by omega) BL.out.size)) (by omega) (.slice a1 (tnL G l).length c1) (.slice a2 (nnL G l).length c2) (.slice av nr cv) (.int .i64 ps)
          try simp only [Exit.inBlock, Exit.then]
          refine bodyPost_ret (v := .agg #[.slice a1 (tnL G l).length c1, .slice a2 (nnL G l).length c2, .slice av nr cv, .int .i64 ps]) (by simp [results, Tryz.results27, go_sem, z0, z1, z2, z3]) rfl ⟨⟨a1, c1, a2, c2, av, cv⟩, ?_, GN2.mono (by omega), BL2⟩
          rw [HNN.out, PS.out]
          rfl

end Go.Proofs.YtljblpekpmgmaaaGreatDoor.Lv
