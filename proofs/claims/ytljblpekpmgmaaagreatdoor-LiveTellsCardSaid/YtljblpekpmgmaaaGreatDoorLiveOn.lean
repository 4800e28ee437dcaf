/-
  Package live: what stands in memory while a grammar is put together with some symbols alone: the new names, the new numbers. Plain facts on it, and gram.Top of what is half done.
-/
import Derived.Test.YtljblpekpmgmaaaGreatDoorLiveNum
namespace Go.Proofs.YtljblpekpmgmaaaGreatDoor.Lv
open Go.RowKit Go.Maps
open Go.Proofs.YtljblpekpmgmaaaGreatDoor.Gr
open Go.Proofs.YtljblpekpmgmaaaGreatDoor.Rw (Bk IntsV GRules zg row_shape)
set_option linter.unusedVariables false

/-! ### Lists of symbols as they grow -/

theorem sel_next (Q : Int → Prop) (j : Nat) : (Q ((j : Int) + 1) → sel Q (up 0 (j + 1)) = sel Q (up 0 j) ++ [(j : Int) + 1]) ∧ (¬ Q ((j : Int) + 1) → sel Q (up 0 (j + 1)) = sel Q (up 0 j)) := by
  rw [up_snoc, sel_append]
  constructor
  · intro h
    rw [sel_all (l := [(j : Int) + 1]) fun x hx => by rw [List.mem_singleton] at hx; subst hx; exact h]
  · intro h
    have : sel Q [(j : Int) + 1] = [] := by
      rw [List.eq_nil_iff_forall_not_mem]
      intro x hx
      obtain ⟨h1, h2⟩ := mem_sel.1 hx
      rw [List.mem_singleton] at h1
      subst h1
      exact h h2
    rw [this, List.append_nil]
theorem sel_not (Q : Int → Prop) (j : Nat) : ((j : Int) + 1) ∉ sel Q (up 0 j) := fun h => by
  have := mem_up.1 (mem_sel.1 h).1
  omega
theorem pos_snoc_self {l : List Int} {s : Int} (h : s ∉ l) : pos (l ++ [s]) s = (l.length : Int) + 1 := by
  induction l with
  | nil => simp [pos]
  | cons a r ih =>
    rw [List.mem_cons, not_or] at h
    have h1 := ih h.2
    show (if a = s then 1 else if pos (r ++ [s]) s = 0 then 0 else pos (r ++ [s]) s + 1) = _
    rw [if_neg (fun e => h.1 e.symm), h1, if_neg (by omega), List.length_cons]
    omega
theorem pos_snoc_ne {l : List Int} {s x : Int} (h : x ≠ s) : pos (l ++ [s]) x = pos l x := by
  induction l with
  | nil =>
    show (if s = x then 1 else if (0 : Int) = 0 then 0 else 0 + 1) = 0
    rw [if_neg (fun e => h e.symm), if_pos rfl]
  | cons a r ih =>
    show (if a = x then 1 else if pos (r ++ [s]) x = 0 then 0 else pos (r ++ [s]) x + 1) = (if a = x then 1 else if pos r x = 0 then 0 else pos r x + 1)
    rw [ih]
theorem pos_range {l : List Int} (s : Int) : 0 ≤ pos l s ∧ pos l s ≤ (l.length : Int) := by
  by_cases h : s ∈ l
  · have := pos_le h
    omega
  · rw [pos_out h]
    omega

def tnL (G : Gram) (l : List Int) : List ByteArray := (l.filter fun s => termB G s).map (nameS G)
def nnL (G : Gram) (l : List Int) : List ByteArray := (l.filter fun s => !termB G s).map (nameS G)
theorem tn_snoc {G : Gram} {l : List Int} {s : Int} (h : termB G s = true) : tnL G (l ++ [s]) = tnL G l ++ [nameS G s] ∧ nnL G (l ++ [s]) = nnL G l := by
  unfold tnL nnL
  rw [List.filter_append, List.filter_append]
  simp [h]
theorem nn_snoc {G : Gram} {l : List Int} {s : Int} (h : termB G s = false) : tnL G (l ++ [s]) = tnL G l ∧ nnL G (l ++ [s]) = nnL G l ++ [nameS G s] := by
  unfold tnL nnL
  rw [List.filter_append, List.filter_append]
  simp [h]
theorem tn_len (G : Gram) (l : List Int) : (tnL G l).length + (nnL G l).length = l.length := by
  unfold tnL nnL
  rw [List.length_map, List.length_map]
  induction l with
  | nil => rfl
  | cons a r ih =>
    rw [List.filter_cons, List.filter_cons]
    cases h : termB G a <;> simp <;> omega
theorem sel_len (Q : Int → Prop) (j : Nat) : (sel Q (up 0 j)).length ≤ j := by
  have := (sel_sub Q (up 0 j)).length_le
  rwa [up_length] at this

/-! ### In memory -/

/-- The new numbers in a block of the call's own. -/
structure Nums (qn n : Nat) (f : Int → Int) (w : World) : Prop where
  holds : ∀ x : Nat, x < n → w.cell? ⟨qn, x, none⟩ = some (.int .i64 (f (x : Int)))
  free : ∀ x : Nat, w.frozen? ⟨qn, x, none⟩ = false
  lt : qn < w.heap.size
theorem Nums.at_ {qn n : Nat} {f : Int → Int} {w w' : World} (h : Nums qn n f w) (hs : w.heap.size ≤ w'.heap.size) (hb : w'.heap[qn]? = w.heap[qn]?) : Nums qn n f w' :=
  ⟨fun x hx => (World.cell?_of_block (a := ⟨qn, x, none⟩) hb).trans (h.holds x hx), fun x => (World.frozen?_of_block (a := ⟨qn, x, none⟩) hb).trans (h.free x), Nat.lt_of_lt_of_le h.lt hs⟩
theorem Nums.went {qn n : Nat} {f : Int → Int} {w w' : World} (h : Nums qn n f w) (hb : Below w.heap.size w w') : Nums qn n f w' := h.at_ hb.size (hb.block qn h.lt)
theorem Nums.num {qn n : Nat} {f : Int → Int} {w : World} (h : Nums qn n f w) : NumAt (some ⟨qn, 0, none⟩) n f w := fun x hx => ⟨qn, 0, rfl, by rw [Nat.zero_add]; exact h.holds x hx⟩
theorem Nums.put {qn n : Nat} {f g : Int → Int} {w : World} (h : Nums qn n f w) {s : Nat} (hs : s < n) (hg : ∀ x, x ≠ (s : Int) → g x = f x) : Nums qn n g (w.setCell ⟨qn, s, none⟩ (.int .i64 (g (s : Int)))) := by
  refine ⟨fun x hx => ?_, fun x => by rw [World.frozen?_setCell]; exact h.free x, by simpa [World.setCell] using h.lt⟩
  by_cases e : x = s
  · subst e
    exact World.cell?_setCell_same _ _ _ (h.holds x hx)
  · rw [World.cell?_setCell_other _ _ _ _ (by intro e2; exact e (congrArg Addr.off e2).symm), hg _ (by omega)]
    exact h.holds x hx
theorem nums_new (n : Nat) (w : World) : Nums w.heap.size n (fun _ => 0) (w.alloc (.cells (ivs (List.replicate n 0)).toArray 3)) := by
  have hB := Bk.new w (ivs (List.replicate n 0)).toArray 3 _ rfl
  refine ⟨fun x hx => hB.cell (ivs_at ?_), fun x => hB.free x, hB.lt⟩
  rw [List.getElem?_replicate, if_pos hx]

abbrev Strs (base : Nat) (L : List ByteArray) (v : Value) (w : World) : Prop := w.ownsRow base 9 1 v L.length (L.map .string)

theorem bx_fr {W w w' : World} {h : Sh} {G : Gram} {S : Nat → Prop} (k : Bx W h G w) (hF : Sep.Fr S w w') (hS : ∀ k, S k → W.heap.size < k) : Bx W h G w' := by
  have e : w'.heap[W.heap.size]? = w.heap[W.heap.size]? := hF.block _ (World.block_lt_of_cell? w ⟨W.heap.size, 0, none⟩ k.box.x0) (fun e => by have := hS _ e; omega)
  refine ⟨k.below.trans (hF.below (fun k hk => Nat.le_of_lt (hS k hk)) k.below.size), ?_⟩
  exact ⟨(World.cell?_of_block (a := ⟨W.heap.size, 0, none⟩) e).trans k.box.x0, (World.cell?_of_block (a := ⟨W.heap.size, 1, none⟩) e).trans k.box.x1,
    (World.cell?_of_block (a := ⟨W.heap.size, 2, none⟩) e).trans k.box.x2, (World.cell?_of_block (a := ⟨W.heap.size, 3, none⟩) e).trans k.box.x3⟩

structure On (W : World) (h : Sh) (G : Gram) (qn : Nat) (f : Int → Int) (T N : List ByteArray) (a1 : Option Addr) (c1 : Nat) (a2 : Option Addr) (c2 : Nat) (w : World) : Prop where
  x : Bx W h G w
  z : Bk (W.heap.size + 1) zg 25 w
  v : Bk (W.heap.size + 1 + 1) #[.slice a1 T.length c1, .slice a2 N.length c2, .slice none 0 0, .int .i64 0] 25 w
  m : Nums qn (top G + 1) f w
  t : Strs (qn + 1) T (.slice a1 T.length c1) w
  n : Strs (qn + 1) N (.slice a2 N.length c2) w
  ne : ∀ g, (Value.slice a1 T.length c1).ownBlock = some g → (Value.slice a2 N.length c2).ownBlock ≠ some g
  q : W.heap.size + 1 + 1 < qn
section
variable {W : World} {h : Sh} {G : Gram} {qn : Nat} {f : Int → Int} {T N : List ByteArray} {a1 a2 : Option Addr} {c1 c2 : Nat} {w : World}
/-- Other blocks are written. -/
theorem On.fr (k : On W h G qn f T N a1 c1 a2 c2 w) {S : Nat → Prop} {w' : World} (hF : Sep.Fr S w w') (h0 : ∀ i, S i → W.heap.size < i) (h1 : ¬ S (W.heap.size + 1)) (h2 : ¬ S (W.heap.size + 1 + 1)) (h3 : ¬ S qn)
    (h4 : ∀ g, (Value.slice a1 T.length c1).ownBlock = some g → ¬ S g) (h5 : ∀ g, (Value.slice a2 N.length c2).ownBlock = some g → ¬ S g) : On W h G qn f T N a1 c1 a2 c2 w' :=
  ⟨bx_fr k.x hF h0, k.z.fr hF h1, k.v.fr hF h2, k.m.at_ hF.size (hF.block _ k.m.lt h3), Sep.ownsRow_at k.t fun g hg => hF.block g (k.t.lt g hg).2 (h4 g hg), Sep.ownsRow_at k.n fun g hg => hF.block g (k.n.lt g hg).2 (h5 g hg), k.ne, k.q⟩
theorem On.went (k : On W h G qn f T N a1 c1 a2 c2 w) {w' : World} (hb : Below w.heap.size w w') : On W h G qn f T N a1 c1 a2 c2 w' :=
  k.fr (S := fun _ => False) (Sep.Fr.of_below hb) (fun _ h => h.elim) id id id (fun _ _ => id) (fun _ _ => id)
theorem On.num (k : On W h G qn f T N a1 c1 a2 c2 w) {g : Int → Int} {s : Nat} (hs : s < top G + 1) (hg : ∀ x, x ≠ (s : Int) → g x = f x) : On W h G qn g T N a1 c1 a2 c2 (w.setCell ⟨qn, s, none⟩ (.int .i64 (g (s : Int)))) := by
  have hF : Sep.Fr (fun k => k = qn) w (w.setCell ⟨qn, s, none⟩ (.int .i64 (g (s : Int)))) := (Sep.Fr.refl (fun k => k = qn) w).setCell ⟨qn, s, none⟩ rfl _
  have := k.q
  exact ⟨bx_fr k.x hF (fun i hi => by omega), k.z.fr hF (by omega), k.v.fr hF (by omega), k.m.put hs hg, Sep.ownsRow_at k.t fun g hg => hF.block g (k.t.lt g hg).2 (by have := (k.t.lt g hg).1; omega), Sep.ownsRow_at k.n fun g hg => hF.block g (k.n.lt g hg).2 (by have := (k.n.lt g hg).1; omega), k.ne, k.q⟩
/-- A terminal's name more. -/
theorem On.putT (k : On W h G qn f T N a1 c1 a2 c2 w) {x : ByteArray} {w3 w4 : World} {a4 : Option Addr} {c4 : Nat} (hb : Below w.heap.size w w3)
    (hown : w4.ownsRow (qn + 1) 9 1 (.slice a4 (T.length + 1) c4) (T.length + 1) (T.map .string ++ [.string x])) (hg : (w3.alloc (.cells #[.string x] 9)).grownBy w4 (Value.slice a1 T.length c1).ownBlock)
    (hl : (Value.slice a4 (T.length + 1) c4).ownBlock = (Value.slice a1 T.length c1).ownBlock ∨ (Value.slice a4 (T.length + 1) c4).ownBlock = some (w3.alloc (.cells #[.string x] 9)).heap.size) :
    On W h G qn f (T ++ [x]) N a4 c4 a2 c2 (w4.setCell ⟨W.heap.size + 1 + 1, 0, none⟩ (.slice a4 (T.length + 1) c4)) := by
  have b3 := Gr.step hb (boxed w3 (.cells #[.string x] 9))
  have hq := k.q
  have hF : Sep.Fr (fun i => (Value.slice a1 T.length c1).ownBlock = some i) w w4 := (Sep.Fr.of_below b3).grown hg fun i hi => .inl hi
  have hF2 : Sep.Fr (fun i => i = W.heap.size + 1 + 1) w4 (w4.setCell ⟨W.heap.size + 1 + 1, 0, none⟩ (.slice a4 (T.length + 1) c4)) := (Sep.Fr.refl (fun k => k = W.heap.size + 1 + 1) w4).setCell ⟨W.heap.size + 1 + 1, 0, none⟩ rfl _
  have lo : ∀ i, (Value.slice a1 T.length c1).ownBlock = some i → qn + 1 ≤ i := fun i hi => (k.t.lt i hi).1
  have n4 : Strs (qn + 1) N (.slice a2 N.length c2) w4 := Sep.ownsRow_at k.n fun g hg => hF.block g (k.n.lt g hg).2 fun e => k.ne g e hg
  have hlen : (T ++ [x]).length = T.length + 1 := by simp
  have v5 := ((k.v.fr hF fun e => by have := lo _ e; omega).set (j := 0) (by simp) (.slice a4 (T.length + 1) c4))
  refine ⟨bx_fr (bx_fr k.x hF fun i hi => by have := lo i hi; omega) hF2 fun i hi => by omega, (k.z.fr hF fun e => by have := lo _ e; omega).fr hF2 (by omega), by rw [hlen]; exact v5, (k.m.at_ hF.size (hF.block _ k.m.lt fun e => by have := lo _ e; omega)).at_ hF2.size (hF2.block _ (Nat.lt_of_lt_of_le k.m.lt hF.size) (by omega)), ?_, Sep.ownsRow_at n4 fun g hg => hF2.block g (n4.lt g hg).2 (by have := (n4.lt g hg).1; omega), fun g hg e => ?_, k.q⟩
  · have h1 : Strs (qn + 1) (T ++ [x]) (.slice a4 (T ++ [x]).length c4) w4 := by
      unfold Strs
      rw [hlen, List.map_append]
      exact hown
    exact Sep.ownsRow_at h1 fun g hg => hF2.block g (h1.lt g hg).2 (by have := (h1.lt g hg).1; omega)
  · rw [hlen] at hg
    rcases hl with h5 | h5
    · exact k.ne g (h5.symm.trans hg) e
    · rw [h5] at hg
      injection hg with hg
      have := (k.n.lt g e).2
      have := b3.size
      omega
/-- A nonterminal's name more. -/
theorem On.putN (k : On W h G qn f T N a1 c1 a2 c2 w) {x : ByteArray} {w3 w4 : World} {a4 : Option Addr} {c4 : Nat} (hb : Below w.heap.size w w3)
    (hown : w4.ownsRow (qn + 1) 9 1 (.slice a4 (N.length + 1) c4) (N.length + 1) (N.map .string ++ [.string x])) (hg : (w3.alloc (.cells #[.string x] 9)).grownBy w4 (Value.slice a2 N.length c2).ownBlock)
    (hl : (Value.slice a4 (N.length + 1) c4).ownBlock = (Value.slice a2 N.length c2).ownBlock ∨ (Value.slice a4 (N.length + 1) c4).ownBlock = some (w3.alloc (.cells #[.string x] 9)).heap.size) :
    On W h G qn f T (N ++ [x]) a1 c1 a4 c4 (w4.setCell ⟨W.heap.size + 1 + 1, 1, none⟩ (.slice a4 (N.length + 1) c4)) := by
  have b3 := Gr.step hb (boxed w3 (.cells #[.string x] 9))
  have hq := k.q
  have hF : Sep.Fr (fun i => (Value.slice a2 N.length c2).ownBlock = some i) w w4 := (Sep.Fr.of_below b3).grown hg fun i hi => .inl hi
  have hF2 : Sep.Fr (fun i => i = W.heap.size + 1 + 1) w4 (w4.setCell ⟨W.heap.size + 1 + 1, 1, none⟩ (.slice a4 (N.length + 1) c4)) := (Sep.Fr.refl (fun k => k = W.heap.size + 1 + 1) w4).setCell ⟨W.heap.size + 1 + 1, 1, none⟩ rfl _
  have lo : ∀ i, (Value.slice a2 N.length c2).ownBlock = some i → qn + 1 ≤ i := fun i hi => (k.n.lt i hi).1
  have t4 : Strs (qn + 1) T (.slice a1 T.length c1) w4 := Sep.ownsRow_at k.t fun g hg => hF.block g (k.t.lt g hg).2 fun e => k.ne g hg e
  have hlen : (N ++ [x]).length = N.length + 1 := by simp
  have v5 := ((k.v.fr hF fun e => by have := lo _ e; omega).set (j := 1) (by simp) (.slice a4 (N.length + 1) c4))
  refine ⟨bx_fr (bx_fr k.x hF fun i hi => by have := lo i hi; omega) hF2 fun i hi => by omega, (k.z.fr hF fun e => by have := lo _ e; omega).fr hF2 (by omega), by rw [hlen]; exact v5, (k.m.at_ hF.size (hF.block _ k.m.lt fun e => by have := lo _ e; omega)).at_ hF2.size (hF2.block _ (Nat.lt_of_lt_of_le k.m.lt hF.size) (by omega)), Sep.ownsRow_at t4 fun g hg => hF2.block g (t4.lt g hg).2 (by have := (t4.lt g hg).1; omega), ?_, fun g hg e => ?_, k.q⟩
  · have h1 : Strs (qn + 1) (N ++ [x]) (.slice a4 (N ++ [x]).length c4) w4 := by
      unfold Strs
      rw [hlen, List.map_append]
      exact hown
    exact Sep.ownsRow_at h1 fun g hg => hF2.block g (h1.lt g hg).2 (by have := (h1.lt g hg).1; omega)
  · rw [hlen] at e
    rcases hl with h5 | h5
    · exact k.ne g hg (h5.symm.trans e)
    · rw [h5] at e
      injection e with e
      have := (k.t.lt g hg).2
      have := b3.size
      omega
end

/-- gram.Top of whatever lists. -/
theorem top_raw (a1 a2 a3 : Option Addr) (n1 n2 n3 c1 c2 c3 : Nat) (s : Int) (h1 : n1 ≤ 1000) (h2 : n2 ≤ 1000) (w : World) :
    Calls Tryz.prog 19 #[.agg #[.slice a1 n1 c1, .slice a2 n2 c2, .slice a3 n3 c3, .int .i64 s]] w (Is (.int .i64 ((n1 : Int) + n2)) w) := by
  go_enter Tryz.func19, Tryz.ntmps19
  go_wp2
  go_ret
  exact ⟨int_of (by omega), boxed _ _⟩

/-- It reads as a grammar in whatever world that keeps its own blocks, which are new. -/
def GNew (n : Nat) (sh : Sh) (G : Gram) (w : World) : Prop := ∀ w'', w.heap.size ≤ w''.heap.size → (∀ k, n ≤ k → k < w.heap.size → w''.heap[k]? = w.heap[k]?) → GAt sh G w''
theorem GNew.at_ {n : Nat} {sh : Sh} {G : Gram} {w : World} (h : GNew n sh G w) : GAt sh G w := h w (Nat.le_refl _) fun _ _ _ => rfl
theorem GNew.fr {n : Nat} {sh : Sh} {G : Gram} {S : Nat → Prop} {w w' : World} (h : GNew n sh G w) (hF : Sep.Fr S w w') (hS : ∀ k, S k → k < n) : GNew n sh G w' := fun w'' hs hb =>
  h w'' (Nat.le_trans hF.size hs) fun k hk hl => (hb k hk (Nat.lt_of_lt_of_le hl hF.size)).trans (hF.block k hl fun e => by have := hS k e; omega)
theorem GNew.went {n : Nat} {sh : Sh} {G : Gram} {w w' : World} (h : GNew n sh G w) (hb : Below w.heap.size w w') : GNew n sh G w' := h.fr (S := fun _ => False) (Sep.Fr.of_below hb) fun _ h => h.elim

end Go.Proofs.YtljblpekpmgmaaaGreatDoor.Lv
