/-
  Package arena: Show.
-/
import Derived.Test.YtoohnkffclkmhaaArenaBelow
import Derived.Test.YtoohnkffclkmhaaArenaBuild
import Derived.Test.YtoohnkffclkmhaaGramName
namespace Go.Proofs.Ytoohnkffclkmhaa.Tr
open Go.RowKit Go.Maps Go.Shelf
open Go.Proofs.Ytoohnkffclkmhaa.Sep
open Go.Proofs.Ytoohnkffclkmhaa.Rg
open Go.Proofs.Ytoohnkffclkmhaa.Rw (Bk)
open Go.Proofs.Ytoohnkffclkmhaa.Sb (BdS)
open Go.Proofs.Ytoohnkffclkmhaa.Gr (Gram Sh gv GAt nameS name_any cell_later boxed drawn Is bool_of int_of ivs iv)
attribute [local go_sem] Oper.semAt_some
set_option linter.unusedVariables false
set_option linter.unusedSimpArgs false

/-- The text where k visits have come. -/
def shTo (T : List Nd) (G : Gram) (V : List (Nat × Bool)) (k : Nat) : List UInt8 := (V.take k).foldl (showStep T G) []
theorem shTo_succ {T : List Nd} {G : Gram} {V : List (Nat × Bool)} {k : Nat} {y : Nat × Bool} (h : V[k]? = some y) : shTo T G V (k + 1) = showStep T G (shTo T G V k) y := by
  unfold shTo
  rw [take_snoc h, List.foldl_append]
  rfl
theorem shTo_full (T : List Nd) (G : Gram) (V : List (Nat × Bool)) : shTo T G V V.length = V.foldl (showStep T G) [] := by
  unfold shTo
  rw [List.take_length]
theorem shTo_len {T : List Nd} {G : Gram} {V : List (Nat × Bool)} {m k : Nat} (hm : ∀ s, (nameS G s).size ≤ m) (hk : k ≤ V.length) : (shTo T G V k).length ≤ k * (m + 2) := by
  have := show_len (T := T) hm (V.take k) []
  rw [List.length_take, Nat.min_eq_left hk, List.length_nil, Nat.zero_add] at this
  exact this
def showI (T : List Nd) (G : Gram) (i : Int) : List UInt8 := (visI T i).foldl (showStep T G) []
/-- What holds between two rounds. -/
def shI (b : Nat) (T : List Nd) (G : Gram) (V : List (Nat × Bool)) (k : Nat) (S' : Nat → Prop) (W : World) : Prop := BdS b (shTo T G V k) S' W
theorem shI_holds (B b : Nat) (T : List Nd) (G : Gram) (V : List (Nat × Bool)) : Holds B (shI b T G V) := fun k S' T1 A A' h _ hf hT => BdS.fr h hf fun x hx hs => (hT x hx).2 hs

/-- Within a round: what has been written, what stands. -/
structure Rd (b : Nat) (w w4 : World) (S' : Nat → Prop) (q : Nat) (gcs ncs : Array Value) (t : List UInt8) (w5 : World) : Prop where
  bd : ∃ S5, BdS b t S5 w5 ∧ Ext S5 S' w4 ∧ Fr S' w4 w5
  g : Bk w.heap.size gcs 43 w5
  n : Bk q ncs 51 w5
  low : Below w.heap.size w w5
  s1 : ¬ S' w.heap.size
  s2 : ¬ S' q
  s3 : ∀ x, S' x → w.heap.size ≤ x
  l1 : w.heap.size < w4.heap.size
  l2 : q < w4.heap.size
section
variable {b q : Nat} {w w4 w5 w6 : World} {S' : Nat → Prop} {gcs ncs : Array Value} {t : List UInt8}
theorem Rd.went (h : Rd b w w4 S' q gcs ncs t w5) (hb : Below w5.heap.size w5 w6) : Rd b w w4 S' q gcs ncs t w6 := by
  obtain ⟨S5, h1, h2, h3⟩ := h.bd
  exact ⟨⟨S5, h1.fr (F := fun _ => False) (.of_below hb) (fun _ h => h.elim), h2, Rw.fr_then h3 hb⟩, h.g.went hb, h.n.went hb, Gr.step h.low hb, h.s1, h.s2, h.s3, h.l1, h.l2⟩
theorem Rd.write (h : Rd b w w4 S' q gcs ncs t w5) (s : ByteArray) (hlen : t.length + s.size ≤ 140737488355328) :
    Calls Try.prog 27 #[.pointer (some ⟨b, 0, none⟩), .string s] w5 fun e w6 => e = .returned (.tuple #[.int .i64 s.size, .nilIface]) ∧ Rd b w w4 S' q gcs ncs (t ++ s.data.toList) w6 := by
  obtain ⟨S5, h1, h2, h3⟩ := h.bd
  refine (Sb.write_any s h1 hlen).mono ?_
  rintro e w6 ⟨rfl, S6, k1, k2, k3⟩
  have hs := h3.size
  refine ⟨rfl, ⟨S6, k1, h2.trans k2 hs, h3.trans k3 h2⟩, h.g.fr k3 fun e => ?_, h.n.fr k3 fun e => ?_, h.low.trans (k3.below (fun x hx => ?_) h.low.size), h.s1, h.s2, h.s3, h.l1, h.l2⟩
  · rcases h2 _ e with e | e
    · exact h.s1 e
    · have := h.l1
      omega
  · rcases h2 _ e with e | e
    · exact h.s2 e
    · have := h.l2
      omega
  · rcases h2 _ hx with e | e
    · exact h.s3 x e
    · have := h.l1
      omega
theorem Rd.len (h : Rd b w w4 S' q gcs ncs t w5) : Calls Try.prog 28 #[.pointer (some ⟨b, 0, none⟩)] w5 fun e w6 => e = .returned (.int .i64 (t.length : Int)) ∧ Rd b w w4 S' q gcs ncs t w6 := by
  obtain ⟨S5, h1, h2, h3⟩ := h.bd
  refine (Sb.len_any h1).mono ?_
  rintro e w6 ⟨rfl, k⟩
  exact ⟨rfl, h.went k⟩
end

set_option maxHeartbeats 8000000 in
set_option maxRecDepth 100000 in
theorem show_any (pv : Value) (S0 K : Nat → Prop) (L : List Nv) (hs : Sh) (G : Gram) (i : Int) (w : World) (h : TrO pv S0 K L w) (hw : Wf (L.map Prod.fst)) (hG : GAt hs G w) (hfi : Gr.Fits i) (hN : (visI (L.map Prod.fst) i).length ≤ 1000000) (m : Nat) (hm : ∀ s, (nameS G s).size ≤ m) (hmm : m ≤ 1000000) :
    Calls Try.prog 15 #[pv, gv hs G, .int .i64 i] w (Is (.string ⟨(showI (L.map Prod.fst) G i).toArray⟩) w) := by
  obtain ⟨wa, hwa⟩ : ∃ wa, w.alloc (.cells #[.slice hs.a1 G.terms.length hs.c1, .slice hs.a2 G.nons.length hs.c2, .slice hs.a3 G.rules.length hs.c3, .int .i64 G.start] 43) = wa := ⟨_, rfl⟩
  obtain ⟨wb, hwb⟩ : ∃ wb, wa.alloc (.cells #[.pointer none, .slice none 0 0] 66) = wb := ⟨_, rfl⟩
  have sa : wa.heap.size = w.heap.size + 1 := by rw [← hwa]; simp
  have sb : wb.heap.size = w.heap.size + 2 := by rw [← hwb]; simp [sa]
  have Ba : Below w.heap.size w wa := hwa ▸ boxed _ _
  have Bb : Below w.heap.size w wb := Gr.step Ba (hwb ▸ boxed _ _)
  have qa : Bk w.heap.size #[.slice hs.a1 G.terms.length hs.c1, .slice hs.a2 G.nons.length hs.c2, .slice hs.a3 G.rules.length hs.c3, .int .i64 G.start] 43 wb := (hwa ▸ Bk.new w _ _ _ rfl : Bk w.heap.size _ _ wa).went (hwb ▸ boxed _ _)
  have bd0 : BdS (w.heap.size + 1) [] (fun x => x = w.heap.size + 1 ∨ (Value.slice none 0 0).ownBlock = some x) wb := by
    have := Sb.BdS.new wa
    rw [hwb, sa] at this
    exact this
  obtain ⟨pa, rfl⟩ := h.ptr
  obtain ⟨V, hV⟩ : ∃ V, V = visI (L.map Prod.fst) i := ⟨_, rfl⟩
  have hVl : ∀ y ∈ V, y.1 < L.length := fun y hy => by have := visI_lt hw y (hV ▸ hy); simpa using this
  have ND := Lib.hid (fun (j : Nat) (hjl : j < L.length) => h.node hjl)
  have WA := Lib.hid (walk_any pa i wb)
  have HN := Lib.hid (fun k (hk : k ≤ V.length) => shTo_len (T := L.map Prod.fst) hm hk)
  have hVf : V.length ≤ 1000000 := hV ▸ hN
  have NX := Lib.hid (show ∀ w6, w6 = (wb.alloc (.cells #[.pointer pa] 23)).alloc (.cells #[.int .i64 i] 3) →
      Rg.Yields Try.prog 44 #[.pointer (some ⟨w.heap.size + 2, 0, none⟩), .pointer (some ⟨w.heap.size + 2 + 1, 0, none⟩)] (encW L i) V.length (oW S0 K (w.heap.size + 2) (w.heap.size + 2 + 1)) w6 ∧ Inn (oW S0 K (w.heap.size + 2) (w.heap.size + 2 + 1)) w6 ∧ w.heap.size + 4 = w6.heap.size ∧
      Off (fun x => x = w.heap.size + 1 ∨ (Value.slice none 0 0).ownBlock = some x) (oW S0 K (w.heap.size + 2) (w.heap.size + 2 + 1)) ∧ BdS (w.heap.size + 1) [] (fun x => x = w.heap.size + 1 ∨ (Value.slice none 0 0).ownBlock = some x) w6 ∧
      Below w.heap.size w w6 ∧ Bk w.heap.size #[.slice hs.a1 G.terms.length hs.c1, .slice hs.a2 G.nons.length hs.c2, .slice hs.a3 G.rules.length hs.c3, .int .i64 G.start] 43 w6 from fun w6 e => by
    subst e
    have b1 := boxed wb (.cells #[.pointer pa] 23)
    have b2 := boxed (wb.alloc (.cells #[.pointer pa] 23)) (.cells #[.int .i64 i] 3)
    have b12 := Gr.step b1 b2
    have b3 := Gr.step Bb b12
    have hsz : ((wb.alloc (.cells #[.pointer pa] 23)).alloc (.cells #[.int .i64 i] 3)).heap.size = w.heap.size + 4 := by simp [sb]
    have hti := h.inn
    refine ⟨?_, ?_, hsz.symm, ?_, bd0.fr (F := fun _ => False) (.of_below b12) (fun _ h => h.elim), b3, qa.went b12⟩
    · rw [hV, ← sb]
      refine walk_yields (.pointer pa) S0 K L i _ _ _ (h.went b3) hw hfi ((b2.block _ (by simp)).trans (World.alloc_heap_new _ _)) ?_ hN
      have := World.alloc_heap_new (wb.alloc (.cells #[.pointer pa] 23)) (.cells #[.int .i64 i] 3)
      rwa [World.size_alloc] at this
    · rintro x (hx | hx | rfl | rfl)
      · have := hti.1 x hx
        omega
      · have := hti.2 x hx
        omega
      · omega
      · omega
    · rintro x (rfl | e) ho
      · rcases ho with ho | ho | ho | ho
        · have := hti.1 _ ho
          omega
        · have := hti.2 _ ho
          omega
        · omega
        · omega
      · cases e)
  have GL := Lib.hid (fun w1 (hb : Below w.heap.size w w1) => hG.below hb (Nat.le_refl _))
  have HV := Lib.hid hV
  unfold showI
  rw [← hV]
  clear Ba Bb qa bd0 h hG hV
  unfold gv
  refine (callsIn_wide (n := 9)).1 ?_
  refine callsIn_of_wp_marks Try.func15 rfl trivial ?_ rfl
  simp only [Try.ntmps15, List.size_toArray, List.length_cons, List.length_nil, Nat.reduceAdd, Nat.reduceSub, Array.replicate_succ, Array.replicate_zero, List.push_toArray, List.append_toArray, List.nil_append, List.cons_append]
  gi_wp2_with (refine ⟨trivial, ?_⟩; gi_at_call 26; refine (calls_any WA.out).mono ?_; rintro e w6 ⟨rfl, hw6⟩; have X6 := Lib.hid (NX.out w6 hw6); clear hw6)
  clear NX WA
  obtain ⟨hyl, hoi, hsz, hoff, hbd, hbl, hq6⟩ := X6.out
  have HB6 := Lib.hid hbl
  have Q6 := Lib.hid hq6
  refine range_law (n := 9) (gf := 44) (lb := #[.pointer (some ⟨w.heap.size + 2, 0, none⟩), .pointer (some ⟨w.heap.size + 2 + 1, 0, none⟩)]) rfl (enters_of Try.func44 (by kernel_rfl) rfl) (encs := encW L i) hyl (fun _ => rfl)
    (shI (w.heap.size + 1) (L.map Prod.fst) G V) (fun _ _ _ _ => False) (shI_holds _ _ _ _ _) (fun _ _ _ _ _ _ h _ _ _ => h) _ (fun _ => False) hoff hoi hbd.inn (fun _ h => h.elim) hbd ?round ?done ?stop
  case stop =>
    rintro c k S' W hk h
    exact h.elim
  case done =>
    rintro S' W hb hin he hf hD hnD
    have hb' : BdS (w.heap.size + 1) (shTo (L.map Prod.fst) G V V.length) S' W := hb
    rw [shTo_full] at hb'
    have ST := Lib.hid (Sb.string_any hb')
    have hWl : Below w.heap.size w W := HB6.out.trans (hf.below (m := w.heap.size) (fun x hx => by
      rcases hx with rfl | e
      · exact Nat.le_succ _
      · cases e) (by omega))
    have EN := Lib.hid (show ∀ w7, Below (w.heap.size + 1) W w7 → Lib.OthersKept 5 (some (w.heap.size + 1)) W w7 → w7.heap[w6.heap.size]? = some (.deferred (some [])) ∧ ∀ w', Fr (fun x => x ∈ [w6.heap.size]) w7 w' → Below w.heap.size w w' from fun w7 h7 k7 => by
      refine ⟨k7 _ _ hD (by simp; omega) (fun c fz e => by cases e), fun w' hf' => ?_⟩
      have h8 := hWl.trans (h7.mono (by omega))
      exact h8.trans (hf'.below (fun x hx => by rw [List.mem_singleton] at hx; omega) h8.size))
    have LM := Lib.hid (show ∀ (w7 : World) (fn : Func) (tmps : Array Value) (R : Ending → World → Prop), w7.heap[w6.heap.size]? = some (.deferred (some [])) → (∀ w', Fr (fun x => x ∈ [w6.heap.size]) w7 w' → ∃ v, (results fn tmps).run Try.prog w' = .ok v w' ∧ R (.returned v) w') → LeavesInM Fence.wide 9 Try.prog fn tmps R [{ target := .collected w6.heap.size, args := #[] }] .returning w7 from
      fun w7 fn tmps R hD7 hR => leaves_marks [w6.heap.size] w7 (by simp) (fun D hD' => by rw [List.mem_singleton] at hD'; subst hD'; exact hD7) hR)
    clear hb hb' hin he hf hD hnD hyl hoi hoff hbd hbl hq6 X6 hWl
    gi_wp2_with (refine ⟨trivial, ?_⟩; gi_at_call 30; refine (calls_any ST.out).mono ?_; rintro e w7 ⟨rfl, h7, k7⟩; obtain ⟨d7, e7⟩ := EN.out w7 h7 k7; have D7 := Lib.hid d7; have E7 := Lib.hid e7; clear h7 k7 d7 e7)
    refine LM.out _ _ _ _ D7.out ?_
    intro w' hf
    refine ⟨_, results_tmp rfl _ _ _, rfl, E7.out w' hf⟩
  case round =>
    rintro l k S' W hk hl hl2 hnl hb hin he hf
    obtain ⟨⟨j, c⟩, hy⟩ : ∃ x, V[k]? = some x := ⟨_, List.getElem?_eq_getElem hk⟩
    have hjl := hVl (j, c) (List.mem_of_getElem? hy)
    dsimp only at hjl
    obtain ⟨n, a2, c3, hnd⟩ := ND.out j hjl
    have e1 : V.getD k (0, false) = (j, c) := by rw [List.getD_eq_getElem?_getD, hy]; rfl
    have e2 : L.getD j nv0 = (n, .slice a2 n.kids.length c3) := by rw [List.getD_eq_getElem?_getD, List.getElem?_eq_getElem hjl, ← hnd]; rfl
    have hst : shTo (L.map Prod.fst) G V (k + 1) = if c then shTo (L.map Prod.fst) G V k ++ [41] else shTo (L.map Prod.fst) G V k ++ (if shTo (L.map Prod.fst) G V k = [] then [] else [32]) ++ (if n.inner then [40] else []) ++ (nameS G n.sym).data.toList := by
      rw [shTo_succ hy]
      unfold showStep
      dsimp only
      rw [ndAt_get (by simpa using hjl), List.getElem_map, hnd]
    unfold encW
    rw [← HV.out, e1]
    dsimp only
    rw [e2]
    unfold ndv
    dsimp only
    have hb' : BdS (w.heap.size + 1) (shTo (L.map Prod.fst) G V k) S' W := hb
    have hsW := hf.size
    have hWl : Below w.heap.size w W := HB6.out.trans (hf.below (m := w.heap.size) (fun x hx => by
      rcases hx with rfl | e
      · exact Nat.le_succ _
      · cases e) (by omega))
    have qW := Q6.out.fr hf (by
      rintro (e | e)
      · omega
      · cases e)
    have AF := Lib.hid (show ∀ w4, Fr (fun x => x = l) (W.alloc (.cells #[.int .i64 n.sym, .int .i64 n.leaf, .int .i64 n.rule, .slice a2 n.kids.length c3, .bool n.inner, .bool n.taken] 51)) w4 → BdS (w.heap.size + 1) (shTo (L.map Prod.fst) G V k) S' w4 ∧ Below w.heap.size w w4 ∧
        Bk w.heap.size #[.slice hs.a1 G.terms.length hs.c1, .slice hs.a2 G.nons.length hs.c2, .slice hs.a3 G.rules.length hs.c3, .int .i64 G.start] 43 w4 ∧ Bk W.heap.size #[.int .i64 n.sym, .int .i64 n.leaf, .int .i64 n.rule, .slice a2 n.kids.length c3, .bool n.inner, .bool n.taken] 51 w4 from fun w4 h4 => by
      have b1 := boxed W (.cells #[.int .i64 n.sym, .int .i64 n.leaf, .int .i64 n.rule, .slice a2 n.kids.length c3, .bool n.inner, .bool n.taken] 51)
      have b2 := Gr.step hWl b1
      exact ⟨(hb'.fr (F := fun _ => False) (.of_below b1) fun _ h => h.elim).fr h4 fun x e hx => hnl (e ▸ hx), b2.trans (h4.below (fun x e => by omega) b2.size), (qW.went b1).fr h4 (by omega), (Bk.new W _ _ _ rfl).fr h4 (by omega)⟩)
    have hlen := HN.out k (Nat.le_of_lt hk)
    have hlen2 : (shTo (L.map Prod.fst) G V k).length ≤ 1000000 * 1000002 := by
      refine Nat.le_trans hlen (Nat.mul_le_mul ?_ ?_)
      · omega
      · omega
    have hnm := hm n.sym
    generalize shTo (L.map Prod.fst) G V k = t at *
    have SI := Lib.hid hin
    have SO := Lib.hid (show ∀ x, S' x → w.heap.size + 1 ≤ x from fun x hx => by
      rcases he x hx with (rfl | e) | e
      · exact Nat.le_refl _
      · cases e
      · omega)
    clear e1 e2 hb hb' hin he hf hyl hoi hoff hbd hbl hq6 X6 hWl qW hlen
    gi_wp2
    refine ⟨(Fr.refl _ W).alloc _, fun w4 h4 hs4 => ?_⟩
    obtain ⟨b4, l4, q4, n4⟩ := AF.out w4 h4
    have hs4' : w4.heap.size = W.heap.size + 1 := by simpa using hs4
    have R4 : Rd (w.heap.size + 1) w w4 S' W.heap.size #[.slice hs.a1 G.terms.length hs.c1, .slice hs.a2 G.nons.length hs.c2, .slice hs.a3 G.rules.length hs.c3, .int .i64 G.start] #[.int .i64 n.sym, .int .i64 n.leaf, .int .i64 n.rule, .slice a2 n.kids.length c3, .bool n.inner, .bool n.taken] t w4 :=
      ⟨⟨S', b4, .refl _ _, .refl _ _⟩, q4, n4, l4, fun h => by have := SO.out _ h; omega, fun h => by have := SI.out _ h; omega, fun x h => by have := SO.out _ h; omega, by have := q4.lt; exact this, n4.lt⟩
    have R := Lib.hid R4
    have FIN := Lib.hid (show ∀ w7 t7, Rd (w.heap.size + 1) w w4 S' W.heap.size #[.slice hs.a1 G.terms.length hs.c1, .slice hs.a2 G.nons.length hs.c2, .slice hs.a3 G.rules.length hs.c3, .int .i64 G.start] #[.int .i64 n.sym, .int .i64 n.leaf, .int .i64 n.rule, .slice a2 n.kids.length c3, .bool n.inner, .bool n.taken] t7 w7 → shTo (L.map Prod.fst) G V (k + 1) = t7 →
        ∃ S'', Ext S'' S' W ∧ Fr (fun x => S' x ∨ W.heap.size ≤ x) w4 w7 ∧ Inn S'' w7 ∧ shI (w.heap.size + 1) (L.map Prod.fst) G V (k + 1) S'' w7 from fun w7 t7 r e => by
      obtain ⟨S5, h1, h2, h3⟩ := r.bd
      refine ⟨S5, fun x hx => (h2 x hx).imp id fun h => by omega, h3.mono fun x hx => .inl hx, h1.inn, ?_⟩
      unfold shI
      rw [e]
      exact h1)
    have NM := Lib.hid (show ∀ w7 t7 gcs ncs, Rd (w.heap.size + 1) w w4 S' W.heap.size gcs ncs t7 w7 →
        Calls Try.prog 29 #[.agg #[.slice hs.a1 G.terms.length hs.c1, .slice hs.a2 G.nons.length hs.c2, .slice hs.a3 G.rules.length hs.c3, .int .i64 G.start], .int .i64 n.sym] w7 (Is (.string (nameS G n.sym)) w7) from fun w7 t7 gcs ncs r => name_any hs G n.sym w7 (GL.out w7 r.low))
    generalize hncs : (#[.int .i64 n.sym, .int .i64 n.leaf, .int .i64 n.rule, .slice a2 n.kids.length c3, .bool n.inner, .bool n.taken] : Array Value) = ncs at R FIN
    generalize hgcs : (#[.slice hs.a1 G.terms.length hs.c1, .slice hs.a2 G.nons.length hs.c2, .slice hs.a3 G.rules.length hs.c3, .int .i64 G.start] : Array Value) = gcs at R FIN
    have CN := Lib.hid (show ∀ w7 t7, Rd (w.heap.size + 1) w w4 S' W.heap.size gcs ncs t7 w7 → w7.cell? ⟨W.heap.size, 0, none⟩ = some (.int .i64 n.sym) ∧ w7.cell? ⟨W.heap.size, 4, none⟩ = some (.bool n.inner) ∧ w7.cell? ⟨w.heap.size, 0, none⟩ = some (.slice hs.a1 G.terms.length hs.c1) ∧ w7.cell? ⟨w.heap.size, 1, none⟩ = some (.slice hs.a2 G.nons.length hs.c2) ∧ w7.cell? ⟨w.heap.size, 2, none⟩ = some (.slice hs.a3 G.rules.length hs.c3) ∧ w7.cell? ⟨w.heap.size, 3, none⟩ = some (.int .i64 G.start) from fun w7 t7 r => by
      have hn := r.n
      have hg := r.g
      rw [← hncs] at hn
      rw [← hgcs] at hg
      obtain ⟨g1, g2, g3, g4, -⟩ := hg.four
      exact ⟨hn.cell rfl, hn.cell rfl, g1, g2, g3, g4⟩)
    clear AF b4 l4 q4 n4 h4 hs4 hs4' R4 hncs hgcs
    cases c with
    | true =>
      simp only [if_true] at hst
      have W1 := Lib.hid (R.out.write ⟨#[41]⟩ (by simp [ByteArray.size]; omega))
      gi_wp2_with (refine ⟨trivial, ?_⟩; gi_at_call 27; refine (calls_any W1.out).mono ?_; rintro e w7 ⟨rfl, r7⟩; have E7 := Lib.hid (FIN.out w7 _ r7 hst); clear r7)
      exact E7.out
    | false =>
      simp only [Bool.false_eq_true, if_false] at hst
      have sz1 : ∀ x : UInt8, (⟨#[x]⟩ : ByteArray).size = 1 := fun _ => rfl
      generalize nameS G n.sym = nm at *
      obtain ⟨d0, d4, g1, g2, g3, g4⟩ := CN.out _ _ R.out
      cases t with
      | nil =>
        simp only [if_true, List.append_nil, List.nil_append] at hst
        cases hni : n.inner with
        | true =>
          rw [hni] at CN d4
          simp only [hni, if_true] at hst
          gi_wp2_with (first
            | (refine ⟨trivial, ?_⟩; gi_at_call 28; refine (calls_any R.out.len).mono ?_; rintro e w7 ⟨rfl, r7⟩; have R := Lib.hid r7; clear r7; obtain ⟨d0, d4, g1, g2, g3, g4⟩ := CN.out _ _ R.out)
            | (refine ⟨trivial, ?_⟩; gi_at_call 27; refine (calls_any (R.out.write _ (by simp only [sz1, List.length_append, List.length_cons, List.length_nil]; omega))).mono ?_; rintro e w7 ⟨rfl, r7⟩; have R := Lib.hid r7; clear r7; obtain ⟨d0, d4, g1, g2, g3, g4⟩ := CN.out _ _ R.out)
            | (refine ⟨trivial, ?_⟩; gi_at_call 29; refine (calls_any (NM.out _ _ _ _ R.out)).mono ?_; rintro e w7 ⟨rfl, hb7⟩; have R := Lib.hid (R.out.went hb7); clear hb7; obtain ⟨d0, d4, g1, g2, g3, g4⟩ := CN.out _ _ R.out))
          exact FIN.out _ _ R.out (by rw [hst]; try simp [List.append_assoc])
        | false =>
          rw [hni] at CN d4
          simp only [hni, Bool.false_eq_true, if_false, List.nil_append] at hst
          gi_wp2_with (first
            | (refine ⟨trivial, ?_⟩; gi_at_call 28; refine (calls_any R.out.len).mono ?_; rintro e w7 ⟨rfl, r7⟩; have R := Lib.hid r7; clear r7; obtain ⟨d0, d4, g1, g2, g3, g4⟩ := CN.out _ _ R.out)
            | (refine ⟨trivial, ?_⟩; gi_at_call 27; refine (calls_any (R.out.write _ (by simp only [sz1, List.length_append, List.length_cons, List.length_nil]; omega))).mono ?_; rintro e w7 ⟨rfl, r7⟩; have R := Lib.hid r7; clear r7; obtain ⟨d0, d4, g1, g2, g3, g4⟩ := CN.out _ _ R.out)
            | (refine ⟨trivial, ?_⟩; gi_at_call 29; refine (calls_any (NM.out _ _ _ _ R.out)).mono ?_; rintro e w7 ⟨rfl, hb7⟩; have R := Lib.hid (R.out.went hb7); clear hb7; obtain ⟨d0, d4, g1, g2, g3, g4⟩ := CN.out _ _ R.out))
          exact FIN.out _ _ R.out (by rw [hst]; try simp [List.append_assoc])
      | cons t0 ts =>
        have hne : ¬ (t0 :: ts = []) := fun e => by cases e
        rw [if_neg hne] at hst
        have hpos : 0 < (t0 :: ts).length := by simp
        clear hne
        generalize t0 :: ts = t at *
        have hpos2 : (0 : Int) < (t.length : Int) := by omega
        cases hni : n.inner with
        | true =>
          rw [hni] at CN d4
          simp only [hni, if_true] at hst
          gi_wp2_with (first
            | (refine ⟨trivial, ?_⟩; gi_at_call 28; refine (calls_any R.out.len).mono ?_; rintro e w7 ⟨rfl, r7⟩; have R := Lib.hid r7; clear r7; obtain ⟨d0, d4, g1, g2, g3, g4⟩ := CN.out _ _ R.out)
            | (refine ⟨trivial, ?_⟩; gi_at_call 27; refine (calls_any (R.out.write _ (by simp only [sz1, List.length_append, List.length_cons, List.length_nil]; omega))).mono ?_; rintro e w7 ⟨rfl, r7⟩; have R := Lib.hid r7; clear r7; obtain ⟨d0, d4, g1, g2, g3, g4⟩ := CN.out _ _ R.out)
            | (refine ⟨trivial, ?_⟩; gi_at_call 29; refine (calls_any (NM.out _ _ _ _ R.out)).mono ?_; rintro e w7 ⟨rfl, hb7⟩; have R := Lib.hid (R.out.went hb7); clear hb7; obtain ⟨d0, d4, g1, g2, g3, g4⟩ := CN.out _ _ R.out))
          exact FIN.out _ _ R.out (by rw [hst]; try simp [List.append_assoc])
        | false =>
          rw [hni] at CN d4
          simp only [hni, Bool.false_eq_true, if_false, List.append_nil] at hst
          gi_wp2_with (first
            | (refine ⟨trivial, ?_⟩; gi_at_call 28; refine (calls_any R.out.len).mono ?_; rintro e w7 ⟨rfl, r7⟩; have R := Lib.hid r7; clear r7; obtain ⟨d0, d4, g1, g2, g3, g4⟩ := CN.out _ _ R.out)
            | (refine ⟨trivial, ?_⟩; gi_at_call 27; refine (calls_any (R.out.write _ (by simp only [sz1, List.length_append, List.length_cons, List.length_nil]; omega))).mono ?_; rintro e w7 ⟨rfl, r7⟩; have R := Lib.hid r7; clear r7; obtain ⟨d0, d4, g1, g2, g3, g4⟩ := CN.out _ _ R.out)
            | (refine ⟨trivial, ?_⟩; gi_at_call 29; refine (calls_any (NM.out _ _ _ _ R.out)).mono ?_; rintro e w7 ⟨rfl, hb7⟩; have R := Lib.hid (R.out.went hb7); clear hb7; obtain ⟨d0, d4, g1, g2, g3, g4⟩ := CN.out _ _ R.out))
          exact FIN.out _ _ R.out (by rw [hst]; try simp [List.append_assoc])

end Go.Proofs.Ytoohnkffclkmhaa.Tr
