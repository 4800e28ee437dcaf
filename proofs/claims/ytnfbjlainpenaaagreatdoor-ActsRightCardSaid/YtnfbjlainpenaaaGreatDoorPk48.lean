/- A part of the proof. -/
import Derived.Test.YtnfbjlainpenaaaGreatDoorPk33
import Derived.Test.YtnfbjlainpenaaaGreatDoorPk46
set_option maxHeartbeats 4000000
set_option maxRecDepth 100000
set_option linter.unusedVariables false
namespace Go.Proofs.YtnfbjlainpenaaaGreatDoor
open Go.RowKit Go.Maps
namespace Ac
open Gr (boxed)
open Rg
open Go.Proofs.YtnfbjlainpenaaaGreatDoor.Sep
attribute [local go_sem] Oper.semAt_some
def clc (x : Cl4) : List Value := [.int .i64 x.1, .int .i64 x.2.1, .int .i64 x.2.2.1.1, .int .i64 x.2.2.1.2, .int .i64 x.2.2.2.1, .int .i64 x.2.2.2.2]
theorem zPY (x : Cl4) : ∀ u ∈ clc x, u.oneCell' = true := by
 intro u hu
 simp only [clc, List.mem_cons, List.not_mem_nil, or_false] at hu
 rcases hu with rfl | rfl | rfl | rfl | rfl | rfl <;> rfl
theorem zEo : (Tryz.prog.info? 59).map (fun i => (i.zero, i.size, i.bytes)) = some (some (.agg #[.int .i64 0, .int .i64 0, .int .i64 0, .int .i64 0, .int .i64 0, .int .i64 0]), 6, 48) := by kernel_rfl
theorem zCW {F : Fence} {fu : Nat} {P : Program} (w : World) {ops : Array Oper} {rest : List Oper} {o : Oper} {a : Act} {Q : Exit -> Act -> World -> Prop} (hgd : o.guard = none) (s x : Operand) (t : TypeId)
  (ho : o.op = .call { callee := .builtin .append, args := #[s, x], argTypes := #[t, t] })
  (base : Nat) (e : TypeId) (i : TypeInfo) (z : Value) (size bytes : Nat) (ht : P.underlying t = some (.slice e)) (hi : P.info? e = some i) (hz : i.zero = some z)
  (hsize : i.size = size) (hby : i.bytes = bytes) (hzs : z.cells.size = size) (hpos : 0 < size) (v : Value) (n : Nat) (xs : List Value) (hs : a.eval s = v) (hown : w.ownsRow base e size v n xs)
  (base2 : Nat) (v2 : Value) (m : Nat) (ys : List Value) (hx : a.eval x = v2) (hown2 : w.ownsRow base2 e size v2 m ys) (h1 : ∀ u ∈ ys, u.oneCell' = true)
  (h63 : n + m <= maxLen) (hbytes : (n + m) * bytes <= 140737488355328) (hbase : base <= w.heap.size)
  (h : ∀ v' w', w'.ownsRow base e size v' (n + m) (xs ++ ys) -> w.grownBy w' v.ownBlock -> (v'.ownBlock = v.ownBlock \/ v'.ownBlock = some w.heap.size) -> wpListIn F fu P ops Q rest (a.put o.dst v') w') : wpListIn F fu P ops Q (o :: rest) a w := by
 refine wpListIn_plain hgd fun K hK' => ?_
 obtain ⟨v', w', hr, h2, h3, h4⟩ := Rw.zCF (P := P) w t o.type base e i z size bytes ht hi hz hsize hby hzs hpos v n xs hown base2 v2 m ys hown2 h1 h63 hbytes hbase
 unfold Oper.wpIn
 refine ⟨?_, ?_⟩
 ·simp [Oper.about, ho, resolve, Target.leads, Sem.run_pure]
 ·rw [Oper.semAt_plain F _ _ (by rw [ho]; intro c hc'; cases hc')]
  simp [execOp, ho, resolve, invoke, builtin, hs, hx, hr, Result.andThen]
  exact hK' _ _ (h v' w' h2 h3 h4)
theorem zGd {P : Program} {g : Nat} {lb : Array Value} {encs : Nat -> Array Value} {N : Nat} {O : Nat -> Prop} {w w1 : World} (h : Rg.Yields P g lb encs N O w) (hb : Below w.heap.size w w1) : Rg.Yields P g lb encs N O w1 :=
 fun l J Jx S X W hF => h l J Jx S X W ((Fr.of_below hb).trans hF (Ext.refl _ _))
def seqI (base : Nat) (L : List Cl4) (bs k : Nat) (S' : Nat -> Prop) (W : World) : Prop :=
 ∃ v, S' = (fun x => x = bs \/ v.ownBlock = some x) /\ W.heap[bs]? = some (.cells #[v] 28 (0, 0)) /\ W.ownsRow base 59 6 v k ((L.take k).flatMap clc) /\ v.ownBlock ≠ some bs
theorem zJI (B base : Nat) (L : List Cl4) (bs : Nat) : Holds B (seqI base L bs) := by
 rintro k S' T A A' ⟨v, rfl, h1, h2, h3⟩ hi hf hT
 exact ⟨v, rfl, zAO hf h1 fun h => (hT _ h).2 (.inl rfl), zAD h2 fun g hg => hf.block g (World.ownsRow.lt h2 g hg).2 fun h => (hT _ h).2 (.inr hg), h3⟩
theorem zQn {g : Nat} {lb : Array Value} {encs : Nat -> Array Value} {O : Nat -> Prop} (L : List Cl4) (henc : ∀ k (h : k < L.length), encs k = #[clv L[k]]) (hps : ∀ k, (encs k).size = 1) (hL : L.length <= 1000000000) (w : World) (hseq : Rg.Yields Tryz.prog g lb encs L.length O w)
  (eg : ∀ args w, (callFunc g args).run Tryz.prog w = .ok (.enter g args) w) (base : Nat) (v : Value) (hv : w.ownsRow base 59 6 v 0 []) (hO : ∀ b, v.ownBlock = some b -> ¬ O b) (hOi : Inn O w) (hbase : base <= w.heap.size) :
  Calls Tryz.prog 26 #[v, .func (.func g) #[] lb] w fun e w' => ∃ v', e = .returned v' /\ w'.ownsRow base 59 6 v' L.length (L.flatMap clc) /\ Fr (fun x => v.ownBlock = some x) w w' := by
 obtain ⟨i0, hj, hz0, hz1, hz2⟩ := info_parts zEo
 have hba : Below w.heap.size w (w.alloc (.cells #[v] 28)) := boxed _ _
 have hvo : ∀ b, v.ownBlock = some b -> b < w.heap.size := fun b e => (World.ownsRow.lt hv b e).2
 have SQ := zSg (zGd hseq hba)
 have I0 := zSg (show seqI base L w.heap.size 0 (fun x => x = w.heap.size \/ v.ownBlock = some x) (w.alloc (.cells #[v] 28)) from
  ⟨v, rfl, World.alloc_heap_new _ _, zAD hv fun b e => hba.block b (hvo b e), fun e => by have := hvo _ e; omega⟩)
 have OF := zSg (show Off (fun x => x = w.heap.size \/ v.ownBlock = some x) O from by
  rintro x (rfl | h) ho
  ·have := hOi _ ho
   omega
  ·exact hO x h ho)
 have OI := zSg (show Inn O (w.alloc (.cells #[v] 28)) from hOi.le hba.size)
 have SI := zSg (show Inn (fun x => x = w.heap.size \/ v.ownBlock = some x) (w.alloc (.cells #[v] 28)) from by
  rintro x (rfl | h)
  ·rw [World.size_alloc]
   exact Nat.lt_succ_self _
  ·rw [World.size_alloc]
   have := hvo x h
   omega)
 have hsv : ∃ a c, v = .slice a 0 c := Rw.zAG hv
 obtain ⟨a0, c0, rfl⟩ := hsv
 refine (callsIn_wide (n := 9)).1 ?_
 refine callsIn_of_wp_marks Tryz.func26 rfl trivial ?_ rfl
 simp only [Tryz.ntmps26, List.size_toArray, List.length_cons, List.length_nil, Nat.reduceAdd, Nat.reduceSub, Array.replicate_succ, Array.replicate_zero, List.push_toArray, List.append_toArray, List.nil_append, List.cons_append]
 gi_wp2
 refine zCC (n := 9) (gf := g) (lb := lb) rfl eg (encs := encs) SQ.out hps (seqI base L w.heap.size) (fun _ _ _ _ => False) (zJI _ _ _ _) (fun _ _ _ _ _ _ h _ _ _ => h) _ (fun _ => False) OF.out OI.out SI.out (fun _ h => h.elim) I0.out ?round ?done ?stop
 case stop =>
  rintro c k S' W hk h
  exact h.elim
 case done =>
  rintro S' W ⟨v', rfl, h1, h2, h3⟩ hin he hf hD hnD
  obtain ⟨a', c', rfl⟩ := Rw.zAG h2
  have c1 := zAA h1 (k := 0) (by simp)
  have EN := zSg (show ∀ w', Fr (fun x => x ∈ [(w.alloc (.cells #[.slice a0 0 c0] 28)).heap.size]) W w' -> ∃ v', Ending.returned (.slice a' L.length c') = .returned v' /\ w'.ownsRow base 59 6 v' L.length (L.flatMap clc) /\ Fr (fun x => (Value.slice a0 0 c0).ownBlock = some x) w w' from fun w' hf' => by
   rw [List.take_length] at h2
   refine ⟨_, rfl, zAD h2 fun b e => hf'.block b (World.ownsRow.lt h2 b e).2 fun e2 => ?_, ?_⟩
   ·rw [List.mem_singleton] at e2
    exact hnD (.inr (by rw [← e2]; exact e))
   ·refine ((((Fr.of_below (S := fun x => (Value.slice a0 0 c0).ownBlock = some x) hba).trans hf ?_).trans hf') ?_)
    ·rintro x (rfl | e)
     ·exact .inr (Nat.le_refl _)
     ·exact .inl e
    ·intro x hx
     rw [List.mem_singleton] at hx
     subst hx
     exact .inr hba.size)
  have LM := zSg (show ∀ (fn : Func) (tmps : Array Value) (R : Ending -> World -> Prop), (∀ w', Fr (fun x => x ∈ [(w.alloc (.cells #[.slice a0 0 c0] 28)).heap.size]) W w' -> ∃ v, (results fn tmps).run Tryz.prog w' = .ok v w' /\ R (.returned v) w') -> LeavesInM Fence.wide 9 Tryz.prog fn tmps R [{ target := .collected (w.alloc (.cells #[.slice a0 0 c0] 28)).heap.size, args := #[] }] .returning W from
   fun fn tmps R hR => zAi [(w.alloc (.cells #[.slice a0 0 c0] 28)).heap.size] W (by simp) (fun D hD' => by rw [List.mem_singleton] at hD'; subst hD'; exact hD) hR)
  clear h1 h2 h3 hin he hf hD hnD I0 OF OI SI SQ hO hOi hv hvo
  gi_wp2
  refine LM.out _ _ _ ?_
  intro w' hf
  refine ⟨_, results_tmp rfl _ _ _, ?_⟩
  change ∃ v', Ending.returned (.slice a' L.length c') = .returned v' /\ w'.ownsRow base 59 6 v' L.length (L.flatMap clc) /\ Fr (fun x => (Value.slice a0 0 c0).ownBlock = some x) w w'
  exact EN.out w' hf
 case round =>
  rintro l k S' W hk hl hl2 hnl ⟨v', rfl, h1, h2, h3⟩ hin he hf
  obtain ⟨a', c', rfl⟩ := Rw.zAG h2
  have hbs : w.heap.size < W.heap.size := (Array.getElem?_eq_some_iff.1 h1).1
  have hlb : w.heap.size ≠ l := fun e => hnl (.inl e.symm)
  rw [henc k hk]
  unfold clv
  have EX := zSg (show ∀ w2, Fr (fun x => x = l) (W.alloc (.cells #[.int .i64 L[k].1, .int .i64 L[k].2.1, .int .i64 L[k].2.2.1.1, .int .i64 L[k].2.2.1.2, .int .i64 L[k].2.2.2.1, .int .i64 L[k].2.2.2.2] 59)) w2 ->
    w2.heap[w.heap.size]? = some (.cells #[.slice a' k c'] 28 (0, 0)) /\ w2.heap[W.heap.size]? = some (.cells #[.int .i64 L[k].1, .int .i64 L[k].2.1, .int .i64 L[k].2.2.1.1, .int .i64 L[k].2.2.1.2, .int .i64 L[k].2.2.2.1, .int .i64 L[k].2.2.2.2] 59 (0, 0)) /\
    w2.ownsRow base 59 6 (.slice a' k c') k ((L.take k).flatMap clc) from fun w2 h => by
   have b1 := boxed W (.cells #[.int .i64 L[k].1, .int .i64 L[k].2.1, .int .i64 L[k].2.2.1.1, .int .i64 L[k].2.2.1.2, .int .i64 L[k].2.2.2.1, .int .i64 L[k].2.2.2.2] 59)
   refine ⟨zAO h ((b1.block _ hbs).trans h1) hlb, zAO h (World.alloc_heap_new _ _) (by omega), zAD h2 fun b e => ?_⟩
   have hb := (World.ownsRow.lt h2 b e).2
   exact (h.block b (Nat.lt_of_lt_of_le hb b1.size) fun e2 => hnl (.inr (by rw [← e2]; exact e))).trans (b1.block b hb))
  have hcl : ∀ x, (Value.slice a' k c').ownBlock = some x -> x < W.heap.size := fun x e => hin x (.inr e)
  clear h1 h2 hin
  gi_wp2
  refine ⟨(Fr.refl _ W).alloc _, fun w2 hw2 hs2 => ?_⟩
  obtain ⟨e1, e2, e3⟩ := EX.out w2 hw2
  have R2 := zSg e3
  have c1 := zAA e1 (k := 0) (by simp)
  have d0 := zAA e2 (k := 0) (by simp)
  have d1 := zAA e2 (k := 1) (by simp)
  have d2 := zAA e2 (k := 2) (by simp)
  have d3 := zAA e2 (k := 3) (by simp)
  have d4 := zAA e2 (k := 4) (by simp)
  have d5 := zAA e2 (k := 5) (by simp)
  have b3 := boxed w2 (.cells #[.int .i64 L[k].1, .int .i64 L[k].2.1, .int .i64 L[k].2.2.1.1, .int .i64 L[k].2.2.1.2, .int .i64 L[k].2.2.2.1, .int .i64 L[k].2.2.2.2] 59)
  have R3 := zSg (zAD e3 (w' := w2.alloc (.cells #[.int .i64 L[k].1, .int .i64 L[k].2.1, .int .i64 L[k].2.2.1.1, .int .i64 L[k].2.2.1.2, .int .i64 L[k].2.2.2.1, .int .i64 L[k].2.2.2.2] 59)) fun b e => b3.block b (World.ownsRow.lt e3 b e).2)
  have hb2 : base <= w2.heap.size := by omega
  have ON := zSg (show (w2.alloc (.cells #[.int .i64 L[k].1, .int .i64 L[k].2.1, .int .i64 L[k].2.2.1.1, .int .i64 L[k].2.2.1.2, .int .i64 L[k].2.2.2.1, .int .i64 L[k].2.2.2.2] 59)).ownsRow base 59 6 (.slice (some ⟨w2.heap.size, 0, none⟩) 1 1) 1 (clc L[k]) from
   World.ownsRow_lit w2 #[.int .i64 L[k].1, .int .i64 L[k].2.1, .int .i64 L[k].2.2.1.1, .int .i64 L[k].2.2.1.2, .int .i64 L[k].2.2.2.1, .int .i64 L[k].2.2.2.2] 1 hb2 (by decide) (by simp))
  have hb4 : base <= (w2.alloc (.cells #[.int .i64 L[k].1, .int .i64 L[k].2.1, .int .i64 L[k].2.2.1.1, .int .i64 L[k].2.2.1.2, .int .i64 L[k].2.2.2.1, .int .i64 L[k].2.2.2.2] 59)).heap.size := Nat.le_trans hb2 b3.size
  have BX := zSg (show ∀ w4, (w2.alloc (.cells #[.int .i64 L[k].1, .int .i64 L[k].2.1, .int .i64 L[k].2.2.1.1, .int .i64 L[k].2.2.1.2, .int .i64 L[k].2.2.2.1, .int .i64 L[k].2.2.2.2] 59)).grownBy w4 (Value.slice a' k c').ownBlock -> w4.heap[w.heap.size]? = some (.cells #[.slice a' k c'] 28 (0, 0)) from
   fun w4 hg => (hg.block _ (by rw [World.size_alloc]; omega) fun e => h3 e.symm).trans ((b3.block _ (by omega)).trans e1))
  have HS2 := zSg hs2
  clear e1 e2 e3 SQ I0 OF OI SI hO hOi hv hvo hs2
  gi_wp2_with (gi_at_builtin; refine zCW _ rfl _ _ 28 rfl base 59 i0 (.agg #[.int .i64 0, .int .i64 0, .int .i64 0, .int .i64 0, .int .i64 0, .int .i64 0]) 6 48 Tryz.underlying28 hj hz0 hz1 hz2 rfl (by decide) (.slice a' k c') k ((L.take k).flatMap clc) rfl R3.out base _ 1 (clc L[k]) rfl ON.out (zPY _) (by unfold maxLen; omega) (by omega) hb4 ?_; intro v4 w4 hown4 hg4 hloc4; have B4 := BX.out w4 hg4; have c2 := zAA B4 (k := 0) (by simp); have f2 : w4.frozen? ⟨w.heap.size, 0, none⟩ = false := zGy B4; have W4 := zSg hown4; have G4 := zSg hg4; have L4 := zSg hloc4; obtain ⟨a4, c4, rfl⟩ := Rw.zAG hown4; clear hown4 hg4 hloc4)
  have hs2 := HS2.out
  have h4b := (BX.out w4 G4.out)
  have hbs4 : w.heap.size < w4.heap.size := (Array.getElem?_eq_some_iff.1 h4b).1
  have hnb : ∀ x, (Value.slice a4 (k + 1) c4).ownBlock = some x -> x = w.heap.size -> False := fun x e e2 => by
   rcases L4.out with h | h
   ·rw [h, e2] at e
    exact h3 e
   ·rw [e] at h
    injection h with h
    rw [World.size_alloc] at h
    omega
  have gs := Rg.zAv w4 w.heap.size 0 (.slice a4 (k + 1) c4)
  refine ⟨fun x => x = w.heap.size \/ (Value.slice a4 (k + 1) c4).ownBlock = some x, ?_, ?_, ?_, .slice a4 (k + 1) c4, rfl, zDl h4b _, ?_, fun e => hnb _ e rfl⟩
  ·rintro x (hx | hx)
   ·exact .inl (.inl hx)
   ·rcases L4.out with h | h
    ·exact .inl (.inr (by rw [← h]; exact hx))
    ·rw [hx] at h
     injection h with h
     rw [World.size_alloc] at h
     exact .inr (by omega)
  ·have f1 : Fr (fun x => (x = w.heap.size \/ (Value.slice a' k c').ownBlock = some x) \/ W.heap.size <= x) w2 w4 := ((Fr.of_below b3).grown G4.out fun x e => .inl (.inl (.inr e)))
   exact f1.setCell ⟨w.heap.size, 0, none⟩ (.inl (.inl rfl)) _
  ·rintro x (rfl | hx)
   ·exact Nat.lt_of_lt_of_le hbs4 gs.size
   ·exact Nat.lt_of_lt_of_le (World.ownsRow.lt W4.out x hx).2 gs.size
  ·have e5 : (L.take (k + 1)).flatMap clc = (L.take k).flatMap clc ++ clc L[k] := by
    rw [List.take_succ_eq_append_getElem hk, List.flatMap_append]
    simp
   rw [e5]
   exact zAD W4.out fun x e => gs.block x (World.ownsRow.lt W4.out x e).2 fun e2 => by
    injection e2 with e2
    exact hnb x e e2
def Grown (w : World) (e : Ending) (w' : World) : Prop := ∃ a c, e = .returned (.slice a 0 c) /\ w'.ownsRow w.heap.size 59 6 (.slice a 0 c) 0 [] /\ Below w.heap.size w w'
theorem zM9 (n : Nat) (w : World) (hn : n <= 1000000000) :
  Calls Tryz.prog 27 #[.slice none 0 0, .int .i64 (n : Int)] w (Grown w) := by
 rcases Nat.eq_zero_or_pos n with rfl | h0
 ·have hcon := Any8.slices_Grow_room Tryz.growCl none 0 0 0 w (Nat.le_refl _) (by omega) (by omega) (by omega)
  change Calls Tryz.prog 27 _ _ _ at hcon
  refine hcon.mono ?_
  rintro e w' ⟨rfl, rfl⟩
  exact ⟨none, 0, rfl, World.ownsRow_nil _ _ _ _, .refl _ _⟩
 ·obtain ⟨i0, hj, hz0, hz1, hz2⟩ := info_parts zEo
  have hcon := Any8.slices_Grow_grow Tryz.growCl i0 (.agg #[.int .i64 0, .int .i64 0, .int .i64 0, .int .i64 0, .int .i64 0, .int .i64 0]) hj hz0 (by rw [hz1]; decide) none 0 0 n [] w (Nat.le_refl _) (by omega) (by rw [hz2]; omega) (by omega) (by simp) (fun _ => rfl) (fun a h => by cases h)
  change Calls Tryz.prog 27 _ _ _ at hcon
  refine hcon.mono ?_
  rintro e w' ⟨rfl, rfl⟩
  have hG1 : 0 + n <= grownCap w (0 + n) 0 (Tryz.growCl_ren.t 25) := grownCap_ge w _ _ _
  have hG2 := grownCap_le_maxLen w (0 + n) 0 (Tryz.growCl_ren.t 25) (by unfold maxLen; omega)
  refine ⟨_, _, rfl, ⟨rfl, .inr ⟨w.heap.size, _, _, rfl, Nat.le_refl _, World.alloc_heap_new w.drew _, Nat.zero_le _, hG2, ?_, by simp⟩⟩, ((Gr.drawn w).alloc (Nat.le_refl _) _)⟩
  rw [Nat.zero_add] at hG1
  simp only [Array.size_append, List.size_toArray, List.length_nil, Nat.zero_add]
  simp [Builtin.zeroCells, Value.cells]
  omega
end Ac
namespace Ac
open Gr (Gram Sh GAt gv Bx cell_later boxed drawn checkN)
open Au
open Rg
open Go.Proofs.YtnfbjlainpenaaaGreatDoor.Sep
attribute [local go_sem] Oper.semAt_some
def zCk (G : Gram) (w : World) (e : Ending) (w' : World) : Prop :=
 ∃ (er : Int) (L : List Cl4) (a : Option Addr) (c : Nat), e = .returned (.tuple #[.slice a L.length c, .int .i64 er]) /\ ClashIs G er L /\ w'.ownsRow w.heap.size 59 6 (.slice a L.length c) L.length (L.flatMap clc) /\ Below w.heap.size w w'
def cntI (bc k : Nat) (S' : Nat -> Prop) (W : World) : Prop := S' = (fun x => x = bc) /\ W.heap[bc]? = some (.cells #[.int .i64 (k : Int)] 3 (0, 0))
theorem zIn (B bc : Nat) : Holds B (cntI bc) := by
 rintro k S' T A A' ⟨rfl, h1⟩ hi hf hT
 exact ⟨rfl, zAO hf h1 fun h => (hT _ h).2 rfl⟩
theorem zQk {G : Gram} (q : Whole) (i n : Nat) : (upTo (cellC G q i) n).length <= n * (G.rules.length + 2) := by
 induction n with
 | zero => simp [zMH]
 | succ n ih =>
  rw [zC6, List.length_append, zE9, Nat.succ_mul]
  have := zMY G q i n
  omega
theorem zJ2 {G : Gram} (q : Whole) (n : Nat) : cI G q n <= n * ((G.terms.length + 1) * (G.rules.length + 2)) := by
 induction n with
 | zero => simp [zPU]
 | succ n ih =>
  have h1 : cI G q (n + 1) = cI G q n + (upTo (cellC G q n) (G.terms.length + 1)).length := by
   rw [← zJ0]
   rfl
  have h2 := zQk (G := G) q n (G.terms.length + 1)
  rw [h1, Nat.succ_mul]
  omega
theorem zGp {G : Gram} {q : Whole} (hv : checkN G = 0) (hl : q.1.length <= 2000) : (zAQ G q).length <= 1000000000 := by
 have h := zJ2 (G := G) q q.1.length
 rw [zJz] at h
 have hs := Fi.zAo hv
 have h1 : (G.terms.length + 1) * (G.rules.length + 2) <= 121 * 302 := Nat.mul_le_mul (by have := hs.t; omega) (by have := hs.r; omega)
 have h2 : q.1.length * ((G.terms.length + 1) * (G.rules.length + 2)) <= 2000 * (121 * 302) := Nat.mul_le_mul hl h1
 omega
theorem zKz {w : World} {o : Obj} {g : Nat} (h : (w.drew.alloc o).heap.size <= g) : w.heap.size + 1 <= g := by
 rw [World.size_alloc] at h
 exact h
theorem zG8 {w wa : World} {cs : Array Value} {T : TypeId} (h : Below (w.drew.alloc (.cells cs T)).heap.size (w.drew.alloc (.cells cs T)) wa) : wa.heap[w.heap.size]? = some (.cells cs T (0, 0)) :=
 (h.block w.heap.size (by rw [World.size_alloc]; exact Nat.lt_succ_self _)).trans (World.alloc_heap_new w.drew _)
theorem zEh (h : Sh) (G : Gram) (w : World) (k : GAt h G w) (htab : Bt.Tab w) :
  Calls Tryz.prog 9 #[gv h G] w (zCk G w) := by
 have X := zSg (Bx.start h G w 25)
 have RD := zSg (fun w1 (b : Below w.heap.size w w1) => zDj h G w1 (k.went b) (htab.below b htab.pos))
 clear k htab
 unfold gv at *
 refine (callsIn_wide (n := 9)).1 ?_
 refine callsIn_of_wp_marks Tryz.func9 rfl trivial ?_ rfl
 refine wpIn_wide.2 ?_
 simp only [Tryz.ntmps9, List.size_toArray, List.length_cons, List.length_nil, Nat.reduceAdd, Nat.reduceSub, Array.replicate_succ, Array.replicate_zero, List.push_toArray, List.append_toArray, List.nil_append, List.cons_append]
 obtain ⟨x0, x1, x2, x3⟩ := X.out.box
 go_wp2_with fail
 refine (RD.out _ X.out.below).mono ?_
 intro e w1 hR
 rcases hR with ⟨er, h0, hB, rfl, hb1⟩ | ⟨m, q, rfl, rfl, hB, hD, rfl, hb1⟩
 ·have hne : (er != 0) = true := by simpa using h0
  have EB := zSg (Gr.step X.out.below hb1)
  unfold zC9
  clear X x0 x1 x2 x3 hb1
  go_wp2
  refine ⟨_, results_tmp2 rfl _ _ _, ?_⟩
  change zCk G w (.returned (.tuple #[.slice none 0 0, .int .i64 er])) _
  exact ⟨er, [], none, 0, rfl, .bad hB h0, World.ownsRow_nil _ _ _ _, EB.out.alloc EB.out.size _⟩
 ·clear RD
  have X1 := zSg (X.out.went hb1)
  have B1 := zSg (Gr.step X.out.below hb1)
  have DD := zSg hD
  have hN := zGp hD.hv hD.len
  have hp0 : w.heap.size < w1.heap.size := Nat.lt_of_lt_of_le (Nat.lt_succ_self _) X1.out.size
  have Q2 := zSg (show (w1.alloc (.cells (amc m) 69)).heap[w1.heap.size]? = some (.cells (amc m) 69 (0, 0)) from World.alloc_heap_new _ _)
  have B12 := zSg (boxed w1 (.cells (amc m) 69))
  have B13 := zSg (Gr.step B12.out (boxed (w1.alloc (.cells (amc m) 69)) (.cells #[.int .i64 0] 3)))
  have H3 := zSg (show ((w1.alloc (.cells (amc m) 69)).alloc (.cells #[.int .i64 0] 3)).heap[w1.heap.size]? = some (.cells (amc m) 69 (0, 0)) /\ ((w1.alloc (.cells (amc m) 69)).alloc (.cells #[.int .i64 0] 3)).heap[w1.heap.size + 1]? = some (.cells #[.int .i64 ((0 : Nat) : Int)] 3 (0, 0)) /\ ((w1.alloc (.cells (amc m) 69)).alloc (.cells #[.int .i64 0] 3)).heap.size = w1.heap.size + 2 from by
   refine ⟨(Below.heap_alloc _ _ _ (by rw [World.size_alloc]; exact Nat.lt_succ_self _)).trans Q2.out, ?_, by simp⟩
   have := World.alloc_heap_new (w1.alloc (.cells (amc m) 69)) (.cells #[.int .i64 0] 3)
   rwa [World.size_alloc] at this)
  have CL := zSg (show ∀ w3, Calls Tryz.prog 25 #[.agg #[.slice m.h.a1 m.G.terms.length m.h.c1, .slice m.h.a2 m.G.nons.length m.h.c2, .slice m.h.a3 m.G.rules.length m.h.c3, .int .i64 m.G.start, .slice m.aS m.nS m.cS, .slice m.aL m.nL m.cL]] w3 _ from fun w3 => zDt m w3)
  obtain ⟨z0, z1, z2, z3, z4, z5⟩ := zAS H3.out.1
  clear x0 x1 x2 x3 X hb1 hD
  unfold amc at H3 B12 B13 Q2 z0 z1 z2 z3 z4 z5
  unfold amc
  go_wp2_with fail
  generalize hw3 : (w1.alloc (.cells #[.slice m.h.a1 m.G.terms.length m.h.c1, .slice m.h.a2 m.G.nons.length m.h.c2, .slice m.h.a3 m.G.rules.length m.h.c3, .int .i64 m.G.start, .slice m.aS m.nS m.cS, .slice m.aL m.nL m.cL] 69)).alloc (.cells #[.int .i64 0] 3) = w3 at *
  clear hw3 z0 z1 z2 z3 z4 z5 Q2 B12
  refine (CL.out w3).mono ?_
  rintro e w4 ⟨rfl, hw4⟩
  have B34 := zSg (show Below w3.heap.size w3 w4 from by rw [hw4]; exact boxed _ _)
  have h4 : w4.heap[w3.heap.size]? = some (.cells (amc m) 69 (0, 0)) := by rw [hw4]; exact World.alloc_heap_new _ _
  have h4s : w4.heap.size = w3.heap.size + 1 := by rw [hw4]; exact World.size_alloc _ _
  clear hw4
  have B14 := zSg (Gr.step B13.out B34.out)
  have hs3 := H3.out.2.2
  have HY := zSg (zB7 m q w1 w4 DD.out B14.out w3.heap.size h4)
  have P4 := zSg ((B34.out.block w1.heap.size (by omega)).trans H3.out.1)
  have C4 := zSg ((B34.out.block (w1.heap.size + 1) (by omega)).trans H3.out.2.1)
  have hps : ∀ k, (encC m q k).size = 1 := fun _ => rfl
  have OI := zSg (show Inn (oCl w1 w3.heap.size) w4 from by
   rintro x (hx | rfl)
   ·omega
   ·omega)
  have OF := zSg (show Off (fun x => x = w1.heap.size + 1) (oCl w1 w3.heap.size) from by
   rintro x rfl (hx | hx)
   ·omega
   ·omega)
  have hbc : w1.heap.size + 1 < w4.heap.size := by omega
  have HS := zSg (And.intro hs3 h4s)
  clear hs3 h4s
  go_wp2_with fail
  refine wpIn_wide.1 (zCC (n := 9) (gf := 56) (lb := #[.pointer (some ⟨w3.heap.size, 0, none⟩)]) rfl (enters_of Tryz.func56 (by kernel_rfl) rfl)
   (encs := encC m q) HY.out (fun _ => rfl) (cntI (w1.heap.size + 1)) (fun _ _ _ _ => False) (zIn _ _) (fun _ _ _ _ _ _ h _ _ _ => h) (fun x => x = w1.heap.size + 1) (fun _ => False) OF.out OI.out (by rintro x rfl; exact hbc) (fun _ h => h.elim) ⟨rfl, C4.out⟩ ?round ?done ?stop)
  case stop =>
   rintro c k S' W hk h
   exact h.elim
  case round =>
   rintro l k S' W hk hl hl2 hnl ⟨rfl, h1⟩ hin he hf
   unfold encC
   gi_wp2
   refine ⟨.refl _ _, fun w5 h5 hs5 => ?_⟩
   have hk1 := zAO h5 h1 (fun e => hnl (by rw [e]))
   have c0 := zAA hk1 (k := 0) (by simp)
   have f0 : w5.frozen? ⟨w1.heap.size + 1, 0, none⟩ = false := zGy hk1
   have hlt : w1.heap.size + 1 < w5.heap.size := (Array.getElem?_eq_some_iff.1 hk1).1
   have EN := zSg (zDl hk1 (k := 0) (.int .i64 ((k : Int) + 1)))
   have FN := zSg (((Fr.refl (fun x => (x = w1.heap.size + 1) \/ W.heap.size <= x) w5).setCell ⟨w1.heap.size + 1, 0, none⟩ (.inl rfl) (.int .i64 ((k : Int) + 1))))
   clear h1 hin he hf h5
   gi_wp2
   refine ⟨fun x => x = w1.heap.size + 1, .refl _ _, FN.out, ?_, rfl, ?_⟩
   ·rintro x rfl
    exact Nat.lt_of_lt_of_le hlt FN.out.size
   ·exact EN.out
  case done =>
   rintro S' W ⟨rfl, h1⟩ hin he hf hD hnD
   obtain ⟨hs3, h4s⟩ := HS.out
   have hsW := hf.size
   have B1W := zSg (B14.out.trans (hf.below (m := w1.heap.size) (fun x hx => by omega) B14.out.size))
   have PW := (hf.block w1.heap.size (by omega) (fun e => by omega)).trans P4.out
   obtain ⟨z0, z1, z2, z3, z4, z5⟩ := zAS PW
   have c0 := zAA h1 (k := 0) (by simp)
   have HQ := zSg (show ∀ w', Below W.heap.size W w' -> w'.cell? ⟨w1.heap.size + 1, 0, none⟩ = some (.int .i64 ((zAQ m.G q).length : Int)) /\ w'.cell? ⟨w1.heap.size, 0, none⟩ = some (.slice m.h.a1 m.G.terms.length m.h.c1) /\ w'.cell? ⟨w1.heap.size, 1, none⟩ = some (.slice m.h.a2 m.G.nons.length m.h.c2) /\ w'.cell? ⟨w1.heap.size, 2, none⟩ = some (.slice m.h.a3 m.G.rules.length m.h.c3) /\ w'.cell? ⟨w1.heap.size, 3, none⟩ = some (.int .i64 m.G.start) /\ w'.cell? ⟨w1.heap.size, 4, none⟩ = some (.slice m.aS m.nS m.cS) /\ w'.cell? ⟨w1.heap.size, 5, none⟩ = some (.slice m.aL m.nL m.cL) /\ Below W.heap.size W w' from
    fun w' b => ⟨cell_later b c0, cell_later b z0, cell_later b z1, cell_later b z2, cell_later b z3, cell_later b z4, cell_later b z5, b⟩)
   have GR := zSg (show ∀ w', Below W.heap.size W w' -> Calls Tryz.prog 27 #[.slice none 0 0, .int .i64 ((zAQ m.G q).length : Int)] w' (fun e wa => ∃ a c, e = .returned (.slice a 0 c) /\ wa.ownsRow W.heap.size 59 6 (.slice a 0 c) 0 [] /\ (∀ g, (Value.slice a 0 c).ownBlock = some g -> g < wa.heap.size) /\ (∀ g, (Value.slice a 0 c).ownBlock = some g -> w'.heap.size <= g) /\ Below w'.heap.size w' wa) from fun w' b => by
    refine (zM9 _ w' hN).mono ?_
    rintro e wa ⟨a, c, rfl, hr, hb⟩
    exact ⟨a, c, rfl, Rw.zAy hr b.size, fun g hg => (World.ownsRow.lt hr g hg).2, fun g hg => (World.ownsRow.lt hr g hg).1, hb⟩)
   have SEQ := zSg (show ∀ (wx : World) (bx : Nat) (ag : Option Addr) (cg : Nat), Below W.heap.size W wx -> wx.heap[bx]? = some (.cells (amc m) 69 (0, 0)) -> wx.ownsRow W.heap.size 59 6 (.slice ag 0 cg) 0 [] -> (∀ g, (Value.slice ag 0 cg).ownBlock = some g -> g ≠ bx) ->
     Calls Tryz.prog 26 #[.slice ag 0 cg, .func (.func 56) #[] #[.pointer (some ⟨bx, 0, none⟩)]] wx (fun e w' => ∃ a c, e = .returned (.slice a (zAQ m.G q).length c) /\ w'.ownsRow W.heap.size 59 6 (.slice a (zAQ m.G q).length c) (zAQ m.G q).length ((zAQ m.G q).flatMap clc) /\ Below W.heap.size W w') from fun wx bx ag cg b hbx hr hne => by
    have hbw : bx < wx.heap.size := (Array.getElem?_eq_some_iff.1 hbx).1
    have hw1 := B1W.out.size
    have hx1 := b.size
    refine (zQn (zAQ m.G q) (fun k hk => by
      unfold encC
      rw [List.getD_eq_getElem?_getD, List.getElem?_eq_getElem hk]
      rfl) (fun _ => rfl) hN wx (zB7 m q w1 wx DD.out (B1W.out.trans (b.mono hw1)) bx hbx) (enters_of Tryz.func56 (by kernel_rfl) rfl) W.heap.size (.slice ag 0 cg) hr (fun g hg ho => by
      rcases ho with ho | ho
      ·have := (World.ownsRow.lt hr g hg).1
       omega
      ·exact hne g hg ho) (by
      rintro x (hx | rfl)
      ·omega
      ·exact hbw) hx1).mono ?_
    rintro e w' ⟨v', rfl, hr', hf'⟩
    obtain ⟨a, c, rfl⟩ := Rw.zAG hr'
    exact ⟨a, c, rfl, hr', b.trans (hf'.below (m := W.heap.size) (fun x hx => (World.ownsRow.lt hr x hx).1) hx1)⟩)
   have SEQA := zSg (show ∀ (wa : World) (ag : Option Addr) (cg : Nat), Below W.heap.size W wa -> wa.ownsRow W.heap.size 59 6 (.slice ag 0 cg) 0 [] -> (∀ g, (Value.slice ag 0 cg).ownBlock = some g -> g < wa.heap.size) ->
     Calls Tryz.prog 26 #[.slice ag 0 cg, .func (.func 56) #[] #[.pointer (some ⟨wa.heap.size, 0, none⟩)]] (wa.alloc (.cells (amc m) 69)) (fun e w' => ∃ a c, e = .returned (.slice a (zAQ m.G q).length c) /\ w'.ownsRow W.heap.size 59 6 (.slice a (zAQ m.G q).length c) (zAQ m.G q).length ((zAQ m.G q).flatMap clc) /\ Below W.heap.size W w') from
    fun wa ag cg b hr ho => SEQ.out _ _ ag cg (Gr.step b (boxed _ _)) (World.alloc_heap_new _ _) (zAD hr fun g hg => Below.heap_alloc wa _ g (ho g hg)) (fun g hg e => by have := ho g hg; omega))
   have SEQB := zSg (show ∀ (wa : World) (ag : Option Addr) (cg : Nat), Below W.heap.size W wa -> wa.ownsRow W.heap.size 59 6 (.slice ag 0 cg) 0 [] -> (∀ g, (Value.slice ag 0 cg).ownBlock = some g -> W.heap.size + 1 <= g) -> wa.heap[W.heap.size]? = some (.cells (amc m) 69 (0, 0)) ->
     Calls Tryz.prog 26 #[.slice ag 0 cg, .func (.func 56) #[] #[.pointer (some ⟨W.heap.size, 0, none⟩)]] wa (fun e w' => ∃ a c, e = .returned (.slice a (zAQ m.G q).length c) /\ w'.ownsRow W.heap.size 59 6 (.slice a (zAQ m.G q).length c) (zAQ m.G q).length ((zAQ m.G q).flatMap clc) /\ Below W.heap.size W w') from
    fun wa ag cg b hr ho hb => SEQ.out _ _ ag cg b hb hr (fun g hg e => by have := ho g hg; omega))
   have EN := zSg (show ∀ (a : Option Addr) (c : Nat) (wz : World), wz.ownsRow W.heap.size 59 6 (.slice a (zAQ m.G q).length c) (zAQ m.G q).length ((zAQ m.G q).flatMap clc) -> Below W.heap.size W wz -> ∀ w', Fr (fun x => x ∈ [w4.heap.size]) wz w' -> zCk m.G w (.returned (.tuple #[.slice a (zAQ m.G q).length c, .int .i64 0])) w' from fun a c wz hr hb w' hf' => by
    have hw1 := B1W.out.size
    have hwz := hb.size
    refine ⟨0, _, a, c, rfl, .all DD.out.hv DD.out.done DD.out.len hB, ?_, ?_⟩
    ·refine Rw.zAy (zAD hr fun g hg => hf'.block g (World.ownsRow.lt hr g hg).2 fun e => ?_) (Nat.le_trans B1.out.size hw1)
     rw [List.mem_singleton] at e
     have := (World.ownsRow.lt hr g hg).1
     have := (Array.getElem?_eq_some_iff.1 hD).1
     omega
    ·have b2 : Below w1.heap.size w1 w' := (B1W.out.trans (hb.mono hw1)).trans (hf'.below (fun x hx => by
      rw [List.mem_singleton] at hx
      omega) (by omega))
     exact B1.out.trans (b2.mono B1.out.size))
   have LM := zSg (show ∀ wz, Below W.heap.size W wz -> ∀ (fn : Func) (tmps : Array Value) (R : Ending -> World -> Prop), (∀ w', Fr (fun x => x ∈ [w4.heap.size]) wz w' -> ∃ v, (results fn tmps).run Tryz.prog w' = .ok v w' /\ R (.returned v) w') -> LeavesInM Fence.wide 9 Tryz.prog fn tmps R [{ target := .collected w4.heap.size, args := #[] }] .returning wz from
    fun wz hb fn tmps R hR => zAi [w4.heap.size] wz (by simp) (fun D hD' => by
     rw [List.mem_singleton] at hD'
     subst hD'
     exact (hb.block _ (Array.getElem?_eq_some_iff.1 hD).1).trans hD) hR)
   have hbd := Gr.drawn W
   clear h1 hin he hf hD hnD HY P4 C4 OI OF PW hs3 h4s hsW hps
   go_wp2_with fail
   go_region_held3 (fun w' => w'.cell? ⟨w1.heap.size + 1, 0, none⟩ = some (.int .i64 ((zAQ m.G q).length : Int)) /\ w'.cell? ⟨w1.heap.size, 0, none⟩ = some (.slice m.h.a1 m.G.terms.length m.h.c1) /\ w'.cell? ⟨w1.heap.size, 1, none⟩ = some (.slice m.h.a2 m.G.nons.length m.h.c2) /\ w'.cell? ⟨w1.heap.size, 2, none⟩ = some (.slice m.h.a3 m.G.rules.length m.h.c3) /\ w'.cell? ⟨w1.heap.size, 3, none⟩ = some (.int .i64 m.G.start) /\ w'.cell? ⟨w1.heap.size, 4, none⟩ = some (.slice m.aS m.nS m.cS) /\ w'.cell? ⟨w1.heap.size, 5, none⟩ = some (.slice m.aL m.nL m.cL) /\ Below W.heap.size W w')
    (exact HQ.out _ (by first | assumption | exact Gr.step (by assumption) (boxed _ _)))
    (first
     | (go_at_call 27; ((with_reducible refine (GR.out _ (by first | assumption | exact Gr.step (by assumption) (boxed _ _))).mono ?_)); rintro e wa ⟨ag, cg, rfl, hra, ho1, ho2, hba⟩; have kA : Below W.heap.size W wa := Gr.step (by first | assumption | exact Gr.step (by assumption) (boxed _ _)) hba; have RA := zSg hra; have O1 := zSg ho1; have O2 := zSg ho2; have BA := zSg hba; clear hra ho1 ho2 hba)
     | (go_at_call 25; ((with_reducible refine (CL.out _).mono ?_)); rintro e wb ⟨rfl, rfl⟩)
     | (go_at_call 26; ((with_reducible refine (SEQA.out wa ag cg kA RA.out O1.out).mono ?_)); rintro e wz ⟨az, cz, rfl, hrz, hbz⟩; have kZ : Below W.heap.size W wz := hbz; have RZ := zSg hrz; clear hrz hbz)
     | (go_at_call 26; ((with_reducible refine (SEQB.out wa ag cg kA RA.out (fun g e => zKz (O2.out g e)) (zG8 BA.out)).mono ?_)); rintro e wz ⟨az, cz, rfl, hrz, hbz⟩; have kZ : Below W.heap.size W wz := hbz; have RZ := zSg hrz; clear hrz hbz)
     | fail)
   all_goals
    go_wp2_with fail
    refine LM.out wz kZ _ _ _ ?_
    intro w' hf'
    refine ⟨_, results_tmp2 rfl _ _ _, ?_⟩
    change zCk m.G w (.returned (.tuple #[.slice az (zAQ m.G q).length cz, .int .i64 0])) w'
    exact EN.out az cz wz RZ.out kZ w' hf'
