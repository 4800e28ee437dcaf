/- A part of the proof. -/
import Derived.Test.YtnfbjlainpenaaaGreatPk32
set_option maxHeartbeats 2000000
set_option maxRecDepth 100000
set_option linter.unusedVariables false
namespace Go.Proofs.YtnfbjlainpenaaaGreat
open Go.RowKit Go.Maps
namespace Au
open Im
def LOk (Y : List Itm) (u v : Value) (w : World) : Prop := ∃ a c, u = .slice a Y.length c /\ Y.length <= c /\ ItsA a Y w /\ (Y ≠ [] -> ∀ b o, a = some ⟨b, o, none⟩ -> v.ownBlock ≠ some b)
theorem zB2 {a : Option Addr} {Y : List Itm} {w : World} (h : ItsA a Y w) (hn : Y ≠ []) {b o : Nat} (e : a = some ⟨b, o, none⟩) : b < w.heap.size := by
 cases Y with
 | nil => exact absurd rfl hn
 | cons y Y =>
  obtain ⟨b', o', e', hc⟩ := h 0 (by rw [zAL]; simp)
  rw [e] at e'
  injection e' with e'
  injection e' with e1 e2
  subst e1
  exact World.block_lt_of_cell? _ _ hc
theorem LOk.to {Y : List Itm} {u v v' : Value} {w w' : World} (h : LOk Y u v w) (hb : ∀ b, b < w.heap.size -> v.ownBlock ≠ some b -> w'.heap[b]? = w.heap[b]?) (hv : ∀ b, b < w.heap.size -> v.ownBlock ≠ some b -> v'.ownBlock ≠ some b) : LOk Y u v' w' := by
 obtain ⟨a, c, h1, h2, h3, h4⟩ := h
 by_cases hn : Y = []
 ·subst hn
  exact ⟨a, c, h1, h2, .nil _ _, fun q => absurd rfl q⟩
 ·exact ⟨a, c, h1, h2, h3.keep fun b o e => hb b (zB2 h3 hn e) (h4 hn b o e), fun _ b o e => hv b (zB2 h3 hn e) (h4 hn b o e)⟩
theorem LOk.went {Y : List Itm} {u v : Value} {w w' : World} (h : LOk Y u v w) (hb : Below w.heap.size w w') : LOk Y u v w' := h.to (fun b hl _ => hb.block b hl) fun _ _ q => q
theorem LOk.grown {Y : List Itm} {u v v' : Value} {w w' : World} (h : LOk Y u v w) (hg : w.grownBy w' v.ownBlock) (hv : v'.ownBlock = v.ownBlock \/ ∃ n, w.heap.size <= n /\ v'.ownBlock = some n) : LOk Y u v' w' :=
 h.to (fun b hl q => hg.block b hl fun e => q e.symm) fun b hl q e => by
  rcases hv with h1 | ⟨n, hn, h1⟩
  ·exact q (h1.symm.trans e)
  ·rw [h1] at e
   injection e with e
   omega
theorem LOk.set {Y : List Itm} {u v : Value} {w : World} (h : LOk Y u v w) {p : Addr} (hp : v.ownBlock = some p.block) (x : Value) : LOk Y u v (w.setCell p x) :=
 h.to (fun b hl q => Below.heap_setCell _ _ _ _ fun e => q (by rw [hp]; exact congrArg some e.symm)) fun _ _ q => q
theorem LOk.nil (v : Value) (w : World) : LOk [] (.slice none 0 0) v w := ⟨none, 0, rfl, Nat.le_refl _, .nil _ _, fun q => absurd rfl q⟩
abbrev StC := Sta × (Value × Value)
def sc (x : StC) : List Value := [x.2.1, x.2.2]
theorem zCC (x : StC) : (sc x).length = 2 := rfl
structure StV (T : TypeId) (base : Nat) (L : List StC) (v : Value) (w : World) : Prop where
 row : w.ownsRow base T 2 v L.length (L.flatMap sc)
 lists : ∀ x ∈ L, LOk x.1.1 x.2.1 v w /\ LOk x.1.2 x.2.2 v w
theorem StV.went {T : TypeId} {base : Nat} {L : List StC} {v : Value} {w w' : World} (h : StV T base L v w) (hb : Below w.heap.size w w') : StV T base L v w' :=
 ⟨Sep.zAG h.row fun g hg => hb.block g (h.row.lt g hg).2, fun x hx => ⟨(h.lists x hx).1.went hb, (h.lists x hx).2.went hb⟩⟩
theorem StV.nil (T : TypeId) (base : Nat) (w : World) : StV T base [] (.slice none 0 0) w := ⟨World.ownsRow_nil _ _ _ _, fun x hx => by cases hx⟩
theorem StV.len {T : TypeId} {base : Nat} {L : List StC} {v : Value} {w : World} (h : StV T base L v w) : ∃ a c, v = .slice a L.length c /\ L.length <= c := by
 rcases h.row.2 with ⟨rfl, h0⟩ | ⟨g, cap, cur, rfl, _, _, h5, _⟩
 ·exact ⟨none, 0, by rw [h0], by rw [h0]; exact Nat.le_refl _⟩
 ·exact ⟨_, cap, rfl, h5⟩
theorem StV.at {T : TypeId} {base : Nat} {L : List StC} {a : Option Addr} {c : Nat} {w : World} (h : StV T base L (.slice a L.length c) w) : StaA a (L.map Prod.fst) w := by
 intro i hi
 have hi' : i < L.length := by simpa using hi
 rcases h.row.2 with ⟨_, h0⟩ | ⟨g, cap, cur, he, _⟩
 ·omega
 ·simp only [Value.slice.injEq] at he
  obtain ⟨rfl, _, _⟩ := he
  have hc := World.ownsRow.cells h.row (g := g) rfl
  obtain ⟨⟨a1, c1, u1, l1, i1, _⟩, ⟨a2, c2, u2, l2, i2, _⟩⟩ := h.lists _ (List.getElem_mem hi')
  have t0 := hc (i * 2 + 0) _ (Rw.zDm sc zCC L i hi' 0 (by omega))
  have t1 := hc (i * 2 + 1) _ (Rw.zDm sc zCC L i hi' 1 (by omega))
  rw [WideShapes.add_plain] at t0 t1
  rw [List.getElem_map]
  refine ⟨g, 0, a1, c1, a2, c2, rfl, ?_, ?_, i1, i2, l1, l2⟩
  ·rw [← u1]
   simpa using t0
  ·rw [← u2]
   simpa using t1
theorem StV.snoc {T : TypeId} {base : Nat} {L : List StC} {v v' : Value} {w w' : World} (h : StV T base L v w) (x : StC) (hx : LOk x.1.1 x.2.1 v w /\ LOk x.1.2 x.2.2 v w) (hr : w'.ownsRow base T 2 v' (L.length + 1) (L.flatMap sc ++ sc x)) (hg : w.grownBy w' v.ownBlock) (hv : v'.ownBlock = v.ownBlock \/ ∃ n, w.heap.size <= n /\ v'.ownBlock = some n) : StV T base (L ++ [x]) v' w' := by
 refine ⟨?_, fun y hy => ?_⟩
 ·rw [List.length_append, List.flatMap_append]
  simpa using hr
 ·have key : LOk y.1.1 y.2.1 v w /\ LOk y.1.2 y.2.2 v w := by
   rcases List.mem_append.1 hy with q | q
   ·exact h.lists y q
   ·rw [List.mem_singleton] at q
    rw [q]
    exact hx
  exact ⟨key.1.grown hg hv, key.2.grown hg hv⟩
theorem zJy {L : List StC} {i : Nat} (hi : i < L.length) (u : Value) (t : List (Int × Int)) : (L.flatMap sc).set (i * 2 + 1) u = (L.set i ((L[i].1.1, t), (L[i].2.1, u))).flatMap sc := by
 induction L generalizing i with
 | nil => simp at hi
 | cons x L ih =>
  cases i with
  | zero => simp [sc]
  | succ i =>
   have hi' : i < L.length := by simpa using hi
   rw [List.flatMap_cons, List.set_cons_succ, List.flatMap_cons, List.getElem_cons_succ, ← ih hi']
   rw [show (i + 1) * 2 + 1 = (sc x).length + (i * 2 + 1) by rw [zCC]; omega, List.set_append_right _ _ (by omega)]
   simp
theorem StV.put {T : TypeId} {base : Nat} {L : List StC} {g c : Nat} {w : World} (h : StV T base L (.slice (some ⟨g, 0, none⟩) L.length c) w) {i : Nat} (hi : i < L.length) {u : Value} {t : List (Int × Int)} (ht : LOk t u (.slice (some ⟨g, 0, none⟩) L.length c) w) :
  StV T base (L.set i ((L[i].1.1, t), (L[i].2.1, u))) (.slice (some ⟨g, 0, none⟩) L.length c) (w.setCell ⟨g, i * 2 + 1, none⟩ u) := by
 refine ⟨?_, fun y hy => ?_⟩
 ·rw [List.length_set, ← zJy hi]
  exact (World.ownsRow.stored h.row _ _).1
 ·have key : LOk y.1.1 y.2.1 (.slice (some ⟨g, 0, none⟩) L.length c) w /\ LOk y.1.2 y.2.2 (.slice (some ⟨g, 0, none⟩) L.length c) w := by
   rcases List.mem_or_eq_of_mem_set hy with q | q
   ·exact h.lists y q
   ·rw [q]
    exact ⟨(h.lists _ (List.getElem_mem hi)).1, ht⟩
  exact ⟨key.1.set (p := ⟨g, i * 2 + 1, none⟩) rfl u, key.2.set (p := ⟨g, i * 2 + 1, none⟩) rfl u⟩
end Au
namespace Au
open Gr (cell_later)
open Im
def upd {α : Type} (f : Nat -> α) (s : Nat) (x : α) : Nat -> α := fun r => if r = s then x else f r
theorem upd_same {α : Type} (f : Nat -> α) (s : Nat) (x : α) : upd f s x s = x := if_pos rfl
theorem zAM {α : Type} {f : Nat -> α} {s r : Nat} {x : α} (h : r ≠ s) : upd f s x r = f r := if_neg h
structure Fam (T : TypeId) (b m n : Nat) (F : Nat -> List Itm) (D : Nat -> Value) (w : World) : Prop where
 cell : ∀ s, s < n -> w.cell? ⟨b, s, none⟩ = some (D s)
 free : ∀ s, w.frozen? ⟨b, s, none⟩ = false
 row : ∀ s, s < n -> ItsV T m (F s) (D s) w
 off : ∀ s r, s < n -> r < n -> s ≠ r -> ∀ g, (D s).ownBlock = some g -> (D r).ownBlock ≠ some g
 bm : b < m
 le : m <= w.heap.size
theorem Fam.went {T : TypeId} {b m n : Nat} {F : Nat -> List Itm} {D : Nat -> Value} {w w' : World} (h : Fam T b m n F D w) (hb : Below w.heap.size w w') : Fam T b m n F D w' :=
 have hl : b < w.heap.size := Nat.lt_of_lt_of_le h.bm h.le
 ⟨fun s hs => cell_later hb (h.cell s hs), fun s => (World.frozen?_of_block (a := ⟨b, s, none⟩) (hb.block b hl)).trans (h.free s), fun s hs => (h.row s hs).went hb, h.off, h.bm, Nat.le_trans h.le hb.size⟩
theorem Fam.congr {T : TypeId} {b m n : Nat} {F F' : Nat -> List Itm} {D : Nat -> Value} {w : World} (h : Fam T b m n F D w) (e : ∀ s, s < n -> F s = F' s) : Fam T b m n F' D w :=
 ⟨h.cell, h.free, fun s hs => by rw [← e s hs]; exact h.row s hs, h.off, h.bm, h.le⟩
theorem Fam.put {T : TypeId} {b m n : Nat} {F : Nat -> List Itm} {D : Nat -> Value} {w w' : World} (h : Fam T b m n F D w) {s : Nat} (hs : s < n) {y : Itm} {v' : Value} (hr : ItsV T m (F s ++ [y]) v' w') (hg : w.grownBy w' (D s).ownBlock) (hv : v'.ownBlock = (D s).ownBlock \/ v'.ownBlock = some w.heap.size) :
  Fam T b m n (upd F s (F s ++ [y])) (upd D s v') (w'.setCell ⟨b, s, none⟩ v') := by
 have hl : b < w.heap.size := Nat.lt_of_lt_of_le h.bm h.le
 have own : ∀ r, r < n -> ∀ g, (D r).ownBlock = some g -> m <= g /\ g < w.heap.size := fun r hr g hg => World.ownsRow.lt (h.row r hr) g hg
 have eb : w'.heap[b]? = w.heap[b]? := hg.block b hl fun e => by
  have := (own s hs b e.symm).1
  have := h.bm
  omega
 have own' : ∀ g, v'.ownBlock = some g -> m <= g := fun g hg => (World.ownsRow.lt hr g hg).1
 have other : ∀ g, g ≠ b -> (w'.setCell ⟨b, s, none⟩ v').heap[g]? = w'.heap[g]? := fun g hg => Below.heap_setCell _ _ _ _ hg
 refine ⟨fun r hr' => ?_, fun r => ?_, fun r hr' => ?_, fun r z hr' hq hne g e1 e2 => ?_, h.bm, ?_⟩
 ·by_cases e : r = s
  ·subst e
   rw [upd_same]
   exact World.cell?_setCell_same _ _ _ ((World.cell?_of_block (a := ⟨b, r, none⟩) eb).trans (h.cell r hr'))
  ·rw [zAM e, World.cell?_setCell_other _ _ _ _ (fun q => e (congrArg Addr.off q).symm)]
   exact (World.cell?_of_block (a := ⟨b, r, none⟩) eb).trans (h.cell r hr')
 ·rw [World.frozen?_setCell]
  exact (World.frozen?_of_block (a := ⟨b, r, none⟩) eb).trans (h.free r)
 ·by_cases e : r = s
  ·subst e
   rw [upd_same, upd_same]
   exact hr.keep fun g e => other g (by have := own' g e; have := h.bm; omega)
  ·rw [zAM e, zAM e]
   refine (h.row r hr').keep fun g hg' => ?_
   have h1 := own r hr' g hg'
   rw [other g (by have := h.bm; omega)]
   exact hg.block g h1.2 fun q => h.off r s hr' hs e g hg' q.symm
 ·by_cases er : r = s
  ·subst er
   rw [upd_same] at e1
   rw [zAM (fun q => hne q.symm)] at e2
   rcases hv with k | k
   ·exact h.off r z hr' hq hne g (k ▸ e1) e2
   ·have := (own _ hq g e2).2
    rw [k] at e1
    injection e1 with e1
    omega
  ·rw [zAM er] at e1
   by_cases eq : z = s
   ·subst eq
    rw [upd_same] at e2
    rcases hv with q' | q'
    ·exact h.off r z hr' hq hne g e1 (q' ▸ e2)
    ·have := (own _ hr' g e1).2
     rw [q'] at e2
     injection e2 with e2
     omega
   ·rw [zAM eq] at e2
    exact h.off r z hr' hq hne g e1 e2
 ·rw [show (w'.setCell ⟨b, s, none⟩ v').heap.size = w'.heap.size by simp [World.setCell]]
  exact Nat.le_trans h.le hg.size
theorem Fam.fr {T : TypeId} {b m n : Nat} {F : Nat -> List Itm} {D : Nat -> Value} {w w' : World} {v' : Value} (h : Fam T b m n F D w) {s : Nat} (hs : s < n) (hg : w.grownBy w' (D s).ownBlock) {w0 : World} (f : Sep.Fr (· = b) w0 w) (hm : w0.heap.size <= m) : Sep.Fr (· = b) w0 (w'.setCell ⟨b, s, none⟩ v') :=
 (f.grown hg fun k hk => .inr (Nat.le_trans hm (World.ownsRow.lt (h.row s hs) k hk).1)).setCell _ rfl _
end Au
namespace Au
open Gr (cell_later zAH ivs)
open Im
theorem zI6 (X : List Sta) (a : Option Addr) (c : Nat) (i s : Int) (w : World) (hX : StaA a X w) (sm : Small X) :
  Calls Tryz.prog 36 #[.slice a X.length c, .int .i64 i, .int .i64 s] w (Gr.Is (.int .i64 (zCZ X i s)) w) := by
 have hxl := sm.len
 by_cases h0 : 0 <= i
 ·by_cases h1 : i < (X.length : Int)
  ·obtain ⟨k, rfl⟩ := Int.eq_ofNat_of_zero_le h0
   have hk : k < X.length := by omega
   rw [zDz hk]
   obtain ⟨b, o, a1, c1, a2, c2, rfl, z1, z2, i1, i2, l1, l2⟩ := hX k hk
   have TR := zNR (fun w1 (b : Below w.heap.size w w1) => i2.went b)
   have hsm := sm.trans _ (List.getElem_mem hk)
   have Z2 := zNR (fun w1 (b : Below w.heap.size w w1) => cell_later b z2)
   clear hX sm z1 i1 i2 l1
   generalize X[k].2 = tr at *
   generalize X.length = n at *
   go_enter Tryz.func36, Tryz.ntmps36
   go_wp2
   go_loopw [7] (fun q wr => ∃ j : Nat, q = .int .i64 j /\ j <= tr.length /\ zGf tr s j /\ Below w.heap.size w wr) (fun q _ => tr.length - (intOf q).toNat)
   case atStart => exact ⟨0, rfl, Nat.zero_le _, zHA _ _, .refl _ _⟩
   case round =>
    obtain ⟨j, rfl, hj, hN, hW⟩ := hrel
    have N := zNR hN
    have HW := zNR hW
    have q2 := Z2.out wr hW
    clear hN
    by_cases hlt : j < tr.length
    ·obtain ⟨b2, o2, rfl, p0, p1⟩ := (TR.out wr hW).at j hlt
     have NS := zNR (fun e => zG9 N.out hlt e)
     have NH := zNR (fun e => zEh N.out hlt e)
     have e1 : ((tr[j].1, tr[j].2) : Itm) = tr[j] := rfl
     generalize tr[j] = x at *
     obtain ⟨x0, x1⟩ := x
     dsimp only at p0 p1
     clear e1 hW
     by_cases he : x0 = s
     ·have E := zNR (NH.out he)
      subst he
      clear NS NH
      go_wp2
      go_ret
      exact ⟨zAH E.out, HW.out⟩
     ·have E := zNR (NS.out he)
      clear NS NH
      go_wp2
      go_roundw
      case rel => exact ⟨j + 1, by go_num, by omega, E.out, HW.out⟩
      case measure => simp [intOf]; omega
    ·have E := zNR (zIW N.out hlt)
     clear hW
     go_wp2
     go_ret
     exact ⟨zAH E.out, HW.out⟩
  ·rw [zBz (decide_eq_false fun q => h1 q.2)]
   clear hX sm
   generalize X.length = n at *
   go_enter Tryz.func36, Tryz.ntmps36
   go_wp2
   go_ret
   exact ⟨rfl, .refl _ _⟩
 ·rw [zBz (decide_eq_false fun q => h0 q.1)]
  have h2 : i < 0 := by omega
  clear hX sm
  generalize X.length = n at *
  go_enter Tryz.func36, Tryz.ntmps36
  go_wp2
  go_ret
  exact ⟨rfl, .refl _ _⟩
theorem zJF (X : List Sta) (a : Option Addr) (c : Nat) (i : Int) (L : List Int) (al : Option Addr) (cl : Nat) (w : World) (hX : StaA a X w) (sm : Small X) (hL : Sep.Reads al (ivs L) w) (hl : L.length <= 1000000) :
  Calls Tryz.prog 20 #[.slice a X.length c, .int .i64 i, .slice al L.length cl] w (Gr.Is (.int .i64 (zA6 X i L)) w) := by
 have hxl := sm.len
 have GO := zNR (fun i s w1 (b : Below w.heap.size w w1) => zI6 X a c i s w1 (hX.went b) sm)
 have RL := zNR (fun w1 (b : Below w.heap.size w w1) => hL.below b (Nat.le_refl _))
 clear hX sm hL
 by_cases h0 : 0 <= i
 ·by_cases h1 : i < (X.length : Int)
  ·have HI := zNR (show inB X i = true from zFH.2 ⟨h0, h1⟩)
   have BI := zNR (fun v => zFH (X := X) (i := v))
   have OUT := zNR (fun v (h : inB X v = false) way => zA7 (X := X) h way)
   have NIL := zNR (fun v (h : inB X v = true) => zCF (X := X) h)
   have DR := zNR (fun j (h : j < L.length) v => zHX (X := X) h v)
   obtain ⟨r, hr⟩ : ∃ r, zA6 X i L = r := ⟨_, rfl⟩
   rw [hr]
   have HR := zNR hr
   clear hr
   generalize hn : X.length = n at *
   go_enter Tryz.func20, Tryz.ntmps20
   go_wp2
   go_loopw [1, 7] (fun v q wr => ∃ (j : Nat) (z : Int), q = .int .i64 j /\ j <= L.length /\ v = .int .i64 z /\ inB X z = true /\ zA6 X z (L.drop j) = r /\ Below w.heap.size w wr) (fun _ q _ => L.length - (intOf q).toNat)
   case atStart => exact ⟨0, i, rfl, Nat.zero_le _, rfl, HI.out, HR.out, .refl _ _⟩
   case round =>
    obtain ⟨j, z, rfl, hj, rfl, hz, hE, hW⟩ := hrel
    have HW := zNR hW
    have ZE := zNR hE
    have ZI := zNR hz
    clear hE hz
    by_cases hlt : j < L.length
    ·obtain ⟨b1, o1, ea, p1⟩ := RL.out wr hW j (by simpa [ivs] using hlt)
     simp only [ivs, List.getElem_map, Gr.iv] at p1
     have EX := zNR (show zA6 X (zCZ X z L[j]) (L.drop (j + 1)) = r from by rw [← DR.out j hlt z]; exact ZE.out)
     subst ea
     generalize L[j] = s at *
     have GX := zNR (GO.out z s wr hW)
     generalize zCZ X z s = z' at GX EX
     clear hW
     by_cases g0 : z' < 0
     ·have O := zNR (OUT.out z' (decide_eq_false fun q => by omega) (L.drop (j + 1)))
      go_wp2_with (go_at_call 36; refine GX.out.mono ?_; rintro e w2 ⟨rfl, hb⟩; have HB2 := zNR (Gr.step HW.out hb); clear hb)
      go_ret
      exact ⟨zAH (by rw [← EX.out, O.out]), HB2.out⟩
     ·by_cases g1 : (n : Int) <= z'
      ·have O := zNR (OUT.out z' (decide_eq_false fun q => by omega) (L.drop (j + 1)))
       clear hn
       go_wp2_with (go_at_call 36; refine GX.out.mono ?_; rintro e w2 ⟨rfl, hb⟩; have HB2 := zNR (Gr.step HW.out hb); clear hb)
       go_ret
       exact ⟨zAH (by rw [← EX.out, O.out]), HB2.out⟩
      ·have I2 := zNR ((BI.out z').2 ⟨by omega, by omega⟩)
       clear hn
       go_wp2_with (go_at_call 36; refine GX.out.mono ?_; rintro e w2 ⟨rfl, hb⟩; have HB2 := zNR (Gr.step HW.out hb); clear hb)
       go_roundw
       case rel => exact ⟨j + 1, z', by go_num, by omega, rfl, I2.out, EX.out, HB2.out⟩
       case measure => simp [intOf]; omega
    ·have hE : j = L.length := by omega
     have E := zNR (show z = r from by rw [← ZE.out, hE, List.drop_length, NIL.out z ZI.out])
     clear hW
     go_wp2
     go_ret
     exact ⟨zAH E.out.symm, HW.out⟩
  ·rw [zA7 (decide_eq_false fun q => h1 q.2)]
   generalize X.length = n at *
   go_enter Tryz.func20, Tryz.ntmps20
   go_wp2
   go_ret
   exact ⟨rfl, .refl _ _⟩
 ·rw [zA7 (decide_eq_false fun q => h0 q.1)]
  have h2 : i < 0 := by omega
  generalize X.length = n at *
  go_enter Tryz.func20, Tryz.ntmps20
  go_wp2
  go_ret
  exact ⟨rfl, .refl _ _⟩
