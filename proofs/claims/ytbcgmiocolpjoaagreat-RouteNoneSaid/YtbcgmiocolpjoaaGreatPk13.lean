/- A part of the proof. -/
import Derived.Test.YtbcgmiocolpjoaaGreatPk12
import Derived.Test.YtbcgmiocolpjoaaGreatPk09
set_option maxHeartbeats 4000000
set_option maxRecDepth 100000
set_option linter.unusedVariables false
namespace Go.Proofs.YtbcgmiocolpjoaaGreat
open Go.RowKit Go.Maps
namespace Le
open Gr (boxed ivs)
def WAt (q : Nat) (x : List Int) (v : Value) (w : World) : Prop := ∃ a c, v = .slice a x.length c /\ Sep.Reads a (ivs x) w /\ ∀ b o, a = some ⟨b, o, none⟩ -> x ≠ [] -> b ≠ q
theorem WAt.fr {q : Nat} {x : List Int} {v : Value} {w w' : World} {S : Nat -> Prop} (h : WAt q x v w) (hF : Sep.Fr S w w') (hS : ∀ k, S k -> k = q \/ w.heap.size <= k) : WAt q x v w' := by
 obtain ⟨a, c, rfl, hR, hq⟩ := h
 refine ⟨a, c, rfl, fun i hi => ?_, hq⟩
 obtain ⟨b, o, e, hc⟩ := hR i hi
 refine ⟨b, o, e, hF.cell hc fun hs => ?_⟩
 have hl := World.block_lt_of_cell? w ⟨b, o + i, none⟩ hc
 have hn : x ≠ [] := fun e => by subst e; simp [ivs] at hi
 rcases hS _ hs with h1 | h1
 ·exact hq b o e hn h1
 ·simp at hl h1
  omega
theorem zKo (q : Nat) (w : World) : WAt q [] (.slice none 0 0) w := ⟨none, 0, rfl, .nil _ _, fun _ _ h => by cases h⟩
theorem zN3 {q n c : Nat} {x : List Int} {a : Option Addr} {W w : World} (h : Sep.Reads a (ivs x) w) (hn : Gr.New a W) (hq : q < W.heap.size) (hl : x.length = n) : WAt q x (.slice a n c) w :=
 ⟨a, c, by rw [hl], h, fun b o e _ => by have := hn _ e; simp at this; omega⟩
structure LAt (q n : Nat) (T : Int -> Ans) (w : World) : Prop where
 len : ∀ s : Nat, s < n -> w.cell? ⟨q, s * 2, none⟩ = some (.int .i64 (lenA (T (s : Int)) : Int))
 word : ∀ s : Nat, s < n -> ∃ v, w.cell? ⟨q, s * 2 + 1, none⟩ = some v /\ WAt q (zAC (T (s : Int))) v w
 free : ∀ j : Nat, w.frozen? ⟨q, j, none⟩ = false
 lt : q < w.heap.size
theorem LAt.fr {q n : Nat} {T : Int -> Ans} {w w' : World} {S : Nat -> Prop} (h : LAt q n T w) (hF : Sep.Fr S w w') (hS : ∀ k, S k -> w.heap.size <= k) : LAt q n T w' := by
 have hb : w'.heap[q]? = w.heap[q]? := hF.block q h.lt fun k => by have := hS _ k; have := h.lt; omega
 refine ⟨fun s hs => (World.cell?_of_block (a := ⟨q, s * 2, none⟩) hb).trans (h.len s hs), fun s hs => ?_, fun x => (World.frozen?_of_block (a := ⟨q, x, none⟩) hb).trans (h.free x), Nat.lt_of_lt_of_le h.lt hF.size⟩
 obtain ⟨v, h1, h2⟩ := h.word s hs
 exact ⟨v, (World.cell?_of_block (a := ⟨q, s * 2 + 1, none⟩) hb).trans h1, h2.fr hF fun k hk => .inr (hS k hk)⟩
theorem LAt.went {q n : Nat} {T : Int -> Ans} {w w' : World} (h : LAt q n T w) (hb : Below w.heap.size w w') : LAt q n T w' :=
 h.fr (S := fun _ => False) (Sep.Fr.of_below hb) fun _ k => k.elim
theorem LAt.set {q n : Nat} {T : Int -> Ans} {w : World} (h : LAt q n T w) {s : Nat} (hs : s < n) {a : Ans} {v : Value} (hv : WAt q (zAC a) v w) :
  LAt q n (setA T (s : Int) a) ((w.setCell ⟨q, s * 2, none⟩ (.int .i64 (lenA a : Int))).setCell ⟨q, s * 2 + 1, none⟩ v) := by
 have hF : Sep.Fr (fun k => k = q) w ((w.setCell ⟨q, s * 2, none⟩ (.int .i64 (lenA a : Int))).setCell ⟨q, s * 2 + 1, none⟩ v) :=
  ((Sep.Fr.refl (fun k => k = q) w).setCell ⟨q, s * 2, none⟩ rfl _).setCell ⟨q, s * 2 + 1, none⟩ rfl _
 have ne : ∀ {i j : Nat}, i ≠ j -> (⟨q, i, none⟩ : Addr) ≠ ⟨q, j, none⟩ := fun hij e => hij (congrArg Addr.off e)
 refine ⟨fun t ht => ?_, fun t ht => ?_, fun x => by rw [World.frozen?_setCell, World.frozen?_setCell]; exact h.free x, by simpa [World.setCell] using h.lt⟩
 ·rw [World.cell?_setCell_other _ _ _ _ (ne (by omega))]
  by_cases e : t = s
  ·subst e
   rw [zAq]
   exact World.cell?_setCell_same _ _ _ (h.len t ht)
  ·rw [World.cell?_setCell_other _ _ _ _ (ne (by omega)), zAT _ _ (by omega)]
   exact h.len t ht
 ·obtain ⟨u, h1, h2⟩ := h.word t ht
  by_cases e : t = s
  ·subst e
   rw [zAq]
   refine ⟨v, World.cell?_setCell_same _ _ _ (by rw [World.cell?_setCell_other _ _ _ _ (ne (by omega))]; exact h1), hv.fr hF fun k hk => .inl hk⟩
  ·rw [zAT _ _ (by omega)]
   refine ⟨u, ?_, h2.fr hF fun k hk => .inl hk⟩
   rw [World.cell?_setCell_other _ _ _ _ (ne (by omega)), World.cell?_setCell_other _ _ _ _ (ne (by omega))]
   exact h1
structure TAt (p q n : Nat) (T : Int -> Ans) (w : World) : Prop where
 ptr : w.cell? ⟨p, 0, none⟩ = some (.slice (some ⟨q, 0, none⟩) n n)
 list : LAt q n T w
 ne : p ≠ q
 small : n <= 10000
 ok : TOk n T
theorem TAt.fr {p q n : Nat} {T : Int -> Ans} {w w' : World} {S : Nat -> Prop} (h : TAt p q n T w) (hF : Sep.Fr S w w') (hS : ∀ k, S k -> w.heap.size <= k) : TAt p q n T w' :=
 ⟨hF.cell h.ptr fun k => by have := hS _ k; have := World.block_lt_of_cell? w _ h.ptr; omega, h.list.fr hF hS, h.ne, h.small, h.ok⟩
theorem TAt.went {p q n : Nat} {T : Int -> Ans} {w w' : World} (h : TAt p q n T w) (hb : Below w.heap.size w w') : TAt p q n T w' :=
 h.fr (S := fun _ => False) (Sep.Fr.of_below hb) fun _ k => k.elim
theorem TAt.set {p q n : Nat} {T : Int -> Ans} {w : World} (h : TAt p q n T w) {s : Nat} (hs : s < n) {a : Ans} {v : Value} (hv : WAt q (zAC a) v w) (ha : Bd a) :
  TAt p q n (setA T (s : Int) a) ((w.setCell ⟨q, s * 2, none⟩ (.int .i64 (lenA a : Int))).setCell ⟨q, s * 2 + 1, none⟩ v) := by
 have ne : ∀ {i j : Nat}, (⟨p, i, none⟩ : Addr) ≠ ⟨q, j, none⟩ := fun e => h.ne (congrArg Addr.block e)
 refine ⟨?_, h.list.set hs hv, h.ne, h.small, h.ok.set (by omega) (by omega) ha⟩
 rw [World.cell?_setCell_other _ _ _ _ (Ne.symm ne), World.cell?_setCell_other _ _ _ _ (Ne.symm ne)]
 exact h.ptr
def VAt (nl : Bool) (v : Value) (T : Int -> Ans) (w : World) : Prop :=
 (nl = true /\ v = .pointer none /\ T = fun _ => .none) \/ (nl = false /\ ∃ p q n, v = .pointer (some ⟨p, 0, none⟩) /\ TAt p q n T w)
theorem VAt.went {nl : Bool} {v : Value} {T : Int -> Ans} {w w' : World} (h : VAt nl v T w) (hb : Below w.heap.size w w') : VAt nl v T w' := by
 rcases h with ⟨h1, h2, h3⟩ | ⟨h1, p, q, n, h2, h3⟩
 ·exact .inl ⟨h1, h2, h3⟩
 ·exact .inr ⟨h1, p, q, n, h2, h3.went hb⟩
theorem VAt.bnd {nl : Bool} {v : Value} {T : Int -> Ans} {w : World} (h : VAt nl v T w) : Bnd T := by
 rcases h with ⟨h1, h2, rfl⟩ | ⟨h1, p, q, n, h2, h3⟩
 ·exact fun _ => zEZ
 ·exact h3.ok.bnd
theorem zI0 (n : Int) (v : Value) (w : World) : (Instr.field 101 (.agg #[.int .i64 n, v]) 0).run Tryz.prog w = .ok (.int .i64 n) w := by kernel_rfl
theorem zF6 (n : Int) (a : Option Addr) (k c : Nat) (w : World) : (Instr.field 101 (.agg #[.int .i64 n, .slice a k c]) 1).run Tryz.prog w = .ok (.slice a k c) w := by kernel_rfl
def zMU (a : Ans) (w : World) (e : Ending) (w' : World) : Prop :=
 ∃ ad c, e = .returned (.agg #[.int .i64 (lenA a : Int), .slice ad (zAC a).length c]) /\ Sep.Reads ad (ivs (zAC a)) w' /\ Below w.heap.size w w'
theorem zMV (nl : Bool) (v : Value) (T : Int -> Ans) (s : Int) (w : World) (h : VAt nl v T w) :
  Calls Tryz.prog 77 #[v, .int .i64 s] w (zMU (T s) w) := by
 rcases h with ⟨_, rfl, rfl⟩ | ⟨_, p, q, n, rfl, h⟩
 ·skip
  go_enter Tryz.func77, Tryz.ntmps77
  go_wp2
  try simp only [Exit.inBlock, Exit.then]
  exact bodyPost_ret (v := .agg #[.int .i64 4098, .slice none 0 0]) (by simp [results, Tryz.results77, go_sem]) rfl ⟨none, 0, rfl, .nil _ _, boxed _ _⟩
 ·have hpl : p < w.heap.size := World.block_lt_of_cell? w _ h.ptr
  have hql := h.list.lt
  by_cases hs : 0 <= s /\ s < (n : Int)
  ·obtain ⟨h0, hn⟩ := hs
   obtain ⟨j, rfl⟩ := Int.eq_ofNat_of_zero_le h0
   have hlt : j < n := by omega
   have hsm := h.small
   obtain ⟨u, hw, ad, c, rfl, hR, _⟩ := h.list.word j hlt
   have hl := h.list.len j hlt
   have hp := h.ptr
   have R := zPB (fun w' (hb : Below w.heap.size w w') => hR.below hb (Nat.le_refl _))
   have d0 : decide ((j : Int) < 0) = false := decide_eq_false (by omega)
   have d1 : decide (n <= j) = false := decide_eq_false (by omega)
   clear h hR h0 hn
   generalize T (j : Int) = a at *
   go_enter Tryz.func77, Tryz.ntmps77
   go_wp2
   try simp only [Exit.inBlock, Exit.then]
   exact bodyPost_ret (v := .agg #[.int .i64 (lenA a), .slice ad (zAC a).length c]) (by simp [results, Tryz.results77, go_sem]) rfl ⟨ad, c, rfl, R.out _ (boxed _ _), boxed _ _⟩
  ·have e := h.ok.out s hs
   rw [e]
   have hp := h.ptr
   have hsm := h.small
   clear h e
   by_cases h0 : s < 0
   ·have d0 : decide (s < 0) = true := decide_eq_true h0
    clear hs
    go_enter Tryz.func77, Tryz.ntmps77
    go_wp2
    try simp only [Exit.inBlock, Exit.then]
    exact bodyPost_ret (v := .agg #[.int .i64 4098, .slice none 0 0]) (by simp [results, Tryz.results77, go_sem]) rfl ⟨none, 0, rfl, .nil _ _, boxed _ _⟩
   ·obtain ⟨j, rfl⟩ := Int.eq_ofNat_of_zero_le (Int.not_lt.1 h0)
    have d0 : decide ((j : Int) < 0) = false := decide_eq_false (by omega)
    have d1 : decide (n <= j) = true := decide_eq_true (by omega)
    clear hs h0
    go_enter Tryz.func77, Tryz.ntmps77
    go_wp2
    try simp only [Exit.inBlock, Exit.then]
    exact bodyPost_ret (v := .agg #[.int .i64 4098, .slice none 0 0]) (by simp [results, Tryz.results77, go_sem]) rfl ⟨none, 0, rfl, .nil _ _, boxed _ _⟩
end Le
namespace Le
open Gr (Is step ivs zAs zAL)
def zOC (T : Int -> Ans) (l : List Int) (W : World) (m i : Value) (w : World) : Prop :=
 ∃ k n : Nat, k <= l.length /\ i = .int .i64 k /\ m = .int .i64 n /\ zHc T l k n /\ Below W.heap.size W w
theorem zOZ (n m : Nat) : Value.int .i64 (if (4097 : Int) < (n : Int) + (m : Int) then 4097 else (n : Int) + (m : Int)) = .int .i64 ((min (n + m) 4097 : Nat) : Int) := by
 congr 1
 split <;> omega
theorem zKg (nl : Bool) (v : Value) (T : Int -> Ans) (l : List Int) (a : Option Addr) (c : Nat) (w : World) (h : VAt nl v T w) (hR : Sep.Reads a (ivs l) w) (hl : l.length <= 17592186044416) :
  Calls Tryz.prog 76 #[v, .slice a l.length c] w (Is (.int .i64 (lenA (J T l) : Int)) w) := by
 have AT := zPB (fun s w1 (b : Below w.heap.size w w1) => zMV nl v T s w1 (h.went b))
 have RR := zPB (fun w1 (b : Below w.heap.size w w1) => Sep.Reads.below hR b (Nat.le_refl _))
 have TB := zPB h.bnd
 have hfd := zI0
 clear h hR
 go_enter Tryz.func76, Tryz.ntmps76
 go_wp2
 go_loopw [5, 11] (fun m i wr => zOC T l w m i wr) (fun _ i _ => l.length - (intOf i).toNat)
 case atStart => exact ⟨0, 0, Nat.zero_le _, rfl, rfl, zMG _ _, .refl _ _⟩
 case round =>
  obtain ⟨k, n, hk, rfl, rfl, hS, hb⟩ := hrel
  have S := zPB hS
  have B := zPB hb
  have hn := zOh hS
  clear hS hb
  by_cases hlt : k < l.length
  ·obtain ⟨b, o, rfl, hc⟩ := zAs (RR.out _ B.out) hlt
   have A1 := zPB (AT.out l[k] _ B.out)
   by_cases hz : T l[k] = .none
   ·have Z := zPB (zHP hlt hz)
    rw [hz] at A1
    clear hz
    generalize l[k] = s at *
    go_wp2_with (go_at_call 77; refine A1.out.mono ?_; rintro e w1 ⟨ad, cc, rfl, _, hb⟩; have B1 := zPB (Gr.step B.out hb); clear hb)
    go_ret
    exact ⟨by rw [Z.out]; rfl, B1.out⟩
   ·have S1 := zPB (zMF TB.out S.out hlt hz)
    have hle := zEq (TB.out l[k])
    have hne : lenA (T l[k]) ≠ 4098 := fun e => hz ((zEs (TB.out l[k])).1 e)
    clear hz
    generalize T l[k] = t at *
    generalize l[k] = s at *
    have hd : ((lenA t : Int) == 4098) = false := by rw [beq_eq_false_iff_ne]; omega
    go_wp2_with (go_at_call 77; refine A1.out.mono ?_; rintro e w1 ⟨ad, cc, rfl, _, hb⟩; have B1 := zPB (Gr.step B.out hb); clear hb)
    go_roundw
    case rel => exact ⟨k + 1, min (n + lenA t) 4097, by omega, by go_num, zOZ _ _, S1.out, B1.out⟩
    case measure => simp [intOf]; omega
  ·have E := zPB (zNt S.out hlt)
   go_wp2
   go_ret
   exact ⟨zAL (congrArg _ E.out.symm), B.out⟩
end Le
namespace Le
open Gr (Is step boxed ivs zAs zAL zAA)
def Still (v : Value) (w : World) (e : Ending) (w' : World) : Prop := e = .returned v /\ w = w'
def cmpI (x y : Int) : Int := if x < y then -1 else if y < x then 1 else 0
theorem zGK (x : Int) (w : World) : Calls Tryz.prog 109 #[.int .i64 x] w (Still (.bool false) w) := by
 go_enter Tryz.func109, Tryz.ntmps109
 go_wp2
 go_ret
 exact ⟨zAA (by simp), rfl⟩
theorem zIs (x y : Int) (w : World) : Calls Tryz.prog 96 #[.int .i64 x, .int .i64 y] w (Still (.int .i64 (cmpI x y)) w) := by
 by_cases h1 : x < y
 ·have E := zPB (show cmpI x y = -1 from if_pos h1)
  have d1 : decide (x < y) = true := decide_eq_true h1
  clear h1
  go_enter Tryz.func96, Tryz.ntmps96
  go_wp2_with (go_at_call 109; refine (zGK _ _).mono ?_; rintro e w1 ⟨rfl, rfl⟩)
  go_ret
  exact ⟨zAL E.out, rfl⟩
 ·have d1 : decide (x < y) = false := decide_eq_false h1
  by_cases h2 : y < x
  ·have E := zPB (show cmpI x y = 1 from by unfold cmpI; rw [if_neg h1, if_pos h2])
   have d2 : decide (y < x) = true := decide_eq_true h2
   clear h1 h2
   go_enter Tryz.func96, Tryz.ntmps96
   go_wp2_with (go_at_call 109; refine (zGK _ _).mono ?_; rintro e w1 ⟨rfl, rfl⟩)
   go_ret
   exact ⟨zAL E.out, rfl⟩
  ·have E := zPB (show cmpI x y = 0 from by unfold cmpI; rw [if_neg h1, if_neg h2])
   have d2 : decide (y < x) = false := decide_eq_false h2
   clear h1 h2
   go_enter Tryz.func96, Tryz.ntmps96
   go_wp2_with (go_at_call 109; refine (zGK _ _).mono ?_; rintro e w1 ⟨rfl, rfl⟩)
   go_ret
   exact ⟨zAL E.out, rfl⟩
theorem zMw {x y : Int} (h : x = y) : cmpI x y = 0 := by unfold cmpI; rw [if_neg (by omega), if_neg (by omega)]
theorem zIr {x y : Int} (h : x ≠ y) : cmpI x y ≠ 0 /\ cmpI x y = if x < y then -1 else 1 := by
 unfold cmpI
 by_cases h1 : x < y
 ·rw [if_pos h1, if_pos h1]
  exact ⟨by omega, rfl⟩
 ·rw [if_neg h1, if_neg h1, if_pos (by omega)]
  exact ⟨by omega, rfl⟩
theorem zB6 (X Y : List Int) (a b : Option Addr) (c d : Nat) (w : World) (hX : Sep.Reads a (ivs X) w) (hY : Sep.Reads b (ivs Y) w) (hl : X.length = Y.length) (hm : X.length <= 100000) :
  Calls Tryz.prog 73 #[.slice a X.length c, .slice b Y.length d] w (Still (.int .i64 (cmpL X Y)) w) := by
 have HX := zPB hX
 have HY := zPB hY
 have HL := zPB hl
 rw [← hl]
 clear hX hY hl
 go_enter Tryz.func73, Tryz.ntmps73
 go_wp2
 go_loop [11] (fun i => ∃ k : Nat, k <= X.length /\ i = .int .i64 k /\ zAp X Y k) (fun i => X.length - (intOf i).toNat)
 case atStart => exact ⟨0, Nat.zero_le _, rfl, zBs _ _⟩
 case round =>
  obtain ⟨k, hk, rfl, hS⟩ := hrel
  have S := zPB hS
  clear hS
  by_cases hlt : k < X.length
  ·have hlt2 : k < Y.length := by rw [← HL.out]; exact hlt
   obtain ⟨b1, o1, e1, hc1⟩ := zAs HX.out hlt
   obtain ⟨b2, o2, e2, hc2⟩ := zAs HY.out hlt2
   have NS := zPB (fun he => zBr S.out hlt hlt2 he)
   have NE := zPB (fun he => (zOI S.out hlt hlt2 he).trans (zIr he).2.symm)
   have d0 : decide (X.length <= k) = false := decide_eq_false (by omega)
   generalize X[k] = x at *
   generalize Y[k] = y at *
   subst e1 e2
   by_cases hxy : x = y
   ·have S2 := zPB (NS.out hxy)
    have CM := zPB (fun w => zIs x y w)
    rw [zMw hxy] at CM
    clear hxy NS NE hlt2
    go_wp2_with (go_at_call 96; refine (CM.out _).mono ?_; rintro e w1 ⟨rfl, rfl⟩)
    go_round
    case rel => exact ⟨k + 1, by omega, by go_num, S2.out⟩
    case measure => simp [intOf]; omega
   ·have E := zPB (NE.out hxy)
    have hne := (zIr hxy).1
    have CM := zPB (fun w => zIs x y w)
    clear hxy NS NE hlt2
    generalize cmpI x y = ci at *
    have hb : (ci != 0) = true := by simpa using hne
    clear hne
    go_wp2_with (go_at_call 96; refine (CM.out _).mono ?_; rintro e w1 ⟨rfl, rfl⟩)
    go_ret
    exact ⟨zAL E.out, rfl⟩
  ·have E := zPB (show cmpL X Y = 0 from by rw [zCW S.out hlt HL.out]; exact zK7 Y)
   go_wp2
   go_ret
   exact ⟨zAL E.out, rfl⟩
theorem zGH (X Y : List Int) (a b : Option Addr) (c d : Nat) (w : World) (hX : Sep.Reads a (ivs X) w) (hY : Sep.Reads b (ivs Y) w) (hl : X.length = Y.length) (hm : X.length <= 100000) :
  Calls Tryz.prog 43 #[.slice a X.length c, .slice b Y.length d] w (Still (.int .i64 (cmpL X Y)) w) := by
 have C := zPB (zB6 X Y a b c d w hX hY hl hm)
 clear hX hY hl
 go_enter Tryz.func43, Tryz.ntmps43
 go_wp2_with (go_at_call 73; refine C.out.mono ?_; rintro e w1 ⟨rfl, rfl⟩)
 go_ret
 exact ⟨rfl, rfl⟩
abbrev lexV : Value := .func (.func 43) #[] #[]
theorem zGX (x : Option Addr) (s t : Ans) (a b : Option Addr) (c d : Nat) (w : World) (hX : Sep.Reads a (ivs (zAC s)) w) (hY : Sep.Reads b (ivs (zAC t)) w) (hs : Bd s) (ht : Bd t) :
  Calls Tryz.prog 74 #[.agg #[.pointer x, lexV], .agg #[.int .i64 (lenA s : Int), .slice a (zAC s).length c], .agg #[.int .i64 (lenA t : Int), .slice b (zAC t).length d]] w (Is (.bool (zAQ s t)) w) := by
 have b1 := boxed w (.cells #[.pointer x, lexV] 93)
 have b2 := Gr.step b1 (boxed _ (.cells #[.int .i64 (lenA s : Int), .slice a (zAC s).length c] 101))
 have B3 := zPB (Gr.step b2 (boxed _ (.cells #[.int .i64 (lenA t : Int), .slice b (zAC t).length d] 101)))
 have hs2 := zE8 hs
 have ht2 := zE8 ht
 clear b1 b2
 by_cases he : lenA s = lenA t
 ·obtain ⟨e1, e2⟩ := zIh hs ht he
  have E := zPB ((zMx e2).trans e1.symm)
  have C := zPB (fun w1 (bb : Below w.heap.size w w1) => zGH (zAC s) (zAC t) a b c d w1 (hX.below bb (Nat.le_refl _)) (hY.below bb (Nat.le_refl _)) e2 (by omega))
  rw [he]
  rw [he] at B3
  generalize lenA t = n at *
  generalize cmpL (zAC s) (zAC t) = ci at *
  clear e1 e2 he hX hY hs ht
  generalize zAC s = X at *
  generalize zAC t = Y at *
  go_enter Tryz.func74, Tryz.ntmps74
  go_wp2_with (go_at_call 43; refine (C.out _ B3.out).mono ?_; rintro e w1 ⟨rfl, rfl⟩)
  go_ret
  exact ⟨zAA E.out.symm, B3.out⟩
 ·have E := zPB (zIi hs ht he)
  have hb : ((lenA s : Int) != (lenA t : Int)) = true := by simp; omega
  generalize lenA s = n at *
  generalize lenA t = m at *
  generalize zAC s = X at *
  generalize zAC t = Y at *
  clear he hX hY hs ht
  go_enter Tryz.func74, Tryz.ntmps74
  go_wp2
  go_ret
  exact ⟨zAA E.out, B3.out⟩
