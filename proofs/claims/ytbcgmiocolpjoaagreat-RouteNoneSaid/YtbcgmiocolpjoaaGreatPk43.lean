/- A part of the proof. -/
import Derived.Test.YtbcgmiocolpjoaaGreatPk41
import Derived.Test.YtbcgmiocolpjoaaGreatPk42
set_option maxHeartbeats 4000000
set_option maxRecDepth 100000
set_option linter.unusedVariables false
namespace Go.Proofs.YtbcgmiocolpjoaaGreat
open Go.RowKit Go.Maps
namespace Ro
open Gr (Gram Sh GAt gv Is cell_later ivs)
open Le (RVAt Ans zA3 zAC isA)
open Im
open Au
def ROb (G : Gram) (o : Option Whole) (v : Value) (w : World) : Prop :=
 (o = none /\ v = .pointer none) \/ ∃ (q : Whole) (p bL pw : Nat) (L : Nat -> List Int) (A : Nat -> Option Addr) (C : Nat -> Nat), o = some q /\ v = .pointer (some ⟨p, 0, none⟩) /\ RrAt G q p bL pw L A C w /\ Done G q /\ q.1.length <= 2000
theorem ROb.went {G : Gram} {o : Option Whole} {v : Value} {w w' : World} (h : ROb G o v w) (hb : Below w.heap.size w w') : ROb G o v w' :=
 h.imp id fun ⟨q, p, bL, pw, L, A, C, h1, h2, h3, h4⟩ => ⟨q, p, bL, pw, L, A, C, h1, h2, h3.went hb, h4⟩
def ROfO (G : Gram) (w : World) (e : Ending) (w' : World) : Prop := ∃ (er : Int) (o : Option Whole) (v : Value), e = .returned (.tuple #[v, .int .i64 er]) /\ OIs G er o /\ ROb G o v w' /\ Below w.heap.size w w'
theorem zOd (h : Sh) (G : Gram) (w : World) (k : GAt h G w) : Calls Tryz.prog 9 #[gv h G] w (ROfO G w) :=
 (zDT h G w k).mono fun e w' hg => by
  rcases hg with ⟨er, h0, h1, h2, h3⟩ | ⟨q, p, bL, pw, L, A, C, h0, h1, h2, h3, h4, h5, h6⟩
  ·exact ⟨er, none, _, h2, .inl ⟨h0, h1, rfl⟩, .inl ⟨rfl, rfl⟩, h3⟩
  ·exact ⟨0, some q, _, h4, .inr ⟨rfl, q, rfl, h3, h1, h2⟩, .inr ⟨q, p, bL, pw, L, A, C, rfl, rfl, h5, h1, h2⟩, h6⟩
theorem zHH (w : World) : Calls Tryz.prog 11 #[.pointer none] w (Is (.int .i64 0) w) := by
 go_enter Tryz.func11, Tryz.ntmps11
 go_wp2
 go_ret
 exact ⟨rfl, .refl _ _⟩
theorem zE0 (n p bL : Nat) (w : World) (c0 : w.cell? ⟨p, 0, none⟩ = some (.slice (some ⟨bL, 0, none⟩) n n)) :
  Calls Tryz.prog 11 #[.pointer (some ⟨p, 0, none⟩)] w (Is (.int .i64 (n : Int)) w) := by
 go_enter Tryz.func11, Tryz.ntmps11
 go_wp2
 go_ret
 exact ⟨rfl, .refl _ _⟩
theorem zNf (G : Gram) (o : Option Whole) (v : Value) (w : World) (h : ROb G o v w) : Calls Tryz.prog 11 #[v] w (Is (.int .i64 (lenO o : Int)) w) := by
 rcases h with ⟨rfl, rfl⟩ | ⟨q, p, bL, pw, L, A, C, rfl, rfl, h, _⟩
 ·exact zHH w
 ·exact zE0 q.1.length p bL w h.c0
theorem zL8 (i : Int) (w : World) : Calls Tryz.prog 13 #[.pointer none, .int .i64 i] w (Two [] false w) := by
 have LE := zPB (zHH w)
 by_cases h0 : i < 0
 ·go_enter Tryz.func13, Tryz.ntmps13
  go_wp2
  exact bodyPost_ret (v := .tuple #[.slice none 0 0, .bool false]) (by simp [results, Tryz.results13, go_sem]) rfl (zBL _ _ (.refl _ _))
 ·have h1 : (0 : Int) <= i := by omega
  go_enter Tryz.func13, Tryz.ntmps13
  go_wp2_with (go_at_call 11; refine LE.out.mono ?_; rintro e w1 ⟨rfl, hb⟩; have B := zPB hb; clear hb)
  exact bodyPost_ret (v := .tuple #[.slice none 0 0, .bool false]) (by simp [results, Tryz.results13, go_sem]) rfl (zBL _ _ B.out)
theorem zL7 (n p bL : Nat) (i : Int) (w : World) (c0 : w.cell? ⟨p, 0, none⟩ = some (.slice (some ⟨bL, 0, none⟩) n n)) (hi : ¬ (0 <= i /\ i < (n : Int))) :
  Calls Tryz.prog 13 #[.pointer (some ⟨p, 0, none⟩), .int .i64 i] w (Two [] false w) := by
 have LE := zPB (zE0 n p bL w c0)
 clear c0
 by_cases h0 : i < 0
 ·clear hi
  go_enter Tryz.func13, Tryz.ntmps13
  go_wp2
  exact bodyPost_ret (v := .tuple #[.slice none 0 0, .bool false]) (by simp [results, Tryz.results13, go_sem]) rfl (zBL _ _ (.refl _ _))
 ·have h1 : (n : Int) <= i := by omega
  have hd : decide ((n : Int) <= i) = true := decide_eq_true h1
  clear hi
  go_enter Tryz.func13, Tryz.ntmps13
  go_wp2_with (go_at_call 11; refine LE.out.mono ?_; rintro e w1 ⟨rfl, hb⟩; have B := zPB hb; clear hb)
  exact bodyPost_ret (v := .tuple #[.slice none 0 0, .bool false]) (by simp [results, Tryz.results13, go_sem]) rfl (zBL _ _ B.out)
theorem zNj (n p bL k : Nat) (X : List Int) (a : Option Addr) (c : Nat) (w : World) (c0 : w.cell? ⟨p, 0, none⟩ = some (.slice (some ⟨bL, 0, none⟩) n n)) (hk : k < n) (c1 : w.cell? ⟨bL, k, none⟩ = some (.slice a X.length c)) (hR : Sep.Reads a (ivs X) w) :
  Calls Tryz.prog 13 #[.pointer (some ⟨p, 0, none⟩), .int .i64 (k : Int)] w (Two X true w) := by
 have LE := zPB (zE0 n p bL w c0)
 have C0 := zPB (fun w1 (b : Below w.heap.size w w1) => cell_later b c0)
 have C1 := zPB (fun w1 (b : Below w.heap.size w w1) => cell_later b c1)
 have RR := zPB hR
 have hn0 : (0 : Int) <= (k : Int) := by omega
 have hn1 : (k : Int) < (n : Int) := by omega
 have hnd : decide ((n : Int) <= (k : Int)) = false := decide_eq_false (by omega)
 have hnl : ¬ (n <= k) := by omega
 clear c0 c1 hR
 go_enter Tryz.func13, Tryz.ntmps13
 go_wp2_with (go_at_call 11; refine LE.out.mono ?_; rintro e w1 ⟨rfl, hb⟩; have B := zPB hb; have c0 := C0.out w1 hb; have c1 := C1.out w1 hb; clear hb)
 exact bodyPost_ret (v := .tuple #[.slice a X.length c, .bool true]) (by simp [results, Tryz.results13, go_sem]) rfl ⟨a, c, rfl, RR.out.below B.out (Nat.le_refl _), B.out⟩
theorem zKN (G : Gram) (o : Option Whole) (v : Value) (i : Int) (w : World) (h : ROb G o v w) : Calls Tryz.prog 13 #[v, .int .i64 i] w fun e w' => Two (wayL G o i) (wayB G o i) w e w' /\ (wayL G o i).length <= 4000 := by
 unfold wayL wayB
 rcases h with ⟨rfl, rfl⟩ | ⟨q, p, bL, pw, L, A, C, rfl, rfl, h, D, hl⟩
 ·rw [zBw]
  exact (zL8 i w).mono fun e w' h => ⟨h, Nat.zero_le _⟩
 ·by_cases hi : 0 <= i /\ i < (q.1.length : Int)
  ·obtain ⟨k, rfl⟩ := Int.eq_ofNat_of_zero_le hi.1
   have hk : k < q.1.length := by omega
   obtain ⟨h1, h2, h3, h4⟩ := h.fl k hk
   rw [zCa (zAa D) hk (h.least k hk)]
   exact (zNj q.1.length p bL k (L k) (A k) (C k) w h.c0 hk h1 h2).mono fun e w' ht => ⟨ht, h4⟩
  ·rw [zC6 hi]
   exact (zL7 q.1.length p bL i w h.c0 hi).mono fun e w' h => ⟨h, Nat.zero_le _⟩
theorem zL5 (v : Value) (i : Int) (w : World) (h : Calls Tryz.prog 13 #[v, .int .i64 i] w (Two [] false w)) : Calls Tryz.prog 15 #[v, .int .i64 i] w (Two [] false w) := by
 have WA := zPB h
 clear h
 go_enter Tryz.func15, Tryz.ntmps15
 go_wp2_with fail
 refine WA.out.mono ?_
 rintro e w1 ⟨ad, c, rfl, _, hb⟩
 have B := zPB hb
 clear hb
 dsimp only [List.length_nil]
 go_wp2
 exact bodyPost_ret (v := .tuple #[.slice none 0 0, .bool false]) (by simp [results, Tryz.results15, go_sem]) rfl (zBL _ _ B.out)
theorem zL4 (nl : Bool) (T : Int -> Ans) (p pw : Nat) (i : Int) (X : List Int) (w : World) (c1 : w.cell? ⟨p, 1, none⟩ = some (.pointer (some ⟨pw, 0, none⟩))) (hV : RVAt nl (.pointer (some ⟨pw, 0, none⟩)) T w) (hX : X.length <= 4000)
  (h : Calls Tryz.prog 13 #[.pointer (some ⟨p, 0, none⟩), .int .i64 i] w (Two X true w)) : Calls Tryz.prog 15 #[.pointer (some ⟨p, 0, none⟩), .int .i64 i] w (Two (zAC (zA3 nl T X)) (isA (zA3 nl T X)) w) := by
 have WA := zPB h
 have C1 := zPB (fun w1 (b : Below w.heap.size w w1) => cell_later b c1)
 have VV := zPB (fun w1 (b : Below w.heap.size w w1) => hV.went b)
 clear h c1 hV
 go_enter Tryz.func15, Tryz.ntmps15
 go_wp2_with fail
 refine WA.out.mono ?_
 rintro e w1 ⟨ad, c, rfl, hr, hb⟩
 have c1 := C1.out w1 hb
 have LI := zPB (Le.zKC nl (.pointer (some ⟨pw, 0, none⟩)) T X ad c w1 (VV.out w1 hb) hr (by omega))
 have HB := zPB hb
 clear hb hr
 go_wp2_with fail
 refine LI.out.mono ?_
 rintro e w2 ⟨ad2, c2, rfl, hr2, hb2⟩
 have GV := zPB (show Two (zAC (zA3 nl T X)) (isA (zA3 nl T X)) w (.returned (.tuple #[.slice ad2 (zAC (zA3 nl T X)).length c2, .bool (isA (zA3 nl T X))])) w2 from ⟨ad2, c2, rfl, hr2, Gr.step HB.out hb2⟩)
 clear hr2 hb2
 generalize zA3 nl T X = Y at *
 generalize (zAC Y).length = m at *
 generalize isA Y = bo at *
 go_wp2
 exact bodyPost_ret (v := .tuple #[.slice ad2 m c2, .bool bo]) (by simp [results, Tryz.results15, go_sem]) rfl GV.out
theorem zHK (G : Gram) (o : Option Whole) (v : Value) (i : Int) (w : World) (h : ROb G o v w) : Calls Tryz.prog 15 #[v, .int .i64 i] w (Two (zAC (zAw G o i)) (isA (zAw G o i)) w) := by
 have hw := zKN G o v i w h
 unfold wayL wayB at hw
 unfold zAw
 cases hx : wayO G o i with
 | none =>
  rw [hx] at hw
  exact zL5 v i w (hw.mono fun e w' h => h.1)
 | some X =>
  rw [hx] at hw
  rcases h with ⟨rfl, rfl⟩ | ⟨q, p, bL, pw, L, A, C, rfl, rfl, h, D, hl⟩
  ·rw [zBw] at hx
   cases hx
  ·by_cases hi : 0 <= i /\ i < (q.1.length : Int)
   ·obtain ⟨k, rfl⟩ := Int.eq_ofNat_of_zero_le hi.1
    have hk : k < q.1.length := by omega
    have hX : X = L k := by
     rw [zCa (zAa D) hk (h.least k hk)] at hx
     injection hx with hx
     exact hx.symm
    exact zL4 _ _ p pw (k : Int) X w h.c1 h.words (by rw [hX]; exact (h.fl k hk).2.2.2) (hw.mono fun e w' h => h.1)
   ·rw [zC6 hi] at hx
    cases hx
end Ro
namespace Ro
open Gr (Gram cell_later zAB boxed ivs)
open Le (Ans zAC isA)
open Im
open Au
def cv (x : Int × Int × Int × Int × Int × Int) : Value := .agg #[.int .i64 x.1, .int .i64 x.2.1, .int .i64 x.2.2.1, .int .i64 x.2.2.2.1, .int .i64 x.2.2.2.2.1, .int .i64 x.2.2.2.2.2]
theorem one_cell (x : Int) (b : Nat) (w : World) (h : w.cell? ⟨b, 0, none⟩ = some (.int .i64 x)) : Sep.Reads (some ⟨b, 0, none⟩) (ivs [x]) w := fun i hi => by
 have : i = 0 := by simp [ivs] at hi; omega
 subst this
 exact ⟨b, 0, rfl, h⟩
theorem zOl (v : Value) (Y : Ans) (s t a b c d : Int) (w : World) (hY : (zAC Y).length <= 4096) (hT : ∀ w1, Below w.heap.size w w1 -> Calls Tryz.prog 14 #[v, .int .i64 s] w1 (Two (zAC Y) (isA Y) w1)) :
  Calls Tryz.prog 17 #[v, .agg #[.int .i64 s, .int .i64 t, .int .i64 a, .int .i64 b, .int .i64 c, .int .i64 d]] w (Two (witA Y t) (isA Y) w) := by
 have TX := zPB hT
 have bx := boxed w (.cells #[.int .i64 s, .int .i64 t, .int .i64 a, .int .i64 b, .int .i64 c, .int .i64 d] 29)
 have B0 := zPB bx
 have z1 : (w.alloc (.cells #[.int .i64 s, .int .i64 t, .int .i64 a, .int .i64 b, .int .i64 c, .int .i64 d] 29)).cell? ⟨w.heap.size, 1, none⟩ = some (.int .i64 t) := zAB rfl rfl
 have Z := zPB (fun w1 (bb : Below (w.alloc (.cells #[.int .i64 s, .int .i64 t, .int .i64 a, .int .i64 b, .int .i64 c, .int .i64 d] 29)).heap.size (w.alloc (.cells #[.int .i64 s, .int .i64 t, .int .i64 a, .int .i64 b, .int .i64 c, .int .i64 d] 29)) w1) => cell_later bb z1)
 have CC := zPB (fun kb a b c d w1 => zHn (zAC Y) t kb a b c d w1)
 clear hT bx z1
 cases hi : isA Y with
 | false =>
  have E := zPB (show witA Y t = [] from zKr t hi)
  have E2 := zPB (show zAC Y = [] from zKs hi)
  rw [hi, E2.out] at TX
  rw [E.out]
  clear hi CC hY
  go_enter Tryz.func17, Tryz.ntmps17
  go_wp2_with fail
  refine (TX.out _ B0.out).mono ?_
  rintro e w2 ⟨ad, c2, rfl, hr, hb⟩
  have R2 := zPB hr
  have B2 := zPB (Gr.step B0.out hb)
  clear hr hb
  go_wp2_with fail
  exact bodyPost_ret (v := .tuple #[.slice ad 0 c2, .bool false]) (by simp [results, Tryz.results17, go_sem]) rfl ⟨ad, c2, rfl, R2.out, B2.out⟩
 | true =>
  rw [hi] at TX
  by_cases ht : t = 0
  ·subst ht
   rw [zFv]
   clear hi CC
   generalize zAC Y = X at *
   go_enter Tryz.func17, Tryz.ntmps17
   go_wp2_with fail
   refine (TX.out _ B0.out).mono ?_
   rintro e w2 ⟨ad, c2, rfl, hr, hb⟩
   have R2 := zPB hr
   have B2 := zPB (Gr.step B0.out hb)
   have z1 := Z.out w2 hb
   clear hr hb
   go_wp2_with fail
   exact bodyPost_ret (v := .tuple #[.slice ad X.length c2, .bool true]) (by simp [results, Tryz.results17, go_sem]) rfl ⟨ad, c2, rfl, R2.out, B2.out⟩
  ·rw [zFu hi ht]
   have htb : (t == 0) = false := by simpa using ht
   clear hi
   generalize zAC Y = X at *
   go_enter Tryz.func17, Tryz.ntmps17
   go_wp2_with fail
   refine (TX.out _ B0.out).mono ?_
   rintro e w2 ⟨ad, c2, rfl, hr, hb⟩
   have B2 := zPB (Gr.step B0.out hb)
   have z1 := Z.out w2 hb
   have b3 := boxed w2 (.cells #[.int .i64 t] 3)
   have b4 := Gr.step b3 (boxed (w2.alloc (.cells #[.int .i64 t] 3)) (.cells #[.slice ad X.length c2, .slice (some ⟨w2.heap.size, 0, none⟩) 1 1] 40))
   have CN := zPB (CC.out (w2.heap.size + 1) ad (some ⟨w2.heap.size, 0, none⟩) c2 1 ((w2.alloc (.cells #[.int .i64 t] 3)).alloc (.cells #[.slice ad X.length c2, .slice (some ⟨w2.heap.size, 0, none⟩) 1 1] 40)) (zAB (by rw [World.size_alloc]) rfl) (zAB (by rw [World.size_alloc]) rfl) (hr.below b4 (Nat.le_refl _))
    (one_cell t _ _ (cell_later (boxed _ _) (zAB rfl rfl))) (by omega))
   have B4 := zPB (Gr.step B2.out b4)
   clear hr hb b3 b4 CC
   go_wp2_with (go_at_call 29; refine CN.out.mono ?_; rintro e w5 ⟨a5, c5, rfl, hr5, hb5⟩; have R5 := zPB hr5; have B5 := zPB (Gr.step B4.out hb5); clear hr5 hb5)
   exact bodyPost_ret (v := .tuple #[.slice a5 (X.length + 1) c5, .bool true]) (by simp [results, Tryz.results17, go_sem]) rfl ⟨a5, c5, by rw [List.length_append, List.length_singleton], R5.out, B5.out⟩
theorem zMg (G : Gram) (o : Option Whole) (v : Value) (x : Int × Int × Int × Int × Int × Int) (w : World) (h : Ob G o v w) : Calls Tryz.prog 17 #[v, cv x] w (Two (witA (zAw G o x.1) x.2.1) (isA (zAw G o x.1)) w) :=
 zOl v (zAw G o x.1) x.1 x.2.1 x.2.2.1 x.2.2.2.1 x.2.2.2.2.1 x.2.2.2.2.2 w (zC2 _ _ _) fun w1 b => zKe G o v x.1 w1 (h.went b)
