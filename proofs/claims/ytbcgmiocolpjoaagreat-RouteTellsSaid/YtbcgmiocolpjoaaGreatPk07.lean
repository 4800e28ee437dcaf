/- A part of the proof. -/
import Derived.Test.YtbcgmiocolpjoaaGreatPk06
set_option maxHeartbeats 4000000
set_option maxRecDepth 100000
set_option linter.unusedVariables false
namespace Go.Proofs.YtbcgmiocolpjoaaGreat
open Go.RowKit Go.Maps
namespace Gr
def zBe (L M : List Int) : Bool := decide (L = M)
def eqI (x y : Int) : Bool := decide (x = y)
theorem zFb {α : Type} {L M : List α} (h : L.length ≠ M.length) : ¬ L = M := fun e => h (by rw [e])
def Alike {α : Type} (L M : List α) (k : Nat) : Prop := ∀ j (h1 : j < L.length) (h2 : j < M.length), j < k -> L[j] = M[j]
theorem zDt {α : Type} (L M : List α) : Alike L M 0 := fun _ _ _ h => absurd h (by omega)
theorem zDs {α : Type} {L M : List α} {k : Nat} (h : Alike L M k) (h1 : k < L.length) (h2 : k < M.length) (e : L[k] = M[k]) : Alike L M (k + 1) := fun j g1 g2 hj => by
 by_cases he : j = k
 ·subst he
  exact e
 ·exact h j g1 g2 (by omega)
theorem zFE {α : Type} {L M : List α} {k : Nat} (h : Alike L M k) (hl : L.length = M.length) (hk : ¬ k < L.length) : L = M := List.ext_getElem hl fun i h1 h2 => h i h1 h2 (by omega)
theorem zDr {α : Type} {L M : List α} {k : Nat} (h1 : k < L.length) (h2 : k < M.length) (e : L[k] ≠ M[k]) : ¬ L = M := fun h => e (by subst h; rfl)
theorem zBH {a : Option Addr} {xs : List Value} {w : World} {k n : Nat} {v : Value} (h : Sep.Reads a xs w) (hl : n = xs.length) (hk : k < n) (hv : xs[k]? = some v) : ∃ b o, a = some ⟨b, o, none⟩ /\ w.cell? ⟨b, o + k, none⟩ = some v := by
 obtain ⟨b, o, e, hc⟩ := h k (by omega)
 refine ⟨b, o, e, hc.trans ?_⟩
 rw [List.getElem?_eq_getElem (by omega)] at hv
 exact hv
theorem zIw (x y : Int) (w : World) : Calls Tryz.prog 119 #[.int .i64 x, .int .i64 y] w fun e w' => e = .returned (.bool (eqI x y)) /\ w = w' := by
 go_enter Tryz.func119, Tryz.ntmps119
 go_wp2
 go_ret
 refine ⟨zAA ?_, rfl⟩
 unfold eqI
 rw [Bool.eq_iff_iff]
 simp
theorem zOL (L M : List Int) (a b : Option Addr) (c d : Nat) (w : World) (ha : Sep.Reads a (ivs L) w) (hb : Sep.Reads b (ivs M) w) (hl : L.length <= 17592186044416) (hm : M.length <= 17592186044416) :
  Calls Tryz.prog 118 #[.slice a L.length c, .slice b M.length d, .func (.func 119) #[] #[]] w fun e w' => e = .returned (.bool (zBe L M)) /\ w = w' := by
 have HA := zPB ha
 have HB := zPB hb
 clear ha hb
 by_cases hlen : L.length = M.length
 ·have HL := zPB hlen
  have hle : M.length <= L.length := by omega
  have hle' : L.length <= M.length := by omega
  have hlb : ((L.length : Int) != (M.length : Int)) = false := by simp [hlen]
  clear hlen
  go_enter Tryz.func118, Tryz.ntmps118
  go_wp2
  go_loop [16] (fun i => ∃ k : Nat, k <= L.length /\ i = .int .i64 k /\ Alike L M k) (fun i => L.length - (intOf i).toNat)
  case atStart => exact ⟨0, Nat.zero_le _, rfl, zDt _ _⟩
  case round =>
   obtain ⟨k, hk, rfl, hA⟩ := hrel
   have A := zPB hA
   clear hA
   by_cases hlt : k < L.length
   ·have hlm : k < M.length := by omega
    obtain ⟨b1, o1, rfl, h1⟩ := zBH (v := .int .i64 L[k]) HA.out (by simp [ivs]) hlt (by simp [ivs, iv, hlt])
    obtain ⟨b2, o2, rfl, h2⟩ := zBH (v := .int .i64 M[k]) HB.out (by simp [ivs]) hlm (by simp [ivs, iv, hlm])
    by_cases he : L[k] = M[k]
    ·have A2 := zPB (zDs A.out hlt hlm he)
     have E := zPB (show eqI L[k] M[k] = true by simp [eqI, he])
     clear he
     generalize L[k] = x at h1 E
     generalize M[k] = y at h2 E
     go_wp2_with (go_at_call 119; refine (zIw _ _ _).mono ?_; rw [E.out]; rintro e w1 ⟨rfl, rfl⟩)
     go_round
     case rel => exact ⟨k + 1, by omega, by go_num, A2.out⟩
     case measure => simp [intOf]; omega
    ·have F := zPB (show zBe L M = false by simpa [zBe] using zDr hlt hlm he)
     have E := zPB (show eqI L[k] M[k] = false by simp [eqI, he])
     clear he
     generalize L[k] = x at h1 E
     generalize M[k] = y at h2 E
     go_wp2_with (go_at_call 119; refine (zIw _ _ _).mono ?_; rw [E.out]; rintro e w1 ⟨rfl, rfl⟩)
     go_ret
     exact ⟨zAA F.out, rfl⟩
   ·have F := zPB (show zBe L M = true by simpa [zBe] using zFE A.out HL.out hlt)
    go_wp2
    go_ret
    exact ⟨zAA F.out, rfl⟩
 ·have F := zPB (show zBe L M = false by simpa [zBe] using zFb hlen)
  have hlb : ((L.length : Int) != (M.length : Int)) = true := by simpa using fun h => hlen (by omega)
  clear hlen
  go_enter Tryz.func118, Tryz.ntmps118
  go_wp2
  go_ret
  exact ⟨zAA F.out, rfl⟩
theorem zM0 (L M : List Int) (a b : Option Addr) (c d : Nat) (w : World) (ha : Sep.Reads a (ivs L) w) (hb : Sep.Reads b (ivs M) w) (hl : L.length <= 17592186044416) (hm : M.length <= 17592186044416) :
  Calls Tryz.prog 104 #[.slice a L.length c, .slice b M.length d] w fun e w' => e = .returned (.bool (zBe L M)) /\ w = w' := by
 have H := zPB (zOL L M a b c d w ha hb hl hm)
 clear ha hb
 go_enter Tryz.func104, Tryz.ntmps104
 go_wp2_with (go_at_call 118; refine H.out.mono ?_; rintro e w1 ⟨rfl, rfl⟩)
 go_ret
 exact ⟨rfl, rfl⟩
theorem zLz (L M : List Int) (a b : Option Addr) (c d : Nat) (w : World) (ha : Sep.Reads a (ivs L) w) (hb : Sep.Reads b (ivs M) w) (hl : L.length <= 17592186044416) (hm : M.length <= 17592186044416) :
  Calls Tryz.prog 99 #[.slice a L.length c, .slice b M.length d] w (Is (.bool (zBe L M)) w) := by
 have HA := zPB ha
 have HB := zPB hb
 clear ha hb
 by_cases hlen : L.length = M.length
 ·have HL := zPB hlen
  have hle : M.length <= L.length := by omega
  have hle' : L.length <= M.length := by omega
  have hlb : ((L.length : Int) != (M.length : Int)) = false := by simp [hlen]
  clear hlen
  go_enter Tryz.func99, Tryz.ntmps99
  go_wp2
  go_loopw [5] (fun i wr => ∃ k : Nat, k <= L.length /\ i = .int .i64 k /\ Alike L M k /\ Below w.heap.size w wr) (fun i _ => L.length - (intOf i).toNat)
  case atStart => exact ⟨0, Nat.zero_le _, rfl, zDt _ _, .refl _ _⟩
  case round =>
   obtain ⟨k, hk, rfl, hA, hW⟩ := hrel
   have A := zPB hA
   have HW := zPB hW
   clear hA
   by_cases hlt : k < L.length
   ·have hlm : k < M.length := by omega
    obtain ⟨b1, o1, rfl, h1⟩ := zBH (v := .int .i64 L[k]) HA.out (by simp [ivs]) hlt (by simp [ivs, iv, hlt])
    obtain ⟨b2, o2, rfl, h2⟩ := zBH (v := .int .i64 M[k]) HB.out (by simp [ivs]) hlm (by simp [ivs, iv, hlm])
    have k1 := cell_later hW h1
    have k2 := cell_later hW h2
    clear h1 h2 hW
    by_cases he : L[k] = M[k]
    ·have A2 := zPB (zDs A.out hlt hlm he)
     rw [he] at k1
     clear he
     generalize M[k] = y at k1 k2
     go_wp2
     go_quiet (fail)
     go_wp2
     go_roundw
     case rel => exact ⟨k + 1, by omega, by go_num, A2.out, HW.out.trans ⟨rfl, rfl, rfl, Nat.le_refl _, fun _ _ => rfl⟩⟩
     case measure => simp [intOf]; omega
    ·have F := zPB (show zBe L M = false by simpa [zBe] using zDr hlt hlm he)
     have E := (show (L[k] != M[k]) = true by simpa using he)
     clear he
     generalize L[k] = x at k1 E
     generalize M[k] = y at k2 E
     go_wp2
     go_quiet (fail)
     go_wp2
     go_ret
     exact ⟨zAA F.out, HW.out.trans ⟨rfl, rfl, rfl, Nat.le_refl _, fun _ _ => rfl⟩⟩
   ·have F := zPB (show zBe L M = true by simpa [zBe] using zFE A.out HL.out hlt)
    clear hW
    go_wp2
    go_ret
    exact ⟨zAA F.out, HW.out⟩
 ·have F := zPB (show zBe L M = false by simpa [zBe] using zFb hlen)
  have hlb : ((L.length : Int) != (M.length : Int)) = true := by simpa using fun h => hlen (by omega)
  clear hlen
  go_enter Tryz.func99, Tryz.ntmps99
  go_wp2
  go_ret
  exact ⟨zAA F.out, .refl _ _⟩
theorem zKO (r q : Int × List Int) (a b : Option Addr) (c d : Nat) (w : World) (ha : Sep.Reads a (ivs r.2) w) (hb : Sep.Reads b (ivs q.2) w) (hl : r.2.length <= 17592186044416) (hm : q.2.length <= 17592186044416) :
  Calls Tryz.prog 92 #[.agg #[.int .i64 r.1, .slice a r.2.length c], .agg #[.int .i64 q.1, .slice b q.2.length d]] w (Is (.bool (zA5 r q)) w) := by
 have H := zPB (fun w1 (k : Below w.heap.size w w1) => zM0 r.2 q.2 a b c d w1 (ha.below k (Nat.le_refl _)) (hb.below k (Nat.le_refl _)) hl hm)
 have X := zPB (fun o1 o2 => step (boxed w o1) (boxed (w.alloc o1) o2))
 clear ha hb
 by_cases h1 : r.1 = q.1
 ·have E := zPB (show zA5 r q = zBe r.2 q.2 by simp [zA5, h1, zBe])
  rw [h1]
  clear h1
  go_enter Tryz.func92, Tryz.ntmps92
  go_wp2_with (go_at_call 104; refine (H.out _ (X.out _ _)).mono ?_; rintro e w1 ⟨rfl, rfl⟩)
  go_ret
  exact ⟨zAA E.out, X.out _ _⟩
 ·have E := zPB (show zA5 r q = false by simp [zA5, h1])
  have h2 : (r.1 == q.1) = false := by simpa using h1
  clear h1
  go_enter Tryz.func92, Tryz.ntmps92
  go_wp2
  go_ret
  exact ⟨zAA E.out, X.out _ _⟩
theorem zIL (r q : Int × List Int) (a b : Option Addr) (c d : Nat) (w : World) (ha : Sep.Reads a (ivs r.2) w) (hb : Sep.Reads b (ivs q.2) w) (hl : r.2.length <= 17592186044416) (hm : q.2.length <= 17592186044416) :
  Calls Tryz.prog 83 #[.agg #[.int .i64 r.1, .slice a r.2.length c], .agg #[.int .i64 q.1, .slice b q.2.length d]] w (Is (.bool (zA5 r q)) w) := by
 have H := zPB (fun w1 (k : Below w.heap.size w w1) => zLz r.2 q.2 a b c d w1 (ha.below k (Nat.le_refl _)) (hb.below k (Nat.le_refl _)) hl hm)
 have X := zPB (fun o1 o2 => step (boxed w o1) (boxed (w.alloc o1) o2))
 clear ha hb
 by_cases h1 : r.1 = q.1
 ·have E := zPB (show zA5 r q = zBe r.2 q.2 by simp [zA5, h1, zBe])
  rw [h1]
  clear h1
  go_enter Tryz.func83, Tryz.ntmps83
  go_wp2_with (go_at_call 99; refine (H.out _ (X.out _ _)).mono ?_; rintro e w1 ⟨rfl, hb⟩; have HB := zPB (step (X.out _ _) hb); clear hb)
  go_ret
  exact ⟨zAA E.out, HB.out⟩
 ·have E := zPB (show zA5 r q = false by simp [zA5, h1])
  have h2 : (r.1 == q.1) = false := by simpa using h1
  clear h1
  go_enter Tryz.func83, Tryz.ntmps83
  go_wp2
  go_ret
  exact ⟨zAA E.out, X.out _ _⟩
structure B2 (W : World) (h l : Sh) (G H : Gram) (w : World) : Prop where
 below : Below W.heap.size W w
 b1 : Box W.heap.size h G w
 b2 : Box (W.heap.size + 1) l H w
theorem B2.start (h l : Sh) (G H : Gram) (w : World) (T : TypeId) :
  B2 w h l G H ((w.alloc (.cells #[.slice h.a1 G.terms.length h.c1, .slice h.a2 G.nons.length h.c2, .slice h.a3 G.rules.length h.c3, .int .i64 G.start] T)).alloc (.cells #[.slice l.a1 H.terms.length l.c1, .slice l.a2 H.nons.length l.c2, .slice l.a3 H.rules.length l.c3, .int .i64 H.start] T)) :=
 ⟨step (boxed _ _) (boxed _ _), (Box.mk' h G w T).later (boxed _ _), ⟨zAB (by simp) rfl, zAB (by simp) rfl, zAB (by simp) rfl, zAB (by simp) rfl⟩⟩
def Six (w : World) (p1 p2 p3 p4 p5 p6 : Addr) (v1 v2 v3 v4 v5 v6 : Value) : Prop :=
 ∀ w', Below w.heap.size w w' -> w'.cell? p1 = some v1 /\ w'.cell? p2 = some v2 /\ w'.cell? p3 = some v3 /\ w'.cell? p4 = some v4 /\ w'.cell? p5 = some v5 /\ w'.cell? p6 = some v6 /\ Below w.heap.size w w'
theorem six {w : World} {p1 p2 p3 p4 p5 p6 : Addr} {v1 v2 v3 v4 v5 v6 : Value} (h1 : w.cell? p1 = some v1) (h2 : w.cell? p2 = some v2) (h3 : w.cell? p3 = some v3) (h4 : w.cell? p4 = some v4) (h5 : w.cell? p5 = some v5) (h6 : w.cell? p6 = some v6) : Six w p1 p2 p3 p4 p5 p6 v1 v2 v3 v4 v5 v6 :=
 fun _ hb => ⟨cell_later hb h1, cell_later hb h2, cell_later hb h3, cell_later hb h4, cell_later hb h5, cell_later hb h6, hb⟩
def fidx (p : Int × List Int -> Bool) (R : List (Int × List Int)) : Int := match R.findIdx? p with | some i => (i : Int) | Option.none => -1
def zCD (p : Int × List Int -> Bool) (R : List (Int × List Int)) (k : Nat) : Prop := ∀ j (h : j < R.length), j < k -> p R[j] = false
theorem zCA (p : Int × List Int -> Bool) (R : List (Int × List Int)) : zCD p R 0 := fun _ _ h => absurd h (by omega)
theorem zB9 {p : Int × List Int -> Bool} {R : List (Int × List Int)} {k : Nat} (h : zCD p R k) (hk : k < R.length) (e : p R[k] = false) : zCD p R (k + 1) := fun j hj hl => by
 by_cases he : j = k
 ·subst he
  exact e
 ·exact h j hj (by omega)
theorem zGl {p : Int × List Int -> Bool} {R : List (Int × List Int)} {k : Nat} (h : zCD p R k) (hk : k < R.length) (e : p R[k] = true) : fidx p R = (k : Int) := by
 have : R.findIdx? p = some k := by
  rw [List.findIdx?_eq_some_iff_getElem]
  exact ⟨hk, e, fun j hj => by simpa using h j (by omega) hj⟩
 simp [fidx, this]
theorem zEf {p : Int × List Int -> Bool} {R : List (Int × List Int)} {k : Nat} (h : zCD p R k) (hk : ¬ k < R.length) : fidx p R = -1 := by
 have : R.findIdx? p = Option.none := by
  rw [List.findIdx?_eq_none_iff]
  intro x hx
  obtain ⟨j, hj, rfl⟩ := List.mem_iff_getElem.1 hx
  exact h j hj (by omega)
 simp [fidx, this]
theorem zEe (p : Int × List Int -> Bool) (R : List (Int × List Int)) : decide (0 <= fidx p R) = R.any p := by
 unfold fidx
 cases h : R.findIdx? p with
 | none =>
  rw [List.findIdx?_eq_none_iff] at h
  simp [List.any_eq_false.2 (fun x hx => by simpa using h x hx)]
 | some i =>
  rw [List.findIdx?_eq_some_iff_getElem] at h
  obtain ⟨hi, e, _⟩ := h
  rw [List.any_eq_true.2 ⟨_, List.getElem_mem hi, e⟩]
  simp
def bigB (r : Int × List Int) : Bool := decide (8 < r.2.length)
theorem zMq (r : Int × List Int) (a : Option Addr) (c : Nat) (w : World) (hl : r.2.length <= 17592186044416) :
  Calls Tryz.prog 87 #[.agg #[.int .i64 r.1, .slice a r.2.length c]] w (Is (.bool (bigB r)) w) := by
 by_cases h : 8 < r.2.length
 ·have E := zPB (show bigB r = true by simp [bigB, h])
  go_enter Tryz.func87, Tryz.ntmps87
  go_wp2
  go_ret
  refine ⟨zAA ?_, boxed _ _⟩
  rw [E.out]
  simp
  omega
 ·have E := zPB (show bigB r = false by simp [bigB, h])
  go_enter Tryz.func87, Tryz.ntmps87
  go_wp2
  go_ret
  refine ⟨zAA ?_, boxed _ _⟩
  rw [E.out]
  simp
  omega
def zCd (q : Nat) (r : Int × List Int) (w : World) : Prop := ∃ a c, w.cell? ⟨q, 0, none⟩ = some (.int .i64 r.1) /\ w.cell? ⟨q, 1, none⟩ = some (.slice a r.2.length c) /\ Sep.Reads a (ivs r.2) w /\ r.2.length <= 17592186044416
theorem zCd.later {q : Nat} {r : Int × List Int} {w w' : World} (h : zCd q r w) (hb : Below w.heap.size w w') : zCd q r w' := by
 obtain ⟨a, c, h1, h2, h3, h4⟩ := h
 exact ⟨a, c, cell_later hb h1, cell_later hb h2, h3.below hb (Nat.le_refl _), h4⟩
theorem zNV (q : Nat) (r o : Int × List Int) (a : Option Addr) (c : Nat) (w : World) (hq : zCd q r w) (ha : Sep.Reads a (ivs o.2) w) (hl : o.2.length <= 17592186044416) :
  Calls Tryz.prog 91 #[.agg #[.int .i64 o.1, .slice a o.2.length c], .pointer (some ⟨q, 0, none⟩)] w (Is (.bool (zA5 o r)) w) := by
 obtain ⟨a', c', h1, h2, h3, h4⟩ := hq
 have H := zPB (fun w1 (k : Below w.heap.size w w1) => zKO o r a a' c c' w1 (ha.below k (Nat.le_refl _)) (h3.below k (Nat.le_refl _)) hl h4)
 have hlt : q < w.heap.size := World.block_lt_of_cell? w ⟨q, 0, none⟩ h1
 clear ha h3
 go_enter Tryz.func91, Tryz.ntmps91
 go_wp2_with (go_at_call 92; refine (H.out _ (boxed _ _)).mono ?_; rintro e w1 ⟨rfl, hb⟩; have HB := zPB (step (boxed _ _) hb); clear hb)
 go_ret
 exact ⟨rfl, HB.out⟩
theorem zJE (R : List (Int × List Int)) (a : Option Addr) (c : Nat) (w : World) (ha : zAu a R w) (hl : R.length <= 4398046511104) :
  Calls Tryz.prog 100 #[.slice a R.length c, .func (.func 87) #[] #[]] w (Is (.int .i64 (fidx bigB R)) w) := by
 have HA := zPB (fun w1 (k : Below w.heap.size w w1) => ha.below k (Nat.le_refl _))
 clear ha
 go_enter Tryz.func100, Tryz.ntmps100
 go_wp2
 go_loopw [8] (fun i wr => ∃ k : Nat, k <= R.length /\ i = .int .i64 k /\ zCD bigB R k /\ Below w.heap.size w wr) (fun i _ => R.length - (intOf i).toNat)
 case atStart => exact ⟨0, Nat.zero_le _, rfl, zCA _ _, .refl _ _⟩
 case round =>
  obtain ⟨k, hk, rfl, hA, hW⟩ := hrel
  have A := zPB hA
  have HW := zPB hW
  clear hA
  by_cases hlt : k < R.length
  ·obtain ⟨b1, o1, ra, rc, rfl, h1, h2, h3, h4, h5⟩ := HA.out _ hW k hlt
   have AE := zPB (fun he => zB9 A.out hlt he)
   have AF := zPB (fun he => zGl A.out hlt he)
   generalize R[k] = x at h1 h2 h3 h4 h5 AE AF
   have HC := zPB (fun w1 (k : Below wr.heap.size wr w1) => zMq x ra rc w1 (by omega))
   clear h3 h4 h5 hW
   cases hs : bigB x with
   | false =>
    rw [hs] at HC
    have A2 := zPB (AE.out hs)
    clear hs
    go_wp2_with (go_at_call 87; refine (HC.out _ (.refl _ _)).mono ?_; rintro e w1 ⟨rfl, hb⟩; have HB := zPB (step HW.out hb); clear hb)
    go_roundw
    case rel => exact ⟨k + 1, by omega, by go_num, A2.out, HB.out⟩
    case measure => simp [intOf]; omega
   | true =>
    rw [hs] at HC
    have F := zPB (AF.out hs)
    clear hs
    go_wp2_with (go_at_call 87; refine (HC.out _ (.refl _ _)).mono ?_; rintro e w1 ⟨rfl, hb⟩; have HB := zPB (step HW.out hb); clear hb)
    go_ret
    exact ⟨zAL F.out, HB.out⟩
  ·have F := zPB (zEf A.out hlt)
   clear hW
   go_wp2
   go_ret
   exact ⟨zAL F.out, HW.out⟩
theorem zFK (R : List (Int × List Int)) (a : Option Addr) (c : Nat) (w : World) (ha : zAu a R w) (hl : R.length <= 4398046511104) :
  Calls Tryz.prog 86 #[.slice a R.length c, .func (.func 87) #[] #[]] w (Is (.bool (R.any bigB)) w) := by
 have H := zPB (zJE R a c w ha hl)
 have E := zPB (zEe bigB R)
 clear ha
 generalize fidx bigB R = n at H E
 go_enter Tryz.func86, Tryz.ntmps86
 go_wp2_with (go_at_call 100; refine H.out.mono ?_; rintro e w1 ⟨rfl, hb⟩; have HB := zPB hb; clear hb)
 go_ret
 exact ⟨zAA E.out.symm, HB.out⟩
theorem zJF (q : Nat) (r : Int × List Int) (R : List (Int × List Int)) (a : Option Addr) (c : Nat) (w : World) (ha : zAu a R w) (hl : R.length <= 4398046511104) (hq : zCd q r w) :
  Calls Tryz.prog 100 #[.slice a R.length c, .func (.func 91) #[] #[.pointer (some ⟨q, 0, none⟩)]] w (Is (.int .i64 (fidx (fun o => zA5 o r) R)) w) := by
 have HA := zPB (fun w1 (k : Below w.heap.size w w1) => ha.below k (Nat.le_refl _))
 have HQ := zPB (fun w1 (k : Below w.heap.size w w1) => hq.later k)
 clear hq
 clear ha
 go_enter Tryz.func100, Tryz.ntmps100
 go_wp2
 go_loopw [8] (fun i wr => ∃ k : Nat, k <= R.length /\ i = .int .i64 k /\ zCD (fun o => zA5 o r) R k /\ Below w.heap.size w wr) (fun i _ => R.length - (intOf i).toNat)
 case atStart => exact ⟨0, Nat.zero_le _, rfl, zCA _ _, .refl _ _⟩
 case round =>
  obtain ⟨k, hk, rfl, hA, hW⟩ := hrel
  have A := zPB hA
  have HW := zPB hW
  clear hA
  by_cases hlt : k < R.length
  ·obtain ⟨b1, o1, ra, rc, rfl, h1, h2, h3, h4, h5⟩ := HA.out _ hW k hlt
   have AE := zPB (fun he => zB9 A.out hlt he)
   have AF := zPB (fun he => zGl A.out hlt he)
   generalize R[k] = x at h1 h2 h3 h4 h5 AE AF
   have HC := zPB (fun w1 (k : Below wr.heap.size wr w1) => zNV q r x ra rc w1 (HQ.out w1 (step hW k)) (Sep.Reads.below h3 k (Nat.le_refl _)) (by omega))
   clear h3 h4 h5 hW
   cases hs : zA5 x r with
   | false =>
    rw [hs] at HC
    have A2 := zPB (AE.out hs)
    clear hs
    go_wp2_with (go_at_call 91; refine (HC.out _ (.refl _ _)).mono ?_; rintro e w1 ⟨rfl, hb⟩; have HB := zPB (step HW.out hb); clear hb)
    go_roundw
    case rel => exact ⟨k + 1, by omega, by go_num, A2.out, HB.out⟩
    case measure => simp [intOf]; omega
   | true =>
    rw [hs] at HC
    have F := zPB (AF.out hs)
    clear hs
    go_wp2_with (go_at_call 91; refine (HC.out _ (.refl _ _)).mono ?_; rintro e w1 ⟨rfl, hb⟩; have HB := zPB (step HW.out hb); clear hb)
    go_ret
    exact ⟨zAL F.out, HB.out⟩
  ·have F := zPB (zEf A.out hlt)
   clear hW
   go_wp2
   go_ret
   exact ⟨zAL F.out, HW.out⟩
theorem zFL (q : Nat) (r : Int × List Int) (R : List (Int × List Int)) (a : Option Addr) (c : Nat) (w : World) (ha : zAu a R w) (hl : R.length <= 4398046511104) (hq : zCd q r w) :
  Calls Tryz.prog 86 #[.slice a R.length c, .func (.func 91) #[] #[.pointer (some ⟨q, 0, none⟩)]] w (Is (.bool (R.any (fun o => zA5 o r))) w) := by
 have H := zPB (zJF q r R a c w ha hl hq)
 have E := zPB (zEe (fun o => zA5 o r) R)
 clear ha
 generalize fidx (fun o => zA5 o r) R = n at H E
 go_enter Tryz.func86, Tryz.ntmps86
 go_wp2_with (go_at_call 100; refine H.out.mono ?_; rintro e w1 ⟨rfl, hb⟩; have HB := zPB hb; clear hb)
 go_ret
 exact ⟨zAA E.out.symm, HB.out⟩
theorem zLa (h : Sh) (G : Gram) (w : World) (k : GAt h G w) :
  Calls Tryz.prog 60 #[gv h G] w (Is (.bool (zA7 G)) w) := by
 have t := k.t2
 have n := k.n2
 have r := k.r2
 have X := zPB (Bx.start h G w 25)
 have C := zPB (fun w1 (b : Below w.heap.size w w1) => zFK G.rules h.a3 h.c3 w1 (k.went b).rules r)
 clear k
 have E := zPB (show zA7 G = (decide (120 < G.terms.length) || decide (120 < G.nons.length) || decide (300 < G.rules.length) || G.rules.any bigB) from rfl)
 unfold gv
 generalize G.rules.any bigB = b at *
 by_cases h1 : 120 < G.terms.length
 ·rw [decide_eq_true h1] at E
  simp only [Bool.true_or] at E
  go_enter Tryz.func60, Tryz.ntmps60
  go_wp2
  go_ret
  exact ⟨zAA E.out, X.out.below⟩
 ·rw [decide_eq_false h1, Bool.false_or] at E
  by_cases h2 : 120 < G.nons.length
  ·rw [decide_eq_true h2] at E
   simp only [Bool.true_or] at E
   go_enter Tryz.func60, Tryz.ntmps60
   go_wp2
   go_ret
   exact ⟨zAA E.out, X.out.below⟩
  ·rw [decide_eq_false h2, Bool.false_or] at E
   by_cases h3 : 300 < G.rules.length
   ·rw [decide_eq_true h3] at E
    simp only [Bool.true_or] at E
    go_enter Tryz.func60, Tryz.ntmps60
    go_wp2
    go_ret
    exact ⟨zAA E.out, X.out.below⟩
   ·rw [decide_eq_false h3, Bool.false_or] at E
    go_enter Tryz.func60, Tryz.ntmps60
    go_wp2_with (go_at_call 86; refine (C.out _ X.out.below).mono ?_; rintro e w1 ⟨rfl, hb⟩; have X := zPB (X.out.went hb); clear hb)
    go_ret
    exact ⟨zAA E.out, X.out.below⟩
theorem zDh {R : List (Int × List Int)} {p : Int × List Int -> Bool} {k : Nat} (h : zCD p R k) (hk : ¬ k < R.length) : R.any p = false := by
 rw [← zEe, zEf h hk]
 rfl
theorem zFz {R : List (Int × List Int)} {p : Int × List Int -> Bool} {k : Nat} (hk : k < R.length) (e : p R[k] = true) : R.any p = true := List.any_eq_true.2 ⟨_, List.getElem_mem hk, e⟩
theorem zKE (h : Sh) (G : Gram) (w : World) (k : GAt h G w) :
  Calls Tryz.prog 49 #[gv h G] w (Is (.bool (zA7 G)) w) := by
 have t := k.t2
 have n := k.n2
 have r := k.r2
 obtain ⟨a1, c1, a2, c2, a3, c3⟩ := h
 have X := zPB (Bx.start ⟨a1, c1, a2, c2, a3, c3⟩ G w 25)
 have K := zPB k.rules
 have HB := zPB (boxed w (.cells #[.slice a1 G.terms.length c1, .slice a2 G.nons.length c2, .slice a3 G.rules.length c3, .int .i64 G.start] 25))
 clear k
 have E := zPB (show zA7 G = (decide (120 < G.terms.length) || decide (120 < G.nons.length) || decide (300 < G.rules.length) || G.rules.any bigB) from rfl)
 unfold gv
 dsimp only
 go_enter Tryz.func49, Tryz.ntmps49
 go_wp2
 go_loop [3] (fun i => ∃ k : Nat, k <= G.rules.length /\ i = .int .i64 k /\ zCD bigB G.rules k) (fun i => G.rules.length - (intOf i).toNat)
 case atStart => exact ⟨0, Nat.zero_le _, rfl, zCA _ _⟩
 case round =>
  obtain ⟨k, hk, rfl, hA⟩ := hrel
  have A := zPB hA
  clear hA
  by_cases hlt : k < G.rules.length
  ·obtain ⟨b1, o1, ra, rc, e, h1, h2, h3, h4, h5⟩ := K.out k hlt
   try dsimp only at e
   subst e
   have hb := World.block_lt_of_cell? w ⟨b1, o1 + k * 2, none⟩ h1
   have AE := zPB (fun he => zB9 A.out hlt he)
   have AF := zPB (fun he => zFz (p := bigB) hlt he)
   generalize G.rules[k] = x at h1 h2 h3 h4 h5 AE AF
   clear h3
   by_cases hs : 8 < x.2.length
   ·have F := zPB (AF.out (by simpa [bigB] using hs))
    go_wp2
    go_ret
    exact ⟨zAA (by rw [E.out, F.out, Bool.or_true]), X.out.below⟩
   ·have A2 := zPB (AE.out (by simpa [bigB] using hs))
    go_wp2
    go_round
    case rel => exact ⟨k + 1, by omega, by go_num, A2.out⟩
    case measure => simp [intOf]; omega
  ·have F := zPB (zDh A.out hlt)
   rw [F.out, Bool.or_false] at E
   by_cases h1 : 120 < G.terms.length
   ·rw [decide_eq_true h1] at E
    simp only [Bool.true_or] at E
    go_wp2
    go_ret
    exact ⟨zAA E.out, X.out.below⟩
   ·rw [decide_eq_false h1, Bool.false_or] at E
    by_cases h2 : 120 < G.nons.length
    ·rw [decide_eq_true h2] at E
     simp only [Bool.true_or] at E
     go_wp2
     go_ret
     exact ⟨zAA E.out, X.out.below⟩
    ·rw [decide_eq_false h2, Bool.false_or] at E
     by_cases h3 : 300 < G.rules.length
     ·rw [decide_eq_true h3] at E
      go_wp2
      go_ret
      refine ⟨zAA ?_, X.out.below⟩
      rw [E.out]
      simp
      omega
     ·rw [decide_eq_false h3] at E
      go_wp2
      go_ret
      refine ⟨zAA ?_, X.out.below⟩
      rw [E.out]
      simp
      omega
theorem law : Keyed Tryz.prog 9 := string_keyed Tryz.underlying9
theorem zMZ {s : ByteArray} (h : s.size <= maxLen) : keyOf Tryz.prog 9 (.string s) = some (.string s.data.toList) := WideMaps.keyOf_string_mk Tryz.underlying9 h
theorem zNG {s : ByteArray} (h : s.size <= maxLen) : WideAt.IsKeyLit (.string s.data.toList) := law.key (zMZ h)
noncomputable abbrev zKx : Value -> Option (DataW Unit × List MemPlace) := plainElem Tryz.prog 3
def Keys (L : List ByteArray) (D : DataW Unit) : Prop :=
 (∀ s : ByteArray, Maps.has D (.string s.data.toList) = It.isIn L s) /\ Maps.size D <= L.length /\ (Maps.size D = L.length ↔ L.Nodup)
theorem zLO : Keys [] (.map []) := ⟨fun s => rfl, by simp [Maps.size], by simp [Maps.size]⟩
theorem zLP {L : List ByteArray} {D : DataW Unit} {s : ByteArray} (hT : Tidy D) (hM : IsMap D) (hk : WideAt.IsKeyLit (.string s.data.toList)) (h : Keys L D) (d : DataW Unit) : Keys (L ++ [s]) (D.put (.string s.data.toList) d) := by
 obtain ⟨h1, h2, h3⟩ := h
 have hz := size_put (k := .string s.data.toList) hT d
 rw [h1 s] at hz
 refine ⟨fun t => ?_, ?_, ?_⟩
 ·by_cases e : s = t
  ·subst e
   rw [has_put_same hM hk, It.zFV]
  ·have hne : (Lit.string t.data.toList) ≠ .string s.data.toList := fun h => e (It.zEb (by injection h with h; exact h.symm))
   rw [has_put_other hne, h1 t, Bool.eq_iff_iff, It.zA6, It.zA6]
   simp [Ne.symm e]
 ·rw [hz]
  split <;> simp <;> omega
 ·rw [hz]
  cases hi : It.isIn L s with
  | true =>
   have hm := It.zA6.1 hi
   rw [if_pos rfl]
   constructor
   ·intro e
    simp at e
    omega
   ·intro hN
    rw [List.nodup_append] at hN
    exact absurd rfl (hN.2.2 s hm s (by simp))
  | false =>
   have hm : s ∉ L := fun h => by rw [It.zA6.2 h] at hi; cases hi
   rw [if_neg (by simp)]
   simp only [List.length_append, List.length_cons, List.length_nil, Nat.zero_add, Nat.add_right_cancel_iff]
   rw [h3, List.nodup_append]
   constructor
   ·intro hN
    refine ⟨hN, by simp, fun a ha b hb => ?_⟩
    simp only [List.mem_singleton] at hb
    subst hb
    exact fun e => hm (e ▸ ha)
   ·exact fun hN => hN.1
theorem zJm {G : Gram} (h : GOk G) {s : Nat} (hs : s < (names G).length) : ((names G)[s]).size <= 140737488355328 := by
 have := List.getElem_mem hs
 rcases List.mem_append.1 (show (names G)[s] ∈ G.terms ++ G.nons from this) with h1 | h1
 ·exact h.terms _ h1
 ·exact h.nons _ h1
theorem zDl (h : Sh) (G : Gram) (w : World) (k : GAt h G w) :
  Calls Tryz.prog 62 #[gv h G] w (Is (.bool (!zCl G)) w) := by
 have T := zPB (fun w1 (b : Below w.heap.size w w1) => zBf h G w1 (k.went b))
 have N := zPB (fun s w1 (b : Below w.heap.size w w1) => zEu h G s w1 (k.went b))
 have X := zPB (Bx.start h G w 25)
 have SZ := zPB (fun s hs => zJm k.ok (s := s) hs)
 have ht : top G <= 281474976710656 := by have := k.t2; have := k.n2; unfold top; omega
 have hmm := @run_makeMap Tryz.prog
 clear k
 unfold gv
 go_enter Tryz.func62, Tryz.ntmps62
 go_wp2
 go_loopw [4] (fun i wr => ∃ j : Nat, ∃ D, j <= top G /\ i = .int .i64 ((j : Int) + 1) /\ Bx w h G wr /\ wr.ownsMap Tryz.prog 9 zKx (w.heap.size + 1) j D /\ Keys ((names G).take j) D) (fun i _ => (top G + 1) - (intOf i).toNat)
 case atStart => exact ⟨0, .map [], Nat.zero_le _, rfl, X.out.alloc _, by simpa using World.ownsMap_made (w.alloc _) Tryz.prog 9 zKx, by simpa using zLO⟩
 case round =>
  clear X
  obtain ⟨j, D, hj, rfl, hX, hO, hK⟩ := hrel
  have X := zPB hX
  obtain ⟨x0, x1, x2, x3⟩ := hX.box
  have O := zPB hO
  have KY := zPB hK
  clear hX hO hK
  by_cases hlt : j < top G
  ·have hl : j < (names G).length := by rw [zAb]; exact hlt
   have E := zPB (zGJ hlt)
   have ST := zPB (List.take_succ_eq_append_getElem hl)
   have hs := SZ.out j hl
   generalize (names G)[j] = x at E ST hs
   have hk := zPB (zMZ (s := x) (by unfold maxLen; omega))
   have K2 := zPB (fun d => zLP (O.out.tidy law) O.out.isMap (zNG (s := x) (by unfold maxLen; omega)) KY.out d)
   clear hl
   go_wp2_with (first
    | (go_at_call 70; refine (T.out _ X.out.below).mono ?_; rintro e w1 ⟨rfl, hb⟩; have X := zPB (X.out.went hb); have O := zPB (Sep.ownsMap_at O.out (hb.block _ O.out.lt)); obtain ⟨x0, x1, x2, x3⟩ := X.out.box; clear hb)
    | (go_at_call 90; refine (N.out _ _ X.out.below).mono ?_; rw [E.out]; rintro e w2 ⟨rfl, hb⟩; have X := zPB (X.out.went hb); have O := zPB (Sep.ownsMap_at O.out (hb.block _ O.out.lt)); clear hb)
    | (at_mapUpdate; refine wpList_mapUpdate_own _ rfl _ _ _ 84 rfl 9 3 law Tryz.underlying84 zKx (w.heap.size + 1) j D rfl O.out (by unfold maxLen; omega) _ _ _ rfl rfl hk.out _ [] (plainElem_int Tryz.underlying3 (WalkArith.wf_i64 (by omega))) ?_; intro w3 hown1 hg1; have X := zPB (X.out.grown hg1 (fun q hq => by injection hq with hq; omega)); have O := zPB hown1; clear hown1 hg1))
   go_roundw
   case rel => exact ⟨j + 1, _, by omega, by go_num, X.out, O.out, by rw [ST.out]; exact K2.out _⟩
   case measure => simp [intOf]; omega
  ·have hE : j = top G := by omega
   subst hE
   have HK := zPB (show Keys (names G) D by have h1 := KY.out; rw [List.take_of_length_le (by rw [zAb]; exact Nat.le_refl _)] at h1; exact h1)
   have hsz := HK.out.2.1
   rw [zAb] at hsz
   go_wp2_with (first
    | (go_at_call 70; refine (T.out _ X.out.below).mono ?_; rintro e w1 ⟨rfl, hb⟩; have X := zPB (X.out.went hb); have O := zPB (Sep.ownsMap_at O.out (hb.block _ O.out.lt)); obtain ⟨x0, x1, x2, x3⟩ := X.out.box; clear hb)
    | (at_len; refine wpList_len_own _ rfl _ 84 rfl 9 3 Tryz.underlying84 zKx (w.heap.size + 1) (top G) D rfl O.out ?_))
   go_ret
   refine ⟨zAA ?_, X.out.below⟩
   have h3 := HK.out.2.2
   rw [zAb] at h3
   unfold zCl
   by_cases hN : (names G).Nodup
   ·rw [decide_eq_true hN]
    have := h3.2 hN
    simp
    omega
   ·rw [decide_eq_false hN]
    have : ¬ Maps.size D = top G := fun e => hN (h3.1 e)
    simp
    omega
theorem zH6 {L : List ByteArray} {k : Nat} (hk : k < L.length) (h : (L.take k).Nodup) (hp : It.place (L.take k) L[k] = -1) : (L.take (k + 1)).Nodup := by
 rw [List.take_succ_eq_append_getElem hk, List.nodup_append]
 refine ⟨h, by simp, fun a ha b hb => ?_⟩
 simp only [List.mem_singleton] at hb
 subst hb
 rintro rfl
 rw [It.zEx (It.zA6.2 ha)] at hp
 omega
theorem zH5 {L : List ByteArray} {k : Nat} (hk : k < L.length) (hp : ¬ It.place (L.take k) L[k] = -1) : ¬ L.Nodup := by
 intro hN
 cases hi : It.isIn (L.take k) L[k] with
 | false => exact hp (It.zDO hi)
 | true =>
  have hm := It.zA6.1 hi
  obtain ⟨i, hi', e⟩ := List.mem_iff_getElem.1 hm
  simp at hi'
  rw [List.getElem_take] at e
  have := (List.getElem_inj hN (i := i) (j := k) (h₀ := by omega) (h₁ := hk)).1 e
  omega
theorem zID {P : Program} {f : FuncId} {args : Array Value} {w : World} {v : Value} (h : Calls P f args w fun e w' => e = .returned v /\ w = w') : Calls P f args w fun e w' => e = .returned v /\ w' = w :=
 h.mono fun _ _ ⟨h1, h2⟩ => ⟨h1, h2.symm⟩
theorem zLo (L : List ByteArray) (a : Option Addr) (c : Nat) (w : World) (h : Sep.Reads a (L.map .string) w) (hc : L.length <= c) (hl : L.length <= 17592186044416) :
  Calls Tryz.prog 51 #[.slice a L.length c] w (Is (.bool (decide L.Nodup)) w) := by
 have HR := zPB h
 clear h
 go_enter Tryz.func51, Tryz.ntmps51
 go_wp2
 go_loopw [3] (fun i wr => ∃ k : Nat, k <= L.length /\ i = .int .i64 k /\ (L.take k).Nodup /\ Below w.heap.size w wr) (fun i _ => L.length - (intOf i).toNat)
 case atStart => exact ⟨0, Nat.zero_le _, rfl, by simp, .refl _ _⟩
 case round =>
  obtain ⟨k, hk, rfl, hN, hW⟩ := hrel
  have ND := zPB hN
  have HW := zPB hW
  clear hN
  by_cases hlt : k < L.length
  ·obtain ⟨b, o, rfl, hx⟩ := zBH (v := .string L[k]) HR.out (by simp) hlt (by simp [hlt])
   have hx := cell_later hW hx
   have NE := zPB (fun he => zH6 hlt ND.out he)
   have NF := zPB (fun he => zH5 hlt he)
   have PL := zPB (show ∀ m s, Calls Tryz.prog 80 #[.slice (some ⟨b, o, none⟩) k c, .string s] (wr.drewN m) fun e w' => e = .returned (.int .i64 (It.place (L.take k) s)) /\ w' = wr.drewN m from fun m s => zID (by
    have := zJ1 (L.take k) s (some ⟨b, o, none⟩) c (wr.drewN m) (fun i hi => by
     simp at hi
     obtain ⟨b', o', e', hc'⟩ := HR.out i (by simp; omega)
     refine ⟨b', o', e', ?_⟩
     have hc' := cell_later hW hc'
     simp only [List.getElem_map, List.getElem_take] at hc' ⊢
     exact hc') (by simp; omega)
    rw [List.length_take, Nat.min_eq_left (by omega)] at this
    exact this))
   have hpl := zLt (L.take k) L[k]
   rw [List.length_take, Nat.min_eq_left (by omega)] at hpl
   generalize L[k] = x at hx NE NF hpl
   have HP := zPB (fun m => PL.out m x)
   clear PL hW
   by_cases hp : It.place (L.take k) x = -1
   ·rw [hp] at HP
    have N2 := zPB (NE.out hp)
    clear hp hpl
    go_wp2
    go_quiet ((go_at_call 80; exact Calls.quiet_of_same (HP.out _)))
    go_wp2
    go_roundw
    case rel => exact ⟨k + 1, by omega, by go_num, N2.out, HW.out.trans ⟨rfl, rfl, rfl, Nat.le_refl _, fun _ _ => rfl⟩⟩
    case measure => simp [intOf]; omega
   ·have F := zPB (NF.out hp)
    have hp0 : 0 <= It.place (L.take k) x := by omega
    generalize It.place (L.take k) x = p at *
    clear hp
    go_wp2
    go_quiet ((go_at_call 80; exact Calls.quiet_of_same (HP.out _)))
    go_wp2
    go_ret
    exact ⟨zAA (by rw [decide_eq_false F.out]), HW.out.trans ⟨rfl, rfl, rfl, Nat.le_refl _, fun _ _ => rfl⟩⟩
  ·have F := zPB (show L.Nodup by have h1 := ND.out; rw [List.take_of_length_le (by omega)] at h1; exact h1)
   clear hW
   go_wp2
   go_ret
   exact ⟨zAA (by rw [decide_eq_true F.out]), HW.out⟩
