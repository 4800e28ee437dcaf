/- A part of the proof. -/
import Derived.Lib.OwnBridge
import Derived.Test.YtbcgmiocolpjoaaGreatPk37
import Derived.Test.YtbcgmiocolpjoaaGreatRouteLay
import Derived.Test.YtbcgmiocolpjoaaGreatPk27
import Derived.Shelf.Spec.SlicesGrow
set_option maxHeartbeats 4000000
set_option maxRecDepth 100000
set_option linter.unusedVariables false
namespace Go.Proofs.YtbcgmiocolpjoaaGreat
open Go.RowKit Go.Maps
namespace Ro
open Rw (zAF)
open Gr (Gram top cell_later boxed zAS ivs)
open Le (VAt ansT nilB)
open Im
open Au
structure RtAt (G : Gram) (q : Whole) (p bE : Nat) (E : Nat -> Nat × Int) (v : Value) (w : World) : Prop where
 c0 : w.cell? ⟨p, 0, none⟩ = some (.slice (some ⟨bE, 0, none⟩) q.1.length q.1.length)
 c1 : w.cell? ⟨p, 1, none⟩ = some v
 fil : Fil bE 73 (q.1.length * 2) (stV E) w
 ends : Ends (top G) q E
 words : VAt (nilB G) v (ansT G) w
theorem RtAt.went {G : Gram} {q : Whole} {p bE : Nat} {E : Nat -> Nat × Int} {v : Value} {w w' : World} (h : RtAt G q p bE E v w) (hb : Below w.heap.size w w') : RtAt G q p bE E v w' :=
 ⟨cell_later hb h.c0, cell_later hb h.c1, h.fil.went hb, h.ends, h.words.went hb⟩
theorem len_nil (w : World) : Calls Tryz.prog 10 #[.pointer none] w (Gr.Is (.int .i64 0) w) := by
 go_enter Tryz.func10, Tryz.ntmps10
 go_wp2
 go_ret
 exact ⟨rfl, .refl _ _⟩
theorem zEr (G : Gram) (q : Whole) (p bE : Nat) (E : Nat -> Nat × Int) (v : Value) (w : World) (h : RtAt G q p bE E v w) :
  Calls Tryz.prog 10 #[.pointer (some ⟨p, 0, none⟩)] w (Gr.Is (.int .i64 (q.1.length : Int)) w) := by
 have c0 := h.c0
 clear h
 generalize q.1.length = n at *
 go_enter Tryz.func10, Tryz.ntmps10
 go_wp2
 go_ret
 exact ⟨rfl, .refl _ _⟩
theorem zOP (l : List Int) (i : Nat) (h : i < (ivs l).length) (h' : i < l.length) : (ivs l)[i] = .int .i64 l[i] := by
 simp [ivs, Gr.iv]
theorem zGT (a : Option Addr) (c : Nat) (V : List Int) (w0 w : World) (hw : Below w0.heap.size w0 w) (h : w.ownsRow w0.heap.size 3 1 (.slice a V.length c) V.length (ivs V)) (hl : V.length <= 1000000) :
  Calls Tryz.prog 26 #[.slice a V.length c] w fun e w' => e = .returned (.tuple #[]) /\ Sep.Reads a (ivs V.reverse) w' /\ Below w0.heap.size w0 w' := by
 rcases V with _ | ⟨x, V⟩
 ·refine (Go.Proofs.Any.slices_Reverse_int_empty Tryz.revInt a c w).mono ?_
  rintro e w' ⟨h1, rfl⟩
  exact ⟨h1, Sep.Reads.nil _ _, hw⟩
 ·rcases h.2 with ⟨e, e2⟩ | ⟨g, cap, cur, e, hb, hg, hn, hc, hs, ht⟩
  ·simp at e2
  ·simp only [Value.slice.injEq] at e
   obtain ⟨rfl, _, rfl⟩ := e
   have hH : Go.Sort.Holds (Value.int .i64) w g 0 (x :: V).toArray := fun j hj => by
    have hj' : j < (x :: V).length := by simpa using hj
    refine ⟨?_, by simp [World.frozen?, hg]⟩
    have h1 := World.ownsRow.cells h (g := g) rfl j (.int .i64 (x :: V)[j]) (by unfold ivs; rw [List.getElem?_map, List.getElem?_eq_getElem hj']; rfl)
    rw [WideShapes.add_plain] at h1
    rw [h1, getElem!_pos (x :: V).toArray j hj]
    simp
   refine (Go.Proofs.Any.slices_Reverse_int Tryz.revInt g 0 c (x :: V) w hH (by omega)).mono ?_
   rintro e w' ⟨h1, n, rfl⟩
   have h2 := Go.Sort.holds_putRow (Value.int .i64) (Go.Sort.ahead w n) g 0 (x :: V).toArray (x :: V).reverse.toArray hH (by simp)
   refine ⟨h1, fun i hi => ⟨g, 0, rfl, ?_⟩, Go.Lib.below_putRow hw hb⟩
   have hi' : i < (x :: V).reverse.toArray.size := by simpa [ivs] using hi
   rw [(h2 i hi').1, getElem!_pos _ i hi', zOP _ i hi (by simpa using hi')]
   simp only [List.getElem_toArray]
def zMj (G : Gram) (q : Whole) (i : Int) (w : World) (e : Ending) (w' : World) : Prop :=
 (¬ (0 <= i /\ i < (q.1.length : Int)) /\ e = .returned (.tuple #[.slice none 0 0, .bool false]) /\ Below w.heap.size w w') \/
 ∃ (n : Nat) (W : List Int) (a : Option Addr) (c : Nat), i = (n : Int) /\ n < q.1.length /\ zCC (top G) q W n /\ e = .returned (.tuple #[.slice a W.length c, .bool true]) /\ Sep.Reads a (ivs W) w' /\ W.length <= 4000 /\ Below w.heap.size w w'
theorem zKp {n : Nat} {i : Int} (h : i < 0 \/ (n : Int) <= i) : ¬ (0 <= i /\ i < (n : Int)) := fun h2 => by omega
theorem zE7 (G : Gram) (q : Whole) (hl : q.1.length <= 2000) (p bE : Nat) (E : Nat -> Nat × Int) (v : Value) (i : Int) (w : World) (h : RtAt G q p bE E v w) :
  Calls Tryz.prog 12 #[.pointer (some ⟨p, 0, none⟩), .int .i64 i] w (zMj G q i w) := by
 have LE := zPB (fun w1 (b : Below w.heap.size w w1) => zEr G q p bE E v w1 (h.went b))
 obtain ⟨i0, hj, hz0, hz1, hz2⟩ := info_parts zAS
 by_cases h0 : i < 0
 ·have HE := zPB (zKp (n := q.1.length) (.inl h0))
  clear h
  go_enter Tryz.func12, Tryz.ntmps12
  go_wp2
  exact bodyPost_ret (v := .tuple #[.slice none 0 0, .bool false]) (by simp [results, Tryz.results12, go_sem]) rfl (.inl ⟨HE.out, rfl, .refl _ _⟩)
 ·by_cases h1 : (q.1.length : Int) <= i
  ·have HE := zPB (zKp (n := q.1.length) (.inr h1))
   clear h
   go_enter Tryz.func12, Tryz.ntmps12
   go_wp2_with (go_at_call 10; refine (LE.out _ (.refl _ _)).mono ?_; rintro e w1 ⟨rfl, hb⟩; have B := zPB hb; clear hb)
   exact bodyPost_ret (v := .tuple #[.slice none 0 0, .bool false]) (by simp [results, Tryz.results12, go_sem]) rfl (.inl ⟨HE.out, rfl, B.out⟩)
  ·obtain ⟨n, rfl⟩ := Int.eq_ofNat_of_zero_le (show 0 <= i by omega)
   have hn : n < q.1.length := by omega
   have hn0 : (0 : Int) <= (n : Int) := by omega
   have hn1 : (n : Int) < (q.1.length : Int) := by omega
   have hnd : decide ((q.1.length : Int) <= (n : Int)) = false := decide_eq_false (by omega)
   have hnl : ¬ (q.1.length <= n) := by omega
   obtain ⟨L, l0, hL, hE, hlen⟩ := h.ends.ex
   have HH := zPB (fun w1 (b : Below w.heap.size w w1) => h.went b)
   have HE := zPB hE
   have HL := zPB (And.intro (hL n hn) (hlen n hn))
   have hb0 : bE < w.heap.size := h.fil.lt
   clear h hL hE hlen h0 h1
   go_enter Tryz.func12, Tryz.ntmps12
   go_wp2_with (go_at_call 10; refine (LE.out _ (.refl _ _)).mono ?_; rintro e w1 ⟨rfl, hb⟩; have B := zPB hb; clear hb)
   go_loopw [1, 6] (fun s1 s6 wr => ∃ (x : Nat) (V : List Int) (a : Option Addr) (c : Nat), s1 = .int .i64 (x : Int) /\ s6 = .slice a V.length c /\ x < q.1.length /\ L n = L x ++ V.reverse /\ wr.ownsRow w.heap.size 3 1 (.slice a V.length c) V.length (ivs V) /\ Below w.heap.size w wr) (fun s1 _ _ => (L (intOf s1).toNat).length)
   case atStart => exact ⟨n, [], none, 0, rfl, rfl, hn, by simp, World.ownsRow_nil _ _ _ _, B.out⟩
   case round =>
    obtain ⟨x, V, a, c, rfl, rfl, hx, hV, hown, hb⟩ := hrel
    have BR := zPB hb
    have RO := zPB hown
    have hVl : V.length <= 2000 := by
     have h2 := HL.out.2
     rw [hV, List.length_append, List.length_reverse] at h2
     omega
    have HV := zPB hV
    clear hb hown hV
    by_cases hx0 : x = 0
    ·subst hx0
     have RV := zPB (fun w1 (hw : wr = w1) => zGT a c V w w1 (hw ▸ BR.out) (hw ▸ RO.out) (by omega))
     have EV := zPB (show L n = V.reverse from by rw [HV.out, l0, List.nil_append])
     go_wp2_with (go_at_call 26; refine (RV.out _ rfl).mono ?_; rintro e w2 ⟨rfl, hr, hb2⟩; have R2 := zPB hr; have B2 := zPB hb2; clear hr hb2)
     refine bodyPost_ret (v := .tuple #[.slice a V.length c, .bool true]) (by simp [results, Tryz.results12, go_sem]) rfl (.inr ⟨n, V.reverse, a, c, rfl, hn, by rw [← EV.out]; exact HL.out.1, by rw [List.length_reverse], R2.out, by rw [List.length_reverse]; omega, B2.out⟩)
    ·obtain ⟨e1, e2, e3⟩ := HE.out x hx hx0
     have RT := HH.out wr BR.out
     have c0 := RT.c0
     have k1 := RT.fil.cell (j := x * 2 + 1) (by omega)
     rw [(zEO E x).2] at k1
     have hxi : (x : Int) < (q.1.length : Int) := by omega
     have hxne : ((x : Int) != 0) = true := by
      rw [bne_iff_ne]
      omega
     have E3 := zPB e3
     generalize hy : E x = y at *
     obtain ⟨y1, y2⟩ := y
     dsimp only at *
     have HY := zPB hy
     have bx := boxed wr (.cells #[.int .i64 y2] 3)
     have RX := zPB (Sep.zAH RO.out fun g e => bx.block g (World.ownsRow.lt RO.out g e).2)
     have ON := zPB (zGM w.heap.size wr.heap.size y2 wr rfl BR.out.size)
     have hbs : w.heap.size <= (wr.alloc (.cells #[.int .i64 y2] 3)).heap.size := Nat.le_trans BR.out.size bx.size
     have BG := zPB (fun w9 (hg : (wr.alloc (.cells #[.int .i64 y2] 3)).grownBy w9 (Value.slice a V.length c).ownBlock) => (show Below w.heap.size w w9 from (Gr.step BR.out bx).grown hg hbs fun g e2 => (World.ownsRow.lt RX.out g e2).1))
     clear RT e3 hy bx
     go_wp2_with (at_builtin; refine zAF _ rfl _ _ 40 rfl w.heap.size 3 i0 (.int .i64 0) 1 8 Tryz.underlying40 hj hz0 hz1 hz2 rfl (by decide) (.slice a V.length c) V.length (ivs V) rfl RX.out w.heap.size _ 1 [.int .i64 y2] rfl ON.out (by simp [Value.oneCell']) (by unfold maxLen; omega) (by omega) hbs ?_; intro v' w9 hown hg _; have B9 := zPB (BG.out w9 hg); have O9 := zPB hown; obtain ⟨a9, c9, rfl⟩ := Rw.zAK hown; have c9' := (HH.out w9 B9.out).c0; have k9 := (HH.out w9 B9.out).fil.cell (j := x * 2) (by omega); rw [(zEO E x).1, HY.out] at k9; dsimp only at k9; clear hown hg)
     go_roundw
     case rel => exact ⟨y1, V ++ [y2], a9, c9, rfl, by rw [List.length_append, List.length_singleton], e1, by rw [HV.out, E3.out, List.reverse_append, List.append_assoc]; rfl, by
      have h := O9.out
      have hl2 : (V ++ [y2]).length = V.length + 1 := by rw [List.length_append, List.length_singleton]
      have hi2 : ivs (V ++ [y2]) = ivs V ++ [.int .i64 y2] := by unfold ivs; rw [List.map_append]; rfl
      rw [hl2, hi2]
      exact h, B9.out⟩
     case measure =>
      simp only [intOf, Int.toNat_natCast]
      rw [E3.out, List.length_append, List.length_singleton]
      omega
end Ro
namespace Ro
open Gr (cell_later drawn ivs zAS)
open Im
open Au
theorem zLF (n : Nat) (w : World) (h0 : 0 < n) (hn : n <= 1000000000) :
  Calls Tryz.prog 48 #[.slice none 0 0, .int .i64 (n : Int)] w fun e w' => ∃ a c, e = .returned (.slice a 0 c) /\ w'.ownsRow w.heap.size 3 1 (.slice a 0 c) 0 [] /\ Below w.heap.size w w' := by
 obtain ⟨i0, hj, hz0, hz1, hz2⟩ := info_parts zAS
 have hcon := Any8.slices_Grow_grow Tryz.growInt i0 (.int .i64 0) hj hz0 (by rw [hz1]; decide) none 0 0 n [] w (Nat.le_refl _) (by omega) (by rw [hz2]; omega) (by omega) (by simp) (fun _ => rfl) (fun a h => by cases h)
 change Calls Tryz.prog 48 _ _ _ at hcon
 refine hcon.mono ?_
 rintro e w' ⟨rfl, rfl⟩
 have hG1 : 0 + n <= grownCap w (0 + n) 0 (Tryz.growInt_ren.t 25) := grownCap_ge w _ _ _
 have hG2 := grownCap_le_maxLen w (0 + n) 0 (Tryz.growInt_ren.t 25) (by unfold maxLen; omega)
 refine ⟨_, _, rfl, ⟨rfl, .inr ⟨w.heap.size, _, _, rfl, Nat.le_refl _, heap_alloc_new w.drew _, Nat.zero_le _, hG2, ?_, by simp⟩⟩, ((Gr.drawn w).alloc (Nat.le_refl _) _)⟩
 rw [Nat.zero_add] at hG1
 simp only [Array.size_append, List.size_toArray, List.length_nil, Nat.zero_add]
 simp [Builtin.zeroCells, Value.cells]
 omega
def szC (n : Nat) : Nat -> Nat
 | 0 => 0
 | 1 => n
 | _ => n + 1
def catC (X : List Int) (t : Int) : Nat -> List Int
 | 0 => []
 | 1 => X
 | _ => X ++ [t]
theorem zA2 (l : List Int) : ∀ u ∈ ivs l, u.oneCell' = true := fun u hu => by
 obtain ⟨x, _, rfl⟩ := List.mem_map.1 hu
 rfl
theorem zGn {w0 w w' : World} {T : TypeId} {v : Value} {n : Nat} {xs : List Value} (hb : Below w0.heap.size w0 w) (ho : w.ownsRow w0.heap.size T 1 v n xs) (hg : w.grownBy w' v.ownBlock) : Below w0.heap.size w0 w' :=
 hb.grown hg hb.size fun g e => (World.ownsRow.lt ho g e).1
theorem zHn (X : List Int) (t : Int) (kb : Nat) (a b : Option Addr) (c d : Nat) (w : World) (h0 : w.cell? ⟨kb, 0, none⟩ = some (.slice a X.length c)) (h1 : w.cell? ⟨kb, 1, none⟩ = some (.slice b 1 d)) (hX : Sep.Reads a (ivs X) w) (ht : Sep.Reads b (ivs [t]) w) (hl : X.length <= 100000) :
  Calls Tryz.prog 29 #[.slice (some ⟨kb, 0, none⟩) 2 2] w fun e w' => ∃ ad c', e = .returned (.slice ad (X.length + 1) c') /\ Sep.Reads ad (ivs (X ++ [t])) w' /\ Below w.heap.size w w' := by
 have C0 := zPB (fun w1 (bb : Below w.heap.size w w1) => cell_later bb h0)
 have C1 := zPB (fun w1 (bb : Below w.heap.size w w1) => cell_later bb h1)
 have HX := zPB (fun w1 (bb : Below w.heap.size w w1) => hX.below bb (Nat.le_refl _))
 have HT := zPB (fun w1 (bb : Below w.heap.size w w1) => ht.below bb (Nat.le_refl _))
 obtain ⟨i0, hj, hz0, hz1, hz2⟩ := info_parts zAS
 have GR := zPB (fun w1 => zLF (X.length + 1) w1 (Nat.succ_pos _) (by omega))
 have lX : (ivs X).length = X.length := by simp [ivs]
 clear hX ht
 go_enter Tryz.func29, Tryz.ntmps29
 go_wp2_with fail
 go_loopw [3, 5, 11] (fun s3 s5 s11 wr => ∃ i n : Nat, i <= 2 /\ n = szC X.length i /\ s11 = .int .i64 (i : Int) /\ s3 = .int .i64 (n : Int) /\ Below w.heap.size w wr) (fun _ _ s11 _ => 2 - (intOf s11).toNat)
 case atStart => exact ⟨0, 0, by omega, rfl, rfl, rfl, .refl _ _⟩
 case round =>
  obtain ⟨i, n, hi, hn, rfl, rfl, hb⟩ := hrel
  have B := zPB hb
  have h0 := C0.out wr hb
  have h1 := C1.out wr hb
  clear hb
  have hi3 : i = 0 \/ i = 1 \/ i = 2 := by omega
  rcases hi3 with rfl | rfl | rfl
  ·obtain rfl : n = 0 := hn
   go_wp2_with fail
   go_roundw
   case rel => exact ⟨1, X.length, by omega, rfl, by go_num, by go_num, B.out⟩
   case measure => simp [intOf]
  ·obtain rfl : n = X.length := hn
   go_wp2_with fail
   go_roundw
   case rel => exact ⟨2, X.length + 1, by omega, rfl, by go_num, by go_num, B.out⟩
   case measure => simp [intOf]
  ·obtain rfl : n = X.length + 1 := hn
   clear hi h0 h1
   generalize wr = w1 at *
   go_wp2_with fail
   refine (GR.out w1).mono ?_
   rintro e w2 ⟨a2, c2, rfl, ho, hb⟩
   have B2 := zPB (Gr.step B.out hb)
   have O2 := zPB ho
   have hs : w1.heap.size <= w2.heap.size := hb.size
   have G2 := zPB hb
   clear ho hb
   go_wp2_with fail
   go_loopw [6, 8, 27] (fun s6 s8 s27 wx => ∃ (i : Nat) (ad : Option Addr) (cc : Nat), i <= 2 /\ s27 = .int .i64 (i : Int) /\ s6 = .slice ad (szC X.length i) cc /\ wx.ownsRow w1.heap.size 3 1 (.slice ad (szC X.length i) cc) (szC X.length i) (ivs (catC X t i)) /\ Below w1.heap.size w1 wx) (fun _ _ s27 _ => 2 - (intOf s27).toNat)
   case atStart => exact ⟨0, a2, c2, by omega, rfl, rfl, O2.out, G2.out⟩
   case round =>
    obtain ⟨i, ad, cc, hi, rfl, rfl, hown, hbx⟩ := hrel
    have BX := zPB (Gr.step B.out hbx)
    have CX := zPB hbx
    have OX := zPB hown
    have h0 := C0.out _ BX.out
    have h1 := C1.out _ BX.out
    clear hbx hown
    have hi3 : i = 0 \/ i = 1 \/ i = 2 := by omega
    rcases hi3 with rfl | rfl | rfl
    ·go_wp2_with (at_builtin; refine Gr.zBY _ rfl _ _ 40 rfl w1.heap.size 3 i0 (.int .i64 0) 8 Tryz.underlying40 hj hz0 hz1 hz2 rfl (.slice ad (szC X.length 0) cc) (szC X.length 0) (ivs (catC X t 0)) rfl OX.out a X.length c (ivs X) rfl lX (HX.out _ BX.out) (zA2 X) (by show 0 + X.length <= _; unfold maxLen; omega) (by show (0 + X.length) * 8 <= _; omega) CX.out.size ?_; intro v' w9 hown hg _; have K9 := zPB (zGn CX.out OX.out hg); have O9 := zPB hown; obtain ⟨a9, c9, rfl⟩ := Rw.zAK hown; clear hown hg)
     go_roundw
     case rel => exact ⟨1, a9, c9, by omega, by go_num, by show _ = Value.slice a9 X.length c9; rw [show szC X.length 0 = 0 from rfl, Nat.zero_add], by
      have h := O9.out
      rw [show szC X.length 0 = 0 from rfl, Nat.zero_add] at h
      exact h, K9.out⟩
     case measure => simp [intOf]
    ·go_wp2_with (at_builtin; refine Gr.zBY _ rfl _ _ 40 rfl w1.heap.size 3 i0 (.int .i64 0) 8 Tryz.underlying40 hj hz0 hz1 hz2 rfl (.slice ad (szC X.length 1) cc) (szC X.length 1) (ivs (catC X t 1)) rfl OX.out b 1 d (ivs [t]) rfl rfl (HT.out _ BX.out) (zA2 [t]) (by show X.length + 1 <= _; unfold maxLen; omega) (by show (X.length + 1) * 8 <= _; omega) CX.out.size ?_; intro v' w9 hown hg _; have K9 := zPB (zGn CX.out OX.out hg); have O9 := zPB hown; obtain ⟨a9, c9, rfl⟩ := Rw.zAK hown; clear hown hg)
     go_roundw
     case rel => exact ⟨2, a9, c9, by omega, by go_num, rfl, by
      have h := O9.out
      rw [show ivs (catC X t 1) ++ ivs [t] = ivs (catC X t 2) by simp [catC, ivs]] at h
      exact h, K9.out⟩
     case measure => simp [intOf]
    ·go_wp2_with fail
     refine bodyPost_ret (v := .slice ad (X.length + 1) cc) (by simp [results, Tryz.results29, go_sem, szC]) rfl ⟨ad, cc, rfl, Sep.Reads.of_row OX.out, BX.out⟩
