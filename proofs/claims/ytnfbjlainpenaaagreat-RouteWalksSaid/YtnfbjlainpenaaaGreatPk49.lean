/- A part of the proof. -/
import Derived.Lib.OwnBridge
import Derived.Test.YtnfbjlainpenaaaGreatPk47
import Derived.Test.YtnfbjlainpenaaaGreatRouteLay
import Derived.Test.YtnfbjlainpenaaaGreatPk23
set_option maxHeartbeats 4000000
set_option maxRecDepth 100000
set_option linter.unusedVariables false
namespace Go.Proofs.YtnfbjlainpenaaaGreat
namespace Ro
open Go.RowKit Go.Maps
open Rw (zAD)
open Gr (Gram top cell_later boxed zAq ivs)
open Le (VAt ansT nilB)
open Im
open Au
structure RtAt (G : Gram) (q : Whole) (p bE : Nat) (E : Nat -> Nat × Int) (v : Value) (w : World) : Prop where
 c0 : w.cell? ⟨p, 0, none⟩ = some (.slice (some ⟨bE, 0, none⟩) q.1.length q.1.length)
 c1 : w.cell? ⟨p, 1, none⟩ = some (.int .i64 (G.terms.length : Int))
 c2 : w.cell? ⟨p, 2, none⟩ = some v
 fil : Fil bE 73 (q.1.length * 2) (stV E) w
 ends : Ends (top G) q E
 words : VAt (nilB G) v (ansT G) w
theorem RtAt.went {G : Gram} {q : Whole} {p bE : Nat} {E : Nat -> Nat × Int} {v : Value} {w w' : World} (h : RtAt G q p bE E v w) (hb : Below w.heap.size w w') : RtAt G q p bE E v w' :=
 ⟨cell_later hb h.c0, cell_later hb h.c1, cell_later hb h.c2, h.fil.went hb, h.ends, h.words.went hb⟩
theorem len_nil (w : World) : Calls Tryz.prog 10 #[.pointer none] w (Gr.Is (.int .i64 0) w) := by
 go_enter Tryz.func10, Tryz.ntmps10
 go_wp2
 go_ret
 exact ⟨rfl, .refl _ _⟩
theorem zFO (G : Gram) (q : Whole) (p bE : Nat) (E : Nat -> Nat × Int) (v : Value) (w : World) (h : RtAt G q p bE E v w) :
  Calls Tryz.prog 10 #[.pointer (some ⟨p, 0, none⟩)] w (Gr.Is (.int .i64 (q.1.length : Int)) w) := by
 have c0 := h.c0
 clear h
 generalize q.1.length = n at *
 go_enter Tryz.func10, Tryz.ntmps10
 go_wp2
 go_ret
 exact ⟨rfl, .refl _ _⟩
theorem zMp (l : List Int) (i : Nat) (h : i < (ivs l).length) (h' : i < l.length) : (ivs l)[i] = .int .i64 l[i] := by
 simp [ivs, Gr.iv]
theorem zFb (a : Option Addr) (c : Nat) (V : List Int) (w0 w : World) (hw : Below w0.heap.size w0 w) (h : w.ownsRow w0.heap.size 3 1 (.slice a V.length c) V.length (ivs V)) (hl : V.length <= 1000000) :
  Calls Tryz.prog 26 #[.slice a V.length c] w fun e w' => e = .returned (.tuple #[]) /\ Sep.Reads a (ivs V.reverse) w' /\ Below w0.heap.size w0 w' := by
 rcases V with _ | ⟨x, V⟩
 ·refine (Go.Proofs.Any.slices_Reverse_int_empty Tryz.revInt a c w).mono ?_
  rintro e w' ⟨h1, rfl⟩
  exact ⟨h1, Sep.Reads.nil _ _, hw⟩
 ·rcases h.2 with ⟨e, e2⟩ | ⟨g, cap, cur, e, hb, hg, hn, hc, hs, ht⟩
  ·simp at e2
  ·simp only [Value.slice.injEq] at e
   obtain ⟨rfl, _, rfl⟩ := e
   have hH : Go.Sort.Holds (Value.int .i64) w g 0 (x :: V).toArray := fun j hj => by
    have hj' : j < (x :: V).length := by simpa using hj
    refine ⟨?_, by simp [World.frozen?, hg]⟩
    have h1 := World.ownsRow.cells h (g := g) rfl j (.int .i64 (x :: V)[j]) (by unfold ivs; rw [List.getElem?_map, List.getElem?_eq_getElem hj']; rfl)
    rw [WideShapes.add_plain] at h1
    rw [h1, getElem!_pos (x :: V).toArray j hj]
    simp
   refine (Go.Proofs.Any.slices_Reverse_int Tryz.revInt g 0 c (x :: V) w hH (by omega)).mono ?_
   rintro e w' ⟨h1, n, rfl⟩
   have h2 := Go.Sort.holds_putRow (Value.int .i64) (Go.Sort.ahead w n) g 0 (x :: V).toArray (x :: V).reverse.toArray hH (by simp)
   refine ⟨h1, fun i hi => ⟨g, 0, rfl, ?_⟩, Go.Lib.below_putRow hw hb⟩
   have hi' : i < (x :: V).reverse.toArray.size := by simpa [ivs] using hi
   rw [(h2 i hi').1, getElem!_pos _ i hi', zMp _ i hi (by simpa using hi')]
   simp only [List.getElem_toArray]
def zLL (G : Gram) (q : Whole) (i : Int) (w : World) (e : Ending) (w' : World) : Prop :=
 (¬ (0 <= i /\ i < (q.1.length : Int)) /\ e = .returned (.tuple #[.slice none 0 0, .bool false]) /\ Below w.heap.size w w') \/
 ∃ (n : Nat) (W : List Int) (a : Option Addr) (c : Nat), i = (n : Int) /\ n < q.1.length /\ zDo (top G) q W n /\ e = .returned (.tuple #[.slice a W.length c, .bool true]) /\ Sep.Reads a (ivs W) w' /\ W.length <= 4000 /\ Below w.heap.size w w'
theorem zJd {n : Nat} {i : Int} (h : i < 0 \/ (n : Int) <= i) : ¬ (0 <= i /\ i < (n : Int)) := fun h2 => by omega
theorem zFk (G : Gram) (q : Whole) (hl : q.1.length <= 2000) (p bE : Nat) (E : Nat -> Nat × Int) (v : Value) (i : Int) (w : World) (h : RtAt G q p bE E v w) :
  Calls Tryz.prog 12 #[.pointer (some ⟨p, 0, none⟩), .int .i64 i] w (zLL G q i w) := by
 have LE := zNR (fun w1 (b : Below w.heap.size w w1) => zFO G q p bE E v w1 (h.went b))
 obtain ⟨i0, hj, hz0, hz1, hz2⟩ := info_parts zAq
 by_cases h0 : i < 0
 ·have HE := zNR (zJd (n := q.1.length) (.inl h0))
  clear h
  go_enter Tryz.func12, Tryz.ntmps12
  go_wp2
  exact bodyPost_ret (v := .tuple #[.slice none 0 0, .bool false]) (by simp [results, Tryz.results12, go_sem]) rfl (.inl ⟨HE.out, rfl, .refl _ _⟩)
 ·by_cases h1 : (q.1.length : Int) <= i
  ·have HE := zNR (zJd (n := q.1.length) (.inr h1))
   clear h
   go_enter Tryz.func12, Tryz.ntmps12
   go_wp2_with (go_at_call 10; refine (LE.out _ (.refl _ _)).mono ?_; rintro e w1 ⟨rfl, hb⟩; have B := zNR hb; clear hb)
   exact bodyPost_ret (v := .tuple #[.slice none 0 0, .bool false]) (by simp [results, Tryz.results12, go_sem]) rfl (.inl ⟨HE.out, rfl, B.out⟩)
  ·obtain ⟨n, rfl⟩ := Int.eq_ofNat_of_zero_le (show 0 <= i by omega)
   have hn : n < q.1.length := by omega
   have hn0 : (0 : Int) <= (n : Int) := by omega
   have hn1 : (n : Int) < (q.1.length : Int) := by omega
   have hnd : decide ((q.1.length : Int) <= (n : Int)) = false := decide_eq_false (by omega)
   have hnl : ¬ (q.1.length <= n) := by omega
   obtain ⟨L, l0, hL, hE, hlen⟩ := h.ends.ex
   have HH := zNR (fun w1 (b : Below w.heap.size w w1) => h.went b)
   have HE := zNR hE
   have HL := zNR (And.intro (hL n hn) (hlen n hn))
   have hb0 : bE < w.heap.size := h.fil.lt
   clear h hL hE hlen h0 h1
   go_enter Tryz.func12, Tryz.ntmps12
   go_wp2_with (go_at_call 10; refine (LE.out _ (.refl _ _)).mono ?_; rintro e w1 ⟨rfl, hb⟩; have B := zNR hb; clear hb)
   go_loopw [1, 6] (fun s1 s6 wr => ∃ (x : Nat) (V : List Int) (a : Option Addr) (c : Nat), s1 = .int .i64 (x : Int) /\ s6 = .slice a V.length c /\ x < q.1.length /\ L n = L x ++ V.reverse /\ wr.ownsRow w.heap.size 3 1 (.slice a V.length c) V.length (ivs V) /\ Below w.heap.size w wr) (fun s1 _ _ => (L (intOf s1).toNat).length)
   case atStart => exact ⟨n, [], none, 0, rfl, rfl, hn, by simp, World.ownsRow_nil _ _ _ _, B.out⟩
   case round =>
    obtain ⟨x, V, a, c, rfl, rfl, hx, hV, hown, hb⟩ := hrel
    have BR := zNR hb
    have RO := zNR hown
    have hVl : V.length <= 2000 := by
     have h2 := HL.out.2
     rw [hV, List.length_append, List.length_reverse] at h2
     omega
    have HV := zNR hV
    clear hb hown hV
    by_cases hx0 : x = 0
    ·subst hx0
     have RV := zNR (fun w1 (hw : wr = w1) => zFb a c V w w1 (hw ▸ BR.out) (hw ▸ RO.out) (by omega))
     have EV := zNR (show L n = V.reverse from by rw [HV.out, l0, List.nil_append])
     go_wp2_with (go_at_call 26; refine (RV.out _ rfl).mono ?_; rintro e w2 ⟨rfl, hr, hb2⟩; have R2 := zNR hr; have B2 := zNR hb2; clear hr hb2)
     refine bodyPost_ret (v := .tuple #[.slice a V.length c, .bool true]) (by simp [results, Tryz.results12, go_sem]) rfl (.inr ⟨n, V.reverse, a, c, rfl, hn, by rw [← EV.out]; exact HL.out.1, by rw [List.length_reverse], R2.out, by rw [List.length_reverse]; omega, B2.out⟩)
    ·obtain ⟨e1, e2, e3⟩ := HE.out x hx hx0
     have RT := HH.out wr BR.out
     have c0 := RT.c0
     have k1 := RT.fil.cell (j := x * 2 + 1) (by omega)
     rw [(zDi E x).2] at k1
     have hxi : (x : Int) < (q.1.length : Int) := by omega
     have hxne : ((x : Int) != 0) = true := by
      rw [bne_iff_ne]
      omega
     have E3 := zNR e3
     generalize hy : E x = y at *
     obtain ⟨y1, y2⟩ := y
     dsimp only at *
     have HY := zNR hy
     have bx := boxed wr (.cells #[.int .i64 y2] 3)
     have RX := zNR (Sep.zAG RO.out fun g e => bx.block g (World.ownsRow.lt RO.out g e).2)
     have ON := zNR (zFU w.heap.size wr.heap.size y2 wr rfl BR.out.size)
     have hbs : w.heap.size <= (wr.alloc (.cells #[.int .i64 y2] 3)).heap.size := Nat.le_trans BR.out.size bx.size
     have BG := zNR (fun w9 (hg : (wr.alloc (.cells #[.int .i64 y2] 3)).grownBy w9 (Value.slice a V.length c).ownBlock) => (show Below w.heap.size w w9 from (Gr.step BR.out bx).grown hg hbs fun g e2 => (World.ownsRow.lt RX.out g e2).1))
     clear RT e3 hy bx
     go_wp2_with (at_builtin; refine zAD _ rfl _ _ 40 rfl w.heap.size 3 i0 (.int .i64 0) 1 8 Tryz.underlying40 hj hz0 hz1 hz2 rfl (by decide) (.slice a V.length c) V.length (ivs V) rfl RX.out w.heap.size _ 1 [.int .i64 y2] rfl ON.out (by simp [Value.oneCell']) (by unfold maxLen; omega) (by omega) hbs ?_; intro v' w9 hown hg _; have B9 := zNR (BG.out w9 hg); have O9 := zNR hown; obtain ⟨a9, c9, rfl⟩ := Rw.zAh hown; have c9' := (HH.out w9 B9.out).c0; have k9 := (HH.out w9 B9.out).fil.cell (j := x * 2) (by omega); rw [(zDi E x).1, HY.out] at k9; dsimp only at k9; clear hown hg)
     go_roundw
     case rel => exact ⟨y1, V ++ [y2], a9, c9, rfl, by rw [List.length_append, List.length_singleton], e1, by rw [HV.out, E3.out, List.reverse_append, List.append_assoc]; rfl, by
      have h := O9.out
      have hl2 : (V ++ [y2]).length = V.length + 1 := by rw [List.length_append, List.length_singleton]
      have hi2 : ivs (V ++ [y2]) = ivs V ++ [.int .i64 y2] := by unfold ivs; rw [List.map_append]; rfl
      rw [hl2, hi2]
      exact h, B9.out⟩
     case measure =>
      simp only [intOf, Int.toNat_natCast]
      rw [E3.out, List.length_append, List.length_singleton]
      omega
