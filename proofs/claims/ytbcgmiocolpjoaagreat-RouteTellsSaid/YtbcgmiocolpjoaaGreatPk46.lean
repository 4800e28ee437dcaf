/- A part of the proof. -/
import Derived.Test.YtbcgmiocolpjoaaGreatPk43
set_option maxHeartbeats 4000000
set_option maxRecDepth 100000
set_option linter.unusedVariables false
namespace Go.Proofs.YtbcgmiocolpjoaaGreat
namespace Ro
open Go.RowKit Go.Maps
open Gr (Gram cell_later zAB boxed drawn ivs zAS zAG)
open Le (Ans zAC isA)
open Im
open Au
theorem zNl (v : Value) (Y : Ans) (s t a b c d : Int) (w : World) (hY : (zAC Y).length <= 4096) (hT : ∀ w1, Below w.heap.size w w1 -> Calls Tryz.prog 15 #[v, .int .i64 s] w1 (Two (zAC Y) (isA Y) w1)) :
    Calls Tryz.prog 18 #[v, .agg #[.int .i64 s, .int .i64 t, .int .i64 a, .int .i64 b, .int .i64 c, .int .i64 d]] w (Two (witA Y t) (isA Y) w) := by
  have TX := zPB hT
  have bx := boxed w (.cells #[.int .i64 s, .int .i64 t, .int .i64 a, .int .i64 b, .int .i64 c, .int .i64 d] 29)
  have B0 := zPB bx
  have z1 : (w.alloc (.cells #[.int .i64 s, .int .i64 t, .int .i64 a, .int .i64 b, .int .i64 c, .int .i64 d] 29)).cell? ⟨w.heap.size, 1, none⟩ = some (.int .i64 t) := zAB rfl rfl
  have Z := zPB (fun w1 (bb : Below (w.alloc (.cells #[.int .i64 s, .int .i64 t, .int .i64 a, .int .i64 b, .int .i64 c, .int .i64 d] 29)).heap.size (w.alloc (.cells #[.int .i64 s, .int .i64 t, .int .i64 a, .int .i64 b, .int .i64 c, .int .i64 d] 29)) w1) => cell_later bb z1)
  clear hT bx z1
  cases hi : isA Y with
  | false =>
    have E := zPB (show witA Y t = [] from zKr t hi)
    have E2 := zPB (show zAC Y = [] from zKs hi)
    rw [hi, E2.out] at TX
    rw [E.out]
    clear hi hY
    go_enter Tryz.func18, Tryz.ntmps18
    go_wp2_with fail
    refine (TX.out _ B0.out).mono ?_
    rintro e w2 ⟨ad, c2, rfl, hr, hb⟩
    have R2 := zPB hr
    have B2 := zPB (Gr.step B0.out hb)
    clear hr hb
    go_wp2_with fail
    exact bodyPost_ret (v := .tuple #[.slice none 0 0, .bool false]) (by simp [results, Tryz.results18, go_sem]) rfl (zBL _ _ B2.out)
  | true =>
    rw [hi] at TX
    by_cases ht : t = 0
    · subst ht
      rw [zFv]
      clear hi
      generalize zAC Y = X at *
      go_enter Tryz.func18, Tryz.ntmps18
      go_wp2_with fail
      refine (TX.out _ B0.out).mono ?_
      rintro e w2 ⟨ad, c2, rfl, hr, hb⟩
      have R2 := zPB hr
      have B2 := zPB (Gr.step B0.out hb)
      have z1 := Z.out w2 hb
      clear hr hb
      go_wp2_with fail
      exact bodyPost_ret (v := .tuple #[.slice ad X.length c2, .bool true]) (by simp [results, Tryz.results18, go_sem]) rfl ⟨ad, c2, rfl, R2.out, B2.out⟩
    · rw [zFu hi ht]
      have htb : (t == 0) = false := by simpa using ht
      clear hi
      generalize zAC Y = X at *
      go_enter Tryz.func18, Tryz.ntmps18
      go_wp2_with fail
      refine (TX.out _ B0.out).mono ?_
      rintro e w2 ⟨ad, c2, rfl, hr, hb⟩
      have B2 := zPB (Gr.step B0.out hb)
      have z1 := Z.out w2 hb
      have RD := zPB hr
      clear hr hb
      go_wp2_with fail
      have HQ := zPB (fun w' (b : Below w2.heap.size w2 w') => (show w'.cell? ⟨w.heap.size, 1, none⟩ = some (.int .i64 t) from cell_later b z1))
      have kA := drawn w2
      obtain ⟨i0, hii', hz0, hz1, hz2⟩ := info_parts zAS
      have hbn := Gr.zCf
      have T1 := zPB (fun w1 (b : Below w2.heap.size w2 w1) => RD.out.below b (Nat.le_refl _))
      have l1 : (ivs X).length = X.length := by simp [ivs]
      go_region_held3 (fun w' => w'.cell? ⟨w.heap.size, 1, none⟩ = some (.int .i64 t))
        (first | exact HQ.out _ (by assumption) | exact HQ.out _ (by first | exact Gr.step (boxed _ _) (drawn _) | exact Gr.step (drawn _) (boxed _ _) | exact Gr.step (Gr.step (boxed _ _) (drawn _)) (boxed _ _) | exact Gr.step (Gr.step (boxed _ _) (boxed _ _)) (drawn _) | exact Gr.step (Gr.step (drawn _) (boxed _ _)) (boxed _ _) | exact boxed _ _ | exact drawn _ | exact Gr.step K4.out (boxed _ _) | exact K4.out | exact K5.out))
        (first
          | (refine zAG _ (by rfl) _ _ 40 (by rfl) w2.heap.size 3 i0 (.int .i64 0) 8 Tryz.underlying40 hii' hz0 hz1 hz2 rfl _ 0 [] (by rfl) (Rw.zE1 (by first | exact World.alloc_heap_new _ _ | exact zFT (by simp) | exact zD2 (World.alloc_heap_new _ _)) (by first | exact Nat.le_refl _ | (simp; done) | (simp; omega))) ad X.length c2 (ivs X) (by rfl) l1 (T1.out _ (by first | exact Gr.step (boxed _ _) (drawn _) | exact Gr.step (drawn _) (boxed _ _) | exact Gr.step (Gr.step (boxed _ _) (drawn _)) (boxed _ _) | exact Gr.step (Gr.step (boxed _ _) (boxed _ _)) (drawn _) | exact Gr.step (Gr.step (drawn _) (boxed _ _)) (boxed _ _))) (Gr.zA2 _) (by unfold maxLen; omega) (by omega) (by first | (simp; done) | (simp; omega)) ?_
             intro v7 w7 hown4 hg4 _
             obtain ⟨a7, c7, rfl⟩ := Rw.zAK hown4
             rw [Nat.zero_add] at hown4 ⊢
             have K4 := zPB (show Below w2.heap.size w2 w7 from Below.grown (by first | exact Gr.step (boxed _ _) (drawn _) | exact Gr.step (drawn _) (boxed _ _) | exact Gr.step (Gr.step (boxed _ _) (drawn _)) (boxed _ _) | exact Gr.step (Gr.step (boxed _ _) (boxed _ _)) (drawn _) | exact Gr.step (Gr.step (drawn _) (boxed _ _)) (boxed _ _)) hg4 (Below.size (by first | exact Gr.step (boxed _ _) (drawn _) | exact Gr.step (drawn _) (boxed _ _) | exact Gr.step (Gr.step (boxed _ _) (drawn _)) (boxed _ _) | exact Gr.step (Gr.step (boxed _ _) (boxed _ _)) (drawn _) | exact Gr.step (Gr.step (drawn _) (boxed _ _)) (boxed _ _))) (fun k hk => by simp [Value.ownBlock] at hk; omega))
             have O4 := zPB (show w7.ownsRow w2.heap.size 3 1 (.slice a7 X.length c7) X.length (ivs X) from hown4)
             (first
               | (have RB4 := zPB (show w7.heap[w2.heap.size + 1]? = some (.cells #[.int .i64 t] 3 (0, 0)) from (hg4.block _ (by simp) (by simp [Value.ownBlock])).trans (by first | exact zFT (by simp) | exact zFT rfl)))
               | (have RB4 := zPB (show w7.heap[w2.heap.size]? = some (.cells #[.int .i64 t] 3 (0, 0)) from (hg4.block _ (by simp; try omega) (by simp [Value.ownBlock])).trans (by first | exact zD2 (zFT rfl) | exact zD2 (World.alloc_heap_new _ _))))
               | skip)
             have hs4 := K4.out.size
             clear hown4 hg4)
          | (refine zAG _ (by rfl) _ _ 40 (by rfl) w2.heap.size 3 i0 (.int .i64 0) 8 Tryz.underlying40 hii' hz0 hz1 hz2 rfl (.slice a7 X.length c7) X.length (ivs X) (by rfl) (by first | exact O4.out | exact Sep.zAH O4.out fun g hg => Below.heap_alloc _ _ _ (O4.out.lt g hg).2) (some ⟨w2.heap.size + 1, 0, none⟩) 1 1 (ivs [t]) (by rfl) rfl (zCi RB4.out) (Gr.zA2 _) (by unfold maxLen; omega) (by omega) (by first | exact K4.out.size | exact (Gr.step K4.out (boxed _ _)).size) ?_
             intro v8 w10 hown2 hg2 _
             have K5 := zPB (show Below w2.heap.size w2 w10 from Below.grown (w := _) (by first | exact K4.out | exact Gr.step K4.out (boxed _ _)) hg2 (by first | exact K4.out.size | exact (Gr.step K4.out (boxed _ _)).size) (fun k hk => (O4.out.lt k hk).1))
             obtain ⟨a8, c8, rfl⟩ := Rw.zAK hown2
             have O5 := zPB hown2
             clear hown2 hg2)
          | (refine zAG _ (by rfl) _ _ 40 (by rfl) w2.heap.size 3 i0 (.int .i64 0) 8 Tryz.underlying40 hii' hz0 hz1 hz2 rfl (.slice a7 X.length c7) X.length (ivs X) (by rfl) (by first | exact O4.out | exact Sep.zAH O4.out fun g hg => Below.heap_alloc _ _ _ (O4.out.lt g hg).2) (some ⟨w2.heap.size, 0, none⟩) 1 1 (ivs [t]) (by rfl) rfl (zCi RB4.out) (Gr.zA2 _) (by unfold maxLen; omega) (by omega) (by first | exact K4.out.size | exact (Gr.step K4.out (boxed _ _)).size) ?_
             intro v8 w10 hown2 hg2 _
             have K5 := zPB (show Below w2.heap.size w2 w10 from Below.grown (w := _) (by first | exact K4.out | exact Gr.step K4.out (boxed _ _)) hg2 (by first | exact K4.out.size | exact (Gr.step K4.out (boxed _ _)).size) (fun k hk => (O4.out.lt k hk).1))
             obtain ⟨a8, c8, rfl⟩ := Rw.zAK hown2
             have O5 := zPB hown2
             clear hown2 hg2)
          | (refine zAG _ (by rfl) _ _ 40 (by rfl) w2.heap.size 3 i0 (.int .i64 0) 8 Tryz.underlying40 hii' hz0 hz1 hz2 rfl (.slice a7 X.length c7) X.length (ivs X) (by rfl) (by first | exact O4.out | exact Sep.zAH O4.out fun g hg => Below.heap_alloc _ _ _ (O4.out.lt g hg).2) (some ⟨w7.heap.size, 0, none⟩) 1 1 (ivs [t]) (by rfl) rfl (zCi (World.alloc_heap_new _ _)) (Gr.zA2 _) (by unfold maxLen; omega) (by omega) (by first | exact K4.out.size | exact (Gr.step K4.out (boxed _ _)).size) ?_
             intro v8 w10 hown2 hg2 _
             have K5 := zPB (show Below w2.heap.size w2 w10 from Below.grown (w := _) (by first | exact K4.out | exact Gr.step K4.out (boxed _ _)) hg2 (by first | exact K4.out.size | exact (Gr.step K4.out (boxed _ _)).size) (fun k hk => (O4.out.lt k hk).1))
             obtain ⟨a8, c8, rfl⟩ := Rw.zAK hown2
             have O5 := zPB hown2
             clear hown2 hg2)
          | fail)
      all_goals
        have K := zPB (Gr.step B2.out K5.out)
        go_wp2_with fail
        exact bodyPost_ret (v := .tuple #[.slice a8 (X.length + 1) c8, .bool true]) (by simp [results, Tryz.results18, go_sem]) rfl ⟨a8, c8, by rw [List.length_append, List.length_singleton], by rw [zJM]; exact Sep.Reads.of_row O5.out, K.out⟩
theorem zNk (G : Gram) (o : Option Whole) (v : Value) (x : Int × Int × Int × Int × Int × Int) (w : World) (h : ROb G o v w) : Calls Tryz.prog 18 #[v, cv x] w (Two (witA (zAw G o x.1) x.2.1) (isA (zAw G o x.1)) w) :=
 zNl v (zAw G o x.1) x.1 x.2.1 x.2.2.1 x.2.2.2.1 x.2.2.2.2.1 x.2.2.2.2.2 w (zC2 _ _ _) fun w1 b => zHK G o v x.1 w1 (h.went b)
