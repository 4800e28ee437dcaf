/-
  Package least: join: the words of symbols as one. Condition: the list of symbols is within a machine's reach.
-/
import Derived.Test.YtpfokebbpbigdaaLeastTotal
namespace Go.Proofs.Ytpfokebbpbigdaa.Le
open Go.RowKit Go.Maps
open Go.Proofs.Ytpfokebbpbigdaa.Gr (Gram Is step boxed cell_later drawn ivs iv int_at int_of bool_of info_int step_append_src ivs_length New)
open Go.Proofs.Ytpfokebbpbigdaa.Rw (Bk IntsV row_shape)
set_option linter.unusedVariables false

/-- make of no numbers, with room. -/
theorem make_room (n : Nat) (hn : n ≤ 4096) (w : World) :
    (Instr.makeSlice 26 (.int .i64 0) (.int .i64 (n : Int))).run Try.prog w = .ok (.slice (some ⟨w.heap.size, 0, none⟩) 0 n) (w.alloc (.cells (madeCells #[.int .i64 0] n) 3)) := by
  obtain ⟨i0, hi, hz0, hz1, hz2⟩ := info_parts info_int
  have hr := run_make (P := Try.prog) w 26 3 i0 (.int .i64 0) Try.underlying26 hi hz0 .i64 .i64 0 (n : Int) (Int.le_refl _) (by omega) (by rw [hz2]; omega) (by omega)
  simp only [Int.toNat_zero, Int.toNat_natCast, hz1, Nat.mul_one] at hr
  exact hr

/-- A word comes back, its numbers in blocks of the call's own; nothing that was there is written. -/
def Joined (a : Ans) (w : World) (e : Ending) (w' : World) : Prop :=
  ∃ ad c, e = .returned (.agg #[.int .i64 (lenA a : Int), .slice ad (wordA a).length c]) ∧ Sep.Reads ad (ivs (wordA a)) w' ∧ New ad w ∧ Below w.heap.size w w'

/-- Behind the boxes of the result and of the whole. -/
structure JSt (W : World) (q n : Nat) (X : List Int) (a : Option Addr) (c : Nat) (w : World) : Prop where
  b : Below W.heap.size W w
  r : Bk W.heap.size #[.int .i64 0, .slice none 0 0] 60 w
  v : Bk q #[.int .i64 (n : Int), .slice a X.length c] 60 w
  t : IntsV (q + 1) X (.slice a X.length c) w
  lo : W.heap.size < q
theorem JSt.went {W : World} {q n : Nat} {X : List Int} {a : Option Addr} {c : Nat} {w w' : World} (k : JSt W q n X a c w) (hb : Below w.heap.size w w') : JSt W q n X a c w' :=
  ⟨Gr.step k.b hb, k.r.went hb, k.v.went hb, k.t.went hb, k.lo⟩
theorem JSt.put {W : World} {q n : Nat} {X Y : List Int} {a : Option Addr} {c : Nat} {w w3 w4 : World} (k : JSt W q n X a c w) (hb : Below w.heap.size w w3) {a4 : Option Addr} {c4 : Nat}
    (hown : w4.ownsRow (q + 1) 3 1 (.slice a4 (X.length + Y.length) c4) (X.length + Y.length) (ivs X ++ ivs Y)) (hg : w3.grownBy w4 (Value.slice a X.length c).ownBlock) :
    JSt W q n (X ++ Y) a4 c4 (w4.setCell ⟨q, 1, none⟩ (.slice a4 (X.length + Y.length) c4)) := by
  have lo : ∀ g, (Value.slice a X.length c).ownBlock = some g → q + 1 ≤ g := fun g h => (World.ownsRow.lt k.t g h).1
  have hlo := k.lo
  have hs : (w4.setCell ⟨q, 1, none⟩ (.slice a4 (X.length + Y.length) c4)).heap.size = w4.heap.size := Rw.set_size _ _ _
  have hF : Sep.Fr (fun i => i = q) w4 (w4.setCell ⟨q, 1, none⟩ (.slice a4 (X.length + Y.length) c4)) := (Sep.Fr.refl (fun i => i = q) w4).setCell ⟨q, 1, none⟩ rfl _
  have hl : (X ++ Y).length = X.length + Y.length := List.length_append
  have k3 := k.went hb
  have b4 : Below W.heap.size W w4 := k3.b.grown hg k3.b.size fun g h => by have := lo g h; omega
  refine ⟨b4.trans (hF.below (fun i hi => by omega) b4.size), (k3.r.grown hg fun g h => by have := lo g h; omega).fr hF (by omega), ?_, ?_, hlo⟩
  · have := (k3.v.grown hg fun g h => by have := lo g h; omega).set (j := 1) (by simp) (.slice a4 (X.length + Y.length) c4)
    rw [hl]
    simpa using this
  · unfold IntsV
    rw [hl]
    have e : ivs (X ++ Y) = ivs X ++ ivs Y := by simp [ivs]
    rw [e]
    exact Sep.ownsRow_at hown fun g hg => hF.block g (hown.lt g hg).2 (by have := (hown.lt g hg).1; omega)

theorem jst_start {W w1 : World} {n : Nat} (hn : n ≤ 4096) (hb : Below W.heap.size W w1) (hr : Bk W.heap.size #[.int .i64 0, .slice none 0 0] 60 w1) :
    JSt W w1.heap.size n [] (some ⟨w1.heap.size + 1, 0, none⟩) n ((w1.alloc (.cells #[.int .i64 (n : Int), .slice (some ⟨w1.heap.size + 1, 0, none⟩) 0 n] 60)).alloc (.cells (madeCells #[.int .i64 0] n) 3)) := by
  have b1 := boxed w1 (.cells #[.int .i64 (n : Int), .slice (some ⟨w1.heap.size + 1, 0, none⟩) 0 n] 60)
  have b2 := boxed (w1.alloc (.cells #[.int .i64 (n : Int), .slice (some ⟨w1.heap.size + 1, 0, none⟩) 0 n] 60)) (.cells (madeCells #[.int .i64 0] n) 3)
  refine ⟨Gr.step (Gr.step hb b1) b2, (hr.went b1).went b2, (Bk.new w1 _ _ _ rfl).went b2, ?_, hr.lt⟩
  have := World.ownsRow_made (w1.alloc (.cells #[.int .i64 (n : Int), .slice (some ⟨w1.heap.size + 1, 0, none⟩) 0 n] 60)) (e := 3) (base := w1.heap.size + 1) (size := 1) (madeCells #[.int .i64 0] n) n (by simp) (by unfold maxLen; omega) (by simp [size_madeCells])
  simpa [IntsV, ivs] using this

theorem JSt.done {W : World} {q n : Nat} {X : List Int} {a : Option Addr} {c : Nat} {w : World} (k : JSt W q n X a c w) (x y : Value) :
    Sep.Reads a (ivs X) ((w.setCell ⟨W.heap.size, 0, none⟩ x).setCell ⟨W.heap.size, 1, none⟩ y) ∧ New a W ∧ Below W.heap.size W ((w.setCell ⟨W.heap.size, 0, none⟩ x).setCell ⟨W.heap.size, 1, none⟩ y) := by
  have hlo := k.lo
  have hF : Sep.Fr (fun i => i = W.heap.size) w ((w.setCell ⟨W.heap.size, 0, none⟩ x).setCell ⟨W.heap.size, 1, none⟩ y) :=
    ((Sep.Fr.refl (fun i => i = W.heap.size) w).setCell ⟨W.heap.size, 0, none⟩ rfl _).setCell ⟨W.heap.size, 1, none⟩ rfl _
  refine ⟨Sep.Reads.of_row (Sep.ownsRow_at k.t fun g hg => hF.block g (World.ownsRow.lt k.t g hg).2 (by have := (World.ownsRow.lt k.t g hg).1; omega)), Gr.row_new k.t (by omega), k.b.trans (hF.below (fun i hi => by omega) k.b.size)⟩

def JRel (T : Int → Ans) (l : List Int) (W : World) (q n : Nat) (i : Value) (w : World) : Prop :=
  ∃ k : Nat, k ≤ l.length ∧ i = .int .i64 k ∧ ∃ a c, JSt W q n (flat T (l.take k)) a c w

set_option maxRecDepth 100000 in
set_option maxHeartbeats 8000000 in
theorem join_any (nl : Bool) (v : Value) (T : Int → Ans) (l : List Int) (a : Option Addr) (c : Nat) (w : World) (h : VAt nl v T w) (hR : Sep.Reads a (ivs l) w) (hl : l.length ≤ 17592186044416) :
    Calls Try.prog 27 #[v, .slice a l.length c] w (Joined (J T l) w) := by
  obtain ⟨i0, hi, hz0, hz1, hz2⟩ := info_parts info_int
  have AT := Lib.hid (fun s w1 (b : Below w.heap.size w w1) => at_any nl v T s w1 (h.went b))
  have RR := Lib.hid (fun w1 (b : Below w.heap.size w w1) => Sep.Reads.below hR b (Nat.le_refl _))
  have TO := Lib.hid (fun w1 (b : Below w.heap.size w w1) => total_any nl v T l a c w1 (h.went b) (RR.out _ b) hl)
  have TB := Lib.hid h.bnd
  have bx := Lib.hid (boxed w (.cells #[.int .i64 0, .slice none 0 0] 60))
  have Q0 := Lib.hid (Bk.new w #[.int .i64 0, .slice none 0 0] 60 _ rfl)
  have hbd := lenA_le (bd_join T l)
  have hfd := field_terms
  clear h hR
  by_cases hz : isA (J T l) = true
  · have hle := (len_is (bd_join T l)).2 hz
    have FW := Lib.hid (flat_word hz)
    have FL := Lib.hid (flat_len hz)
    have hmk := fun w => make_room (lenA (J T l)) hle w
    clear hz
    generalize hJ : J T l = jj at *
    clear hJ
    generalize hN : lenA jj = n at *
    have NN := Lib.hid hN
    clear hN
    go_enter Try.func27, Try.ntmps27
    go_wp2_with (go_at_call 26; refine (TO.out _ bx.out).mono ?_; rintro e w1 ⟨rfl, hb⟩; have B1 := Lib.hid (Gr.step bx.out hb); have Q1 := Lib.hid (Q0.out.went hb); have hq1 : w.heap.size < w1.heap.size := Q1.out.lt; clear hb)
    have ST := Lib.hid (jst_start hle B1.out Q1.out)
    generalize w1.heap.size = q at *
    clear hmk
    go_loopw [22] (fun i wr => JRel T l w q n i wr) (fun i _ => l.length - (intOf i).toNat)
    case atStart => exact ⟨0, Nat.zero_le _, rfl, _, _, ST.out⟩
    case round =>
      clear ST B1 Q1
      obtain ⟨k, hk, rfl, ga, gc, hJ⟩ := hrel
      have J1 := Lib.hid hJ
      obtain ⟨v0, v1, vf⟩ := hJ.v.two
      obtain ⟨r0, r1, rf⟩ := hJ.r.two
      have hqr : q < wr.heap.size := hJ.v.lt
      have hwr : w.heap.size < wr.heap.size := hJ.r.lt
      have hlo := hJ.lo
      clear hJ
      by_cases hlt : k < l.length
      · obtain ⟨b, o, rfl, hc⟩ := int_at (RR.out _ J1.out.b) hlt
        have FT := Lib.hid (flat_take (T := T) hlt)
        have hXY : (flat T (l.take k)).length + (wordA (T l[k])).length ≤ 4096 := by
          have h1 := flat_le T l (k + 1)
          rw [FT.out, List.length_append, FL.out] at h1
          omega
        have AC := Lib.hid (fun w1 (b : Below wr.heap.size wr w1) => AT.out l[k] w1 (Gr.step J1.out.b b))
        generalize T l[k] = t at *
        generalize l[k] = s at *
        generalize flat T (l.take k) = X at *
        generalize hY : wordA t = Y at *
        unfold Worded at AC
        rw [hY] at AC
        clear hY
        go_wp2
        have hbr := drawn wr
        go_region_law (first
          | (refine step_append_src _ (by rfl) _ _ 26 (by rfl) (q + 1) 3 i0 (.int .i64 0) 8 Try.underlying26 hi hz0 hz1 hz2 rfl (.slice ga X.length gc) X.length (ivs X) (by rfl) (J1.out.t.went kB) _ _ _ (ivs Y) (by rfl) (by simp [ivs]) hR3 (by simp [ivs, iv, Value.oneCell']) (by unfold maxLen; omega) (by omega) (by omega) ?_; intro v4 w4 hown4 hg4 _; obtain ⟨a4, c4, rfl⟩ := row_shape hown4; have J4 := Lib.hid (J1.out.put kB hown4 hg4); have V4 := Lib.hid ((J1.out.v.went kB).grown hg4 (fun g hg => by have := (World.ownsRow.lt J1.out.t g hg).1; omega)); obtain ⟨y0, y1, yf⟩ := V4.out.two; have hq4 : q < w4.heap.size := V4.out.lt; clear hown4 hg4)
          | (go_simp; go_at_call 46; (with_reducible refine (AC.out _ (by assumption)).mono ?_); rintro e w3 ⟨ad, cc, rfl, hR3, hb⟩; have kB : Below wr.heap.size wr w3 := Gr.step (by assumption) hb; obtain ⟨v0, v1, vf⟩ := (J1.out.v.went kB).two; have hq3 : q < w3.heap.size := (J1.out.v.went kB).lt; clear hb))
        all_goals
          go_wp2
          go_roundw
          case rel => exact ⟨k + 1, by omega, by go_num, _, _, by rw [FT.out]; exact J4.out⟩
          case measure => simp [intOf]; omega
      · have hE : k = l.length := by omega
        have XE := Lib.hid (show flat T (l.take k) = wordA jj by rw [FW.out, hE, List.take_length])
        generalize flat T (l.take k) = X at *
        obtain rfl : X = wordA jj := XE.out
        obtain ⟨d1, d2, d3⟩ := J1.out.done (.int .i64 (n : Int)) (.slice ga (wordA jj).length gc)
        have D1 := Lib.hid d1
        have D2 := Lib.hid d2
        have D3 := Lib.hid d3
        clear d1 d2 d3
        go_wp2
        try simp only [Exit.inBlock, Exit.then]
        exact bodyPost_ret (v := .agg #[.int .i64 (n : Int), .slice ga (wordA jj).length gc]) (by simp [results, Try.results27, go_sem, r0, r1]) rfl ⟨ga, gc, by rw [NN.out], D1.out, D2.out, D3.out⟩
  · have hle : ¬ lenA (J T l) ≤ 4096 := fun k => hz ((len_is (bd_join T l)).1 k)
    have WN := Lib.hid (isA_not (Bool.eq_false_iff.2 hz))
    clear hz
    generalize hJ : J T l = jj at *
    clear hJ
    generalize hN : lenA jj = n at *
    have NN := Lib.hid hN
    clear hN
    go_enter Try.func27, Try.ntmps27
    go_wp2_with (go_at_call 26; refine (TO.out _ bx.out).mono ?_; rintro e w1 ⟨rfl, hb⟩; have B1 := Lib.hid (Gr.step bx.out hb); have Q1 := Lib.hid (Q0.out.went hb); have hq1 : w.heap.size < w1.heap.size := Q1.out.lt; obtain ⟨r0, r1, rf⟩ := Q1.out.two; clear hb)
    have b2 := (((Below.refl w.heap.size w1).setCell (p := ⟨w.heap.size, 0, none⟩) (Nat.le_refl _) (.int .i64 (n : Int))).setCell (p := ⟨w.heap.size, 1, none⟩) (Nat.le_refl _) (.slice none 0 0)).alloc (by rw [Rw.set_size, Rw.set_size]; omega) (.cells #[.int .i64 (n : Int), .slice none 0 0] 60)
    try simp only [Exit.inBlock, Exit.then]
    exact bodyPost_ret (v := .agg #[.int .i64 (n : Int), .slice none 0 0]) (by simp [results, Try.results27, go_sem, r0, r1, hq1]) rfl ⟨none, 0, by rw [NN.out, WN.out]; rfl, by rw [WN.out]; exact .nil _ _, (fun x h => by cases h), B1.out.trans b2⟩

end Go.Proofs.Ytpfokebbpbigdaa.Le
