/-
  The walk of the statement on long words: nonterminals, each of which is the next one so many times. Condition: the two numbers are bytes.
-/
import Derived.Test.YtpfokebbpbigdaaLeastLongAt
import Derived.Laws.IdiomStrings
namespace Go.Proofs.Ytpfokebbpbigdaa.Le
open Go.RowKit Go.Maps
open Go.Proofs.Ytpfokebbpbigdaa.Gr
open Go.Proofs.Ytpfokebbpbigdaa.Rw (Bk IntsV GRules row_shape gc gc_length two_at row_mono wpList_append_rows info_rule2 rule2_one)
set_option linter.unusedVariables false

theorem conv_name {i : Nat} (hi : i < 7) (w : World) :
    (convert 45 9 (.slice (some ⟨w.heap.size, 0, none⟩) 2 2)).run Try.prog (w.alloc (.cells #[.int .u8 110, .int .u8 (97 + (i : Int))] 5)) = .ok (.string (nmI i)) (w.alloc (.cells #[.int .u8 110, .int .u8 (97 + (i : Int))] 5)) := by
  have B := Bk.new w #[.int .u8 110, .int .u8 (97 + (i : Int))] 5 _ rfl
  have e : ((UInt8.ofNat (97 + i)).toNat : Int) = 97 + (i : Int) := by
    simp
    omega
  exact run_convert_bytes_back (P := Try.prog) (w.alloc (.cells #[.int .u8 110, .int .u8 (97 + (i : Int))] 5)) 45 9 5 ⟨w.heap.size, 0, none⟩ 2 [110, UInt8.ofNat (97 + i)] Try.underlying45 Try.underlying5 Try.underlying9 fun j hj => by
    have hj2 : j < 2 := hj
    rw [WideShapes.add_plain]
    have : j = 0 ∨ j = 1 := by omega
    rcases this with rfl | rfl
    · exact B.cell rfl
    · have h1 := B.cell (j := 1) (v := .int .u8 (97 + (i : Int))) rfl
      show _ = some (Value.int .u8 ((UInt8.ofNat (97 + i)).toNat : Int))
      rw [e]
      exact h1
theorem wrap_in {n : Nat} (h : n ≤ 2097152) : wrap64 (n : Int) = n := IntWalk.wrap64_in _ ⟨by omega, by omega⟩
def LRel (W : World) (d m : Nat) (v : Value) (w : World) : Prop :=
  ∃ (i : Nat) (a2 : Option Addr) (c2 : Nat) (R : Nat → Prop) (a3 : Option Addr) (c3 : Nat), i ≤ d ∧ v = .int .i64 i ∧ BSt W (namesTo i) a2 c2 R (chainTo d m i) a3 c3 w
def SRel (W : World) (qr : Nat) (left : Int) (x : Int) (m : Nat) (v : Value) (w : World) : Prop :=
  ∃ (j : Nat) (ra : Option Addr) (rc : Nat), j ≤ m ∧ v = .int .i64 j ∧ SSt W qr left x j ra rc w

set_option maxHeartbeats 16000000 in
set_option maxRecDepth 100000 in
theorem long_law (a b : Int) (w : World) (ha : 0 ≤ a ∧ a ≤ 255) (hb : 0 ≤ b ∧ b ≤ 255) :
    Calls Try.prog 5 #[.int .u8 a, .int .u8 b] w (Is (.bool true) w) := by
  obtain ⟨s0, hs0, sz0, sz1, sz2⟩ := info_parts info_str
  obtain ⟨n0, hn0, nz0, nz1, nz2⟩ := info_parts info_int
  obtain ⟨t0, ht0, tz0, tz1, tz2⟩ := info_parts info_rule2
  obtain ⟨ha0, ha1⟩ := ha
  obtain ⟨hb0, hb1⟩ := hb
  go_enter Try.func5, Try.ntmps5
  go_wp2
  obtain ⟨d, hd⟩ : ∃ d : Nat, a % 7 + 1 = (d : Int) := ⟨(a % 7 + 1).toNat, by omega⟩
  obtain ⟨m, hm⟩ : ∃ m : Nat, b % 8 + 1 = (m : Int) := ⟨(b % 8 + 1).toNat, by omega⟩
  have hd1 : 1 ≤ d := by omega
  have hd7 : d ≤ 7 := by omega
  have hm1 : 1 ≤ m := by omega
  have hm8 : m ≤ 8 := by omega
  rw [hd, hm]
  clear hd hm
  have B0 := Lib.hid (show BSt w (namesTo 0) none 0 (fun _ => False) (chainTo d m 0) none 0 ((w.alloc (.cells #[.string ⟨#[65]⟩] 9)).alloc (.cells #[.slice (some ⟨w.heap.size, 0, none⟩) 1 1, .slice none 0 0, .slice none 0 0, .int .i64 2] 25)) from
    ⟨Gr.step (boxed _ _) (boxed _ _), (Bk.new w _ _ _ rfl).went (boxed _ _), Bk.new _ _ _ _ (by simp), World.ownsRow_nil _ _ _ _, GR.nil _ _ _, (fun k hk => by cases hk), (fun k hk => hk.elim), fun k hk => hk.elim⟩)
  go_loopw [8] (fun v wr => LRel w d m v wr) (fun v _ => d - (intOf v).toNat)
  case atStart => exact ⟨0, none, 0, _, none, 0, Nat.zero_le _, rfl, B0.out⟩
  case round =>
    clear B0
    obtain ⟨i, a2, c2, R, a3, c3, hi, rfl, hB⟩ := hrel
    have B := Lib.hid hB
    clear hB
    obtain ⟨x0, x1, x2, x3, xf⟩ := B.out.g.four
    have hgl : w.heap.size + 1 < wr.heap.size := B.out.g.lt
    by_cases hlt : i < d
    · have NL := Lib.hid (namesTo_len i)
      have XL := Lib.hid (chainTo_len d m i)
      have hi7 : i < 7 := by omega
      rw [NL.out] at x1
      rw [XL.out] at x2
      have hcv := conv_name hi7
      have bb := Gr.step (boxed wr (.cells #[.int .u8 110, .int .u8 (97 + (i : Int))] 5)) (boxed _ (.cells #[.string (nmI i)] 9))
      have BB := Lib.hid bb
      have hown : wr.ownsRow (w.heap.size + 1 + 1) 9 1 (.slice a2 (namesTo i).length c2) (namesTo i).length ((namesTo i).map .string) := B.out.n
      rw [NL.out] at hown
      have ON := Lib.hid (Sep.ownsRow_at hown fun g hg => bb.block g (hown.lt g hg).2)
      clear hown bb
      go_wp2_with (at_builtin; refine wpList_append_rows _ rfl _ _ 22 rfl (w.heap.size + 1 + 1) 9 s0 (.string ByteArray.empty) 1 16 Try.underlying22 hs0 sz0 sz1 sz2 rfl (by decide) (.slice a2 i c2) i ((namesTo i).map .string) rfl ON.out _ (.slice (some ⟨wr.heap.size + 1, 0, none⟩) 1 1) 1 [.string (nmI i)] rfl (str_one (w.heap.size + 1 + 1) (wr.heap.size + 1) (nmI i) _ (by simp) (by omega)) (by simp [Value.oneCell']) (by unfold maxLen; omega) (by omega) (by simp; omega) ?_; intro v4 w4 hown4 hg4 hl4; obtain ⟨a4, c4, rfl⟩ := row_shape hown4; have P := B.out.putN (x := nmI i) (a4 := a4) (c4 := c4) BB.out (by rw [NL.out]; exact hown4) (by rw [NL.out]; exact hg4) (by rw [NL.out]; exact hl4); rw [NL.out, ← namesTo_succ] at P; have V4 := Lib.hid ((B.out.g.went BB.out).grown hg4 (fun g hg => by have := (ON.out.lt g hg).1; omega)); clear hown4 hg4 hl4; have P4 := Lib.hid P; clear P x0 x1 x2 x3 xf; obtain ⟨x0, x1, x2, x3, xf⟩ := V4.out.four)
      obtain ⟨w5, hw5⟩ : ∃ x, w4.setCell ⟨w.heap.size + 1, 1, none⟩ (.slice a4 (i + 1) c4) = x := ⟨_, rfl⟩
      have HQ := Lib.hid (show w5.heap.size = w4.heap.size from by rw [← hw5, Rw.set_size])
      have P5 := Lib.hid (show BSt w (namesTo (i + 1)) a4 c4 R (chainTo d m i) a3 c3 w5 from by rw [← hw5]; exact P4.out)
      rw [hw5]
      clear hw5 P4 V4 BB ON B x0 x1 x2 x3 xf hcv
      generalize w4.heap.size = qr at *
      by_cases hl : i + 1 = d
      · have hx : chainR d m i = (2 + (i : Int), List.replicate m 1) := by
          unfold chainR
          rw [if_pos hl]
          congr 1
        have HX := Lib.hid hx
        have hqt : ((i : Int) == (d : Int) - 1) = true := by rw [beq_iff_eq]; omega
        have S0 := Lib.hid (show SSt w5 qr (2 + (i : Int)) 1 0 none 0 (w5.alloc (.cells #[.int .i64 (2 + (i : Int)), .slice none 0 0] 43)) from
          ⟨boxed _ _, Bk.new w5 _ _ _ (by rw [HQ.out]), World.ownsRow_nil _ _ _ _, by rw [HQ.out]; exact Nat.le_refl _⟩)
        clear hx hl
        go_loopw [10] (fun v wr => SRel w5 qr (2 + (i : Int)) 1 m v wr) (fun v _ => m - (intOf v).toNat)
        case atStart => exact ⟨0, none, 0, Nat.zero_le _, rfl, S0.out⟩
        case round =>
          clear S0
          obtain ⟨j, ra, rc, hj, rfl, hS⟩ := hrel
          have S := Lib.hid hS
          obtain ⟨r0, r1, rf⟩ := hS.q.two
          have hql : qr < wr.heap.size := hS.q.lt
          clear hS
          by_cases hlj : j < m
          · have bx := boxed wr (.cells #[.int .i64 1] 3)
            have OI := Lib.hid (Sep.ownsRow_at S.out.r fun g hg => bx.block g (S.out.r.lt g hg).2)
            have QB := Lib.hid (S.out.q.went bx)
            clear bx
            go_wp2_with (at_builtin; go_loud (refine wpList_append_rows _ rfl _ _ 26 rfl (qr + 1) 3 n0 (.int .i64 0) 1 8 Try.underlying26 hn0 nz0 nz1 nz2 rfl (by decide) (.slice ra j rc) j (ivs (List.replicate j 1)) rfl OI.out (qr + 1) (.slice (some ⟨wr.heap.size, 0, none⟩) 1 1) 1 [.int .i64 1] rfl (int_one (qr + 1) wr.heap.size 1 _ rfl (by omega)) (by simp [Value.oneCell']) (by unfold maxLen; omega) (by omega) (by simp; omega) ?_); intro v6 w6 hown6 hg6 hl6; obtain ⟨a6, c6, rfl⟩ := row_shape hown6; have S6 := Lib.hid (S.out.put hown6 hg6); have V6 := Lib.hid (QB.out.grown hg6 (fun g hg => by have := (OI.out.lt g hg).1; omega)); clear hown6 hg6 hl6 r0 r1 rf; obtain ⟨r0, r1, rf⟩ := V6.out.two; have hql6 : qr < w6.heap.size := V6.out.lt)
            go_roundw
            case rel => exact ⟨j + 1, a6, c6, by omega, by go_num, S6.out⟩
            case measure => simp [intOf]; omega
          · have hE : j = m := by omega
            subst hE
            have B6 := Lib.hid (P5.out.went S.out.b)
            obtain ⟨L, h1, h2, h3, h4, h5, h6⟩ := P5.out.r
            have hLl : L.length = i := by rw [← XL.out, ← h1, List.length_map]
            rw [XL.out, hLl] at h2
            have h2e := h2
            clear hLl
            have bl := Gr.step S.out.b (boxed wr (.cells #[.int .i64 (2 + (i : Int)), .slice ra j rc] 43))
            have OR := Lib.hid (Sep.ownsRow_at h2 fun g hg => bl.block g (h2.lt g hg).2)
            have PR := Lib.hid (fun a6 c6 w6 hown6 hg6 hl6 => P5.out.putR (L := L) h1 (by rw [XL.out]; exact h2e) h3 h4 h5 h6 (d := (2 + (i : Int), List.replicate j 1)) (dn := j) (by simp) (ra := ra) (rc := rc) (w3 := wr) (w4 := w6) (a4 := a6) (c4 := c6) S.out.b (by unfold IntsV; rw [List.length_replicate]; exact row_mono S.out.r (by have := S.out.lo; omega)) hown6 hg6 hl6)
            rw [XL.out] at PR
            have GB := Lib.hid (B6.out.g.went (boxed wr (.cells #[.int .i64 (2 + (i : Int)), .slice ra j rc] 43)))
            obtain ⟨y0, y1, y2, y3, yf⟩ := B6.out.g.four
            rw [XL.out] at y2
            have hgl6 : w.heap.size + 1 < wr.heap.size := B6.out.g.lt
            clear h1 h2 h2e h3 h4 h5 h6 bl
            go_wp2_with (at_builtin; go_loud (refine wpList_append_rows _ rfl _ _ 23 rfl (w.heap.size + 1 + 1) 43 t0 (.agg #[.int .i64 0, .slice none 0 0]) 2 32 Try.underlying23 ht0 tz0 tz1 tz2 rfl (by decide) (.slice a3 i c3) i (L.flatMap gc) rfl OR.out (w.heap.size + 1 + 1) (.slice (some ⟨wr.heap.size, 0, none⟩) 1 1) 1 (gc ((2 + (i : Int), List.replicate j 1), .slice ra j rc)) rfl (rule2_one (w.heap.size + 1 + 1) wr.heap.size ((2 + (i : Int), List.replicate j 1), .slice ra j rc) _ rfl (by omega)) (by simp [gc, Value.oneCell']) (by unfold maxLen; omega) (by omega) (by simp; omega) ?_); intro v6 w6 hown6 hg6 hl6; obtain ⟨a6, c6, rfl⟩ := row_shape hown6; have P6 := Lib.hid (PR.out a6 c6 w6 hown6 hg6 hl6); have V6 := Lib.hid (GB.out.grown hg6 (fun g hg => by have := (OR.out.lt g hg).1; omega)); clear hown6 hg6 hl6 y0 y1 y2 y3 yf; obtain ⟨y0, y1, y2, y3, yf⟩ := V6.out.four; have hgl7 : w.heap.size + 1 < w6.heap.size := V6.out.lt)
            have P7 := P6.out
            rw [← HX.out, ← chainTo_succ] at P7
            go_roundw
            case rel => exact ⟨i + 1, a4, c4, _, a6, c6, by omega, by go_num, P7⟩
            case measure => simp [intOf]; omega
      · have hx : chainR d m i = (2 + (i : Int), List.replicate m (3 + (i : Int))) := by
          unfold chainR
          rw [if_neg hl]
          congr 1
        have HX := Lib.hid hx
        have hqt : ((i : Int) == (d : Int) - 1) = false := by rw [beq_eq_false_iff_ne]; omega
        have S0 := Lib.hid (show SSt w5 qr (2 + (i : Int)) (3 + (i : Int)) 0 none 0 (w5.alloc (.cells #[.int .i64 (2 + (i : Int)), .slice none 0 0] 43)) from
          ⟨boxed _ _, Bk.new w5 _ _ _ (by rw [HQ.out]), World.ownsRow_nil _ _ _ _, by rw [HQ.out]; exact Nat.le_refl _⟩)
        clear hx hl
        go_loopw [10] (fun v wr => SRel w5 qr (2 + (i : Int)) (3 + (i : Int)) m v wr) (fun v _ => m - (intOf v).toNat)
        case atStart => exact ⟨0, none, 0, Nat.zero_le _, rfl, S0.out⟩
        case round =>
          clear S0
          obtain ⟨j, ra, rc, hj, rfl, hS⟩ := hrel
          have S := Lib.hid hS
          obtain ⟨r0, r1, rf⟩ := hS.q.two
          have hql : qr < wr.heap.size := hS.q.lt
          clear hS
          by_cases hlj : j < m
          · have bx := boxed wr (.cells #[.int .i64 (3 + (i : Int))] 3)
            have OI := Lib.hid (Sep.ownsRow_at S.out.r fun g hg => bx.block g (S.out.r.lt g hg).2)
            have QB := Lib.hid (S.out.q.went bx)
            clear bx
            go_wp2_with (at_builtin; go_loud (refine wpList_append_rows _ rfl _ _ 26 rfl (qr + 1) 3 n0 (.int .i64 0) 1 8 Try.underlying26 hn0 nz0 nz1 nz2 rfl (by decide) (.slice ra j rc) j (ivs (List.replicate j (3 + (i : Int)))) rfl OI.out (qr + 1) (.slice (some ⟨wr.heap.size, 0, none⟩) 1 1) 1 [.int .i64 (3 + (i : Int))] rfl (int_one (qr + 1) wr.heap.size (3 + (i : Int)) _ rfl (by omega)) (by simp [Value.oneCell']) (by unfold maxLen; omega) (by omega) (by simp; omega) ?_); intro v6 w6 hown6 hg6 hl6; obtain ⟨a6, c6, rfl⟩ := row_shape hown6; have S6 := Lib.hid (S.out.put hown6 hg6); have V6 := Lib.hid (QB.out.grown hg6 (fun g hg => by have := (OI.out.lt g hg).1; omega)); clear hown6 hg6 hl6 r0 r1 rf; obtain ⟨r0, r1, rf⟩ := V6.out.two; have hql6 : qr < w6.heap.size := V6.out.lt)
            go_roundw
            case rel => exact ⟨j + 1, a6, c6, by omega, by go_num, S6.out⟩
            case measure => simp [intOf]; omega
          · have hE : j = m := by omega
            subst hE
            have B6 := Lib.hid (P5.out.went S.out.b)
            obtain ⟨L, h1, h2, h3, h4, h5, h6⟩ := P5.out.r
            have hLl : L.length = i := by rw [← XL.out, ← h1, List.length_map]
            rw [XL.out, hLl] at h2
            have h2e := h2
            clear hLl
            have bl := Gr.step S.out.b (boxed wr (.cells #[.int .i64 (2 + (i : Int)), .slice ra j rc] 43))
            have OR := Lib.hid (Sep.ownsRow_at h2 fun g hg => bl.block g (h2.lt g hg).2)
            have PR := Lib.hid (fun a6 c6 w6 hown6 hg6 hl6 => P5.out.putR (L := L) h1 (by rw [XL.out]; exact h2e) h3 h4 h5 h6 (d := (2 + (i : Int), List.replicate j (3 + (i : Int)))) (dn := j) (by simp) (ra := ra) (rc := rc) (w3 := wr) (w4 := w6) (a4 := a6) (c4 := c6) S.out.b (by unfold IntsV; rw [List.length_replicate]; exact row_mono S.out.r (by have := S.out.lo; omega)) hown6 hg6 hl6)
            rw [XL.out] at PR
            have GB := Lib.hid (B6.out.g.went (boxed wr (.cells #[.int .i64 (2 + (i : Int)), .slice ra j rc] 43)))
            obtain ⟨y0, y1, y2, y3, yf⟩ := B6.out.g.four
            rw [XL.out] at y2
            have hgl6 : w.heap.size + 1 < wr.heap.size := B6.out.g.lt
            clear h1 h2 h2e h3 h4 h5 h6 bl
            go_wp2_with (at_builtin; go_loud (refine wpList_append_rows _ rfl _ _ 23 rfl (w.heap.size + 1 + 1) 43 t0 (.agg #[.int .i64 0, .slice none 0 0]) 2 32 Try.underlying23 ht0 tz0 tz1 tz2 rfl (by decide) (.slice a3 i c3) i (L.flatMap gc) rfl OR.out (w.heap.size + 1 + 1) (.slice (some ⟨wr.heap.size, 0, none⟩) 1 1) 1 (gc ((2 + (i : Int), List.replicate j (3 + (i : Int))), .slice ra j rc)) rfl (rule2_one (w.heap.size + 1 + 1) wr.heap.size ((2 + (i : Int), List.replicate j (3 + (i : Int))), .slice ra j rc) _ rfl (by omega)) (by simp [gc, Value.oneCell']) (by unfold maxLen; omega) (by omega) (by simp; omega) ?_); intro v6 w6 hown6 hg6 hl6; obtain ⟨a6, c6, rfl⟩ := row_shape hown6; have P6 := Lib.hid (PR.out a6 c6 w6 hown6 hg6 hl6); have V6 := Lib.hid (GB.out.grown hg6 (fun g hg => by have := (OR.out.lt g hg).1; omega)); clear hown6 hg6 hl6 y0 y1 y2 y3 yf; obtain ⟨y0, y1, y2, y3, yf⟩ := V6.out.four; have hgl7 : w.heap.size + 1 < w6.heap.size := V6.out.lt)
            have P7 := P6.out
            rw [← HX.out, ← chainTo_succ] at P7
            go_roundw
            case rel => exact ⟨i + 1, a4, c4, _, a6, c6, by omega, by go_num, P7⟩
            case measure => simp [intOf]; omega
    · have hE : i = d := by omega
      subst hE
      have NL := Lib.hid (namesTo_len i)
      have XL := Lib.hid (chainTo_len i m i)
      rw [NL.out] at x1
      rw [XL.out] at x2
      have hpl : ∀ k, k ≤ i → m ^ k ≤ 2097152 := fun k hk => pow_le (by omega) hm1 hm8
      have HPL := Lib.hid hpl
      clear hpl hlt hi
      go_wp2
      go_loopw [11, 12] (fun v1 v2 wr' => ∃ k : Nat, k ≤ i ∧ v2 = .int .i64 k ∧ v1 = .int .i64 ((m ^ k : Nat) : Int) ∧ wr = wr') (fun _ v2 _ => i - (intOf v2).toNat)
      case atStart => exact ⟨0, Nat.zero_le _, rfl, rfl, rfl⟩
      case round =>
        obtain ⟨k, hk, rfl, rfl, rfl⟩ := hrel
        by_cases hlk : k < i
        · have hp1 := HPL.out k hk
          have HP2 := Lib.hid (show ((m ^ k : Nat) : Int) * (m : Int) = ((m ^ (k + 1) : Nat) : Int) from by rw [Nat.pow_succ, Int.natCast_mul])
          have hp3 := HPL.out (k + 1) hlk
          generalize hE1 : m ^ (k + 1) = P1 at *
          have E1 := Lib.hid hE1
          clear hE1
          generalize m ^ k = P0 at *
          go_wp2
          go_roundw
          case rel => exact ⟨k + 1, by omega, by go_num, by rw [HP2.out, wrap_in hp3, E1.out], trivial⟩
          case measure => simp [intOf]; omega
        · have hE : k = i := by omega
          subst hE
          have hp := HPL.out k (Nat.le_refl _)
          have hck := Lib.hid (chain_check hd1 hd7 hm1 hm8)
          have AN := Lib.hid (show nilB (chainG k m) = false from by unfold nilB; rw [decide_eq_true hck.out]; rfl)
          have OC := Lib.hid (show Calls Try.prog 8 #[.agg #[.slice (some ⟨w.heap.size, 0, none⟩) 1 1, .slice a2 k c2, .slice a3 k c3, .int .i64 2]] wr (OfEnd2 (chainG k m) wr) from by
            have := of_any2 ⟨some ⟨w.heap.size, 0, none⟩, 1, a2, c2, a3, c3⟩ (chainG k m) wr (B.out.gat hd7 hm8)
            unfold gv at this
            rw [show (chainG k m).nons.length = k from namesTo_len k, show (chainG k m).rules.length = k from chainTo_len k m k] at this
            exact this)
          have CW := Lib.hid (fun T h1 h2 => chain_word (d := k) (m := m) (T := T) hd1 h1 h2)
          generalize m ^ k = P0 at *
          go_wp2_with fail
          refine OC.out.mono ?_
          rintro e w1 ⟨v, rfl, hv, hb, hoc⟩
          rw [AN.out] at hv
          have W1 := Lib.hid (CW.out (ansT (chainG k m)) (hoc AN.out).1 (hoc AN.out).2)
          generalize ansT (chainG k m) = T at *
          have V1 := Lib.hid hv
          have B1 := Lib.hid (Gr.step B.out.b hb)
          clear hv hb hoc OC CW hck AN x0 x1 x2 x3 xf B HPL
          have WC := Lib.hid (word_any false v T 2 w1 V1.out)
          go_wp2_with fail
          refine WC.out.mono ?_
          rintro e w2 ⟨ad, ac, rfl, hR, hb⟩
          have LC := Lib.hid (length_any false v T 2 w2 (V1.out.went hb))
          have B2 := Lib.hid (Gr.step B1.out hb)
          clear hR hb WC V1 B1
          by_cases hle : P0 ≤ 4096
          · obtain ⟨e1, e2, e3⟩ := W1.out.1 hle
            rw [e1, e2]
            rw [e3] at LC
            have dl : decide ((4096 : Int) < (P0 : Int)) = false := decide_eq_false (by omega)
            clear e1 e2 e3 W1 hle
            go_wp2_with fail
            refine LC.out.mono ?_
            rintro e w3 ⟨rfl, hb⟩
            have AC := Lib.hid (awake_any w3)
            have B3 := Lib.hid (Gr.step B2.out hb)
            clear hb LC B2
            go_wp2_with fail
            refine AC.out.mono ?_
            rintro e w4 ⟨rfl, hb⟩
            have B4 := Lib.hid (Gr.step B3.out hb)
            clear hb AC B3
            go_wp2
            go_ret
            exact ⟨rfl, B4.out⟩
          · have e1 := W1.out.2 hle
            rw [e1] at LC
            rw [e1]
            dsimp only [isA, wordA, telA, List.length_nil] at LC ⊢
            have dl : decide ((4096 : Int) < (P0 : Int)) = true := decide_eq_true (by omega)
            clear e1 W1 hle
            go_wp2_with fail
            refine LC.out.mono ?_
            rintro e w3 ⟨rfl, hb⟩
            have AC := Lib.hid (awake_any w3)
            have B3 := Lib.hid (Gr.step B2.out hb)
            clear hb LC B2
            go_wp2_with fail
            refine AC.out.mono ?_
            rintro e w4 ⟨rfl, hb⟩
            have B4 := Lib.hid (Gr.step B3.out hb)
            clear hb AC B3
            go_wp2
            go_ret
            exact ⟨rfl, B4.out⟩

end Go.Proofs.Ytpfokebbpbigdaa.Le
