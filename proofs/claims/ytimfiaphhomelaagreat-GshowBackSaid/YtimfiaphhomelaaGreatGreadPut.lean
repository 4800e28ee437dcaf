/-
  The maker: an unknown name; a name more; a symbol of a right side. Condition: a name fits a machine.
-/
import Derived.Test.YtimfiaphhomelaaGreatGreadMaker
namespace Go.Proofs.YtimfiaphhomelaaGreat.Rd
open Go.RowKit Go.Maps
open Go.Proofs.YtimfiaphhomelaaGreat.Tk (Tok tcs cells cells_length cells_snoc Just info_tok cells_three_new)
set_option linter.unusedVariables false
set_option linter.unusedSimpArgs false

set_option maxRecDepth 100000 in
set_option maxHeartbeats 2000000 in
theorem unknown_any {m : Nat} {S : Nat → Prop} {lf : List ByteArray} {st : MSt} (w : World) (h : MAt m S lf st w) (t : Tok) (hs : t.s.size ≤ maxLen) :
    Calls Tryz.prog 112 #[.pointer (some ⟨m, 0, none⟩), tokV t] w fun e w' => e = .returned (.bool (unkB st.L1 lf t)) ∧ Below w.heap.size w w' := by
  have DC := Lib.hid (fun w1 (hb : Below w.heap.size w w1) => declared_any w1 (h.went hb) t hs)
  have LC := Lib.hid (fun w1 (hb : Below w.heap.size w w1) => left_any w1 (h.went hb) t hs)
  have bx := Gr.boxed w (.cells #[.int .i64 t.k, .string t.s, .int .i64 (t.at_ : Int)] 75)
  have BX := Lib.hid bx
  have N := Lib.hid (Bk.new w #[.int .i64 t.k, .string t.s, .int .i64 (t.at_ : Int)] 75 _ rfl)
  clear h bx
  unfold unkB
  cases hk : (t.k == 1) with
  | false =>
    go_enter Tryz.func112, Tryz.ntmps112
    go_wp2
    go_ret
    exact ⟨rfl, BX.out⟩
  | true =>
    cases hd : It.isIn st.L1 t.s with
    | true =>
      rw [hd] at DC
      clear hd
      go_enter Tryz.func112, Tryz.ntmps112
      go_wp2_with (go_at_call 84; refine (DC.out _ BX.out).mono ?_; rintro e w' ⟨rfl, hb⟩; have HB := Lib.hid (Gr.step BX.out hb); clear hb)
      go_ret
      exact ⟨rfl, HB.out⟩
    | false =>
      rw [hd] at DC
      generalize It.isIn lf t.s = bb at LC
      clear hd
      go_enter Tryz.func112, Tryz.ntmps112
      go_wp2_with (first
        | (go_at_call 84; refine (DC.out _ BX.out).mono ?_; rintro e w' ⟨rfl, hb⟩; have HB := Lib.hid (Gr.step BX.out hb); obtain ⟨x0, x1, x2, xf⟩ := (N.out.went hb).three; clear hb)
        | (go_at_call 108; refine (LC.out _ HB.out).mono ?_; rintro e w'' ⟨rfl, hb⟩; have HC := Lib.hid (Gr.step HB.out hb); clear hb))
      go_ret
      exact ⟨rfl, HC.out⟩

/-- What a put answers. -/
def PGave (p : Nat) (S : Nat → Prop) (x : Mo (List ByteArray)) (w : World) (e : Ending) (w' : World) : Prop := match x with
  | .ok L => e = .returned (.tuple #[]) ∧ ∃ T, It.NmAt p T 120 L w' ∧ Sep.Fr S w w' ∧ Sep.Ext T S w
  | .no e1 q => e = .panicked (Ref e1 q) ∧ Sep.Fr S w w'

set_option maxRecDepth 100000 in
set_option maxHeartbeats 2000000 in
theorem put_any {p : Nat} {S : Nat → Prop} {L : List ByteArray} (w : World) (h : It.NmAt p S 120 L w) (t : Tok) (hs : t.s.size ≤ maxLen) :
    Calls Tryz.prog 86 #[.pointer (some ⟨p, 0, none⟩), tokV t] w (PGave p S (putM L t) w) := by
  have bx := Gr.boxed w (.cells #[.int .i64 t.k, .string t.s, .int .i64 (t.at_ : Int)] 75)
  have PC := Lib.hid (It.put_any (w.alloc (.cells #[.int .i64 t.k, .string t.s, .int .i64 (t.at_ : Int)] 75)) (h.went bx) t.s hs)
  have BX := Lib.hid bx
  have N := Lib.hid (Bk.new w #[.int .i64 t.k, .string t.s, .int .i64 (t.at_ : Int)] 75 _ rfl)
  have IN := Lib.hid h.inn
  have RF := Lib.hid (fun w1 => refuse_any t 7 w1)
  unfold putM
  by_cases he : It.putE 120 L t.s = 0
  · rw [if_pos he]
    rw [he] at PC
    generalize It.putL 120 L t.s = L' at PC
    generalize It.putN 120 L t.s = k at PC
    clear he h bx
    go_enter Tryz.func86, Tryz.ntmps86
    go_wp2_with (go_at_call 110; refine PC.out.mono ?_; rintro e w1 ⟨rfl, T, hT, hF, hX⟩; have HT := Lib.hid hT; have HF := Lib.hid hF; have HX := Lib.hid hX; clear hT hF hX)
    go_end0
    exact ⟨rfl, T, HT.out, (Sep.Fr.of_below (S := S) BX.out).trans HF.out (fun k hk => .inl hk), HX.out.at BX.out.size⟩
  · rw [if_neg he]
    have hne : ((It.putE 120 L t.s : Int) != 0) = true := by simpa using he
    generalize It.putL 120 L t.s = L' at PC
    generalize It.putN 120 L t.s = k at PC
    generalize It.putE 120 L t.s = pe at PC hne
    clear he h bx
    go_enter Tryz.func86, Tryz.ntmps86
    go_wp2_with (first
      | (go_at_call 110; refine PC.out.mono ?_; rintro e w1 ⟨rfl, T, hT, hF, hX⟩; have HF := Lib.hid ((Sep.Fr.of_below (S := S) BX.out).trans hF (fun k hk => .inl hk)); obtain ⟨x0, x1, x2, xf⟩ := (N.out.fr hF (fun hk => by have := IN.out _ hk; omega)).three; clear hT hF hX)
      | (go_at_call 85; refine (RF.out _).mono ?_; rintro e w2 ⟨rfl, hb⟩; have HG := Lib.hid (HF.out.trans (Sep.Fr.of_below (S := S) hb) (fun k hk => .inl hk)); clear hb))
    exact ⟨rfl, rfl, HG.out⟩

/-! ### What a put makes of the maker -/

theorem MParts.put1 {m : Nat} {S : Nat → Prop} {lf : List ByteArray} {st : MSt} {b1 n1 b2 p1 p2 : Nat} {S1 S2 T1 : Nat → Prop} {D1 D2 : DataW Unit} {w w' : World} {L : List ByteArray} (h : MParts m S lf st b1 n1 b2 p1 p2 S1 S2 D1 D2 w)
    (hT : It.NmAt p1 T1 120 L w') (hF : Sep.Fr S1 w w') (hX : Sep.Ext T1 S1 w) : ∃ T, MAt m T lf { st with L1 := L } w' ∧ Sep.Fr S w w' ∧ Sep.Ext T S w := by
  have e (k : Nat) (hk : S k) (hn : ¬ S1 k) := hF.block k (h.inn k hk) hn
  have off2 : ∀ k, S2 k → ¬ S1 k := fun k h2 h1 => h.off k h1 h2
  have nT : ∀ k, S k → ¬ S1 k → ¬ T1 k := fun k hk hn ht => by
    rcases hX k ht with h1 | h1
    · exact hn h1
    · have := h.inn k hk; omega
  refine ⟨fun k => S k ∨ T1 k, ⟨b1, n1, b2, p1, p2, T1, S2, D1, D2, ?_⟩, hF.mono h.s1, fun k hk => hk.elim .inl fun ht => (hX k ht).imp (h.s1 k) id⟩
  exact ⟨(World.cell?_of_block (a := ⟨m, 0, none⟩) (e m h.sm h.m1.1)).trans h.c0, (World.cell?_of_block (a := ⟨m, 1, none⟩) (e m h.sm h.m1.1)).trans h.c1, (World.cell?_of_block (a := ⟨m, 2, none⟩) (e m h.sm h.m1.1)).trans h.c2, (World.cell?_of_block (a := ⟨m, 3, none⟩) (e m h.sm h.m1.1)).trans h.c3, (World.cell?_of_block (a := ⟨m, 4, none⟩) (e m h.sm h.m1.1)).trans h.c4,
    (World.frozen?_of_block (a := ⟨m, 4, none⟩) (e m h.sm h.m1.1)).trans h.free, Sep.ownsMap_at h.map1 (e b1 h.sb1 h.x1.1), Sep.ownsMap_at h.map2 (e b2 h.sb2 h.x2.1), h.k1, h.k2, h.z2, h.t2,
    hT, h.nm2.keep hF.size (fun k hk hS => hF.block k hk (off2 k hS)), .inl h.sm, .inl h.sb1, .inl h.sb2, (fun k hk => .inr hk), (fun k hk => .inl (h.s2 k hk)), (fun k hk => hk.elim (fun hs => Nat.lt_of_lt_of_le (h.inn k hs) hF.size) (fun ht => hT.inn k ht)),
    h.mb, ⟨nT m h.sm h.m1.1, h.m1.2⟩, ⟨nT b1 h.sb1 h.x1.1, h.x1.2⟩, ⟨nT b2 h.sb2 h.x2.1, h.x2.2⟩, fun k ht h2 => nT k (h.s2 k h2) (off2 k h2) ht⟩

theorem MParts.put2 {m : Nat} {S : Nat → Prop} {lf : List ByteArray} {st : MSt} {b1 n1 b2 p1 p2 : Nat} {S1 S2 T2 : Nat → Prop} {D1 D2 : DataW Unit} {w w' : World} {L : List ByteArray} (h : MParts m S lf st b1 n1 b2 p1 p2 S1 S2 D1 D2 w)
    (hT : It.NmAt p2 T2 120 L w') (hF : Sep.Fr S2 w w') (hX : Sep.Ext T2 S2 w) : ∃ T, MAt m T lf { st with L2 := L } w' ∧ Sep.Fr S w w' ∧ Sep.Ext T S w := by
  have e (k : Nat) (hk : S k) (hn : ¬ S2 k) := hF.block k (h.inn k hk) hn
  have off1 : ∀ k, S1 k → ¬ S2 k := fun k h1 h2 => h.off k h1 h2
  have nT : ∀ k, S k → ¬ S2 k → ¬ T2 k := fun k hk hn ht => by
    rcases hX k ht with h1 | h1
    · exact hn h1
    · have := h.inn k hk; omega
  refine ⟨fun k => S k ∨ T2 k, ⟨b1, n1, b2, p1, p2, S1, T2, D1, D2, ?_⟩, hF.mono h.s2, fun k hk => hk.elim .inl fun ht => (hX k ht).imp (h.s2 k) id⟩
  exact ⟨(World.cell?_of_block (a := ⟨m, 0, none⟩) (e m h.sm h.m1.2)).trans h.c0, (World.cell?_of_block (a := ⟨m, 1, none⟩) (e m h.sm h.m1.2)).trans h.c1, (World.cell?_of_block (a := ⟨m, 2, none⟩) (e m h.sm h.m1.2)).trans h.c2, (World.cell?_of_block (a := ⟨m, 3, none⟩) (e m h.sm h.m1.2)).trans h.c3, (World.cell?_of_block (a := ⟨m, 4, none⟩) (e m h.sm h.m1.2)).trans h.c4,
    (World.frozen?_of_block (a := ⟨m, 4, none⟩) (e m h.sm h.m1.2)).trans h.free, Sep.ownsMap_at h.map1 (e b1 h.sb1 h.x1.2), Sep.ownsMap_at h.map2 (e b2 h.sb2 h.x2.2), h.k1, h.k2, h.z2, h.t2,
    h.nm1.keep hF.size (fun k hk hS => hF.block k hk (off1 k hS)), hT, .inl h.sm, .inl h.sb1, .inl h.sb2, (fun k hk => .inl (h.s1 k hk)), (fun k hk => .inr hk), (fun k hk => hk.elim (fun hs => Nat.lt_of_lt_of_le (h.inn k hs) hF.size) (fun ht => hT.inn k ht)),
    h.mb, ⟨h.m1.1, nT m h.sm h.m1.2⟩, ⟨h.x1.1, nT b1 h.sb1 h.x1.2⟩, ⟨h.x2.1, nT b2 h.sb2 h.x2.2⟩, fun k h1 ht => nT k (h.s1 k h1) (off1 k h1) ht⟩

/-- What a method of the maker answers, and what is there behind it. -/
def MGave (m : Nat) (S : Nat → Prop) (lf : List ByteArray) (x : Mo MSt) (w : World) (e : Ending) (w' : World) : Prop := match x with
  | .ok st => e = .returned (.tuple #[]) ∧ ∃ T, MAt m T lf st w' ∧ Sep.Fr S w w' ∧ Sep.Ext T S w
  | .no e1 q => e = .panicked (Ref e1 q) ∧ Sep.Fr S w w'

theorem fr_of {S : Nat → Prop} {w w1 w2 : World} (h : Below w.heap.size w w1) (k : Sep.Fr S w1 w2) : Sep.Fr S w w2 := (Sep.Fr.of_below (S := S) h).trans k fun _ hk => .inl hk
theorem fr_then {S : Nat → Prop} {w w1 w2 : World} (h : Sep.Fr S w w1) (k : Below w1.heap.size w1 w2) : Sep.Fr S w w2 := h.trans (Sep.Fr.of_below (S := S) k) fun _ hk => .inl hk

end Go.Proofs.YtimfiaphhomelaaGreat.Rd
