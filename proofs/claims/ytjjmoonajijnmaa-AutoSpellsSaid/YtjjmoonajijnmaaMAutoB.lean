/-
  Package auto: Build, walked.
  Package auto: Build: the automaton of a grammar, or its error.
-/
import Derived.Test.YtjjmoonajijnmaaMAutoL
import Derived.Test.YtjjmoonajijnmaaMAutoT
import Derived.Test.YtjjmoonajijnmaaItemMain
namespace Go.Proofs.Ytjjmoonajijnmaa.Au
open Go.RowKit Go.Maps
open Go.Proofs.Ytjjmoonajijnmaa.Gr (Gram Sh gv GAt Box Bx checkN check_any top boxed drawn cell_new cell_old cell_later)
open Go.Proofs.Ytjjmoonajijnmaa.Im
set_option linter.unusedVariables false

/-- States and an error come back. -/
def BuildGave (G : Gram) (w : World) (e : Ending) (w' : World) : Prop := ∃ (X : List Sta) (er : Int) (a : Option Addr) (c : Nat), e = .returned (.tuple #[.slice a X.length c, .int .i64 er]) ∧ Built G er X ∧ StaA a X w' ∧ X.length ≤ c ∧ Below w.heap.size w w'

/-- A new builder. -/
theorem fresh (h : Sh) (G : Gram) (w w1 : World) (hb : Below w.heap.size w w1) (T : TypeId) :
    BAt w (w1.heap.size + 1 + 1) (fun k => w1.heap.size ≤ k ∧ k ≤ w1.heap.size + 2) h G [] (tgt []) 0
      (((w1.alloc (.map #[] 0)).alloc (.map #[] 0)).alloc (.cells #[.slice h.a1 G.terms.length h.c1, .slice h.a2 G.nons.length h.c2, .slice h.a3 G.rules.length h.c3, .int .i64 G.start, .slice none 0 0, .map (some w1.heap.size), .map (some (w1.heap.size + 1))] T)) := by
  have hs := hb.size
  have m1 : (w1.alloc (.map #[] 0)).heap.size = w1.heap.size + 1 := by simp
  have m2 : ((w1.alloc (.map #[] 0)).alloc (.map #[] 0)).heap.size = w1.heap.size + 1 + 1 := by simp
  have t1 := (TMap.made w1 Try.prog 75 3).eq fun x => (tgt_nil x).symm
  have s1 := SMap.made (w1.alloc (.map #[] 0)) Try.prog 9 3
  rw [m1] at s1
  have b1 := boxed (w1.alloc (.map #[] 0)) (.map #[] 0)
  have b2 := boxed ((w1.alloc (.map #[] 0)).alloc (.map #[] 0)) (.cells #[.slice h.a1 G.terms.length h.c1, .slice h.a2 G.nons.length h.c2, .slice h.a3 G.rules.length h.c3, .int .i64 G.start, .slice none 0 0, .map (some w1.heap.size), .map (some (w1.heap.size + 1))] T)
  have K : ∀ j v, #[Value.slice h.a1 G.terms.length h.c1, .slice h.a2 G.nons.length h.c2, .slice h.a3 G.rules.length h.c3, .int .i64 G.start, .slice none 0 0, .map (some w1.heap.size), .map (some (w1.heap.size + 1))][j]? = some v →
      (((w1.alloc (.map #[] 0)).alloc (.map #[] 0)).alloc (.cells #[.slice h.a1 G.terms.length h.c1, .slice h.a2 G.nons.length h.c2, .slice h.a3 G.rules.length h.c3, .int .i64 G.start, .slice none 0 0, .map (some w1.heap.size), .map (some (w1.heap.size + 1))] T)).cell? ⟨w1.heap.size + 1 + 1, j, none⟩ = some v := fun j v hv => cell_new m2.symm hv
  refine ⟨none, 0, w1.heap.size, w1.heap.size + 1, [], ?_⟩
  refine ⟨Gr.step hb (Gr.step (Gr.step (boxed w1 (.map #[] 0)) b1) b2), ⟨K 0 _ rfl, K 1 _ rfl, K 2 _ rfl, K 3 _ rfl⟩, K 4 _ rfl, K 5 _ rfl, K 6 _ rfl, Gr.free_new m2.symm, World.ownsRow_nil _ _ _ _, fun i hi => absurd hi (Nat.not_lt_zero i), ?_, ?_, ⟨by omega, by omega⟩, ⟨by omega, by omega⟩, ⟨by omega, by omega⟩, fun g hg => by simp [Value.ownBlock] at hg, by omega, by omega, by omega, fun g hg => by simp [Value.ownBlock] at hg, fun k hk => by omega, fun k hk => ?_⟩
  · exact t1.keep ((b2.block _ (by omega)).trans (b1.block _ (by omega)))
  · exact s1.keep (b2.block _ (by omega))
  · simp
    omega

/-- What a round of Build knows. -/
structure BdR (w : World) (p : Nat) (h : Sh) (G : Gram) (m : Nat) (wr : World) : Prop where
  own : ∃ T n, BAt w p T h G (runs G (top G) m).1 (tgt (runs G (top G) m).2) n wr ∧ n ≤ m * 2000
  going : Going G m
  few : (runs G (top G) m).1.length ≤ 2000

theorem BdR.start {w : World} {p : Nat} {T : Nat → Prop} {h : Sh} {G : Gram} {wr : World} (k : BAt w p T h G [[((G.rules.length : Int), 0)]] (tgt []) 0 wr) : BdR w p h G 0 wr := ⟨⟨T, 0, k, by omega⟩, going_zero G, by simp [runs]⟩
theorem BdR.not {w : World} {p : Nat} {h : Sh} {G : Gram} {m : Nat} {wr : World} (k : BdR w p h G m wr) (hm : m < (runs G (top G) m).1.length) : ¬ Stop (runs G (top G) m) := by
  have h1 := k.few
  have h2 := k.going.len
  unfold Stop
  omega
theorem BdR.done {w : World} {p : Nat} {h : Sh} {G : Gram} {m : Nat} {wr : World} (k : BdR w p h G m wr) (hm : ¬ m < (runs G (top G) m).1.length) : StopAt G m ∧ ¬ 2000 < (runs G (top G) m).1.length := by
  have h1 := k.few
  have h2 := k.going.len
  have h3 := (runs_ok G (top G) m).le
  exact ⟨k.going.stop (.inr (by omega)), by omega⟩
theorem BdR.many {w : World} {p : Nat} {h : Sh} {G : Gram} {m : Nat} {wr : World} (k : BdR w p h G m wr) (hm : m < (runs G (top G) m).1.length) (h9 : 2000 < (runs G (top G) (m + 1)).1.length) : StopAt G (m + 1) := (k.going.next (k.not hm)).stop (.inl h9)

end Go.Proofs.Ytjjmoonajijnmaa.Au

namespace Go.Proofs.Ytjjmoonajijnmaa.Au
open Go.RowKit Go.Maps
open Go.Proofs.Ytjjmoonajijnmaa.Gr (Gram Sh gv GAt Box Bx checkN check_any top boxed drawn cell_new cell_old cell_later)
open Go.Proofs.Ytjjmoonajijnmaa.Im
set_option linter.unusedVariables false

theorem beg_at {Y : List Itm} {a : Option Addr} {c : Nat} {w w' : World} {S : Nat → Prop} (h : ItsV 51 w.heap.size Y (.slice a Y.length c) w') (hS : ∀ k, S k → k < w.heap.size) : LAt S Y (.slice a Y.length c) w' := by
  obtain ⟨a', c', e, hc⟩ := h.shape
  simp only [Value.slice.injEq] at e
  obtain ⟨rfl, _, rfl⟩ := e
  exact ⟨a, c, rfl, hc, h.reads, fun _ b o e q => by
    have := (World.ownsRow.lt h b (by rw [e]; rfl)).1
    have := hS b q
    omega⟩
theorem beg_fit {G : Gram} {Y : List Itm} (hv : checkN G = 0) (h : Y = [((G.rules.length : Int), 0)]) : Fit3 Y := fun x hx => by
  rw [h, List.mem_singleton] at hx
  subst hx
  exact right_fit hv (right_open (Nat.le_refl _))
theorem beg_more {w : World} {p : Nat} {T : Nat → Prop} {h : Sh} {G : Gram} {Y : List Itm} {X : Itm → Option Int} {n : Nat} {w' : World} (e : Y = [((G.rules.length : Int), 0)]) (k : BAt w p T h G (moreK [] Y) X n w') : BAt w p T h G [[((G.rules.length : Int), 0)]] X n w' := by
  subst e
  exact k

set_option maxRecDepth 100000 in
set_option maxHeartbeats 4000000 in
theorem build_any (h : Sh) (G : Gram) (w : World) (k : GAt h G w) (ht : checkN G = 0 → top G ≤ 1000) :
    Calls Try.prog 14 #[gv h G] w (BuildGave G w) := by
  have C := Lib.hid (fun w1 (b : Below w.heap.size w w1) => check_any h G w1 (k.went b))
  have X := Lib.hid (Bx.start h G w 36)
  by_cases hc : checkN G = 0
  · have BG := Lib.hid (fun w1 (b : Below w.heap.size w w1) => begin_any h G w1 (k.went b))
    have KG := Lib.hid k
    replace ht := ht hc
    rw [hc] at C
    have hmm := @run_makeMap Try.prog
    clear k
    unfold gv at C BG ⊢
    go_enter Try.func14, Try.ntmps14
    go_wp2_with (first
      | (go_at_call 24; refine (C.out _ X.out.below).mono ?_; rintro e w1 ⟨rfl, hb⟩; have X1 := Lib.hid (X.out.went hb); obtain ⟨g0, g1, g2, g3⟩ := X1.out.box; have hq : w.heap.size < w1.heap.size := World.block_lt_of_cell? w1 ⟨w.heap.size, 0, none⟩ g0; have hq2 : w.heap.size < w1.heap.size + 1 := (by omega); have hq3 : w.heap.size < w1.heap.size + 1 + 1 := (by omega); have B0 := Lib.hid (fresh h G w w1 X1.out.below 62); have X2 := Lib.hid (((X1.out.alloc (.map #[] 0)).alloc (.map #[] 0)).alloc (.cells #[.slice h.a1 G.terms.length h.c1, .slice h.a2 G.nons.length h.c2, .slice h.a3 G.rules.length h.c3, .int .i64 G.start, .slice none 0 0, .map (some w1.heap.size), .map (some (w1.heap.size + 1))] 62)); clear hb)
      | (go_at_call 26; refine (BG.out _ X2.out.below).mono ?_; rintro e w3 ⟨Y, a3, c3, rfl, y1, y2, y3⟩; have HY := Lib.hid (show Y = [((G.rules.length : Int), 0)] from (y1.iff (Q := fun x => x = ((G.rules.length : Int), 0)) fun x => ⟨fun q => q.2, fun q => ⟨hc, q⟩⟩).uniq ⟨srt_one _, fun x => List.mem_singleton⟩); have U3 := Lib.hid (beg_at y2 B0.out.inn); have B3 := Lib.hid (B0.out.went y3); have X3 := Lib.hid (X2.out.went y3); clear y1 y2 y3)
      | (go_at_call 25; refine (number_any _ B3.out Y a3 c3 U3.out (beg_fit hc HY.out) (fun x hx => by cases hx) List.nodup_nil (Nat.zero_le _) (by rw [HY.out]; simp)).mono ?_; rintro e w4 ⟨rfl, T4, b4, f4, x4, _⟩; have R0 := Lib.hid (BdR.start (beg_more HY.out b4)); clear b4 f4 x4))
    clear C BG X hmm
    go_loopw [6] (fun i wr => ∃ m : Nat, i = .int .i64 m ∧ m ≤ 2000 ∧ BdR w (w1.heap.size + 1 + 1) h G m wr) (fun i _ => 2001 - (intOf i).toNat)
    case atStart => exact ⟨0, rfl, Nat.zero_le _, R0.out⟩
    case round =>
      obtain ⟨m, rfl, hm, hR⟩ := hrel
      have R := Lib.hid hR
      clear hR R0
      obtain ⟨⟨T, n, hB, hn⟩, hg, hfew⟩ := R.out
      have hgl := hg.len
      by_cases hlt : m < (runs G (top G) m).1.length
      · have LV := leave_any (W := w) wr hB KG.out hc ht (runs_ok G (top G) m) (by omega) (by omega) (by omega)
        rw [hgl] at LV
        have LVh := Lib.hid LV
        have NX := Lib.hid (fun (hs : ¬ 2000 < (runs G (top G) (m + 1)).1.length) => (show Going G (m + 1) ∧ (runs G (top G) (m + 1)).1.length ≤ 2000 from ⟨hg.next (R.out.not hlt), by omega⟩))
        have MY := Lib.hid (R.out.many hlt)
        obtain ⟨a0, c0, bt, bn, us, k0⟩ := hB
        have q4 := k0.items
        clear k0 LV
        go_wp2_with (go_at_call 27; refine LVh.out.mono ?_; rintro e w5 ⟨rfl, T5, n5, b5, l5, f5, x5⟩; obtain ⟨a5, c5, bt5, bn5, us5, k5⟩ := b5; have K5 := Lib.hid k5; have q5 : w5.cell? ⟨w1.heap.size + 1 + 1, 4, none⟩ = some (.slice a5 (runs G (top G) (m + 1)).1.length c5) := k5.items; clear k5 f5 x5)
        · go_ret2
          exact ⟨[], 7, none, 0, rfl, .many hc (MY.out (by omega)) (by omega), .nil _ _, Nat.le_refl _, K5.out.below⟩
        · obtain ⟨n1, n2⟩ := NX.out (by omega)
          refine ⟨⟨m + 1, by go_num, by omega, ⟨⟨T5, n5, ⟨a5, c5, bt5, bn5, us5, K5.out⟩, by omega⟩, n1, n2⟩⟩, ?_⟩
          simp [intOf]
          omega
      · obtain ⟨d1, d2⟩ := R.out.done hlt
        have SA := Lib.hid (states_any (W := w) wr hB KG.out ht (by omega))
        have DN := Lib.hid (d1.done d2)
        have AO := Lib.hid (allOf_all DN.out)
        obtain ⟨a0, c0, bt, bn, us, k0⟩ := hB
        have q4 := k0.items
        have HW := Lib.hid k0.below
        clear k0
        go_wp2_with (go_at_call 28; refine SA.out.mono ?_; rintro e w5 ⟨a5, c5, rfl, s1, s2, s3⟩; have S1 := Lib.hid s1; have S2 := Lib.hid s2; have S3 := Lib.hid (Gr.step HW.out s3); clear s1 s2 s3)
        go_ret2
        exact ⟨_, 0, a5, c5, rfl, AO.out ▸ .all hc d1 d2, S1.out, S2.out, S3.out⟩
  · have hcb : (checkN G != 0) = true := by simpa using hc
    clear k
    unfold gv at C ⊢
    go_enter Try.func14, Try.ntmps14
    go_wp2_with (go_at_call 24; refine (C.out _ X.out.below).mono ?_; rintro e w1 ⟨rfl, hb⟩; have X1 := Lib.hid (X.out.went hb); clear hb)
    go_ret2
    exact ⟨[], checkN G, none, 0, rfl, .bad hc, .nil _ _, Nat.le_refl _, X1.out.below⟩

end Go.Proofs.Ytjjmoonajijnmaa.Au
