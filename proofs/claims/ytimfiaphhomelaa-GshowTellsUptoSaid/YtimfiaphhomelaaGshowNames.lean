/-
  gshow's joined and names: texts one behind the other; a blank and the name for each symbol. Conditions: at most 2^40 bytes.
-/
import Derived.Test.YtimfiaphhomelaaGshowBuild
import Derived.Test.YtimfiaphhomelaaGramName
namespace Go.Proofs.Ytimfiaphhomelaa.Sw
open Go.RowKit Go.Maps
open Go.Proofs.Ytimfiaphhomelaa.Gr (Gram GAt Sh gv Is Bx)
set_option linter.unusedVariables false
set_option linter.unusedSimpArgs false

theorem join_flat (xs : List (List UInt8)) : Lib.join xs [] = xs.flatten := by
  cases xs with
  | nil => rfl
  | cons x r =>
    rw [Lib.join_cons]
    unfold Lib.joinTail
    simp

/-- Texts in a slice, one behind the other. -/
theorem joined_any (bk o c : Nat) (xs : List ByteArray) (w : World) (hcells : ∀ (j : Nat) x, xs[j]? = some x → w.cell? ⟨bk, o + j, none⟩ = some (.string x)) (hbk : bk < w.heap.size) (hN : xs.length ≤ 100) (hcap : xs.length ≤ c) (hlen : ((xs.map (·.data.toList)).flatten).length ≤ 140737488355328) :
    Calls Try.prog 12 #[.slice (some ⟨bk, o, none⟩) xs.length c] w (Is (.string (str (xs.map (·.data.toList)).flatten)) w) := by
  have J := Lib.hid (Try.strings_Join bk o c xs ⟨#[]⟩ w hcells hbk (by omega) hcap (by show (Lib.join _ []).length ≤ _; rw [join_flat]; exact hlen))
  have hr : (⟨(Lib.join (xs.map (·.data.toList)) (⟨#[]⟩ : ByteArray).data.toList).toArray⟩ : ByteArray) = str (xs.map (·.data.toList)).flatten := by
    show (⟨(Lib.join (xs.map (·.data.toList)) []).toArray⟩ : ByteArray) = _
    rw [join_flat]
    rfl
  rw [hr] at J
  generalize str (xs.map (·.data.toList)).flatten = S at *
  clear hr hcells hbk hlen
  generalize xs.length = n at *
  go_enter Try.func12, Try.ntmps12
  go_wp2_with (go_at_call 28; refine J.out.mono ?_; rintro e w1 ⟨rfl, hb⟩)
  go_ret
  exact ⟨rfl, hb⟩

/-- Names stand for themselves. -/
theorem nm_str (G : Gram) (x : Int) : str (nmL G x) = Gr.nameS G x := str_of _

theorem right_mono (G : Gram) (l : List Int) (k : Nat) : (rightL G (l.take k)).length ≤ (rightL G l).length := by
  have h : rightL G l = rightL G (l.take k) ++ rightL G (l.drop k) := by
    unfold rightL
    rw [← List.flatMap_append, List.take_append_drop]
  rw [h, List.length_append]
  omega

set_option maxHeartbeats 4000000 in
set_option maxRecDepth 100000 in
theorem names_any (h : Sh) (G : Gram) (l : List Int) (ra : Option Addr) (rc : Nat) (w : World) (k : GAt h G w) (hl : Sep.Reads ra (l.map (.int .i64)) w) (hn : l.length ≤ 17592186044416) (hlen : (rightL G l).length ≤ 1099511627776) :
    Calls Try.prog 20 #[gv h G, .slice ra l.length rc] w (Is (.string (str (rightL G l))) w) := by
  have X := Lib.hid (Bx.start h G w 25)
  have HB := Lib.hid (Bd.new (w.alloc (.cells #[.slice h.a1 G.terms.length h.c1, .slice h.a2 G.nons.length h.c2, .slice h.a3 G.rules.length h.c3, .int .i64 G.start] 25)))
  have K := Lib.hid k
  have HL := Lib.hid hl
  have HM := Lib.hid hlen
  clear k hl hlen
  unfold gv
  go_enter Try.func20, Try.ntmps20
  go_wp2
  have HF := Lib.hid (show Below w.heap.size w ((w.alloc (.cells #[.slice h.a1 G.terms.length h.c1, .slice h.a2 G.nons.length h.c2, .slice h.a3 G.rules.length h.c3, .int .i64 G.start] 25)).alloc (.cells #[.pointer none, .slice none 0 0] 45)) from Gr.step X.out.below (Gr.boxed _ _))
  have XB := Lib.hid (X.out.alloc (.cells #[.pointer none, .slice none 0 0] 45)).box
  have hsz : (w.alloc (.cells #[.slice h.a1 G.terms.length h.c1, .slice h.a2 G.nons.length h.c2, .slice h.a3 G.rules.length h.c3, .int .i64 G.start] 25)).heap.size = w.heap.size + 1 := by simp
  rw [hsz] at HB
  clear X hsz
  generalize (w.alloc (.cells #[.slice h.a1 G.terms.length h.c1, .slice h.a2 G.nons.length h.c2, .slice h.a3 G.rules.length h.c3, .int .i64 G.start] 25)).alloc (.cells #[.pointer none, .slice none 0 0] 45) = W2 at *
  go_loopw [10] (fun i wr => ∃ k, k ≤ l.length ∧ i = .int .i64 (k : Int) ∧ Bd (w.heap.size + 1) (rightL G (l.take k)) wr ∧ Below (w.heap.size + 1) W2 wr) (fun i _ => l.length - (intOf i).toNat)
  case atStart => exact ⟨0, Nat.zero_le _, rfl, HB.out, Below.refl _ _⟩
  case round =>
    obtain ⟨k, hk, rfl, hbd, hbel⟩ := hrel
    have BD := Lib.hid hbd
    have BL := Lib.hid hbel
    have B0 := Lib.hid (show Below w.heap.size w wr from HF.out.trans (hbel.mono (Nat.le_succ _)))
    clear hbd hbel
    by_cases hlt : k < l.length
    · have hx := right_take (G := G) hlt
      have hle := right_mono G l (k + 1)
      have hM := HM.out
      rw [hx, List.length_append] at hle
      have hle2 : (rightL G (l.take k)).length + (nmL G l[k]).length + 1 ≤ 1099511627776 := by simp at hle; omega
      have he : (Gr.nameS G l[k]).size = (nmL G l[k]).length := by unfold nmL; simp
      have W1 := Lib.hid (write_any (w.heap.size + 1) (rightL G (l.take k)) ⟨#[32]⟩ wr BD.out (by show _ + 1 ≤ _; omega))
      have NM := Lib.hid (fun w' (b : Below w.heap.size w w') => Gr.name_any h G l[k] w' (K.out.went b))
      have W3 := Lib.hid (fun w' (b : Bd (w.heap.size + 1) (rightL G (l.take k) ++ [32]) w') => write_any (w.heap.size + 1) (rightL G (l.take k) ++ [32]) (Gr.nameS G l[k]) w' b (by rw [List.length_append, he]; show _ + 1 + _ ≤ _; omega))
      have HX := Lib.hid hx
      obtain ⟨b0, o0, e, hc⟩ := (HL.out.below B0.out (Nat.le_refl _)) k (by simpa using hlt)
      subst e
      simp only [List.getElem_map] at hc
      clear hx hle hM hle2 he
      generalize l[k] = x at *
      go_wp2_with (first
        | (go_at_call 29; ((with_reducible refine W1.out.mono ?_)); rintro e w1 ⟨rfl, hd1, hb1⟩; have D1 := Lib.hid hd1; have L1 := Lib.hid (BL.out.trans hb1); have B1 := Lib.hid (B0.out.trans (hb1.mono (Nat.le_succ _))); (obtain ⟨x0, x1, x2, x3⟩ := (show Gr.Box w.heap.size h G w1 from ⟨(L1.out.cell (p := ⟨w.heap.size, 0, none⟩) (Nat.lt_succ_self _)).trans XB.out.x0, (L1.out.cell (p := ⟨w.heap.size, 1, none⟩) (Nat.lt_succ_self _)).trans XB.out.x1, (L1.out.cell (p := ⟨w.heap.size, 2, none⟩) (Nat.lt_succ_self _)).trans XB.out.x2, (L1.out.cell (p := ⟨w.heap.size, 3, none⟩) (Nat.lt_succ_self _)).trans XB.out.x3⟩)); clear hd1 hb1)
        | (go_at_call 19; refine (NM.out _ B1.out).mono ?_; rintro e w2 ⟨rfl, hb2⟩; have D2 := Lib.hid (D1.out.went hb2); have L2 := Lib.hid (L1.out.trans (hb2.mono (Nat.le_of_lt D1.out.lt))); clear hb2)
        | (go_at_call 29; ((with_reducible refine (W3.out _ D2.out).mono ?_)); rintro e w3 ⟨rfl, hd3, hb3⟩; have D3 := Lib.hid hd3; have L3 := Lib.hid (L2.out.trans hb3); clear hd3 hb3)
        | fail)
      go_round
      case rel => exact ⟨k + 1, by omega, by go_num, by rw [HX.out]; have := D3.out; rw [List.append_assoc] at this; exact this, L3.out⟩
      case measure => simp [intOf]; omega
    · obtain rfl : k = l.length := by omega
      have BD2 := Lib.hid (string_any _ _ _ BD.out)
      rw [List.take_length] at BD2
      clear hlt hk
      go_wp2_with (go_at_call 30; refine BD2.out.mono ?_; rintro e w1 ⟨rfl, hb⟩)
      go_ret
      exact ⟨rfl, B0.out.trans (hb.mono (Nat.le_succ _))⟩

end Go.Proofs.Ytimfiaphhomelaa.Sw
