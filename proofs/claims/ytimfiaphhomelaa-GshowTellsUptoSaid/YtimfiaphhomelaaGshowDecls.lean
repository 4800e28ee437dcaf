/-
  gshow's declarations. Conditions: at most 2^40 bytes.
-/
import Derived.Test.YtimfiaphhomelaaGshowRule
namespace Go.Proofs.Ytimfiaphhomelaa.Sw
open Go.RowKit Go.Maps
open Go.Proofs.Ytimfiaphhomelaa.Gr (Gram GAt Sh gv Is Bx)
set_option linter.unusedVariables false
set_option linter.unusedSimpArgs false

/-- Names with a blank between each two, behind a blank. -/
theorem join_terms (L : List ByteArray) (h : L ≠ []) : 32 :: Lib.join (L.map (·.data.toList)) [32] = termsL L := by
  cases L with
  | nil => exact absurd rfl h
  | cons s r =>
    rw [List.map_cons, Lib.join_cons]
    unfold Lib.joinTail termsL
    rw [List.flatMap_cons, List.map_map]
    congr 2

theorem join_any (h : Sh) (G : Gram) (w : World) (k : GAt h G w) (hne : G.terms ≠ []) (hlen : (termsL G.terms).length ≤ 1099511627776) :
    Calls Try.prog 28 #[.slice h.a1 G.terms.length h.c1, .string ⟨#[32]⟩] w (Is (.string (str (Lib.join (G.terms.map (·.data.toList)) [32]))) w) := by
  have hl : 0 < G.terms.length := List.length_pos_iff.2 hne
  obtain ⟨b, o, e, hc⟩ := k.terms 0 (by simpa using hl)
  rw [e]
  have hj := join_terms G.terms hne
  have t := k.t2
  refine (Try.strings_Join b o h.c1 G.terms ⟨#[32]⟩ w (fun j x hx => ?_) (World.block_lt_of_cell? _ _ hc) (by omega) k.t1 ?_).mono fun e w' hh => hh
  · obtain ⟨hj, rfl⟩ := List.getElem?_eq_some_iff.1 hx
    obtain ⟨b', o', e', hc'⟩ := k.terms j (by simpa using hj)
    rw [e] at e'
    simp only [Option.some.injEq, Addr.mk.injEq, and_true] at e'
    obtain ⟨rfl, rfl⟩ := e'
    simpa using hc'
  · show (Lib.join (G.terms.map (·.data.toList)) [32]).length ≤ _
    rw [← hj] at hlen
    simp at hlen
    omega

set_option maxHeartbeats 400000 in
set_option maxRecDepth 100000 in
theorem decls_any (h : Sh) (G : Gram) (w : World) (k : GAt h G w) (hlen : (tokenL G ++ startL G).length ≤ 1099511627776) (hlt : (termsL G.terms).length ≤ 1099511627776) :
    Calls Try.prog 13 #[gv h G] w (Is (.string (str (tokenL G ++ startL G))) w) := by
  have X := Lib.hid (Bx.start h G w 25)
  have hs : (startL G).length ≤ 1099511627776 := by rw [List.length_append] at hlen; omega
  have NM := Lib.hid (fun w' (b : Below w.heap.size w w') => Gr.name_any h G G.start w' (k.went b))
  have JS := Lib.hid (fun w' => joined_three ⟨#[37, 115, 116, 97, 114, 116, 32]⟩ (Gr.nameS G G.start) ⟨#[10]⟩ w' (by show (startL G).length ≤ _; omega))
  have hS : str ((⟨#[37, 115, 116, 97, 114, 116, 32]⟩ : ByteArray).data.toList ++ ((Gr.nameS G G.start).data.toList ++ (⟨#[10]⟩ : ByteArray).data.toList)) = str (startL G) := rfl
  rw [hS] at JS
  have K := Lib.hid k
  have t2 := k.t2
  clear k
  by_cases hne : G.terms = []
  · have hR : str (tokenL G ++ startL G) = str (startL G) := by unfold tokenL; rw [if_pos (by rw [hne]; rfl)]; rfl
    have h0 : G.terms.length < 1 := by rw [hne]; exact Nat.zero_lt_one
    rw [hR]
    clear hR hS hlen hlt hne
    generalize str (startL G) = S at *
    generalize Gr.nameS G G.start = nm at *
    unfold gv
    go_enter Try.func13, Try.ntmps13
    go_wp2_with (first
      | (go_at_call 19; refine (NM.out _ X.out.below).mono ?_; rintro e w1 ⟨rfl, hb⟩; have X1 := Lib.hid (X.out.went hb); clear hb; obtain ⟨_, x0, x1, x2, x3⟩ := X1.out)
      | (go_at_call 12; refine (JS.out _).mono ?_; rintro e w2 ⟨rfl, hb⟩; have X2 := Lib.hid ((X1.out.alloc _).went hb); clear hb x0 x1 x2 x3; obtain ⟨_, x0, x1, x2, x3⟩ := X2.out)
      | fail)
    go_ret
    exact ⟨rfl, X2.out.below⟩
  · have hl : 0 < G.terms.length := List.length_pos_iff.2 hne
    have JT := Lib.hid (fun w' (b : Below w.heap.size w w') => join_any h G w' (K.out.went b) hne hlt)
    have hj := join_terms G.terms hne
    have hR : str ((⟨#[37, 116, 111, 107, 101, 110, 32]⟩ : ByteArray).data.toList ++ ((str (Lib.join (G.terms.map (·.data.toList)) [32])).data.toList ++ ((⟨#[10]⟩ : ByteArray).data.toList ++ (str (startL G)).data.toList))) = str (tokenL G ++ startL G) := by
      unfold tokenL
      rw [if_neg (by omega), str_data, str_data, ← hj]
      refine congrArg str ?_
      simp
    have JR := Lib.hid (fun w' => joined_four ⟨#[37, 116, 111, 107, 101, 110, 32]⟩ (str (Lib.join (G.terms.map (·.data.toList)) [32])) ⟨#[10]⟩ (str (startL G)) w' (by
      have e := congrArg (fun s : ByteArray => s.size) hR
      simp only [str_size] at e
      rw [e]
      omega))
    rw [hR] at JR
    clear hR hS hlen hlt hj hne
    generalize str (tokenL G ++ startL G) = R at *
    generalize str (startL G) = S at *
    generalize str (Lib.join (G.terms.map (·.data.toList)) [32]) = J at *
    generalize Gr.nameS G G.start = nm at *
    unfold gv
    go_enter Try.func13, Try.ntmps13
    go_wp2_with (first
      | (go_at_call 19; refine (NM.out _ X.out.below).mono ?_; rintro e w1 ⟨rfl, hb⟩; have X1 := Lib.hid (X.out.went hb); clear hb; obtain ⟨_, x0, x1, x2, x3⟩ := X1.out)
      | (go_at_call 12; ((with_reducible refine (JS.out _).mono ?_)); rintro e w2 ⟨rfl, hb⟩; have X2 := Lib.hid ((X1.out.alloc _).went hb); clear hb x0 x1 x2 x3; obtain ⟨_, x0, x1, x2, x3⟩ := X2.out)
      | (go_at_call 28; refine (JT.out _ X2.out.below).mono ?_; rintro e w3 ⟨rfl, hb⟩; have X3 := Lib.hid (X2.out.went hb); clear hb)
      | (go_at_call 12; ((with_reducible refine (JR.out _).mono ?_)); rintro e w4 ⟨rfl, hb⟩; have X4 := Lib.hid ((X3.out.alloc _).went hb); clear hb)
      | fail)
    go_ret
    exact ⟨rfl, X4.out.below⟩

end Go.Proofs.Ytimfiaphhomelaa.Sw
