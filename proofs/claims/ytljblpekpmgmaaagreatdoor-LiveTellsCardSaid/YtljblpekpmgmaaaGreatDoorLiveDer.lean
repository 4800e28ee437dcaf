/-
  Package live: derives: whether a symbol has a rule whose right side holds nothing dead.
-/
import Derived.Test.YtljblpekpmgmaaaGreatDoorLiveAny
namespace Go.Proofs.YtljblpekpmgmaaaGreatDoor.Lv
open Go.RowKit Go.Maps
open Go.Proofs.YtljblpekpmgmaaaGreatDoor.Gr
open Go.Proofs.YtljblpekpmgmaaaGreatDoor.Bt (SetAt SetV has Keeps)
set_option linter.unusedVariables false

theorem rightOf_get {G : Gram} {j : Nat} (h : j < G.rules.length) : rightOf G (j : Int) = G.rules[j].2 := by
  simp [rightOf, List.getD_eq_getElem?_getD, List.getElem?_eq_getElem h]
theorem six' {W w : World} {q b o m : Nat} {v0 v1 v2 v3 v4 v5 : Value} {p4 p5 : Addr} (x0 : w.cell? ⟨q, 0, none⟩ = some v0) (x1 : w.cell? ⟨q, 1, none⟩ = some v1) (x2 : w.cell? ⟨q, 2, none⟩ = some v2) (x3 : w.cell? ⟨q, 3, none⟩ = some v3) (x4 : w.cell? p4 = some v4) (x5 : w.cell? p5 = some v5) :
    ∀ w', Below w.heap.size w w' → w'.cell? ⟨q, 0, none⟩ = some v0 ∧ w'.cell? ⟨q, 1, none⟩ = some v1 ∧ w'.cell? ⟨q, 2, none⟩ = some v2 ∧ w'.cell? ⟨q, 3, none⟩ = some v3 ∧ w'.cell? p4 = some v4 ∧ w'.cell? p5 = some v5 ∧ Below w.heap.size w w' :=
  fun w' hb => ⟨cell_later hb x0, cell_later hb x1, cell_later hb x2, cell_later hb x3, cell_later hb x4, cell_later hb x5, hb⟩

set_option maxHeartbeats 4000000 in
theorem der_clo (q1 q2 p d n : Nat) (h : Sh) (G : Gram) (B : Nat → Bool) (j : Nat) (w : World) (k : Cap q1 q2 p d n h G B w) (hj : j < G.rules.length) :
    Calls Tryz.prog 74 #[.int .i64 j, .pointer (some ⟨q1, 0, none⟩), .pointer (some ⟨q2, 0, none⟩)] w (Is (.bool (goodB G B (j : Int))) w) := by
  obtain ⟨a1, c1, a2, c2, a3, c3⟩ := h
  obtain ⟨b, o, ra, rc, e, h1, h2, h3, h4, h5⟩ := k.gat.rules j hj
  dsimp only at e
  subst e
  have hr2 := k.gat.r2
  have hr1 := k.gat.r1
  have hf := k.gat.ok.right _ (List.getElem_mem hj)
  have GE := Lib.hid (show goodB G B (j : Int) = !(G.rules[j].2).any (deadB G B) by unfold goodB; rw [rightOf_get hj])
  generalize G.rules[j].2 = rr at GE h2 h3 h4 h5 hf
  have D := Lib.hid (fun w1 (b0 : Below w.heap.size w w1) => anyDead_any ⟨a1, c1, a2, c2, some ⟨b, o, none⟩, c3⟩ G rr ra rc p d n B w1 (k.gat.went b0) (set_went k.set b0) (Sep.Reads.below h3 b0 (Nat.le_refl _)) h5 fun x hx => (hf x hx).2)
  generalize rr.any (deadB G B) = bb at GE D
  obtain ⟨x0, x1, x2, x3⟩ := k.box
  have y := k.cell
  dsimp only at x0 x1 x2 x3
  have HQ := Lib.hid (six' (W := w) (b := b) (o := o) (m := j) x0 x1 x2 x3 h2 y)
  have hbd := drawn w
  clear k hf h3 h1
  go_enter Tryz.func74, Tryz.ntmps74
  go_wp2
  clear x0 x1 x2 x3 h2 y
  go_region_held3 (fun w' => w'.cell? ⟨q1, 0, none⟩ = some (.slice a1 G.terms.length c1) ∧ w'.cell? ⟨q1, 1, none⟩ = some (.slice a2 G.nons.length c2) ∧ w'.cell? ⟨q1, 2, none⟩ = some (.slice (some ⟨b, o, none⟩) G.rules.length c3) ∧ w'.cell? ⟨q1, 3, none⟩ = some (.int .i64 G.start) ∧ w'.cell? ⟨b, o + j * 2 + 1, none⟩ = some (.slice ra rr.length rc) ∧ w'.cell? ⟨q2, 0, none⟩ = some (.pointer (some ⟨p, 0, none⟩)) ∧ Below w.heap.size w w')
    (exact HQ.out _ (by assumption))
    (first
      | (go_at_call 56; refine (D.out _ hbd).mono ?_; rintro e wn ⟨rfl, hb⟩; have kB : Below w.heap.size w wn := Gr.step hbd hb; clear hb)
      | fail)
  go_wp2
  go_ret
  exact ⟨bool_of GE.out, kB⟩

set_option maxHeartbeats 2000000 in
theorem index_der (q1 q2 p d n : Nat) (h : Sh) (G : Gram) (B : Nat → Bool) (L : List Int) (a : Option Addr) (c : Nat) (w : World) (k : Cap q1 q2 p d n h G B w) (ha : Sep.Reads a (ivs L) w) (hl : L.length ≤ 17592186044416) (hf : ∀ x ∈ L, ∃ j : Nat, x = (j : Int) ∧ j < G.rules.length) :
    Calls Tryz.prog 89 #[.slice a L.length c, .func (.func 74) #[] #[.pointer (some ⟨q1, 0, none⟩), .pointer (some ⟨q2, 0, none⟩)]] w (Is (.int .i64 (fint (goodB G B) L)) w) := by
  have HA := Lib.hid (fun w1 (b : Below w.heap.size w w1) => ha.below b (Nat.le_refl _))
  have HK := Lib.hid (fun w1 (b : Below w.heap.size w w1) => k.went b)
  have HF := Lib.hid hf
  clear ha k hf
  go_enter Tryz.func89, Tryz.ntmps89
  go_wp2
  go_loopw [8] (fun i wr => ∃ k : Nat, k ≤ L.length ∧ i = .int .i64 k ∧ NoneI (goodB G B) L k ∧ Below w.heap.size w wr) (fun i _ => L.length - (intOf i).toNat)
  case atStart => exact ⟨0, Nat.zero_le _, rfl, noneI_zero _ _, .refl _ _⟩
  case round =>
    obtain ⟨k, hk, rfl, hA, hW⟩ := hrel
    have A := Lib.hid hA
    have HW := Lib.hid hW
    clear hA
    by_cases hlt : k < L.length
    · obtain ⟨b1, o1, rfl, h1⟩ := int_at (HA.out _ hW) hlt
      have AE := Lib.hid (fun he => noneI_step A.out hlt he)
      have AF := Lib.hid (fun he => fint_hit A.out hlt he)
      obtain ⟨j, ej, hj⟩ := HF.out _ (List.getElem_mem hlt)
      rw [ej] at h1 AE AF
      have HC := Lib.hid (fun w1 (b : Below wr.heap.size wr w1) => der_clo q1 q2 p d n h G B j w1 (HK.out _ (Gr.step hW b)) hj)
      clear hW ej hj
      cases hs : goodB G B (j : Int) with
      | false =>
        rw [hs] at HC
        have A2 := Lib.hid (AE.out hs)
        clear hs
        go_wp2_with (go_at_call 74; refine (HC.out _ (.refl _ _)).mono ?_; rintro e w1 ⟨rfl, hb⟩; have HB := Lib.hid (Gr.step HW.out hb); clear hb)
        go_roundw
        case rel => exact ⟨k + 1, by omega, by go_num, A2.out, HB.out⟩
        case measure => simp [intOf]; omega
      | true =>
        rw [hs] at HC
        have F := Lib.hid (AF.out hs)
        clear hs
        go_wp2_with (go_at_call 74; refine (HC.out _ (.refl _ _)).mono ?_; rintro e w1 ⟨rfl, hb⟩; have HB := Lib.hid (Gr.step HW.out hb); clear hb)
        go_ret
        exact ⟨int_of F.out, HB.out⟩
    · have F := Lib.hid (fint_end A.out hlt)
      clear hW
      go_wp2
      go_ret
      exact ⟨int_of F.out, HW.out⟩

theorem contains_der (q1 q2 p d n : Nat) (h : Sh) (G : Gram) (B : Nat → Bool) (L : List Int) (a : Option Addr) (c : Nat) (w : World) (k : Cap q1 q2 p d n h G B w) (ha : Sep.Reads a (ivs L) w) (hl : L.length ≤ 17592186044416) (hf : ∀ x ∈ L, ∃ j : Nat, x = (j : Int) ∧ j < G.rules.length) :
    Calls Tryz.prog 73 #[.slice a L.length c, .func (.func 74) #[] #[.pointer (some ⟨q1, 0, none⟩), .pointer (some ⟨q2, 0, none⟩)]] w (Is (.bool (L.any (goodB G B))) w) := by
  have H := Lib.hid (index_der q1 q2 p d n h G B L a c w k ha hl hf)
  have E := Lib.hid (fint_any (goodB G B) L)
  clear ha k hf
  generalize fint (goodB G B) L = m at H E
  go_enter Tryz.func73, Tryz.ntmps73
  go_wp2_with (go_at_call 89; refine H.out.mono ?_; rintro e w1 ⟨rfl, hb⟩; have HB := Lib.hid hb; clear hb)
  go_ret
  exact ⟨bool_of E.out.symm, HB.out⟩

theorem mem_ofL {G : Gram} {s x : Int} (h : x ∈ ofL G s) : ∃ j : Nat, x = (j : Int) ∧ j < G.rules.length := by
  unfold ofL ofI at h
  obtain ⟨k, hk, rfl⟩ := List.mem_map.1 h
  exact ⟨k, rfl, (mem_ofTo.1 hk).1⟩

set_option maxHeartbeats 2000000 in
theorem derives_any (h : Sh) (G : Gram) (s : Int) (p d n : Nat) (B : Nat → Bool) (w : World) (k : GAt h G w) (hS : SetAt p d n B w) (hr : G.rules.length ≤ 65536) :
    Calls Tryz.prog 44 #[gv h G, .int .i64 s, .pointer (some ⟨p, 0, none⟩)] w (Is (.bool (derB G B s)) w) := by
  have K := Lib.hid (cap_new h G p d n B w 25 41 k hS)
  have HB0 := Lib.hid (Gr.step (boxed w (.cells #[.slice h.a1 G.terms.length h.c1, .slice h.a2 G.nons.length h.c2, .slice h.a3 G.rules.length h.c3, .int .i64 G.start] 25)) (boxed _ (.cells #[.pointer (some ⟨p, 0, none⟩)] 41)))
  have O := Lib.hid (of_any h G s _ K.out.gat hr)
  have hlo : (ofL G s).length ≤ 65536 := Nat.le_trans (ofI_le _ _ _) hr
  have C := Lib.hid (fun w1 a c (ha : Sep.Reads a (ivs (ofL G s)) w1) (kk : Cap w.heap.size (w.heap.size + 1) p d n h G B w1) => contains_der _ _ p d n h G B (ofL G s) a c w1 kk ha (by omega) fun x hx => mem_ofL hx)
  have E := Lib.hid (show derB G B s = (ofL G s).any (goodB G B) from rfl)
  generalize ofL G s = L at O C E hlo
  obtain ⟨x0, x1, x2, x3⟩ := K.out.box
  clear k hS
  unfold gv
  go_enter Tryz.func44, Tryz.ntmps44
  go_wp2_with (first
    | (go_at_call 72; refine O.out.mono ?_; rintro e w1 ⟨a, c, rfl, ha, hn, hb⟩; have K1 := Lib.hid (K.out.went hb); have HA := Lib.hid ha; have HB1 := Lib.hid (Gr.step HB0.out hb); clear hb ha hn x0 x1 x2 x3)
    | (go_at_call 73; refine (C.out _ _ _ HA.out K1.out).mono ?_; rintro e w2 ⟨rfl, hb⟩; have HB := Lib.hid (Gr.step HB1.out hb); clear hb))
  go_ret
  exact ⟨bool_of E.out, HB.out⟩

end Go.Proofs.YtljblpekpmgmaaaGreatDoor.Lv
