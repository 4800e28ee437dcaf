/-
  The walk of the statement on closures of closures. No condition.
-/
import Derived.Test.YtkggpkbdekebcaaItemAwake
import Derived.Test.YtkggpkbdekebcaaItemSame
import Derived.Test.YtkggpkbdekebcaaGramMuch
namespace Go.Proofs.Ytkggpkbdekebcaa.Im
open Go.RowKit Go.Maps
open Go.Proofs.Ytkggpkbdekebcaa.Gr (Gram Sh gv GAt Bx boxed drawn checkN much_any rcheck_any cell_new cell_old cell_later)
set_option linter.unusedVariables false

theorem is_small {G : Gram} {Y : List Itm} {P : Itm → Prop} (hv : checkN G = 0) (h : Is Y P) (hr : ∀ x, P x → rightB G x = true) : Y.length ≤ 2709 ∧ ∀ x ∈ Y, W64 x :=
  ⟨Nat.le_trans (srt_len h.1 fun x hx => hr x ((h.2 x).1 hx)) (all_small hv), fun x hx => right_w64 hv (hr x ((h.2 x).1 hx))⟩
theorem same_self (X : List Itm) (a b : Option Addr) (c d : Nat) (w : World) (hX : ItsA a X w) (hY : ItsA b X w) (hl : X.length ≤ 2709) :
    Calls Try.prog 10 #[.slice a X.length c, .slice b X.length d] w (Gr.Is (.bool true) w) := by
  have := rsame_any X X a b c d w hX hY (by omega)
  rw [decide_eq_true rfl] at this
  exact this

set_option maxHeartbeats 8000000 in
set_option maxRecDepth 100000 in
theorem closes_law (h : Sh) (G : Gram) (L : List Itm) (a : Option Addr) (c : Nat) (s : Int) (w : World) (k : GAt h G w) (kl : ItsA a L w) (hw : ∀ x ∈ L, W64 x) (hL : L.length ≤ 8796093022208) :
    Calls Try.prog 3 #[gv h G, .slice a L.length c, .int .i64 s] w (Gr.Is (.bool true) w) := by
  have X := Lib.hid (Bx.start h G w 25)
  have MU := Lib.hid (fun w1 (b : Below w.heap.size w w1) => much_any h G w1 (k.went b))
  have RC := Lib.hid (fun w1 (b : Below w.heap.size w w1) => rcheck_any h G w1 (k.went b))
  have AW := Lib.hid awake_any
  have KG := Lib.hid (fun w1 (b : Below w.heap.size w w1) => k.went b)
  have KL := Lib.hid (fun w1 (b : Below w.heap.size w w1) => kl.went b)
  have HW := Lib.hid hw
  clear k kl hw
  obtain ⟨x0, x1, x2, x3⟩ := X.out.box
  unfold gv
  go_enter Try.func3, Try.ntmps3
  go_wp2_with fail
  refine (MU.out _ X.out.below).mono ?_
  rintro e w1 ⟨n, rfl, hn, hb⟩
  have X := Lib.hid (X.out.went hb)
  clear hb MU hn x0 x1 x2 x3
  obtain ⟨x0, x1, x2, x3⟩ := X.out.box
  by_cases hn9 : 100 < n
  · go_wp2_with (go_at_call 7; refine (AW.out _).mono ?_; rintro e w2 ⟨rfl, hb⟩; have HB := Lib.hid (Gr.step X.out.below hb); clear hb)
    go_ret
    exact ⟨rfl, HB.out⟩
  by_cases hl9 : 40 < L.length
  · go_wp2_with (go_at_call 7; refine (AW.out _).mono ?_; rintro e w2 ⟨rfl, hb⟩; have HB := Lib.hid (Gr.step X.out.below hb); clear hb)
    go_ret
    exact ⟨rfl, HB.out⟩
  go_wp2_with fail
  refine (RC.out _ X.out.below).mono ?_
  rintro e w2 ⟨rfl, hb⟩
  have X := Lib.hid (X.out.went hb)
  clear hb RC x0 x1 x2 x3
  obtain ⟨x0, x1, x2, x3⟩ := X.out.box
  by_cases hv : checkN G = 0
  · rw [hv]
    have CC := Lib.hid (fun w1 b (M : List Itm) (am : Option Addr) (cm : Nat) (hm : ItsA am M w1) (h64 : ∀ x ∈ M, W64 x) (hl : M.length ≤ 2709) => (close_any h G M am cm w1 (KG.out w1 b) hm h64 (by omega)).mono fun e w' q => show ListIs (Clo G M) w1 e w' from q.of (.refl _ _) fun x => ⟨fun q => q.2, fun q => ⟨hv, q⟩⟩)
    have CS := Lib.hid (fun w1 b (M : List Itm) (am : Option Addr) (cm : Nat) (hm : ItsA am M w1) (h64 : ∀ x ∈ M, W64 x) (hl : M.length ≤ 2709) => (step_any h G M am cm s w1 (KG.out w1 b) hm h64 (by omega)).mono fun e w' q => show ListIs (StepP G M s) w1 e w' from q.of (.refl _ _) fun x => ⟨fun q => q.2, fun q => ⟨hv, q⟩⟩)
    have CK := Lib.hid (fun w1 b (M : List Itm) (am : Option Addr) (cm : Nat) (hm : ItsA am M w1) (h64 : ∀ x ∈ M, W64 x) (hl : M.length ≤ 2709) => (kernel_any h G M am cm w1 (KG.out w1 b) hm h64 (by omega)).mono fun e w' q => show ListIs (KerP G M) w1 e w' from q.of (.refl _ _) fun x => ⟨fun q => q.2, fun q => ⟨hv, q⟩⟩)
    clear KG
    unfold gv at CC CS CK
    go_wp2_with (first
      | (go_at_call 8; refine (CC.out _ X.out.below L a c (KL.out _ X.out.below) HW.out (by omega)).mono ?_; rintro e w3 ⟨Cl, ac, cc, rfl, hC, hV, hb⟩; have X3 := Lib.hid (X.out.went hb); have HC := Lib.hid hC; obtain ⟨hcl, hc64⟩ := is_small hv hC (fun x => clo_right); have HC64 := Lib.hid hc64; have LC := Lib.hid hV.reads; obtain ⟨g0, g1, g2, g3⟩ := X3.out.box; clear hC hV hb hc64)
      | (go_at_call 9; refine (CS.out _ X3.out.below Cl ac cc LC.out HC64.out hcl).mono ?_; rintro e w4 ⟨Kl, ak, ck, rfl, hK, hV, hb⟩; have X4 := Lib.hid (X3.out.went hb); have HK := Lib.hid hK; obtain ⟨hkl, hk64⟩ := is_small hv hK (fun x q => (step_right q).1); have HK64 := Lib.hid hk64; have LK := Lib.hid hV.reads; have LC4 := Lib.hid (LC.out.went hb); clear hK hV hb hk64))
    have E1 := Lib.hid (fun w1 b (hm : ItsA ac Cl w1) => (CC.out w1 b Cl ac cc hm HC64.out hcl).mono fun e w' q => got_of q (fun x => clo_clo HC.out x) HC.out)
    have E2 := Lib.hid (fun w1 b (hm : ItsA ak Kl w1) => (CK.out w1 b Kl ak ck hm HK64.out hkl).mono fun e w' q => got_of q (fun x => ker_step HK.out x) (.self HK.out.1))
    have E3 := Lib.hid (fun w1 b (hm : ItsA ak Kl w1) => CC.out w1 b Kl ak ck hm HK64.out hkl)
    have E4 := Lib.hid (fun (Y : List Itm) (hY : Is Y (Clo G Kl)) w1 b (ay : Option Addr) (cy : Nat) (hm : ItsA ay Y w1) => (CK.out w1 b Y ay cy hm (is_small hv hY fun x => clo_right).2 (is_small hv hY fun x => clo_right).1).mono fun e w' q => got_of q (fun x => ker_clo HK.out hY x) (.self HK.out.1))
    clear CC CS CK HC HK HC64 HK64 LC KL HW X3 g0 g1 g2 g3 x0 x1 x2 x3
    have HQ := Lib.hid (fun w' (b : Below w4.heap.size w4 w') => (show w'.cell? ⟨w.heap.size, 0, none⟩ = _ ∧ w'.cell? ⟨w.heap.size, 1, none⟩ = _ ∧ w'.cell? ⟨w.heap.size, 2, none⟩ = _ ∧ w'.cell? ⟨w.heap.size, 3, none⟩ = _ from ⟨(X4.out.went b).box.x0, (X4.out.went b).box.x1, (X4.out.went b).box.x2, (X4.out.went b).box.x3⟩))
    have kA := drawn w4
    go_region_held3 (fun w' => w'.cell? ⟨w.heap.size, 0, none⟩ = some (.slice h.a1 G.terms.length h.c1) ∧ w'.cell? ⟨w.heap.size, 1, none⟩ = some (.slice h.a2 G.nons.length h.c2) ∧ w'.cell? ⟨w.heap.size, 2, none⟩ = some (.slice h.a3 G.rules.length h.c3) ∧ w'.cell? ⟨w.heap.size, 3, none⟩ = some (.int .i64 G.start))
      (exact HQ.out _ (by assumption))
      (first
        | (go_at_call 8; refine (E1.out _ (X4.out.went kA).below (LC4.out.went kA)).mono ?_; rintro e v1 ⟨a1, c1, rfl, l1, hb⟩; have k1 : Below w4.heap.size w4 v1 := Gr.step kA hb; have L1 := Lib.hid l1; clear l1 hb E1)
        | (go_at_call 10; refine (same_self Cl _ _ _ _ _ L1.out (LC4.out.went k1) hcl).mono ?_; rintro e v2 ⟨rfl, hb⟩; have k2 : Below w4.heap.size w4 v2 := Gr.step k1 hb; clear hb L1)
        | (go_at_call 11; refine (E2.out _ (X4.out.went k2).below (LK.out.went k2)).mono ?_; rintro e v3 ⟨a3, c3, rfl, l3, hb⟩; have k3 : Below w4.heap.size w4 v3 := Gr.step k2 hb; have L3 := Lib.hid l3; clear l3 hb E2)
        | (go_at_call 10; refine (same_self Kl _ _ _ _ _ L3.out (LK.out.went k3) hkl).mono ?_; rintro e v4 ⟨rfl, hb⟩; have k4 : Below w4.heap.size w4 v4 := Gr.step k3 hb; clear hb L3)
        | (go_at_call 8; refine (E3.out _ (X4.out.went k4).below (LK.out.went k4)).mono ?_; rintro e v5 ⟨Y5, a5, c5, rfl, i5, l5, hb⟩; have k5 : Below w4.heap.size w4 v5 := Gr.step k4 hb; have L5 := Lib.hid l5.reads; have I5 := Lib.hid i5; clear l5 i5 hb E3)
        | (go_at_call 11; refine (E4.out Y5 I5.out _ (X4.out.went k5).below _ _ L5.out).mono ?_; rintro e v6 ⟨a6, c6, rfl, l6, hb⟩; have k6 : Below w4.heap.size w4 v6 := Gr.step k5 hb; have L6 := Lib.hid l6; clear l6 hb E4)
        | (go_at_call 10; refine (same_self Kl _ _ _ _ _ L6.out (LK.out.went k6) hkl).mono ?_; rintro e v7 ⟨rfl, hb⟩; have k7 : Below w4.heap.size w4 v7 := Gr.step k6 hb; clear hb L6)
        | (go_at_call 7; refine (AW.out _).mono ?_; rintro e v8 ⟨rfl, hb⟩; have k8 : Below w4.heap.size w4 v8 := Gr.step k7 hb; clear hb)
        | fail)
    go_wp2
    go_ret
    exact ⟨rfl, (X4.out.went k8).below⟩
  · have hvb : (checkN G != 0) = true := by simpa using hv
    go_wp2_with (go_at_call 7; refine (AW.out _).mono ?_; rintro e w2 ⟨rfl, hb⟩; have HB := Lib.hid (Gr.step X.out.below hb); clear hb)
    go_ret
    exact ⟨rfl, HB.out⟩

end Go.Proofs.Ytkggpkbdekebcaa.Im
