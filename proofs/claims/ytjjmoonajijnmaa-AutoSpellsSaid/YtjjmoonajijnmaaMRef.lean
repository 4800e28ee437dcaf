/-
  The plain answers: Close.
  The plain answers: Right, Behind, less, Begin.
  The plain answers: Put: a list in order with an item more.
  The plain answers' Rule, Right and Behind, which make blocks alone: so many draws, these blocks more.
  The plain answers: Step and Kernel.
  The plain answers: Kernel.
-/
import Derived.Test.YtjjmoonajijnmaaItemMain
import Derived.Test.YtjjmoonajijnmaaItemOrd
import Derived.Test.YtjjmoonajijnmaaItemSame
import Derived.Test.YtjjmoonajijnmaaMStep
import Derived.BigQuiet
import Derived.Test.YtjjmoonajijnmaaMCheck
namespace Go.Proofs.Ytjjmoonajijnmaa.Im
open Go.RowKit Go.Maps
open Go.Proofs.Ytjjmoonajijnmaa.Gr (Gram Sh gv GAt Bx step boxed drawn ruleB ruleR rrule_any Ruled cell_new cell_old cell_later free_new free_old bool_of int_of)
set_option linter.unusedVariables false

set_option maxRecDepth 100000 in
set_option maxHeartbeats 1000000 in
theorem rright_any (h : Sh) (G : Gram) (x : Itm) (w : World) (k : GAt h G w) :
    Calls Try.prog 29 #[gv h G, iv x] w (Gr.Is (.bool (rightB G x)) w) := by
  have R := Lib.hid (fun w1 (b : Below w.heap.size w w1) => rrule_any h G x.1 w1 (k.went b))
  clear k
  rw [ruleB_of]
  obtain ⟨xr, xd⟩ := x
  generalize ruleR G (xr, xd).1 = r at R ⊢
  generalize ruleB G (xr, xd).1 = rb at R ⊢
  have X := Lib.hid (Bi.start h G (xr, xd) w 36 51)
  unfold gv iv
  dsimp only at R X ⊢
  go_enter Try.func29, Try.ntmps29
  go_wp2_with (go_at_call 17; refine (R.out _ X.out.below).mono ?_; rintro e w1 ⟨a, c, rfl, hr, hb⟩; have X := Lib.hid ((X.out.went hb).alloc (.cells #[.int .i64 r.1, .slice a r.2.length c] 47)); have HR := Lib.hid hr; have y0 := X.out.i0; have y1 := X.out.i1; clear hb hr)
  all_goals
    go_ret
    exact ⟨bool_of (by first | (simp_all; done) | (simp_all; omega)), X.out.below⟩

theorem behR_true {G : Gram} {x : Itm} (h : rightB G x = true) : behB G x = decide (x.2 < ((ruleR G x.1).2.length : Int)) := by
  unfold behB rlen
  rw [h, Bool.true_and]
theorem behR_false {G : Gram} {x : Itm} (h : rightB G x = false) : behB G x = false := by
  unfold behB
  rw [h, Bool.false_and]

set_option maxRecDepth 100000 in
set_option maxHeartbeats 1000000 in
theorem rbehind_any (h : Sh) (G : Gram) (x : Itm) (w : World) (k : GAt h G w) :
    Calls Try.prog 31 #[gv h G, iv x] w (Gr.Is (.tuple #[.int .i64 (behV G x), .bool (behB G x)]) w) := by
  have R := Lib.hid (fun w1 (b : Below w.heap.size w w1) => rrule_any h G x.1 w1 (k.went b))
  have RR := Lib.hid (fun w1 (b : Below w.heap.size w w1) => rright_any h G x w1 (k.went b))
  have HR := Lib.hid (right_iff (G := G) (x := x))
  have HT := Lib.hid (behR_true (G := G) (x := x))
  have HF := Lib.hid (behR_false (G := G) (x := x))
  clear k
  unfold behV
  have X := Lib.hid (Bi.start h G x w 36 51)
  unfold rlen at HR
  generalize ruleR G x.1 = r at R HR HT ⊢
  generalize ruleB G x.1 = rb at R ⊢
  generalize behB G x = bb at HT HF ⊢
  generalize rightB G x = rr at RR HR HT HF
  obtain ⟨xr, xd⟩ := x
  unfold gv iv at *
  dsimp only at R RR X HR HT HF ⊢
  cases rr with
  | false =>
    obtain rfl := HF.out rfl
    clear HT HF HR
    go_enter Try.func31, Try.ntmps31
    go_wp2_with (first
      | (go_at_call 17; refine (R.out _ X.out.below).mono ?_; rintro e w1 ⟨a, c, rfl, hr, hb⟩; have X1 := Lib.hid ((X.out.went hb).alloc (.cells #[.int .i64 r.1, .slice a r.2.length c] 47)); have y0 := X1.out.i0; have y1 := X1.out.i1; obtain ⟨g0, g1, g2, g3⟩ := X1.out.bx.box; clear hb hr)
      | (go_at_call 29; refine (RR.out _ X1.out.below).mono ?_; rintro e w2 ⟨rfl, hb⟩; have X2 := Lib.hid (X1.out.went hb); clear hb))
    go_ret2
    exact ⟨rfl, X2.out.below⟩
  | true =>
    have hbb := HT.out rfl
    obtain ⟨_, h1, _⟩ := HR.out.1 rfl
    replace h1 : 0 ≤ xd := h1
    clear HT HF HR
    by_cases hlt : xd < (r.2.length : Int)
    · obtain ⟨j, rfl⟩ := Int.eq_ofNat_of_zero_le h1
      have hj : j < r.2.length := by omega
      rw [decide_eq_true hlt] at hbb
      subst hbb
      rw [if_pos rfl, show r.2.getD (Int.toNat (j : Int)) 0 = r.2[j] by simp [hj]]
      go_enter Try.func31, Try.ntmps31
      go_wp2_with (first
        | (go_at_call 17; refine (R.out _ X.out.below).mono ?_; rintro e w1 ⟨a, c, rfl, hr, hb⟩; have X1 := Lib.hid ((X.out.went hb).alloc (.cells #[.int .i64 r.1, .slice a r.2.length c] 47)); have y0 := X1.out.i0; have y1 := X1.out.i1; obtain ⟨g0, g1, g2, g3⟩ := X1.out.bx.box; obtain ⟨b2, o2, e2, z⟩ := hr j (by simpa [Gr.ivs] using hj); subst e2; have z := cell_old (o := .cells #[.int .i64 r.1, .slice (some ⟨b2, o2, none⟩) r.2.length c] 47) z; clear hb hr)
        | (go_at_call 29; refine (RR.out _ X1.out.below).mono ?_; rintro e w2 ⟨rfl, hb⟩; have X2 := Lib.hid (X1.out.went hb); have z := cell_later hb z; have y0 := X2.out.i0; have y1 := X2.out.i1; have r0 := cell_later hb (cell_new (w := w1) (cs := #[.int .i64 r.1, .slice (some ⟨b2, o2, none⟩) r.2.length c]) (T := 47) (n := w1.heap.size) (j := 1) rfl rfl); clear hb))
      go_ret2
      exact ⟨by simp [Gr.ivs, Gr.iv], X2.out.below⟩
    · rw [decide_eq_false hlt] at hbb
      subst hbb
      have h3 : (r.2.length : Int) ≤ xd := by omega
      go_enter Try.func31, Try.ntmps31
      go_wp2_with (first
        | (go_at_call 17; refine (R.out _ X.out.below).mono ?_; rintro e w1 ⟨a, c, rfl, hr, hb⟩; have X1 := Lib.hid ((X.out.went hb).alloc (.cells #[.int .i64 r.1, .slice a r.2.length c] 47)); have y0 := X1.out.i0; have y1 := X1.out.i1; obtain ⟨g0, g1, g2, g3⟩ := X1.out.bx.box; clear hb hr)
        | (go_at_call 29; refine (RR.out _ X1.out.below).mono ?_; rintro e w2 ⟨rfl, hb⟩; have X2 := Lib.hid (X1.out.went hb); have y0 := X2.out.i0; have y1 := X2.out.i1; have r0 := cell_later hb (cell_new (w := w1) (cs := #[.int .i64 r.1, .slice a r.2.length c]) (T := 47) (n := w1.heap.size) (j := 1) rfl rfl); clear hb))
      go_ret2
      exact ⟨rfl, X2.out.below⟩

def lessB (x y : Itm) : Bool := decide (ltP x y)
set_option maxRecDepth 100000 in
theorem rless_any (x y : Itm) (w : World) : Calls Try.prog 43 #[iv x, iv y] w fun e w' => e = .returned (.bool (lessB x y)) ∧ ∃ q os', w' = Go.Sort.grow (w.drewN q) os' := by
  unfold lessB ltP
  obtain ⟨x0, x1⟩ := x
  obtain ⟨y0, y1⟩ := y
  unfold iv
  dsimp only
  go_enter Try.func43, Try.ntmps43
  go_wp2
  all_goals
    go_ret
    exact ⟨bool_of (by first | (simp; omega) | (simp_all; done) | (simp_all; omega)), ((Gw.refl w).alloc _).alloc _⟩

end Go.Proofs.Ytjjmoonajijnmaa.Im

namespace Go.Proofs.Ytjjmoonajijnmaa.Im
open Go.RowKit Go.Maps
open Go.Proofs.Ytjjmoonajijnmaa.Gr (boxed drawn cell_new cell_old cell_later bool_of)
set_option linter.unusedVariables false

/-- A list comes back that reads so, with room for itself. -/
def GotC (L : List Itm) (w : World) (e : Ending) (w' : World) : Prop := ∃ a c, e = .returned (.slice a L.length c) ∧ L.length ≤ c ∧ ItsA a L w' ∧ Below w.heap.size w w'

/-- The same; it lies where the given list lay, or in a new block. -/
def GotN (L : List Itm) (a0 : Option Addr) (w : World) (e : Ending) (w' : World) : Prop := ∃ a c, e = .returned (.slice a L.length c) ∧ L.length ≤ c ∧ ItsA a L w' ∧ Below w.heap.size w w' ∧ ∀ b o, a = some ⟨b, o, none⟩ → a = a0 ∨ w.heap.size ≤ b

theorem elemI : Try.prog.underlying 23 = some (.slice (Try.prog.elem 23)) := by kernel_rfl
theorem sizeI (w : World) : (sizeOf (Try.prog.elem 23)).run Try.prog w = .ok 2 w := by kernel_rfl
/-- 'l[:k]'. -/
theorem sl_take {a : Option Addr} {X : List Itm} {w : World} (h : ItsA a X w) {k c : Nat} (hk : k ≤ X.length) (hc : X.length ≤ c) :
    ∃ a1 c1, (∀ W, (Instr.slice 23 (.slice a X.length c) none (some (.int .i64 (k : Int))) none).run Try.prog W = .ok (.slice a1 k c1) W) ∧ (∀ p, a1 = some p → ∀ j u, ((X.take k).flatMap ic)[j]? = some u → w.cell? (p.add j) = some u) ∧ (a1 = none → k = 0) := by
  have e : (if c = 0 then a else a.map (·.add (0 * 2))) = a := by
    split
    · rfl
    · cases a <;> simp [Addr.add]
  refine ⟨a, c, fun W => ?_, (h.take k).lie.1, fun q => ?_⟩
  · rw [run_slice_h W 23 a X.length c elemI .i64 (k : Int) (by omega) (by omega), sizeI]
    simp only [Result.andThen_ok, sliced]
    rw [e]
    simp
  · have := (h.take k).lie.2 q
    rw [List.length_take] at this
    omega
/-- 'l[k:]'. -/
theorem sl_drop {a : Option Addr} {X : List Itm} {w : World} (h : ItsA a X w) {k c : Nat} (hk : k ≤ X.length) (hc : X.length ≤ c) :
    ∃ a1 c1, (∀ W, (Instr.slice 23 (.slice a X.length c) (some (.int .i64 (k : Int))) none none).run Try.prog W = .ok (.slice a1 (X.length - k) c1) W) ∧ (∀ p, a1 = some p → ∀ j u, ((X.drop k).flatMap ic)[j]? = some u → w.cell? (p.add j) = some u) ∧ (a1 = none → X.length - k = 0) := by
  refine ⟨if c = k then a else a.map (·.add (k * 2)), c - k, fun W => ?_, fun p hp j u hu => ?_, fun q => ?_⟩
  · rw [run_slice_l W 23 a X.length c elemI .i64 (k : Int) (by omega) (by omega), sizeI]
    simp [Result.andThen_ok, sliced]
  · have hl := its_length (X.drop k)
    rw [List.length_drop] at hl
    have hj : j < ((X.drop k).flatMap ic).length := (List.getElem?_eq_some_iff.1 hu).1
    have hck : ¬ c = k := by omega
    rw [if_neg hck] at hp
    cases a with
    | none => cases hp
    | some q =>
      obtain ⟨b, o, eq, _⟩ := h 0 (by rw [its_length]; omega)
      injection eq with eq
      subst eq
      have := (h.drop k).lie.1 _ rfl j u hu
      simp only [Option.map_some, Option.some.injEq] at hp
      subst hp
      rw [WideShapes.add_plain] at *
      rw [WideShapes.add_plain]
      exact this
  · by_cases hck : c = k
    · omega
    · rw [if_neg hck, Option.map_eq_none_iff] at q
      have := h.lie.2 q
      omega

/-- The first j stand ahead of x. -/
def Sc (X : List Itm) (x : Itm) (j : Nat) : Prop := ∀ i (h : i < X.length), i < j → ltP X[i] x
theorem sc_step {X : List Itm} {x : Itm} {j : Nat} (h : Sc X x j) (hj : j < X.length) (k : lessB X[j] x = true) : Sc X x (j + 1) := fun i hi hij => by
  by_cases e : i = j
  · subst e
    exact of_decide_eq_true k
  · exact h i hi (by omega)
/-- The box of the item stands. -/
structure Bp (W : World) (x : Itm) (w : World) : Prop where
  below : Below W.heap.size W w
  i0 : w.cell? ⟨W.heap.size, 0, none⟩ = some (.int .i64 x.1)
  i1 : w.cell? ⟨W.heap.size, 1, none⟩ = some (.int .i64 x.2)
theorem Bp.went {W : World} {x : Itm} {w w' : World} (k : Bp W x w) (hb : Below w.heap.size w w') : Bp W x w' := ⟨Gr.step k.below hb, cell_later hb k.i0, cell_later hb k.i1⟩
theorem Bp.start (x : Itm) (w : World) (T : TypeId) : Bp w x (w.alloc (.cells #[.int .i64 x.1, .int .i64 x.2] T)) := ⟨boxed _ _, cell_new rfl rfl, cell_new rfl rfl⟩
/-- The place is found. -/
def Stop (X : List Itm) (x : Itm) (j : Nat) : Prop := ∀ h : j < X.length, ¬ ltP X[j] x
/-- It is there already. -/
def hitB (X : List Itm) (x : Itm) (j : Nat) : Bool := decide (X[j]? = some x)
theorem hit_in {X : List Itm} {x : Itm} {j : Nat} (h : j < X.length) : hitB X x j = eqB X[j] x := by
  unfold hitB eqB
  rw [List.getElem?_eq_getElem h]
  simp
theorem hit_out {X : List Itm} {x : Itm} {j : Nat} (h : ¬ j < X.length) : hitB X x j = false := by
  unfold hitB
  rw [List.getElem?_eq_none (by omega)]
  rfl
theorem put_hit {X : List Itm} {x : Itm} {j : Nat} (hj : j ≤ X.length) (h1 : Sc X x j) (h2 : Stop X x j) (h : hitB X x j = true) : putI X x = X := by
  rw [put_at hj (fun i hi hij => h1 i hi hij) h2, if_pos (of_decide_eq_true h)]
theorem put_miss {X : List Itm} {x : Itm} {j : Nat} (hj : j ≤ X.length) (h1 : Sc X x j) (h2 : Stop X x j) (h : hitB X x j = false) : putI X x = (X.take j ++ [x]) ++ X.drop j := by
  rw [put_at hj (fun i hi hij => h1 i hi hij) h2, if_neg (of_decide_eq_false h)]
  simp

set_option maxRecDepth 100000 in
set_option maxHeartbeats 8000000 in
theorem rput_new (X : List Itm) (a : Option Addr) (c : Nat) (x : Itm) (w : World) (hX : ItsA a X w) (hc : X.length ≤ c) (hl : X.length ≤ 100000) :
    Calls Try.prog 30 #[.slice a X.length c, iv x] w (GotN (putI X x) a w) := by
  have KX := Lib.hid (fun w1 (b : Below w.heap.size w w1) => hX.went b)
  have B0 := Lib.hid (Bp.start x w 51)
  have LS := Lib.hid (fun (y : Itm) (W : World) => rless_any y x W)
  have mixed : Try.prog.follows .mixedOrders = true := by kernel_rfl
  have HC := Lib.hid hc
  clear hX hc
  obtain ⟨xr, xd⟩ := x
  unfold iv at *
  dsimp only at B0 LS ⊢
  go_enter Try.func30, Try.ntmps30
  go_wp2
  go_loopw [5] (fun i wr => ∃ j : Nat, i = .int .i64 j ∧ j ≤ X.length ∧ Sc X (xr, xd) j ∧ Bp w (xr, xd) wr) (fun i _ => X.length - (intOf i).toNat)
  case atStart => exact ⟨0, rfl, Nat.zero_le _, fun i _ h => by omega, B0.out⟩
  case round =>
    obtain ⟨j, rfl, hj, hS, hB⟩ := hrel
    clear B0
    have HS := Lib.hid hS
    have B := Lib.hid hB
    clear hS hB
    have hGw : ∀ m os, Gw wr (Go.Sort.grow (wr.drewN m) os) := fun m os => ⟨m, os, rfl⟩
    have q0 : ∀ m os, (Go.Sort.grow (wr.drewN m) os).cell? ⟨w.heap.size, 0, none⟩ = some (.int .i64 xr) := fun m os => cell_later (hGw m os).below B.out.i0
    have q1 : ∀ m os, (Go.Sort.grow (wr.drewN m) os).cell? ⟨w.heap.size, 1, none⟩ = some (.int .i64 xd) := fun m os => cell_later (hGw m os).below B.out.i1
    by_cases hgo : ∃ h : j < X.length, lessB X[j] (xr, xd) = true
    · obtain ⟨hlt, hls⟩ := hgo
      have HT := Lib.hid (sc_step HS.out hlt hls)
      obtain ⟨b1, o1, ea, p0, p1⟩ := (KX.out wr B.out.below).at j hlt
      have e1 : ((X[j].1, X[j].2) : Itm) = X[j] := rfl
      generalize X[j] = y at p0 p1 e1 hls
      obtain ⟨y0, y1⟩ := y
      dsimp only at p0 p1
      clear e1
      subst ea
      have k0 : ∀ m os, (Go.Sort.grow (wr.drewN m) os).cell? ⟨b1, o1 + j * 2, none⟩ = some (.int .i64 y0) := fun m os => cell_later (hGw m os).below p0
      have k1 : ∀ m os, (Go.Sort.grow (wr.drewN m) os).cell? ⟨b1, o1 + j * 2 + 1, none⟩ = some (.int .i64 y1) := fun m os => cell_later (hGw m os).below p1
      have CL := Lib.hid (fun m os => LS.out (y0, y1) (Go.Sort.grow (wr.drewN m) os))
      unfold iv at CL
      dsimp only at CL
      rw [hls] at CL
      clear p0 p1 hls
      go_wp2
      go_quiet_grown (first | (go_at_call 43; refine Calls.grown_of (CL.out _ _)))
      have B2 := Lib.hid (B.out.went (hGw nq osq).below)
      generalize Go.Sort.grow (wr.drewN nq) osq = w2 at B2 ⊢
      clear q0 q1 k0 k1 hGw CL
      go_wp2
      go_roundw
      case rel => exact ⟨j + 1, by go_num, by omega, HT.out, B2.out⟩
      case measure => simp [intOf]; omega
    · have HP := Lib.hid (show Stop X (xr, xd) j from fun h q => hgo ⟨h, decide_eq_true q⟩)
      have HL := Lib.hid (fun (h : j < X.length) => show lessB X[j] (xr, xd) = false from decide_eq_false (HP.out h))
      clear hgo
      go_wp2
      go_cut [17] (fun s wx => s = .bool false ∧ Bp w (xr, xd) wx)
      case first =>
        by_cases hlt : j < X.length
        · have hls := HL.out hlt
          obtain ⟨b1, o1, ea, p0, p1⟩ := (KX.out wr B.out.below).at j hlt
          have e1 : ((X[j].1, X[j].2) : Itm) = X[j] := rfl
          generalize X[j] = y at p0 p1 e1 hls
          obtain ⟨y0, y1⟩ := y
          dsimp only at p0 p1
          clear e1
          subst ea
          have k0 : ∀ m os, (Go.Sort.grow (wr.drewN m) os).cell? ⟨b1, o1 + j * 2, none⟩ = some (.int .i64 y0) := fun m os => cell_later (hGw m os).below p0
          have k1 : ∀ m os, (Go.Sort.grow (wr.drewN m) os).cell? ⟨b1, o1 + j * 2 + 1, none⟩ = some (.int .i64 y1) := fun m os => cell_later (hGw m os).below p1
          have CL := Lib.hid (fun m os => LS.out (y0, y1) (Go.Sort.grow (wr.drewN m) os))
          unfold iv at CL
          dsimp only at CL
          rw [hls] at CL
          clear p0 p1 hls HL
          go_quiet_grown (first | (go_at_call 43; refine Calls.grown_of (CL.out _ _)))
          have B2 := Lib.hid (B.out.went (hGw nq osq).below)
          generalize Go.Sort.grow (wr.drewN nq) osq = w2 at B2 ⊢
          clear q0 q1 k0 k1 hGw CL
          go_wp2
          go_meet
          case rel => exact ⟨rfl, B2.out⟩
        · have hnl : (X.length : Int) ≤ (j : Int) := by omega
          clear HL
          go_quiet_grown (first | (go_at_call 43; fail))
          have B2 := Lib.hid (B.out.went (hGw nq osq).below)
          generalize Go.Sort.grow (wr.drewN nq) osq = w2 at B2 ⊢
          clear q0 q1 hGw
          go_wp2
          go_meet
          case rel => exact ⟨rfl, B2.out⟩
      case rest =>
        obtain ⟨rfl, hB2⟩ := hcut
        have B2 := Lib.hid hB2
        clear hB2 B q0 q1 hGw HL LS
        go_wp2
        go_cut [31] (fun s wx => s = .bool (hitB X (xr, xd) j) ∧ Bp w (xr, xd) wx)
        case first =>
          have hd3 : ∀ m, Below wc.heap.size wc (wc.drewN m) := fun m => ⟨rfl, rfl, rfl, Nat.le_refl _, fun _ _ => rfl⟩
          have y0 := B2.out.i0
          have y1 := B2.out.i1
          dsimp only at y0 y1
          have heq := eq_items
          have hgd := Try.eqGuardType51
          by_cases hlt : j < X.length
          · have hh := hit_in (x := (xr, xd)) hlt
            obtain ⟨b1, o1, ea, p0, p1⟩ := (KX.out wc B2.out.below).at j hlt
            have e1 : ((X[j].1, X[j].2) : Itm) = X[j] := rfl
            generalize X[j] = y at p0 p1 e1 hh
            obtain ⟨z0, z1⟩ := y
            dsimp only at p0 p1
            clear e1
            subst ea
            have HH := Lib.hid hh
            clear hh
            go_quiet (fail)
            have B3 := Lib.hid (B2.out.went (hd3 nq))
            generalize wc.drewN nq = w2 at B3 ⊢
            clear hd3 y0 y1 p0 p1 heq
            go_wp2
            go_meet
            case rel => exact ⟨by rw [HH.out], B3.out⟩
          · have hnl : (X.length : Int) ≤ (j : Int) := by omega
            have HH := Lib.hid (hit_out (x := (xr, xd)) hlt)
            go_quiet (fail)
            have B3 := Lib.hid (B2.out.went (hd3 nq))
            generalize wc.drewN nq = w2 at B3 ⊢
            clear hd3 y0 y1 heq
            go_wp2
            go_meet
            case rel => exact ⟨by rw [HH.out], B3.out⟩
        case rest =>
          obtain ⟨rfl, hB3⟩ := hcut
          have B3 := Lib.hid hB3
          clear hB3 B2
          cases hh : hitB X (xr, xd) j with
          | true =>
            have HE := Lib.hid (put_hit hj HS.out HP.out hh)
            go_wp2
            go_ret
            exact ⟨a, c, by rw [HE.out]; rfl, by rw [HE.out]; exact HC.out, by rw [HE.out]; exact KX.out _ B3.out.below, B3.out.below, fun _ _ _ => .inl rfl⟩
          | false =>
            have HE := Lib.hid (put_miss hj HS.out HP.out hh)
            clear hh HS HP
            go_wp2
            generalize hw3 : wc = w3 at B3 ⊢
            clear hw3
            obtain ⟨i0, hi, hz0, hz1, hz2⟩ := info_parts info_item
            have hbn := build_no_items
            obtain ⟨a1, c1, e1, t1, t2⟩ := sl_take (KX.out w3 B3.out.below) (k := j) hj HC.out
            obtain ⟨a2, c2, e2, t3, t4⟩ := sl_drop (KX.out w3 B3.out.below) (k := j) hj HC.out
            have T1 := Lib.hid (fun w1 (b : Below w3.heap.size w3 w1) => fun p hp i u hu => cell_later b (t1 p hp i u hu))
            have T3 := Lib.hid (fun w1 (b : Below w3.heap.size w3 w1) => fun p hp i u hu => cell_later b (t3 p hp i u hu))
            have l1 : ((X.take j).flatMap ic).length = j * 2 := by rw [its_length, List.length_take, Nat.min_eq_left hj]
            have l2 : ((X.drop j).flatMap ic).length = (X.length - j) * 2 := by rw [its_length, List.length_drop]
            have hjl : j ≤ 100000 := by omega
            have hxj : X.length - j ≤ 100000 := by omega
            have y0 := B3.out.i0
            have y1 := B3.out.i1
            dsimp only at y0 y1
            have hq0 : w.heap.size < w3.heap.size := World.block_lt_of_cell? w3 ⟨w.heap.size, 0, none⟩ y0
            have hsW : w3.drew.heap.size = w3.heap.size := rfl
            have ONE := Lib.hid (show ∀ u ∈ ic (xr, xd), u.oneCell' = true from fun u hu => by simp only [ic, List.mem_cons, List.not_mem_nil, or_false] at hu; rcases hu with rfl | rfl <;> rfl)
            have FIN := Lib.hid (fun v w9 (q : w9.ownsRow w3.heap.size 51 2 v (j + 1 + (X.length - j)) (((X.take j).flatMap ic ++ ic (xr, xd)) ++ (X.drop j).flatMap ic)) (b : Below w3.heap.size w3 w9) => show GotN (putI X (xr, xd)) a w (.returned v) w9 from by
              have h1 : ItsV 51 w3.heap.size (X.take j ++ [(xr, xd)]) v w9 ∨ True := .inr trivial
              have h2 : ItsV 51 w3.heap.size ((X.take j ++ [(xr, xd)]) ++ X.drop j) v w9 := ItsV.of_append (n := j + 1) (m := X.length - j) (by simpa [its_append, List.flatMap_cons] using q) (by rw [List.length_append, List.length_take, List.length_singleton, Nat.min_eq_left hj]) (by rw [List.length_drop])
              rw [← HE.out] at h2
              obtain ⟨a9, c9, rfl, hc9⟩ := h2.shape
              exact ⟨a9, c9, rfl, hc9, h2.reads, Gr.step B3.out.below b, fun b9 o9 e9 => .inr (Nat.le_trans B3.out.below.size (World.ownsRow.lt h2 b9 (by rw [e9]; rfl)).1)⟩)
            clear t1 t3 hj HC
            go_region_law (first
            | (refine Rw.step_append_lie _ (by rfl) (.tmp 33) (.tmp 36) 23 (by rfl) w3.heap.size 51 i0 (.agg #[.int .i64 0, .int .i64 0]) 2 16 Try.underlying23 hi hz0 hz1 hz2 rfl (by decide) _ 0 [] (by rfl) (Rw.row_none (by first | exact heap_new _ _ | exact heap_at (by simp) | exact heap_old (heap_new _ _)) (by first | exact Nat.le_refl _ | (simp; done) | (simp; omega))) a1 j c1 ((X.take j).flatMap ic) (by rfl) l1 (T1.out _ (by first | exact Gr.step (boxed _ _) (drawn _) | exact Gr.step (drawn _) (boxed _ _) | exact Gr.step (Gr.step (boxed _ _) (drawn _)) (boxed _ _) | exact Gr.step (Gr.step (boxed _ _) (boxed _ _)) (drawn _) | exact Gr.step (Gr.step (drawn _) (boxed _ _)) (boxed _ _))) t2 (its_one _) (by unfold maxLen; omega) (by omega) (by first | (simp; done) | (simp; omega)) ?_
               intro v7 w7 hown4 hg4 _
               obtain ⟨a7, c7, rfl⟩ := Rw.row_shape hown4
               rw [Nat.zero_add] at hown4 ⊢
               have K4 := Lib.hid (show Below w3.heap.size w3 w7 from Below.grown (by first | exact Gr.step (boxed _ _) (drawn _) | exact Gr.step (drawn _) (boxed _ _) | exact Gr.step (Gr.step (boxed _ _) (drawn _)) (boxed _ _) | exact Gr.step (Gr.step (boxed _ _) (boxed _ _)) (drawn _) | exact Gr.step (Gr.step (drawn _) (boxed _ _)) (boxed _ _)) hg4 (Below.size (by first | exact Gr.step (boxed _ _) (drawn _) | exact Gr.step (drawn _) (boxed _ _) | exact Gr.step (Gr.step (boxed _ _) (drawn _)) (boxed _ _) | exact Gr.step (Gr.step (boxed _ _) (boxed _ _)) (drawn _) | exact Gr.step (Gr.step (drawn _) (boxed _ _)) (boxed _ _))) (fun k hk => by simp [Value.ownBlock] at hk; omega))
               have O4 := Lib.hid (show w7.ownsRow w3.heap.size 51 2 (.slice a7 j c7) j ((X.take j).flatMap ic) from hown4)
               (first
                 | (have RB4 := Lib.hid (show w7.heap[w3.heap.size + 1]? = some (.cells #[.int .i64 xr, .int .i64 xd] 51 (0, 0)) from (hg4.block _ (by simp) (by simp [Value.ownBlock])).trans (by first | exact heap_at (by simp) | exact heap_at rfl)))
                 | (have RB4 := Lib.hid (show w7.heap[w3.heap.size]? = some (.cells #[.int .i64 xr, .int .i64 xd] 51 (0, 0)) from (hg4.block _ (by simp; try omega) (by simp [Value.ownBlock])).trans (by first | exact heap_old (heap_at rfl) | exact heap_old (heap_new _ _))))
                 | skip)
               have hs4 := K4.out.size
               have y0 := (B3.out.went K4.out).i0
               have y1 := (B3.out.went K4.out).i1
               dsimp only at y0 y1
               have hq04 : w.heap.size < w7.heap.size := World.block_lt_of_cell? w7 ⟨w.heap.size, 0, none⟩ y0
               clear hown4 hg4)
            | (refine Rw.step_append_rows _ (by rfl) (.tmp 37) (.tmp 39) 23 (by rfl) w3.heap.size 51 i0 (.agg #[.int .i64 0, .int .i64 0]) 2 16 Try.underlying23 hi hz0 hz1 hz2 rfl (by decide) (.slice a7 j c7) j ((X.take j).flatMap ic) (by rfl) (by first | exact O4.out | exact Sep.ownsRow_at O4.out fun g hg => Below.heap_alloc _ _ _ (O4.out.lt g hg).2) w3.heap.size (.slice (some ⟨w3.heap.size + 1, 0, none⟩) 1 1) 1 (ic (xr, xd)) (by rfl) (lit_of (x := (xr, xd)) RB4.out (by omega)) ONE.out (by unfold maxLen; omega) (by omega) (by first | exact K4.out.size | exact (Gr.step K4.out (boxed _ _)).size) ?_
               intro v8 w8 hown2 hg2 _
               have K5 := Lib.hid (show Below w3.heap.size w3 w8 from Below.grown (w := _) (by first | exact K4.out | exact Gr.step K4.out (boxed _ _)) hg2 (by first | exact K4.out.size | exact (Gr.step K4.out (boxed _ _)).size) (fun k hk => (O4.out.lt k hk).1))
               obtain ⟨a8, c8, rfl⟩ := Rw.row_shape hown2
               have O5 := Lib.hid hown2
               have y0 := (B3.out.went K5.out).i0
               have y1 := (B3.out.went K5.out).i1
               dsimp only at y0 y1
               clear hown2 hg2)
            | (refine Rw.step_append_rows _ (by rfl) (.tmp 37) (.tmp 39) 23 (by rfl) w3.heap.size 51 i0 (.agg #[.int .i64 0, .int .i64 0]) 2 16 Try.underlying23 hi hz0 hz1 hz2 rfl (by decide) (.slice a7 j c7) j ((X.take j).flatMap ic) (by rfl) (by first | exact O4.out | exact Sep.ownsRow_at O4.out fun g hg => Below.heap_alloc _ _ _ (O4.out.lt g hg).2) w3.heap.size (.slice (some ⟨w3.heap.size, 0, none⟩) 1 1) 1 (ic (xr, xd)) (by rfl) (lit_of (x := (xr, xd)) RB4.out (by omega)) ONE.out (by unfold maxLen; omega) (by omega) (by first | exact K4.out.size | exact (Gr.step K4.out (boxed _ _)).size) ?_
               intro v8 w8 hown2 hg2 _
               have K5 := Lib.hid (show Below w3.heap.size w3 w8 from Below.grown (w := _) (by first | exact K4.out | exact Gr.step K4.out (boxed _ _)) hg2 (by first | exact K4.out.size | exact (Gr.step K4.out (boxed _ _)).size) (fun k hk => (O4.out.lt k hk).1))
               obtain ⟨a8, c8, rfl⟩ := Rw.row_shape hown2
               have O5 := Lib.hid hown2
               have y0 := (B3.out.went K5.out).i0
               have y1 := (B3.out.went K5.out).i1
               dsimp only at y0 y1
               clear hown2 hg2)
            | (refine Rw.step_append_rows _ (by rfl) (.tmp 37) (.tmp 39) 23 (by rfl) w3.heap.size 51 i0 (.agg #[.int .i64 0, .int .i64 0]) 2 16 Try.underlying23 hi hz0 hz1 hz2 rfl (by decide) (.slice a7 j c7) j ((X.take j).flatMap ic) (by rfl) (by first | exact O4.out | exact Sep.ownsRow_at O4.out fun g hg => Below.heap_alloc _ _ _ (O4.out.lt g hg).2) w3.heap.size (.slice (some ⟨w7.heap.size, 0, none⟩) 1 1) 1 (ic (xr, xd)) (by rfl) (lit_of (x := (xr, xd)) (heap_new _ _) (by omega)) ONE.out (by unfold maxLen; omega) (by omega) (by first | exact K4.out.size | exact (Gr.step K4.out (boxed _ _)).size) ?_
               intro v8 w8 hown2 hg2 _
               have K5 := Lib.hid (show Below w3.heap.size w3 w8 from Below.grown (w := _) (by first | exact K4.out | exact Gr.step K4.out (boxed _ _)) hg2 (by first | exact K4.out.size | exact (Gr.step K4.out (boxed _ _)).size) (fun k hk => (O4.out.lt k hk).1))
               obtain ⟨a8, c8, rfl⟩ := Rw.row_shape hown2
               have O5 := Lib.hid hown2
               have y0 := (B3.out.went K5.out).i0
               have y1 := (B3.out.went K5.out).i1
               dsimp only at y0 y1
               clear hown2 hg2)
            | (refine Rw.step_append_lie _ (by rfl) (.tmp 40) (.tmp 43) 23 (by rfl) w3.heap.size 51 i0 (.agg #[.int .i64 0, .int .i64 0]) 2 16 Try.underlying23 hi hz0 hz1 hz2 rfl (by decide) (.slice a8 (j + 1) c8) (j + 1) ((X.take j).flatMap ic ++ ic (xr, xd)) (by rfl) O5.out a2 (X.length - j) c2 ((X.drop j).flatMap ic) (by rfl) l2 (T3.out _ K5.out) t4 (its_one _) (by unfold maxLen; omega) (by omega) K5.out.size ?_
               intro v9 w9 hown5 hg5 _
               have K6 := Lib.hid (show Below w3.heap.size w3 w9 from K5.out.grown hg5 K5.out.size (fun k hk => (O5.out.lt k hk).1))
               have F9 := Lib.hid (FIN.out v9 w9 hown5 K6.out)
               clear hown5 hg5)
            | fail)
            all_goals
              go_wp2
              go_ret
              exact F9.out

theorem rput_any (X : List Itm) (a : Option Addr) (c : Nat) (x : Itm) (w : World) (hX : ItsA a X w) (hc : X.length ≤ c) (hl : X.length ≤ 100000) :
    Calls Try.prog 30 #[.slice a X.length c, iv x] w (GotC (putI X x) w) :=
  (rput_new X a c x w hX hc hl).mono fun e w' ⟨a', c', h1, h2, h3, h4, _⟩ => ⟨a', c', h1, h2, h3, h4⟩

end Go.Proofs.Ytjjmoonajijnmaa.Im

namespace Go.Proofs.Ytjjmoonajijnmaa.Im
open Go.RowKit Go.Maps
open Go.Proofs.Ytjjmoonajijnmaa.Gr (Gram Sh gv GAt Bx step boxed drawn ruleB ruleR rule_in rule_end rule_out reads_one ivs Ruled cell_new cell_old cell_later free_new free_old bool_of int_of)
set_option linter.unusedVariables false

theorem Gw.trans {a b c : World} (h : Gw a b) (k : Gw b c) : Gw a c := by
  obtain ⟨n, os, rfl⟩ := h
  obtain ⟨m, os', rfl⟩ := k
  exact ⟨n + m, os ++ os', by
    show Go.Sort.grow (Go.Sort.grow ((a.drewN n).drewN m) os) os' = _
    rw [Go.Sort.grow_grow, World.drewN_drewN]⟩

set_option maxHeartbeats 2000000 in
set_option maxRecDepth 100000 in
theorem rrule_gw (h : Sh) (G : Gram) (i : Int) (w : World) (k : GAt h G w) :
    Calls Try.prog 17 #[gv h G, .int .i64 i] w (fun e w' => Ruled (ruleR G i) (ruleB G i) w e w' ∧ Gw w w') := by
  have X := Lib.hid (Bx.start h G w 36)
  have hc3 := k.r2
  by_cases h0 : i < 0 ∨ (G.rules.length : Int) < i
  · obtain ⟨e1, e2⟩ := rule_out h0
    rw [e1, e2]
    clear k e1 e2
    by_cases h1 : i < 0
    · clear h0
      unfold gv
      go_enter Try.func17, Try.ntmps17
      go_wp2
      exact bodyPost_ret (v := .tuple #[.agg #[.int .i64 0, .slice Option.none 0 0], .bool false]) (by simp [results, Try.results17, go_sem]) rfl ⟨⟨_, _, rfl, .nil _ _, (X.out.alloc _).below⟩, (by first | exact ((Gw.refl w).alloc _).alloc _ | exact (((Gw.refl w).alloc _).alloc _).alloc _)⟩
    · have h2 : (G.rules.length : Int) < i := by omega
      clear h0
      unfold gv
      go_enter Try.func17, Try.ntmps17
      go_wp2
      exact bodyPost_ret (v := .tuple #[.agg #[.int .i64 0, .slice Option.none 0 0], .bool false]) (by simp [results, Try.results17, go_sem]) rfl ⟨⟨_, _, rfl, .nil _ _, (X.out.alloc _).below⟩, (by first | exact ((Gw.refl w).alloc _).alloc _ | exact (((Gw.refl w).alloc _).alloc _).alloc _)⟩
  · by_cases h1 : i = (G.rules.length : Int)
    · subst h1
      obtain ⟨e1, e2⟩ := rule_end G
      rw [e1, e2]
      clear k e1 e2 h0
      unfold gv
      go_enter Try.func17, Try.ntmps17
      go_wp2
      refine bodyPost_ret (v := .tuple #[.agg #[.int .i64 0, .slice (some ⟨w.heap.size + 1 + 1, 0, Option.none⟩) 1 1], .bool true]) (by simp [results, Try.results17, go_sem]) rfl ⟨⟨_, _, rfl, reads_one (cell_new (by simp) rfl), ((X.out.alloc _).alloc _).below⟩, (by first | exact ((Gw.refl w).alloc _).alloc _ | exact (((Gw.refl w).alloc _).alloc _).alloc _)⟩
    · obtain ⟨j, rfl⟩ : ∃ j : Nat, i = (j : Int) := ⟨i.toNat, by omega⟩
      have hj : j < G.rules.length := by omega
      obtain ⟨e1, e2⟩ := rule_in hj
      rw [e1, e2]
      obtain ⟨a1, c1, a2, c2, a3, c3⟩ := h
      obtain ⟨b, o, ra, rc, e, g1, g2, g3, g4, g5⟩ := k.rules j hj
      dsimp only at e
      subst e
      generalize G.rules[j] = r at g1 g2 g3 g4 g5 ⊢
      have hblt : b < w.heap.size := World.block_lt_of_cell? w ⟨b, o + j * 2, Option.none⟩ g1
      have HR := Lib.hid (show Sep.Reads ra (ivs r.2) w from g3)
      clear k e1 e2 h0 h1 g3
      unfold gv
      dsimp only
      go_enter Try.func17, Try.ntmps17
      go_wp2
      exact bodyPost_ret (v := .tuple #[.agg #[.int .i64 r.1, .slice ra r.2.length rc], .bool true]) (by simp [results, Try.results17, go_sem]) rfl ⟨⟨_, _, rfl, HR.out.below (X.out.alloc _).below (Nat.le_refl _), (X.out.alloc _).below⟩, (by first | exact ((Gw.refl w).alloc _).alloc _ | exact (((Gw.refl w).alloc _).alloc _).alloc _)⟩



set_option maxRecDepth 100000 in
set_option maxHeartbeats 1000000 in
theorem rright_gw (h : Sh) (G : Gram) (x : Itm) (w : World) (k : GAt h G w) :
    Calls Try.prog 29 #[gv h G, iv x] w (fun e w' => e = .returned (.bool (rightB G x)) ∧ Gw w w') := by
  have R := Lib.hid (fun w1 (b : Below w.heap.size w w1) => rrule_gw h G x.1 w1 (k.went b))
  clear k
  rw [ruleB_of]
  obtain ⟨xr, xd⟩ := x
  generalize ruleR G (xr, xd).1 = r at R ⊢
  generalize ruleB G (xr, xd).1 = rb at R ⊢
  have G0 := Lib.hid (((Gw.refl w).alloc (.cells #[.slice h.a1 G.terms.length h.c1, .slice h.a2 G.nons.length h.c2, .slice h.a3 G.rules.length h.c3, .int .i64 G.start] 36)).alloc (.cells #[.int .i64 xr, .int .i64 xd] 51))
  have X := Lib.hid (Bi.start h G (xr, xd) w 36 51)
  unfold gv iv
  dsimp only at R X ⊢
  go_enter Try.func29, Try.ntmps29
  go_wp2_with (go_at_call 17; refine (R.out _ X.out.below).mono ?_; rintro e w1 ⟨⟨a, c, rfl, hr, hb⟩, hgw⟩; have GG := Lib.hid ((G0.out.trans hgw).alloc (.cells #[.int .i64 r.1, .slice a r.2.length c] 47)); clear hgw; have X := Lib.hid ((X.out.went hb).alloc (.cells #[.int .i64 r.1, .slice a r.2.length c] 47)); have HR := Lib.hid hr; have y0 := X.out.i0; have y1 := X.out.i1; clear hb hr)
  all_goals
    go_ret
    exact ⟨bool_of (by first | (simp_all; done) | (simp_all; omega)), GG.out⟩


set_option maxRecDepth 100000 in
set_option maxHeartbeats 1000000 in
theorem rbehind_gw (h : Sh) (G : Gram) (x : Itm) (w : World) (k : GAt h G w) :
    Calls Try.prog 31 #[gv h G, iv x] w (fun e w' => e = .returned (.tuple #[.int .i64 (behV G x), .bool (behB G x)]) ∧ Gw w w') := by
  have R := Lib.hid (fun w1 (b : Below w.heap.size w w1) => rrule_gw h G x.1 w1 (k.went b))
  have RR := Lib.hid (fun w1 (b : Below w.heap.size w w1) => rright_gw h G x w1 (k.went b))
  have HR := Lib.hid (right_iff (G := G) (x := x))
  have HT := Lib.hid (behR_true (G := G) (x := x))
  have HF := Lib.hid (behR_false (G := G) (x := x))
  clear k
  unfold behV
  have G0 := Lib.hid (((Gw.refl w).alloc (.cells #[.slice h.a1 G.terms.length h.c1, .slice h.a2 G.nons.length h.c2, .slice h.a3 G.rules.length h.c3, .int .i64 G.start] 36)).alloc (.cells #[.int .i64 x.1, .int .i64 x.2] 51))
  have X := Lib.hid (Bi.start h G x w 36 51)
  unfold rlen at HR
  generalize ruleR G x.1 = r at R HR HT ⊢
  generalize ruleB G x.1 = rb at R ⊢
  generalize behB G x = bb at HT HF ⊢
  generalize rightB G x = rr at RR HR HT HF
  obtain ⟨xr, xd⟩ := x
  unfold gv iv at *
  dsimp only at R RR X HR HT HF ⊢
  cases rr with
  | false =>
    obtain rfl := HF.out rfl
    clear HT HF HR
    go_enter Try.func31, Try.ntmps31
    go_wp2_with (first
      | (go_at_call 17; refine (R.out _ X.out.below).mono ?_; rintro e w1 ⟨⟨a, c, rfl, hr, hb⟩, hgw⟩; have GG := Lib.hid ((G0.out.trans hgw).alloc (.cells #[.int .i64 r.1, .slice a r.2.length c] 47)); clear hgw; have X1 := Lib.hid ((X.out.went hb).alloc (.cells #[.int .i64 r.1, .slice a r.2.length c] 47)); have y0 := X1.out.i0; have y1 := X1.out.i1; obtain ⟨g0, g1, g2, g3⟩ := X1.out.bx.box; clear hb hr)
      | (go_at_call 29; refine (RR.out _ X1.out.below).mono ?_; rintro e w2 ⟨rfl, hgw⟩; have hb := hgw.below; have GH := Lib.hid (GG.out.trans hgw); clear hgw; have X2 := Lib.hid (X1.out.went hb); clear hb))
    go_ret2
    exact ⟨rfl, GH.out⟩
  | true =>
    have hbb := HT.out rfl
    obtain ⟨_, h1, _⟩ := HR.out.1 rfl
    replace h1 : 0 ≤ xd := h1
    clear HT HF HR
    by_cases hlt : xd < (r.2.length : Int)
    · obtain ⟨j, rfl⟩ := Int.eq_ofNat_of_zero_le h1
      have hj : j < r.2.length := by omega
      rw [decide_eq_true hlt] at hbb
      subst hbb
      rw [if_pos rfl, show r.2.getD (Int.toNat (j : Int)) 0 = r.2[j] by simp [hj]]
      go_enter Try.func31, Try.ntmps31
      go_wp2_with (first
        | (go_at_call 17; refine (R.out _ X.out.below).mono ?_; rintro e w1 ⟨⟨a, c, rfl, hr, hb⟩, hgw⟩; have GG := Lib.hid ((G0.out.trans hgw).alloc (.cells #[.int .i64 r.1, .slice a r.2.length c] 47)); clear hgw; have X1 := Lib.hid ((X.out.went hb).alloc (.cells #[.int .i64 r.1, .slice a r.2.length c] 47)); have y0 := X1.out.i0; have y1 := X1.out.i1; obtain ⟨g0, g1, g2, g3⟩ := X1.out.bx.box; obtain ⟨b2, o2, e2, z⟩ := hr j (by simpa [Gr.ivs] using hj); subst e2; have z := cell_old (o := .cells #[.int .i64 r.1, .slice (some ⟨b2, o2, none⟩) r.2.length c] 47) z; clear hb hr)
        | (go_at_call 29; refine (RR.out _ X1.out.below).mono ?_; rintro e w2 ⟨rfl, hgw⟩; have hb := hgw.below; have GH := Lib.hid (GG.out.trans hgw); clear hgw; have X2 := Lib.hid (X1.out.went hb); have z := cell_later hb z; have y0 := X2.out.i0; have y1 := X2.out.i1; have r0 := cell_later hb (cell_new (w := w1) (cs := #[.int .i64 r.1, .slice (some ⟨b2, o2, none⟩) r.2.length c]) (T := 47) (n := w1.heap.size) (j := 1) rfl rfl); clear hb))
      go_ret2
      exact ⟨by simp [Gr.ivs, Gr.iv], GH.out⟩
    · rw [decide_eq_false hlt] at hbb
      subst hbb
      have h3 : (r.2.length : Int) ≤ xd := by omega
      go_enter Try.func31, Try.ntmps31
      go_wp2_with (first
        | (go_at_call 17; refine (R.out _ X.out.below).mono ?_; rintro e w1 ⟨⟨a, c, rfl, hr, hb⟩, hgw⟩; have GG := Lib.hid ((G0.out.trans hgw).alloc (.cells #[.int .i64 r.1, .slice a r.2.length c] 47)); clear hgw; have X1 := Lib.hid ((X.out.went hb).alloc (.cells #[.int .i64 r.1, .slice a r.2.length c] 47)); have y0 := X1.out.i0; have y1 := X1.out.i1; obtain ⟨g0, g1, g2, g3⟩ := X1.out.bx.box; clear hb hr)
        | (go_at_call 29; refine (RR.out _ X1.out.below).mono ?_; rintro e w2 ⟨rfl, hgw⟩; have hb := hgw.below; have GH := Lib.hid (GG.out.trans hgw); clear hgw; have X2 := Lib.hid (X1.out.went hb); have y0 := X2.out.i0; have y1 := X2.out.i1; have r0 := cell_later hb (cell_new (w := w1) (cs := #[.int .i64 r.1, .slice a r.2.length c]) (T := 47) (n := w1.heap.size) (j := 1) rfl rfl); clear hb))
      go_ret2
      exact ⟨rfl, GH.out⟩


end Go.Proofs.Ytjjmoonajijnmaa.Im

namespace Go.Proofs.Ytjjmoonajijnmaa.Im
open Go.RowKit Go.Maps
open Go.Proofs.Ytjjmoonajijnmaa.Gr (Gram Sh gv GAt Bx boxed drawn checkN cell_new cell_old cell_later bool_of)
set_option linter.unusedVariables false

/-- In order just the items of which P says yes, with room for them. -/
def ListR (P : Itm → Prop) (w : World) (e : Ending) (w' : World) : Prop := ∃ (Y : List Itm) (a : Option Addr) (c : Nat), e = .returned (.slice a Y.length c) ∧ Y.length ≤ c ∧ Is Y P ∧ ItsA a Y w' ∧ Below w.heap.size w w'

/-- In a new block. -/
def Nw (w : World) (a : Option Addr) : Prop := ∀ b o, a = some ⟨b, o, none⟩ → w.heap.size ≤ b
theorem Nw.step {w : World} {a a' : Option Addr} {n : Nat} (h : Nw w a) (hn : w.heap.size ≤ n) (k : ∀ b o, a' = some ⟨b, o, none⟩ → a' = a ∨ n ≤ b) : Nw w a' := fun b o e => by
  rcases k b o e with q | q
  · exact h b o (q ▸ e)
  · omega
/-- The same, in a new block. -/
def ListN (P : Itm → Prop) (w : World) (e : Ending) (w' : World) : Prop := ∃ (Y : List Itm) (a : Option Addr) (c : Nat), e = .returned (.slice a Y.length c) ∧ Y.length ≤ c ∧ Is Y P ∧ ItsA a Y w' ∧ Below w.heap.size w w' ∧ Nw w a

/-- The list so far: what the first j have made. -/
def Sofar (L : List Itm) (F : Itm → Itm) (Q : Itm → Prop) (j : Nat) (x : Itm) : Prop := ∃ q, ∃ h : q < L.length, q < j ∧ x = F L[q] ∧ Q L[q]
/-- What is known between two rounds: the list so far, in variable v. -/
structure Out (W : World) (h : Sh) (G : Gram) (L : List Itm) (F : Itm → Itm) (Q : Itm → Prop) (j : Nat) (Y : List Itm) (a : Option Addr) (c : Nat) (w : World) : Prop where
  bx : Bx W h G w
  its : Is Y (Sofar L F Q j)
  at_ : ItsA a Y w
  cap : Y.length ≤ c
  len : Y.length ≤ j
theorem Out.went {W : World} {h : Sh} {G : Gram} {L : List Itm} {F : Itm → Itm} {Q : Itm → Prop} {j : Nat} {Y : List Itm} {a : Option Addr} {c : Nat} {w w' : World} (k : Out W h G L F Q j Y a c w) (hb : Below w.heap.size w w') : Out W h G L F Q j Y a c w' := ⟨k.bx.went hb, k.its, k.at_.went hb, k.cap, k.len⟩
theorem Out.miss {W : World} {h : Sh} {G : Gram} {L : List Itm} {F : Itm → Itm} {Q : Itm → Prop} {j : Nat} {Y : List Itm} {a : Option Addr} {c : Nat} {w : World} (k : Out W h G L F Q j Y a c w) (hj : j < L.length) (hq : ¬ Q L[j]) : Out W h G L F Q (j + 1) Y a c w := ⟨k.bx, upto_miss k.its hj hq, k.at_, k.cap, Nat.le_succ_of_le k.len⟩
theorem Out.hit {W : World} {h : Sh} {G : Gram} {L : List Itm} {F : Itm → Itm} {Q : Itm → Prop} {j : Nat} {Y : List Itm} {a a' : Option Addr} {c c' : Nat} {w w' : World} (k : Out W h G L F Q j Y a c w) (hj : j < L.length) (hq : Q L[j]) {x : Itm} (hx : x = F L[j]) (hb : Below w.heap.size w w') (h1 : (putI Y x).length ≤ c') (h2 : ItsA a' (putI Y x) w') : Out W h G L F Q (j + 1) (putI Y x) a' c' w' := by
  subst hx
  refine ⟨k.bx.went hb, upto_hit k.its hj hq, h2, h1, ?_⟩
  rw [put_length k.its.1]
  have := k.len
  split <;> omega
theorem Out.done {W : World} {h : Sh} {G : Gram} {L : List Itm} {F : Itm → Itm} {Q : Itm → Prop} {Y : List Itm} {a : Option Addr} {c : Nat} {w : World} (k : Out W h G L F Q L.length Y a c w) {P : Itm → Prop} (hp : ∀ x, (∃ y ∈ L, x = F y ∧ Q y) ↔ P x) : ListR P W (.returned (.slice a Y.length c)) w :=
  ⟨Y, a, c, rfl, k.cap, k.its.iff fun x => (upto_all x).trans (hp x), k.at_, k.bx.below⟩

theorem stepP_iff {G : Gram} {L : List Itm} {s : Int} (x : Itm) : (∃ y ∈ L, x = nx y ∧ Hs G s y) ↔ StepP G L s x :=
  ⟨fun ⟨y, h1, h2, h3, h4⟩ => ⟨y, h1, h3, h4, h2⟩, fun ⟨y, h1, h3, h4, h2⟩ => ⟨y, h1, h2, h3, h4⟩⟩
/-- A right item of the kernel. -/
def Kq (G : Gram) (y : Itm) : Prop := rightB G y = true ∧ Kr G y
theorem kerP_iff {G : Gram} {L : List Itm} (x : Itm) : (∃ y ∈ L, x = id y ∧ Kq G y) ↔ KerP G L x :=
  ⟨fun ⟨y, h1, h2, h3, h4⟩ => by obtain rfl : x = y := h2; exact ⟨h1, h3, h4⟩, fun ⟨h1, h3, h4⟩ => ⟨x, h1, rfl, h3, h4⟩⟩

end Go.Proofs.Ytjjmoonajijnmaa.Im

namespace Go.Proofs.Ytjjmoonajijnmaa.Im
open Go.RowKit Go.Maps
open Go.Proofs.Ytjjmoonajijnmaa.Gr (Gram Sh gv GAt Bx boxed drawn checkN cell_new cell_old cell_later bool_of)
set_option linter.unusedVariables false

end Go.Proofs.Ytjjmoonajijnmaa.Im

namespace Go.Proofs.Ytjjmoonajijnmaa.Im
open Go.RowKit Go.Maps
open Go.Proofs.Ytjjmoonajijnmaa.Gr (Gram Sh gv GAt Bx boxed drawn checkN cell_new cell_old cell_later bool_of ofL ofN rof_any Listed)
set_option linter.unusedVariables false

/-- A right item. -/
def Rq (G : Gram) (y : Itm) : Prop := rightB G y = true
/-- On its way: the list Y lies in memory. -/
structure Rc (W : World) (h : Sh) (G : Gram) (L Y : List Itm) (a : Option Addr) (c : Nat) (w : World) : Prop where
  bx : Bx W h G w
  at_ : ItsA a Y w
  cap : Y.length ≤ c
  mid : Mid G L Y
  nw : Nw W a
theorem Rc.went {W : World} {h : Sh} {G : Gram} {L Y : List Itm} {a : Option Addr} {c : Nat} {w w' : World} (k : Rc W h G L Y a c w) (hb : Below w.heap.size w w') : Rc W h G L Y a c w' := ⟨k.bx.went hb, k.at_.went hb, k.cap, k.mid, k.nw⟩
theorem Out.rc {W : World} {h : Sh} {G : Gram} {L Y : List Itm} {a : Option Addr} {c : Nat} {w : World} (k : Out W h G L id (Rq G) L.length Y a c w) (n : Nw W a) : Rc W h G L Y a c w :=
  ⟨k.bx, k.at_, k.cap, .start (k.its.iff fun x => (upto_all x).trans ⟨fun ⟨y, h1, h2, h3⟩ => by obtain rfl : x = y := h2; exact ⟨h1, h3⟩, fun ⟨h1, h3⟩ => ⟨x, h1, rfl, h3⟩⟩), n⟩
theorem Rc.done {W : World} {h : Sh} {G : Gram} {L Y : List Itm} {a : Option Addr} {c : Nat} {w : World} (k : Rc W h G L Y a c w) (hs : Shut G Y) : ListN (Clo G L) W (.returned (.slice a Y.length c)) w :=
  ⟨Y, a, c, rfl, k.cap, k.mid.done hs, k.at_, k.bx.below, k.nw⟩
theorem Rc.len {W : World} {h : Sh} {G : Gram} {L Y : List Itm} {a : Option Addr} {c : Nat} {w : World} (k : Rc W h G L Y a c w) (hv : checkN G = 0) : Y.length ≤ 2709 := Nat.le_trans k.mid.len (all_small hv)

/-- The first j ask for no item more. -/
def ShutTo (G : Gram) (Y : List Itm) (j : Nat) : Prop := ∀ q, ∀ h : q < Y.length, q < j → behB G Y[q] = true → ∀ r ∈ ofN G (behV G Y[q]), ((r : Int), (0 : Int)) ∈ Y
theorem shut_zero (G : Gram) (Y : List Itm) : ShutTo G Y 0 := fun q _ h => absurd h (Nat.not_lt_zero q)
theorem shut_next {G : Gram} {Y : List Itm} {j : Nat} (h : ShutTo G Y j) (hj : j < Y.length) (k : behB G Y[j] = true → ∀ r ∈ ofN G (behV G Y[j]), ((r : Int), (0 : Int)) ∈ Y) : ShutTo G Y (j + 1) := fun q hq hl => by
  by_cases e : q = j
  · subst e
    exact k
  · exact h q hq (by omega)
theorem shut_all {G : Gram} {Y : List Itm} (h : ShutTo G Y Y.length) : Shut G Y := fun y hy => by
  obtain ⟨q, hq, rfl⟩ := List.getElem_of_mem hy
  exact h q hq hq

/-- The items of some rules that stand behind the dot. -/
theorem mid_more {G : Gram} {L : List Itm} {y : Itm} (hy : Clo G L y) (hb : behB G y = true) : ∀ (rs : List Nat) (out : List Itm), Mid G L out → (∀ r ∈ rs, r ∈ ofN G (behV G y)) → Mid G L (adds out rs)
  | [], out, m, _ => m
  | r :: rs, out, m, h => mid_more hy hb rs (putI out ((r : Int), 0)) (m.put hy hb (h r (List.mem_cons_self ..))) fun q hq => h q (List.mem_cons_of_mem _ hq)
theorem adds_take {Y : List Itm} {rs : List Nat} {k : Nat} (h : k < rs.length) : putI (adds Y (rs.take k)) ((rs[k] : Nat), 0) = adds Y (rs.take (k + 1)) := by
  rw [List.take_succ_eq_append_getElem h, adds_snoc]
theorem Rc.more {W : World} {h : Sh} {G : Gram} {L Y : List Itm} {rs : List Nat} {kk : Nat} {a a' : Option Addr} {c c' : Nat} {w w' : World} {y : Itm} (k : Rc W h G L (adds Y (rs.take kk)) a c w) (hk : kk < rs.length) (hy : Clo G L y) (hb : behB G y = true) (hm : Mid G L Y) (hr : rs = ofN G (behV G y))
    (hbl : Below w.heap.size w w') (h1 : (putI (adds Y (rs.take kk)) ((rs[kk] : Nat), 0)).length ≤ c') (h2 : ItsA a' (putI (adds Y (rs.take kk)) ((rs[kk] : Nat), 0)) w') (hn : ∀ b o, a' = some ⟨b, o, none⟩ → a' = a ∨ w.heap.size ≤ b) : Rc W h G L (adds Y (rs.take (kk + 1))) a' c' w' := by
  rw [adds_take hk] at h1 h2
  exact ⟨k.bx.went hbl, h2, h1, mid_more hy hb _ _ hm fun r hr' => by rw [← hr]; exact List.mem_of_mem_take hr', k.nw.step k.bx.below.size hn⟩
theorem rd_at {G : Gram} {s : Int} {a : Option Addr} {w : World} {rs : List Nat} (h : Sep.Reads a (Gr.ivs (ofL G s)) w) (hr : rs = ofN G s) {k : Nat} (hk : k < rs.length) : ∃ b o, a = some ⟨b, o, none⟩ ∧ w.cell? ⟨b, o + k, none⟩ = some (.int .i64 ((rs[k] : Nat) : Int)) := by
  subst hr
  have hl : k < (Gr.ivs (ofL G s)).length := by simp [Gr.ivs, Gr.ofL_length, hk]
  obtain ⟨b, o, e, hc⟩ := h k hl
  refine ⟨b, o, e, ?_⟩
  rw [hc]
  simp [Gr.ivs, Gr.iv, ofL, Gr.ofI, ofN]

/-- How far the rounds are. -/
def roundN (M : Nat) (v n : Value) : Nat := match v, n with
  | .slice _ l _, .int _ i => 2 * (M - l) + if i = (l : Int) then 0 else 1
  | _, _ => 0
theorem roundN_eq (M l c : Nat) (a : Option Addr) (k : IntKind) (i : Int) : roundN M (.slice a l c) (.int k i) = 2 * (M - l) + if i = (l : Int) then 0 else 1 := rfl

set_option maxRecDepth 100000 in
set_option maxHeartbeats 4000000 in
theorem rclose_new (h : Sh) (G : Gram) (hv : checkN G = 0) (L : List Itm) (a : Option Addr) (c : Nat) (w : World) (k : GAt h G w) (kl : ItsA a L w) (hL : L.length ≤ 10000) (hrl : G.rules.length ≤ 65536) :
    Calls Try.prog 16 #[gv h G, .slice a L.length c] w (ListN (Clo G L) w) := by
  have X0 := Lib.hid (Bx.start h G w 36)
  have BR := Lib.hid (fun (x : Itm) w1 (b : Below w.heap.size w w1) => rright_gw h G x w1 (k.went b))
  have BH := Lib.hid (fun (x : Itm) w1 (b : Below w.heap.size w w1) => rbehind_gw h G x w1 (k.went b))
  have OF := Lib.hid (fun (s : Int) w1 (b : Below w.heap.size w w1) => rof_any h G s w1 (k.went b) hrl)
  have KL := Lib.hid (fun w1 (b : Below w.heap.size w w1) => kl.went b)
  have PU := Lib.hid (fun (Y : List Itm) (ay : Option Addr) (cy : Nat) (x : Itm) w1 (hY : ItsA ay Y w1) (hc : Y.length ≤ cy) (hl : Y.length ≤ 100000) => rput_new Y ay cy x w1 hY hc hl)
  have mixed : Try.prog.follows .mixedOrders = true := by kernel_rfl
  clear k kl
  have O0 := Lib.hid (show Out w h G L id (Rq G) 0 [] none 0 _ from ⟨X0.out, Is.nil fun x ⟨_, _, q, _⟩ => by omega, .nil _ _, Nat.le_refl _, Nat.le_refl _⟩)
  unfold gv at *
  go_enter Try.func16, Try.ntmps16
  go_wp2
  go_loopw [5, 6] (fun v i wr => ∃ (j : Nat) (Y : List Itm) (ao : Option Addr) (co : Nat), i = .int .i64 j ∧ j ≤ L.length ∧ v = .slice ao Y.length co ∧ Out w h G L id (Rq G) j Y ao co wr ∧ Nw w ao) (fun _ i _ => L.length - (intOf i).toNat)
  case atStart => exact ⟨0, [], none, 0, rfl, Nat.zero_le _, rfl, O0.out, fun b o e => by cases e⟩
  case round =>
    obtain ⟨j, Y, ao, co, rfl, hj, rfl, hO, hN⟩ := hrel
    have NN := Lib.hid hN
    clear hN
    have O := Lib.hid hO
    clear hO O0
    by_cases hlt : j < L.length
    · obtain ⟨b1, o1, ea, p0, p1⟩ := (KL.out wr O.out.bx.below).at j hlt
      have HIT := Lib.hid (fun hq (a' : Option Addr) (c' : Nat) (w' : World) hb h1 h2 => O.out.hit (a' := a') (c' := c') (w' := w') hlt hq rfl hb h1 h2)
      have MISS := Lib.hid (fun hq => O.out.miss hlt hq)
      have e1 : ((L[j].1, L[j].2) : Itm) = L[j] := rfl
      generalize L[j] = x at p0 p1 e1 HIT MISS
      obtain ⟨x0, x1⟩ := x
      dsimp only at p0 p1
      clear e1
      subst ea
      have hGw : ∀ m os, Gw wr (Go.Sort.grow (wr.drewN m) os) := fun m os => ⟨m, os, rfl⟩
      have k0 : ∀ m os, (Go.Sort.grow (wr.drewN m) os).cell? ⟨b1, o1 + j * 2, none⟩ = some (.int .i64 x0) := fun m os => cell_later (hGw m os).below p0
      have k1 : ∀ m os, (Go.Sort.grow (wr.drewN m) os).cell? ⟨b1, o1 + j * 2 + 1, none⟩ = some (.int .i64 x1) := fun m os => cell_later (hGw m os).below p1
      have k2 : ∀ m os, (Go.Sort.grow (wr.drewN m) os).cell? ⟨w.heap.size, 0, none⟩ = some (.slice h.a1 G.terms.length h.c1) := fun m os => cell_later (hGw m os).below O.out.bx.box.x0
      have k3 : ∀ m os, (Go.Sort.grow (wr.drewN m) os).cell? ⟨w.heap.size, 1, none⟩ = some (.slice h.a2 G.nons.length h.c2) := fun m os => cell_later (hGw m os).below O.out.bx.box.x1
      have k4 : ∀ m os, (Go.Sort.grow (wr.drewN m) os).cell? ⟨w.heap.size, 2, none⟩ = some (.slice h.a3 G.rules.length h.c3) := fun m os => cell_later (hGw m os).below O.out.bx.box.x2
      have k5 : ∀ m os, (Go.Sort.grow (wr.drewN m) os).cell? ⟨w.heap.size, 3, none⟩ = some (.int .i64 G.start) := fun m os => cell_later (hGw m os).below O.out.bx.box.x3
      have CB := Lib.hid (fun m os => BR.out (x0, x1) (Go.Sort.grow (wr.drewN m) os) (Gr.step O.out.bx.below (hGw m os).below))
      unfold iv at CB
      dsimp only at CB
      have HS : Rq G (x0, x1) ↔ rightB G (x0, x1) = true := Iff.rfl
      generalize Rq G (x0, x1) = hs at HS HIT MISS
      generalize rightB G (x0, x1) = rr at CB HS
      go_wp2
      refine wp_region_quiet_grown (by assumption) (by kernel_rfl) ?_
      repeat (first | go_big_quiet_skip | (go_big_quiet_want; go_big_quiet_op; first | go_big_quiet_on | go_big_quiet_call (first | (go_at_call 29; refine Calls.grown_of (CB.out _ _)))) | quiet_step (first | (go_at_call 29; refine Calls.grown_of (CB.out _ _))))
      refine wpQuiet_nil ?_
      intro _ hw'
      obtain ⟨⟨nq, osq⟩, hw''⟩ := hw'
      subst hw''
      have O2 := Lib.hid (O.out.went (hGw nq osq).below)
      have hb2 := (hGw nq osq).below
      have p0 := k0 nq osq
      have p1 := k1 nq osq
      generalize Go.Sort.grow (wr.drewN nq) osq = w2 at O2 hb2 p0 p1 ⊢
      clear k0 k1 k2 k3 k4 k5 CB hGw
      cases rr with
      | false =>
        have O3 := Lib.hid (MISS.out fun q => Bool.noConfusion (HS.1 q))
        clear HIT MISS HS
        have O4 := Lib.hid (O3.out.went hb2)
        clear O2 O3 O
        go_wp2
        go_roundw
        case rel => exact ⟨j + 1, Y, ao, co, by go_num, by omega, rfl, O4.out, NN.out⟩
        case measure => simp [intOf]; omega
      | true =>
        have HI := Lib.hid (HIT.out (HS.2 rfl))
        clear HIT MISS HS
        have hl : Y.length ≤ 100000 := by have := O2.out.len; omega
        have CP := Lib.hid (PU.out Y ao co (x0, x1) w2 O2.out.at_ O2.out.cap hl)
        unfold iv at CP
        go_wp2_with (go_at_call 30; refine CP.out.mono ?_; rintro e w3 ⟨a3, c3, rfl, h1, h2, hb, hnw⟩; have O3 := Lib.hid (HI.out a3 c3 _ (Gr.step hb2 hb) h1 h2); have N3 := Lib.hid (NN.out.step O2.out.bx.below.size hnw); clear h1 h2 hb hnw)
        go_roundw
        case rel => exact ⟨j + 1, _, a3, c3, by go_num, by omega, rfl, O3.out, N3.out⟩
        case measure => simp [intOf]; omega
    · have hE : j = L.length := by omega
      subst hE
      have R0 := Lib.hid (O.out.rc NN.out)
      clear O KL hL hlt hj
      go_wp2
      go_loopw [5, 7, 8, 9, 10, 11, 12, 13] (fun v n _ _ _ _ _ _ wx => ∃ (nn : Int) (Z : List Itm) (az : Option Addr) (cz : Nat), n = .int .i64 nn ∧ v = .slice az Z.length cz ∧ Rc w h G L Z az cz wx ∧ (nn = (Z.length : Int) → Shut G Z)) (fun v n _ _ _ _ _ _ _ => roundN 2709 v n)
      case atStart => exact ⟨-1, Y, ao, co, rfl, rfl, R0.out, fun q => by omega⟩
      case round =>
        obtain ⟨nn, Z, az, cz, rfl, rfl, hR, hS⟩ := hrel
        have R := Lib.hid hR
        have S := Lib.hid hS
        clear hR hS R0
        by_cases he : nn = (Z.length : Int)
        · have F := Lib.hid (R.out.done (S.out he))
          subst he
          go_wp2
          go_ret
          exact F.out
        · have hz := R.out.len hv
          have hne : (nn != (Z.length : Int)) = true := by simpa using he
          clear S
          go_wp2
          go_loopw [5, 8, 9, 10, 11, 12, 13] (fun v i _ _ _ _ _ wx => ∃ j : Nat, v = .slice az Z.length cz ∧ i = .int .i64 j ∧ j ≤ Z.length ∧ Rc w h G L Z az cz wx ∧ ShutTo G Z j) (fun _ i _ _ _ _ _ _ => Z.length - (intOf i).toNat)
          case atStart => exact ⟨0, rfl, rfl, Nat.zero_le _, R.out, shut_zero G Z⟩
          case round =>
            obtain ⟨j, rfl, rfl, hj, hR, hS⟩ := hrel
            clear R
            have R := Lib.hid hR
            have S := Lib.hid hS
            clear hR hS
            by_cases hlt : j < Z.length
            · obtain ⟨b1, o1, ea, p0, p1⟩ := R.out.at_.at j hlt
              have NX := Lib.hid (shut_next S.out hlt)
              have CY := Lib.hid (R.out.mid.sub _ (List.getElem_mem hlt))
              clear S
              have e1 : ((Z[j].1, Z[j].2) : Itm) = Z[j] := rfl
              generalize Z[j] = x at p0 p1 e1 NX CY
              obtain ⟨x0, x1⟩ := x
              dsimp only at p0 p1
              clear e1
              subst ea
              have hGw : ∀ m os, Gw wr (Go.Sort.grow (wr.drewN m) os) := fun m os => ⟨m, os, rfl⟩
              have k0 : ∀ m os, (Go.Sort.grow (wr.drewN m) os).cell? ⟨b1, o1 + j * 2, none⟩ = some (.int .i64 x0) := fun m os => cell_later (hGw m os).below p0
              have k1 : ∀ m os, (Go.Sort.grow (wr.drewN m) os).cell? ⟨b1, o1 + j * 2 + 1, none⟩ = some (.int .i64 x1) := fun m os => cell_later (hGw m os).below p1
              have k2 : ∀ m os, (Go.Sort.grow (wr.drewN m) os).cell? ⟨w.heap.size, 0, none⟩ = some (.slice h.a1 G.terms.length h.c1) := fun m os => cell_later (hGw m os).below R.out.bx.box.x0
              have k3 : ∀ m os, (Go.Sort.grow (wr.drewN m) os).cell? ⟨w.heap.size, 1, none⟩ = some (.slice h.a2 G.nons.length h.c2) := fun m os => cell_later (hGw m os).below R.out.bx.box.x1
              have k4 : ∀ m os, (Go.Sort.grow (wr.drewN m) os).cell? ⟨w.heap.size, 2, none⟩ = some (.slice h.a3 G.rules.length h.c3) := fun m os => cell_later (hGw m os).below R.out.bx.box.x2
              have k5 : ∀ m os, (Go.Sort.grow (wr.drewN m) os).cell? ⟨w.heap.size, 3, none⟩ = some (.int .i64 G.start) := fun m os => cell_later (hGw m os).below R.out.bx.box.x3
              have CB := Lib.hid (fun m os => BH.out (x0, x1) (Go.Sort.grow (wr.drewN m) os) (Gr.step R.out.bx.below (hGw m os).below))
              unfold iv at CB
              dsimp only at CB
              have hbh := Lib.hid (show behB G (x0, x1) = true → behB G (x0, x1) = true from id)
              generalize eb : behB G (x0, x1) = bb at CB NX
              generalize ev : behV G (x0, x1) = bv at CB NX
              clear hbh
              go_wp2
              refine wp_region_quiet_grown (by assumption) (by kernel_rfl) ?_
              repeat (first | go_big_quiet_skip | (go_big_quiet_want; go_big_quiet_op; first | go_big_quiet_on | go_big_quiet_call (first | (go_at_call 31; refine Calls.grown_of (CB.out _ _)))) | quiet_step (first | (go_at_call 31; refine Calls.grown_of (CB.out _ _))))
              refine wpQuiet_nil ?_
              intro _ hw'
              obtain ⟨⟨nq, osq⟩, hw''⟩ := hw'
              subst hw''
              have R2 := Lib.hid (R.out.went (hGw nq osq).below)
              generalize Go.Sort.grow (wr.drewN nq) osq = w2 at R2 ⊢
              clear k0 k1 k2 k3 k4 k5 CB hGw p0 p1 R
              cases bb with
              | false =>
                have S2 := Lib.hid (NX.out fun q => Bool.noConfusion q)
                clear NX
                go_wp2
                go_roundw
                case rel => exact ⟨j + 1, rfl, by go_num, by omega, R2.out, S2.out⟩
                case measure => simp [intOf]; omega
              | true =>
                have NX2 := Lib.hid (fun q => NX.out (fun _ => q))
                have CO := Lib.hid (OF.out bv w2 R2.out.bx.below)
                clear NX
                obtain ⟨g0, g1, g2, g3⟩ := R2.out.bx.box
                go_wp2_with (first
                  | (go_at_call 32; refine CO.out.mono ?_; rintro e w3 ⟨a3, c3, rfl, h1, h2, hb⟩; have R3 := Lib.hid (R2.out.went hb); have RD := Lib.hid h1; clear h1 h2 hb)
                  | fail)
                have hm := R3.out.mid
                obtain ⟨rs, hrs⟩ : ∃ rs, rs = ofN G bv := ⟨_, rfl⟩
                have hln : (ofL G bv).length = rs.length := by rw [Gr.ofL_length, hrs]
                rw [← hrs] at NX2
                have MO := Lib.hid (fun (kk : Nat) (am a' : Option Addr) (cm c' : Nat) (wm w' : World) (q : Rc w h G L (adds Z (rs.take kk)) am cm wm) (hk : kk < rs.length) hbl h1 h2 hn => q.more (a' := a') (c' := c') (w' := w') hk CY.out eb hm (by rw [ev]; exact hrs) hbl h1 h2 hn)
                have RA := Lib.hid (fun (wm : World) (q : Sep.Reads a3 (Gr.ivs (ofL G bv)) wm) (kk : Nat) (hk : kk < rs.length) => rd_at q hrs hk)
                have srt := hm.srt
                have hrn : rs.length ≤ 65536 := by
                  rw [hrs]
                  exact Nat.le_trans (Gr.ofTo_le _ _ _) hrl
                rw [hln]
                clear CO g0 g1 g2 g3 R2 CY hm eb ev hln hrs
                go_loopw [12, 13] (fun m kx wx => ∃ (kk : Nat) (am : Option Addr) (cm : Nat), m = .slice am (adds Z (rs.take kk)).length cm ∧ kx = .int .i64 kk ∧ kk ≤ rs.length ∧ Rc w h G L (adds Z (rs.take kk)) am cm wx ∧ Rc w h G L Z (some ⟨b1, o1, none⟩) cz wx ∧ Sep.Reads a3 (Gr.ivs (ofL G bv)) wx) (fun _ kx _ => rs.length - (intOf kx).toNat)
                case atStart => exact ⟨0, _, _, rfl, rfl, Nat.zero_le _, R3.out, R3.out, RD.out⟩
                case round =>
                  obtain ⟨kk, am, cm, rfl, rfl, hk, hM, hZ, hD⟩ := hrel
                  have M := Lib.hid hM
                  have ZZ := Lib.hid hZ
                  have D := Lib.hid hD
                  clear hM hZ hD R3 RD
                  have hml := M.out.len hv
                  by_cases hkl : kk < rs.length
                  · obtain ⟨b2, o2, ea, q0⟩ := RA.out wr D.out kk hkl
                    have CP := Lib.hid (PU.out (adds Z (rs.take kk)) am cm ((rs[kk] : Nat), 0) wr M.out.at_ M.out.cap (by omega))
                    have MM := Lib.hid (fun (a' : Option Addr) (c' : Nat) (w' : World) hbl h1 h2 hn => MO.out kk am a' cm c' wr w' M.out hkl hbl h1 h2 hn)
                    have el := congrArg List.length (adds_take (Y := Z) hkl)
                    unfold iv at CP
                    generalize putI (adds Z (rs.take kk)) ((rs[kk] : Nat), 0) = PP at CP MM el
                    have EL := Lib.hid (fun (a' : Option Addr) (c' : Nat) => congrArg (fun n => Value.slice a' n c') el)
                    clear el
                    generalize ((rs[kk] : Nat) : Int) = rv at CP q0
                    subst ea
                    go_wp2_with (go_at_call 30; refine CP.out.mono ?_; rintro e w5 ⟨a5, c5, rfl, h1, h2, hb, hnw⟩; have M5 := Lib.hid (MM.out a5 c5 _ hb h1 h2 hnw); clear hnw; have Z5 := Lib.hid (ZZ.out.went hb); have D5 := Lib.hid (D.out.below hb (Nat.le_refl _)); clear h1 h2 hb)
                    go_roundw
                    case rel => exact ⟨kk + 1, a5, c5, EL.out a5 c5, by go_num, by omega, M5.out, Z5.out, D5.out⟩
                    case measure => simp [intOf]; omega
                  · have hE : kk = rs.length := by omega
                    subst hE
                    have M2 := M.out
                    rw [List.take_length] at M2 hml
                    rw [List.take_length]
                    have M3 := Lib.hid M2
                    have AS := Lib.hid (fun hl => adds_same (rs := rs) srt hl)
                    have ge := adds_ge (rs := rs) srt
                    clear M2 M MO RA PU
                    generalize adds Z rs = Z2 at M3 AS ge hml ⊢
                    by_cases hl : Z2.length = Z.length
                    · have S2 := Lib.hid (NX2.out (AS.out hl).1)
                      have hnl : ((Z2.length : Int) != (Z.length : Int)) = false := by rw [hl]; exact bne_self_eq_false _
                      clear NX2 AS hl ge
                      go_wp2
                      go_roundw
                      case rel => exact ⟨j + 1, rfl, by go_num, by omega, ZZ.out, S2.out⟩
                      case measure => simp [intOf]; omega
                    · have hnl : ((Z2.length : Int) != (Z.length : Int)) = true := by simp only [bne_iff_ne, ne_eq]; omega
                      clear NX2 AS
                      go_wp2
                      go_roundw
                      case rel => exact ⟨Z.length, Z2, am, cm, rfl, rfl, M3.out, fun q => by omega⟩
                      case measure => rw [roundN_eq, roundN_eq, if_neg (by omega), if_neg he]; omega
            · have hE : j = Z.length := by omega
              subst hE
              have S2 := Lib.hid (shut_all S.out)
              clear S
              go_wp2
              go_roundw
              case rel => exact ⟨Z.length, Z, az, cz, rfl, rfl, R.out, fun _ => S2.out⟩
              case measure => rw [roundN_eq, roundN_eq, if_pos rfl, if_neg he]; omega

theorem rclose_any (h : Sh) (G : Gram) (hv : checkN G = 0) (L : List Itm) (a : Option Addr) (c : Nat) (w : World) (k : GAt h G w) (kl : ItsA a L w) (hL : L.length ≤ 10000) (hrl : G.rules.length ≤ 65536) :
    Calls Try.prog 16 #[gv h G, .slice a L.length c] w (ListR (Clo G L) w) :=
  (rclose_new h G hv L a c w k kl hL hrl).mono fun e w' ⟨Y, a', c', h1, h2, h3, h4, h5, _⟩ => ⟨Y, a', c', h1, h2, h3, h4, h5⟩

end Go.Proofs.Ytjjmoonajijnmaa.Im
