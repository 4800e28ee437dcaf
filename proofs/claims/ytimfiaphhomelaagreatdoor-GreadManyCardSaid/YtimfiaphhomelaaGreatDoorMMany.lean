/-
  Statement GreadMany of layer 7: for every number n, the source with n modulo 400 alternatives of one rule is read with as many rules (one empty rule for none), and with more than MaxRules of them has ErrMany at the first one too many. No condition of ours: the statement's row lists errors' own variable for the type error, tied to the program's text; that MaxLen's variable holds a number is the world's shape.
  The walk of the statement on a family of sources. Conditions: errors' variable for the type error and MaxLen's hold what the program's text lays there.
-/
import Derived.Test.YtimfiaphhomelaaGreatDoorMAwake
import Derived.Test.YtimfiaphhomelaaGreatDoorMFam
import Derived.Laws.BytesArg
import Derived.Test.YtimfiaphhomelaaGreatDoorRows
import Derived.Test.YtimfiaphhomelaaGreatDoorCards
import Derived.Test.YtimfiaphhomelaaGreatDoorTie
import Derived.WalkKit
import Derived.ProofKit
import Derived.OpenShut
import Derived.ShutString
import Derived.ChangeOld
import Derived.ChangeSame
import Derived.ChangeVars
import Derived.Below
import Derived.LaidLaws
import Derived.LaidHandle
import Derived.SizedLaws
import Derived.Stop.Joined
import Derived.Deep.DeepHandedRow
import Derived.Shelf.Vars
import Derived.SevenTiedAt
import Derived.IntWalk
namespace Go.Proofs.YtimfiaphhomelaaGreatDoor.Rd
open Go.RowKit Go.Maps
open Go.Proofs.YtimfiaphhomelaaGreatDoor.Tk (Tok MaxLen)
open Go.Proofs.YtimfiaphhomelaaGreatDoor.Fm (namesL altsL headL famL)
open Go.Proofs.YtimfiaphhomelaaGreatDoor.Sw (str)
set_option linter.unusedVariables false
set_option linter.unusedSimpArgs false

/-- The text with so many names; with so many alternatives. -/
def nmT (j : Nat) : ByteArray := str ([37, 116, 111, 107, 101, 110] ++ namesL j)
def faT (k : Nat) : ByteArray := str (headL ++ altsL k)
/-- The last sign of the names. -/
def nmE : ByteArray := ⟨#[37, 37, 32, 115, 32, 58, 32]⟩

theorem nums_str (xs : List Int) (l : List UInt8) (h : (xs.map fun n => UInt8.ofNat n.toNat) = l) : strOfNums xs = str l := by
  subst h
  rfl
theorem nL_of (c : Nat) : [UInt8.ofNat (116 : Int).toNat, UInt8.ofNat (97 + (c : Int)).toNat] = Fm.nL c := by
  have h : (97 + (c : Int)).toNat = 97 + c := by omega
  rw [h]
  rfl
theorem two_str (c : Nat) : strOfNums [116, 97 + (c : Int)] = str (Fm.nL c) := nums_str _ _ (by simp only [List.map_cons, List.map_nil]; exact nL_of c)
theorem nm_next (j : Nat) : (nmT j ++ ⟨#[32]⟩) ++ strOfNums [116, 97 + (j : Int)] = nmT (j + 1) := by
  rw [two_str]
  unfold nmT
  rw [Fm.names_succ]
  show (str _ ++ str [32]) ++ str _ = _
  rw [Sw.str_append, Sw.str_append]
  congr 1
  simp
theorem names_len (j : Nat) : (namesL j).length = 3 * j := by
  induction j with
  | zero => rfl
  | succ j ih =>
    rw [Fm.names_succ, List.length_append, ih]
    show 3 * j + 3 = _
    omega
theorem nm_size (j : Nat) : (nmT j).size = 6 + 3 * j := by
  unfold nmT
  rw [Sw.str_size, List.length_append, names_len]
  rfl
theorem nm_end : nmT 18 ++ nmE = faT 0 := by
  show str _ ++ str [37, 37, 32, 115, 32, 58, 32] = _
  rw [Sw.str_append]
  unfold faT
  congr 1
theorem fa_size (k : Nat) : (faT k).size = 67 + (9 * k - (if k = 0 then 0 else 1)) := by
  unfold faT
  rw [Sw.str_size, List.length_append, Fm.head_len, Fm.alts_len]
theorem fa_end (k : Nat) : faT k ++ ⟨#[59]⟩ = str (famL k) := by
  show str _ ++ str [59] = _
  rw [Sw.str_append]
  unfold Fm.famL
  rw [List.append_assoc]
/-- The numbers of an alternative. -/
def altN (k : Nat) : List Int := [116, 97 + (k : Int) % 18, 32, 116, 97 + (k : Int) / 18 % 18, 32, 116, 97 + (k : Int) / 324]
theorem altN_str (k : Nat) : strOfNums (altN k) = str (Fm.altL k) := by
  refine nums_str _ _ ?_
  have h1 : (97 + (k : Int) % 18).toNat = 97 + Fm.ax k := by unfold Fm.ax; omega
  have h2 : (97 + (k : Int) / 18 % 18).toNat = 97 + Fm.ay k := by unfold Fm.ay; omega
  have h3 : (97 + (k : Int) / 324).toNat = 97 + Fm.az k := by unfold Fm.az; omega
  unfold altN
  simp only [List.map_cons, List.map_nil, h1, h2, h3]
  rfl
theorem fa_first : faT 0 ++ strOfNums (altN 0) = faT 1 := by
  rw [altN_str]
  unfold faT
  rw [Sw.str_append, List.append_assoc]
  rfl
theorem fa_next (k : Nat) (h : k ≠ 0) : (faT k ++ ⟨#[124]⟩) ++ strOfNums (altN k) = faT (k + 1) := by
  rw [altN_str]
  unfold faT
  show (str _ ++ str [124]) ++ _ = _
  rw [Sw.str_append, Sw.str_append, Fm.alts_succ]
  unfold Fm.rowA
  rw [if_neg h]
  congr 1
  simp

theorem conv_two (w : World) (x : Int) : (convert 38 9 (.slice (some ⟨w.heap.size, 0, none⟩) 2 2)).run Tryz.prog (w.alloc (.cells #[.int .u8 116, .int .u8 x] 5)) = .ok (.string (strOfNums [116, x])) (w.alloc (.cells #[.int .u8 116, .int .u8 x] 5)) :=
  run_convert_bytes_arg _ 38 5 Tryz.underlying38 Tryz.underlying5 w.heap.size 0 2 2 [116, x] rfl (fun i hi => by
    have : i = 0 ∨ i = 1 := by omega
    rcases this with rfl | rfl
    · exact Gr.cell_new rfl rfl
    · exact Gr.cell_new rfl rfl) 9 Tryz.underlying9
theorem conv_alt (w : World) (k : Nat) : (convert 38 9 (.slice (some ⟨w.heap.size, 0, none⟩) 8 8)).run Tryz.prog (w.alloc (.cells #[.int .u8 116, .int .u8 (97 + (k : Int) % 18), .int .u8 32, .int .u8 116, .int .u8 (97 + (k : Int) / 18 % 18), .int .u8 32, .int .u8 116, .int .u8 (97 + (k : Int) / 324)] 5)) = .ok (.string (strOfNums (altN k))) (w.alloc (.cells #[.int .u8 116, .int .u8 (97 + (k : Int) % 18), .int .u8 32, .int .u8 116, .int .u8 (97 + (k : Int) / 18 % 18), .int .u8 32, .int .u8 116, .int .u8 (97 + (k : Int) / 324)] 5)) :=
  run_convert_bytes_arg _ 38 5 Tryz.underlying38 Tryz.underlying5 w.heap.size 0 8 8 (altN k) rfl (fun i hi => by
    have : i = 0 ∨ i = 1 ∨ i = 2 ∨ i = 3 ∨ i = 4 ∨ i = 5 ∨ i = 6 ∨ i = 7 := by omega
    rcases this with rfl | rfl | rfl | rfl | rfl | rfl | rfl | rfl <;> exact Gr.cell_new rfl rfl) 9 Tryz.underlying9

/-- The family's text and what it has. -/
theorem parse_fam (k : Nat) (hk : k ≤ 400) (w : World) (hm : MaxLen w) : Calls Tryz.prog 7 #[.string (faT k ++ ⟨#[59]⟩)] w (ParseGave (makeM (Fm.famSrc k)) w) := by
  obtain ⟨T, rest, h1, h2⟩ := Fm.fam_parts hk
  rw [fa_end]
  refine parse_any _ _ w ⟨.ok T, by rw [Sw.str_data]; exact h1, _, h2, rfl⟩ ?_ hm
  rw [Sw.str_size]
  unfold Fm.famL
  rw [List.length_append, List.length_append, Fm.head_len, Fm.alts_len]
  simp
  omega

/-- Where the one too many begins. -/
def atI (j : Nat) : Int := if j ≤ 300 then 0 else 2767
theorem atI_next {j : Nat} (h : ¬ j = 300) : atI (j + 1) = atI j := by
  unfold atI
  by_cases h2 : j ≤ 300
  · rw [if_pos h2, if_pos (by omega)]
  · rw [if_neg h2, if_neg (by omega)]

/-- A grammar with so many rules comes back. -/
def Counts (L : Nat) (w : World) (e : Ending) (w' : World) : Prop := ∃ s1 n1 s2 s3 n2 s4 s5 s6 x, e = .returned (.tuple #[.agg #[.slice s1 n1 s2, .slice s3 n2 s4, .slice s5 L s6, .int .i64 x], .nilIface]) ∧ Below w.heap.size w w'
theorem fam_ok {k L : Nat} (h : k ≤ 300) (hL : (if k = 0 then 1 else k) = L) (w : World) (hm : MaxLen w) : Calls Tryz.prog 7 #[.string (faT k ++ ⟨#[59]⟩)] w (Counts L w) := by
  obtain ⟨G, h1, h2⟩ := Fm.many_ok h
  rw [hL] at h2
  have := parse_fam k (by omega) w hm
  rw [h1] at this
  refine this.mono fun e w' ⟨sh, he, _, hb⟩ => ⟨sh.a1, G.terms.length, sh.c1, sh.a2, G.nons.length, sh.c2, sh.a3, sh.c3, G.start, ?_, hb⟩
  rw [he, ← h2]
theorem fam_no {k : Nat} (h : 300 < k) (hk : k ≤ 400) (w : World) (hm : MaxLen w) : Calls Tryz.prog 7 #[.string (faT k ++ ⟨#[59]⟩)] w (ParseGave (.no 7 2767) w) := by
  have := parse_fam k hk w hm
  rw [Fm.many_no h hk] at this
  exact this

set_option maxHeartbeats 4000000 in
set_option maxRecDepth 100000 in
theorem many_law (m : Nat) (hm16 : m ≤ 65535) (w : World) (he : Fa.ErrType w) (hm : MaxLen w) : Calls Tryz.prog 4 #[.int .u16 (m : Int)] w (Gr.Is (.bool true) w) := by
  have AW := Lib.hid (fun w1 (b : Below w.heap.size w w1) => awake_any w1 (he.keep b) (hm.keep b))
  have PO := Lib.hid (fun k L (hk : k ≤ 300) (hL : (if k = 0 then 1 else k) = L) w1 (b : Below w.heap.size w w1) => fam_ok hk hL w1 (hm.keep b))
  have PN := Lib.hid (fun k (h3 : 300 < k) (hk : k ≤ 400) w1 (b : Below w.heap.size w w1) => fam_no h3 hk w1 (hm.keep b))
  have CH := Lib.hid (fun w1 (b : Below w.heap.size w w1) => he.keep b)
  clear he hm
  go_enter Tryz.func4, Tryz.ntmps4
  go_wp2
  generalize hK0 : (m : Int) % 400 = K0
  obtain ⟨K, rfl, hK⟩ : ∃ K : Nat, K0 = (K : Int) ∧ K < 400 := ⟨K0.toNat, by omega, by omega⟩
  have hnm0 : (⟨#[37, 116, 111, 107, 101, 110]⟩ : ByteArray) = nmT 0 := rfl
  rw [hnm0]
  clear hK0 hnm0
  go_loopw [4, 5] (fun s i wr => ∃ j : Nat, j ≤ 18 ∧ i = .int .i64 j ∧ s = .string (nmT j) ∧ Below w.heap.size w wr) (fun _ i _ => 18 - (intOf i).toNat)
  case atStart => exact ⟨0, Nat.zero_le _, rfl, rfl, Below.refl _ _⟩
  case round =>
    obtain ⟨j, hj, rfl, rfl, hb⟩ := hrel
    have HB := Lib.hid hb
    clear hb
    have hsz := nm_size j
    by_cases hlt : j < 18
    · have cv := conv_two wr (97 + (j : Int))
      have hnx := Lib.hid (nm_next j)
      have hs2 : (nmT j ++ (⟨#[32]⟩ : ByteArray)).size = 7 + 3 * j := by rw [ByteArray.size_append, hsz]; show _ + 1 = _; omega
      have hs3 : (strOfNums [116, 97 + (j : Int)]).size = 2 := strOfNums_size _
      go_wp2
      go_round
      case rel => exact ⟨j + 1, by omega, by go_num, by rw [hnx.out], HB.out.alloc HB.out.size _⟩
      case measure => simp [intOf]; omega
    · obtain rfl : j = 18 := by omega
      clear hj hlt
      have hne := Lib.hid nm_end
      have hnd : (⟨#[37, 37, 32, 115, 32, 58, 32]⟩ : ByteArray) = nmE := rfl
      have hs4 : nmE.size = 7 := rfl
      go_wp2
      rw [hne.out]
      clear hne hnd hs4 hsz
      go_loopw [4, 6, 7] (fun s a i wr => ∃ j : Nat, j ≤ K ∧ i = .int .i64 j ∧ s = .string (faT j) ∧ a = .int .i64 (atI j) ∧ Below w.heap.size w wr) (fun _ _ i _ => K - (intOf i).toNat)
      case atStart => exact ⟨0, Nat.zero_le _, rfl, rfl, rfl, HB.out⟩
      case round =>
        obtain ⟨j, hj, rfl, rfl, rfl, hb⟩ := hrel
        have HB2 := Lib.hid hb
        clear hb HB
        have hsz := fa_size j
        by_cases hlt : j < K
        · have cv := conv_alt wr j
          have hs3 : (strOfNums (altN j)).size = 8 := strOfNums_size _
          by_cases h0 : j = 0
          · have hnx := Lib.hid (show faT j ++ strOfNums (altN j) = faT (j + 1) from h0 ▸ fa_first)
            have hat1 := Lib.hid (show atI (j + 1) = atI j from h0 ▸ rfl)
            rw [if_pos h0] at hsz
            have hj1 : j < 1 := by omega
            clear h0
            go_wp2
            go_round
            case rel => exact ⟨j + 1, by omega, by go_num, by rw [hnx.out], by rw [hat1.out], HB2.out.alloc HB2.out.size _⟩
            case measure => simp [intOf]; omega
          · have hnx := Lib.hid (fa_next j h0)
            rw [if_neg h0] at hsz
            have hs2 : (faT j ++ (⟨#[124]⟩ : ByteArray)).size = 67 + (9 * j - 1) + 1 := by rw [ByteArray.size_append, hsz]; rfl
            by_cases h3 : j = 300
            · have hat1 := Lib.hid (show atI (j + 1) = 2767 from h3 ▸ rfl)
              have hj1 : j < 301 := by omega
              have hj2 : 299 < j := by omega
              clear h3 h0
              go_wp2
              go_round
              case rel => exact ⟨j + 1, by omega, by go_num, by rw [hnx.out], by rw [hat1.out]; go_num, HB2.out.alloc HB2.out.size _⟩
              case measure => simp [intOf]; omega
            · have hat1 := Lib.hid (atI_next h3)
              go_wp2
              go_round
              case rel => exact ⟨j + 1, by omega, by go_num, by rw [hnx.out], by rw [hat1.out], HB2.out.alloc HB2.out.size _⟩
              case measure => simp [intOf]; omega
        · obtain rfl : j = K := by omega
          have hs2 : (faT j ++ (⟨#[59]⟩ : ByteArray)).size = (faT j).size + 1 := by rw [ByteArray.size_append]; rfl
          clear hj hlt
          by_cases h3 : 300 < j
          · have hat := Lib.hid (show atI j = 2767 by unfold atI; rw [if_neg (by omega)])
            have PN := Lib.hid (fun w1 (b : Below w.heap.size w w1) => show Calls Tryz.prog 7 #[.string (faT j ++ ⟨#[59]⟩)] w1 (ParseGave (.no 7 2767) w1) from PN.out j h3 (by omega) w1 b)
            rw [hat.out]
            go_wp2_with (first
              | (go_at_call 7; ((with_reducible refine (PN.out _ HB2.out).mono ?_)); rintro e w2 ⟨rfl, hb⟩; have B2 := Lib.hid (Gr.step HB2.out hb); clear hb; have B3 := Lib.hid (Gr.step B2.out (Gr.boxed w2 (.cells zg 26))))
              | (go_at_call 12; refine (Fa.code_hit 7 2767 _ (CH.out _ B3.out) rfl).mono ?_; rintro e w4 ⟨rfl, hb⟩; have B4 := Lib.hid (Gr.step B3.out hb); clear hb)
              | (go_at_call 13; refine (Fa.at_hit 7 2767 _ (CH.out _ B4.out) rfl).mono ?_; rintro e w5 ⟨rfl, hb⟩; have B5 := Lib.hid (Gr.step B4.out hb); clear hb)
              | (go_at_call 6; refine (AW.out _ B5.out).mono ?_; rintro e w6 ⟨rfl, hb⟩; have B6 := Lib.hid (Gr.step B5.out hb); clear hb))
            go_ret
            exact ⟨rfl, B6.out⟩
          · have hat := Lib.hid (show atI j = 0 by unfold atI; rw [if_pos (by omega)])
            by_cases h0 : j < 1
            · have PO := Lib.hid (fun w1 (b : Below w.heap.size w w1) => PO.out j 1 (by omega) (if_pos (by omega)) w1 b)
              go_wp2_with (first
                | (go_at_call 7; ((with_reducible refine (PO.out _ HB2.out).mono ?_)); rintro e w2 ⟨s1, n1, s2, s3, n2, s4, s5, s6, x, rfl, hb⟩; have B2 := Lib.hid (Gr.step HB2.out hb); clear hb; have B3 := Lib.hid (Gr.step B2.out (Gr.boxed w2 (.cells #[.slice s1 n1 s2, .slice s3 n2 s4, .slice s5 1 s6, .int .i64 x] 26))))
                | (go_at_call 6; refine (AW.out _ B3.out).mono ?_; rintro e w6 ⟨rfl, hb⟩; have B6 := Lib.hid (Gr.step B3.out hb); clear hb))
              go_ret
              exact ⟨rfl, B6.out⟩
            · have PO := Lib.hid (fun w1 (b : Below w.heap.size w w1) => PO.out j j (by omega) (if_neg (by omega)) w1 b)
              go_wp2_with (first
                | (go_at_call 7; ((with_reducible refine (PO.out _ HB2.out).mono ?_)); rintro e w2 ⟨s1, n1, s2, s3, n2, s4, s5, s6, x, rfl, hb⟩; have B2 := Lib.hid (Gr.step HB2.out hb); clear hb; have B3 := Lib.hid (Gr.step B2.out (Gr.boxed w2 (.cells #[.slice s1 n1 s2, .slice s3 n2 s4, .slice s5 j s6, .int .i64 x] 26))))
                | (go_at_call 6; refine (AW.out _ B3.out).mono ?_; rintro e w6 ⟨rfl, hb⟩; have B6 := Lib.hid (Gr.step B3.out hb); clear hb))
              go_ret
              exact ⟨rfl, B6.out⟩

end Go.Proofs.YtimfiaphhomelaaGreatDoor.Rd

namespace Go.Proofs.YtimfiaphhomelaaGreatDoor.greadMany
open Go.ChangeShapes Go.WideShapes Go.ChangeAt Go.RowKit Go.Lib
open Go.ChangeMaps (open_string shut_string)
set_option linter.unusedVariables false

theorem own : ownKnob Tryz.prog.godebug = none := by kernel_rfl
theorem et : Tryz.prog.globalNamed "errors.errorType" = some 0 := by kernel_rfl
theorem rt : (Tryz.prog.cutTypes.find? (·.1 == "internal/reflectlite.rtype")).map (·.2) = some 157 := by kernel_rfl
theorem oneRow : ((List.range 214).filter fun t => Tryz.prog.rowNamed t [101, 114, 114, 111, 114]) = [28] := by kernel_rfl
theorem size : Tryz.prog.types.size = 214 := by kernel_rfl

/-- What the row's premise on errors' own variable gives a walk: its one cell. -/
theorem handle_of_laid {W : World} (h : laidMetH Tryz.prog Rows.greadManyRow.laid W) : Fa.ErrType W := by
  have h' : laidMet Tryz.prog [] W ∧ handlesMet Tryz.prog Rows.greadManyRow.laid W := h
  obtain ⟨name, u, ty, e1, e2, e3, e4, e5⟩ := h'.2 _ (List.mem_singleton.2 rfl)
  have en : name = [101, 114, 114, 111, 114] := (Option.some.inj e1).symm
  subst en
  obtain rfl := Option.some.inj (rt.symm.trans e2)
  have hm : ty ∈ (List.range 214).filter fun t => Tryz.prog.rowNamed t [101, 114, 114, 111, 114] := List.mem_filter.2 ⟨List.mem_range.2 (by rw [← size]; exact e3), e4⟩
  rw [oneRow] at hm
  obtain rfl := List.mem_singleton.1 hm
  have hh : typeHandle Tryz.prog 28 = .pointer (some ⟨2, 28, none⟩) := by kernel_rfl
  rw [hh] at e5
  simpa [Fa.ErrType] using World.var?_cell et e5 0

/-- That variable of the library's holds a number. -/
theorem max_len {W : World} (h : W.ShapedOpen Tryz.prog) : Tk.MaxLen W :=
  cell_of_shapedOpen_int (g := 1) (t := 3) (zero := #[.int .i64 0]) h (of_decide_eq_true (by kernel_rfl)) (by kernel_rfl) rfl (by kernel_rfl) (by kernel_rfl) Tryz.underlying3

/-- A start in which that variable holds it. -/
noncomputable def laidWorld (os : Os) : World :=
  let w0 := World.holding Tryz.prog os ⟨#[], #[], []⟩
  { w0 with heap := w0.heap.modify 0 fun
      | .cells _ t frozen => .cells #[.iface 157 (.agg #[.pointer (some ⟨2, 28, none⟩)])] t frozen
      | o => o }
theorem laidWorld_met (os : Os) (args : Array Value) : laidMetH Tryz.prog Rows.greadManyRow.laid ((laidWorld os).forCall (fun _ _ => 0) ⟨#[], args, []⟩).memory :=
  laidMetH_of_parts (laidMet_nil _ _) (by kernel_rfl)

set_option maxRecDepth 100000 in
set_option maxHeartbeats 2000000 in
theorem lifted (os : Os) (started : os.Started) (H : Type) (enc : TypeId × Value → H) (F : Stop.Interp) :
    ReturnsInHanded {} Tryz.checked os 4 .any ((OpenSpec.ofChange Rows.greadManySpec).preRow enc Tryz.prog Tryz.f4 Rows.greadManyRow.domain false Rows.greadManyRow.laid) (((OpenSpec.ofChange Rows.greadManySpec).at F).post enc Tryz.prog Tryz.f4 false true false false) := by
  refine returnsInHanded_of_row (C := Tryz.checked) (s := OpenSpec.ofChange Rows.greadManySpec) own started (by kernel_rfl) Tryz.func4
    (witness_row_at (enc := enc) (C := Tryz.checked) false (laidWorld os) #[.int .u16 0] rfl (by kernel_rfl) (by kernel_rfl) (by kernel_rfl)
      (OpenSpec.preRow_of_B rfl 8 (by kernel_rfl) (by kernel_rfl) (laidWorld_met os _))) ?_
  intro W base args ds gs before hval0 hW _ _ hsz hL hsh _
  have hval : ∀ (j : Nat) t v, Tryz.f4.params[j]? = some t → args[j]? = some v → Value.okWide Tryz.prog W .any base t v := hval0
  have hW' := hW
  obtain ⟨p, q, hA0, hV0, rfl, _, _⟩ := hW
  have hA : DataW.TrodAll enc Tryz.prog W 0 (fun _ => true) true Tryz.f4.params.toList args.toList ds p := hA0
  rw [Tryz.params4] at hA hval
  obtain ⟨v0, vs0, d0, ds0, p0, q0, hargs, rfl, rfl, h0, r0⟩ := trodAll_cons hA
  obtain ⟨rfl, rfl, rfl⟩ := trodAll_nil r0
  obtain rfl : args = #[v0] := by cases args; simp_all
  obtain ⟨rfl, rfl⟩ := trodVars_none hV0
  obtain ⟨a0, rfl, rfl, rfl, w0⟩ := open_int Tryz.underlying37 (hval 0 37 v0 rfl rfl) h0
  have hb := bounds_u16 w0
  obtain ⟨c, rfl⟩ : ∃ c : Nat, a0 = (c : Int) := ⟨a0.toNat, by omega⟩
  clear hA0 hV0 hval0
  have hg := handle_of_laid hL
  have hm := max_len hsh
  refine (Rd.many_law c (by omega) W hg hm).mono fun e W' ⟨he, bel⟩ => ?_
  subst he
  exact ⟨_, rfl, _, _, _, [], _, [], hW', trodAll_mk1 (shut_bool Tryz.underlying4 _), (trodAll_cons_mk (shut_int Tryz.underlying37 w0) trodAll_mk0), rfl, bel.frame _, fun h => by cases h⟩

theorem over : Rows.greadManyRow.holds Tryz.pinned (OpenSpec.ofChange Rows.greadManySpec) :=
  OpenClaim.holds_of_cond 4 Tryz.f4 rfl rfl rfl rfl rfl rfl rfl ⟨rfl, rfl, rfl, rfl, rfl⟩ rfl rfl rfl rfl rfl (by kernel_rfl) Tryz.func4 (by kernel_rfl)
    (of_decide_eq_true (by kernel_rfl)) (by unfold Func.isWrapper; first | (rw [if_pos (by decide +kernel)]; kernel_rfl) | (rw [if_neg (by decide +kernel)]; exact ⟨rfl, rfl⟩))
    (fun os started H enc _ F0 => by rw [OpenClaim.pre_eq_preRow]; exact lifted os started H enc F0)

/-- The statement. -/
theorem proved : Rows.GreadManyCardSaid :=
  Claim7.holds_tied_plain_at .later [] [.handle] true _ true
    over (fun _ h => by cases h) (by kernel_rfl) (fun _ h => by cases h) greadMany_row_tie rfl ⟨rfl, rfl⟩ (by kernel_rfl) rfl
    (fun f fn hf hfn => by
      obtain rfl : f = 4 := Option.some.inj ((show Tryz.prog.funcNamed Rows.greadManyRow.func = some 4 by kernel_rfl).symm.trans hf) |>.symm
      obtain rfl : fn = Tryz.f4 := (Option.some.inj (Tryz.func4.symm.trans hfn)).symm
      exact ⟨by kernel_rfl, fun j t ht => by
        rw [Tryz.params4] at ht
        have hm : t ∈ [37] := by simpa using Array.mem_of_getElem? ht
        have hall : ([37].all fun u => !Tryz.prog.wantsStandIn u) = true := by kernel_rfl
        exact (show Tryz.prog.wantsStandIn t = false by simpa using List.all_eq_true.1 hall t hm)⟩)
    (by kernel_rfl)
#print axioms proved
end Go.Proofs.YtimfiaphhomelaaGreatDoor.greadMany
