/-
  The statements' own function awake: two small sources. Conditions: errors' variable for the type error and MaxLen's hold what the program's text lays there.
-/
import Derived.Test.YtimfiaphhomelaaGreatDoorMParse
import Derived.Test.YtimfiaphhomelaaGreatDoorMPlain
import Derived.Test.YtimfiaphhomelaaGreatDoorFaultOne
namespace Go.Proofs.YtimfiaphhomelaaGreatDoor.Rd
open Go.RowKit Go.Maps
open Go.Proofs.YtimfiaphhomelaaGreatDoor.Tk (Tok MaxLen)
set_option linter.unusedVariables false
set_option linter.unusedSimpArgs false

theorem parse_one (w : World) (hm : MaxLen w) : Calls Tryz.prog 7 #[.string ⟨#[37, 116, 111, 107, 101, 110, 32, 65, 32, 37, 115, 116, 97, 114, 116, 32, 115, 32, 37, 37, 32, 115, 32, 58, 32, 65, 32, 115, 32, 124, 32, 39, 120, 39, 32, 59]⟩] w (ParseGave (.ok Fm.oneG) w) :=
  parse_any _ _ w ⟨_, Fm.one_parts.1, _, Fm.one_parts.2, Fm.one_make.symm⟩ (by decide) hm
theorem parse_two (w : World) (hm : MaxLen w) : Calls Tryz.prog 7 #[.string ⟨#[37, 37, 32, 115, 32, 58, 32, 116, 32, 59]⟩] w (ParseGave (.no 9 7) w) :=
  parse_any _ _ w ⟨_, Fm.two_parts.1, _, Fm.two_parts.2, Fm.two_make.symm⟩ (by decide) hm

set_option maxHeartbeats 4000000 in
set_option maxRecDepth 100000 in
theorem awake_any (w : World) (he : Fa.ErrType w) (hm : MaxLen w) : Calls Tryz.prog 6 #[] w (Gr.Is (.bool true) w) := by
  have HM := Lib.hid hm
  have HE := Lib.hid he
  clear hm he
  go_enter Tryz.func6, Tryz.ntmps6
  go_upto_region 2 with (go_at_call 7; refine (parse_one w HM.out).mono ?_; rintro e w1 ⟨⟨s1, s2, s3, s4, s5, s6⟩, rfl, hG, hb⟩; have G1 := Lib.hid hG; have B1 := Lib.hid hb; clear hG hb)
  obtain ⟨b, o, ra, rc, rfl, _, hr1, _⟩ := G1.out.rules 0 (by decide)
  have hr1 : w1.cell? ⟨b, o + 1, none⟩ = some (.slice ra 2 rc) := hr1
  have X1 := Lib.hid (Gr.Bx.start ⟨s1, s2, s3, s4, some ⟨b, o, none⟩, s6⟩ Fm.oneG w1 26)
  have R1 := Lib.hid (Gr.cell_old (o := .cells #[.slice s1 Fm.oneG.terms.length s2, .slice s3 Fm.oneG.nons.length s4, .slice (some ⟨b, o, none⟩) Fm.oneG.rules.length s6, .int .i64 Fm.oneG.start] 26) hr1)
  have C1 := Lib.hid (Gr.step B1.out (Gr.boxed w1 (.cells #[.slice s1 Fm.oneG.terms.length s2, .slice s3 Fm.oneG.nons.length s4, .slice (some ⟨b, o, none⟩) Fm.oneG.rules.length s6, .int .i64 Fm.oneG.start] 26)))
  clear hr1 G1 B1
  generalize w1.alloc (.cells #[.slice s1 Fm.oneG.terms.length s2, .slice s3 Fm.oneG.nons.length s4, .slice (some ⟨b, o, none⟩) Fm.oneG.rules.length s6, .int .i64 Fm.oneG.start] 26) = W1 at *
  go_upto_region 3 with (go_at_call 7; refine (parse_two _ (HM.out.keep C1.out)).mono ?_; rintro e w2 ⟨rfl, hb⟩; have B2 := Lib.hid hb; clear hb)
  have B3 := Lib.hid (Gr.step B2.out (Gr.boxed w2 (.cells zg 26)))
  obtain ⟨_, z0, z1, z2, z3⟩ := X1.out.went B3.out
  have r1 := Gr.cell_later B3.out R1.out
  have C3 := Lib.hid (Gr.step C1.out B3.out)
  clear X1 R1 C1 B2 B3
  generalize w2.alloc (.cells zg 26) = W3 at *
  have e1 : Fm.oneG.terms.length = 2 := rfl
  have e2 : Fm.oneG.rules.length = 2 := rfl
  have e3 : Fm.oneG.start = 3 := rfl
  rw [e1] at z0
  rw [e2] at z2
  rw [e3] at z3
  clear z1
  go_wp2_with (first
    | (go_at_call 12; refine (Fa.code_hit 9 7 _ (HE.out.keep C3.out) rfl).mono ?_; rintro e w4 ⟨rfl, hb⟩; have C4 := Lib.hid (Gr.step C3.out hb); clear hb)
    | (go_at_call 13; refine (Fa.at_hit 9 7 _ (HE.out.keep C4.out) rfl).mono ?_; rintro e w5 ⟨rfl, hb⟩; have C5 := Lib.hid (Gr.step C4.out hb); clear hb))
  go_ret
  exact ⟨rfl, C5.out⟩

end Go.Proofs.YtimfiaphhomelaaGreatDoor.Rd
