/-
  gread.Parse: what it answers, by the plain parser and maker. Conditions: the text is of at most 2^47 bytes; MaxLen's variable holds what the program's text lays there.
  Parse's deferred closure: called while Parse returns, and while a refusal leaves it. No condition but that the error's number is not 0.
  What the plain parser makes of small tokens is small. No program in it.
-/
import Derived.Test.YtimfiaphhomelaaGreatDoorGreadMRule
import Derived.Defers
import Derived.Recover
import Derived.Test.YtimfiaphhomelaaGreatDoorGreadMake
import Derived.Test.YtimfiaphhomelaaGreatDoorMPlain
namespace Go.Proofs.YtimfiaphhomelaaGreatDoor.Rd
open Go.RowKit Go.Maps
set_option linter.unusedVariables false

set_option maxRecDepth 100000 in
theorem newf_any (e at_ : Int) (w : World) (hne : ¬ e = 0) : Calls Tryz.prog 17 #[.int .i64 e, .int .i64 at_] w fun x w' => x = .returned (.iface 67 (.agg #[.int .i64 e, .int .i64 at_])) ∧ w = w' := by
  go_enter Tryz.func17, Tryz.ntmps17
  go_wp2
  go_ret
  exact ⟨rfl, rfl⟩

set_option maxRecDepth 100000 in
theorem idle1 (p : Addr) (w : World) :
    CallsD Tryz.prog 16 #[.pointer (some p)] .returning w fun e u' w' => e = .returned (.tuple #[]) ∧ u' = .returning ∧ w' = w := by
  refine callsD_of_wpS Tryz.func16 rfl fun c₀ cs hu => ?_
  apply wpS_seq
  apply wpS_region
  simp [wpOpsS, go_sem, recoverD, hu, Tryz.ntmps16, Exit.thenS]
  refine wpS_of_wp ?_
  go_wp2
  cases c₀
  simp_all [bodyPostS, results, Tryz.results16]

set_option maxRecDepth 100000 in
set_option maxHeartbeats 2000000 in
theorem caught (p : Addr) (v0 : Value) (e : Int) (at_ : Nat) (w : World) (hc : w.cell? p = some v0) (hz : w.frozen? p = false) (hne : ¬ e = 0) :
    CallsD Tryz.prog 16 #[.pointer (some p)] (.panicking (Ref e at_)) w fun x u' w' =>
      x = .returned (.tuple #[]) ∧ u' = .panicking [{ v := .iface 53 (.agg #[.int .i64 e, .int .i64 (at_ : Int)]), recovered := true }] ∧ ∃ o, w' = (w.alloc o).setCell p (.iface 67 (.agg #[.int .i64 e, .int .i64 (at_ : Int)])) := by
  have hpl := World.block_lt_of_cell? w p hc
  refine callsD_of_wpS Tryz.func16 rfl fun c₀ cs hu => ?_
  apply wpS_seq
  apply wpS_region
  simp [wpOpsS, go_sem, recoverD, hu, Tryz.ntmps16, Exit.thenS]
  refine wpS_of_wp ?_
  have hz1 : (w.alloc (.cells #[.int .i64 e, .int .i64 (at_ : Int)] 53)).frozen? p = false := by rw [World.frozen?_of_block (Below.heap_alloc w _ p.block hpl)]; exact hz
  have hta : ∀ w : World, (Instr.typeAssert (.iface 53 (.agg #[.int .i64 e, .int .i64 (at_ : Int)])) 20 53 true).run Tryz.prog w = .ok (.tuple #[.agg #[.int .i64 e, .int .i64 (at_ : Int)], .bool true]) w := fun _ => by kernel_rfl
  go_wp2_with (go_at_call 17; refine (newf_any e _ _ hne).mono ?_; rintro x w1 ⟨rfl, rfl⟩)
  cases c₀
  simp_all [bodyPostS, results, Tryz.results16]
  exact ⟨_, rfl⟩
end Go.Proofs.YtimfiaphhomelaaGreatDoor.Rd

namespace Go.Proofs.YtimfiaphhomelaaGreatDoor.Rd
open Go.RowKit Go.Maps
open Go.Proofs.YtimfiaphhomelaaGreatDoor.Tk (Tok)
set_option linter.unusedVariables false
set_option linter.unusedSimpArgs false

/-- All tokens are small. -/
def Small (l : List Tok) : Prop := ∀ t ∈ l, t.s.size ≤ 10000

theorem Pr.bind_ok {α β : Type} {x : Pr α} {f : α → List Tok → Pr β} {b : β} {r : List Tok} (h : x.bind f = .ok b r) : ∃ a r1, x = .ok a r1 ∧ f a r1 = .ok b r := by
  cases x with
  | ok a r1 => exact ⟨a, r1, rfl, h⟩
  | no e q => cases h
  | out => cases h

theorem takeP_small {ks : List Int} {l r : List Tok} {t : Tok} (h : takeP ks l = .ok t r) (hs : Small l) : t.s.size ≤ 10000 ∧ Small r ∧ l.length = r.length + 1 ∧ ks.contains t.k = true := by
  cases l with
  | nil => cases h
  | cons x l =>
    have h : (if ks.contains x.k then Pr.ok x l else Pr.no (if x.k = 0 then 4 else 3) x.at_) = Pr.ok t r := h
    split at h
    · rename_i hk
      injection h with h1 h2
      subst h1 h2
      exact ⟨hs x (List.mem_cons_self ..), fun y hy => hs y (List.mem_cons_of_mem _ hy), rfl, hk⟩
    · cases h

theorem syms_small {l : List Tok} (hs : Small l) : Small (symsL l) ∧ Small (restL l) ∧ (symsL l).length ≤ l.length ∧ (restL l).length ≤ l.length :=
  ⟨fun t h => hs t ((List.takeWhile_sublist _).subset h), fun t h => hs t ((List.dropWhile_sublist _).subset h), (List.takeWhile_sublist _).length_le, (List.dropWhile_sublist _).length_le⟩
theorem head_small {l : List Tok} (hs : Small l) : (headT l).s.size ≤ 10000 := by
  cases l with
  | nil => exact Nat.zero_le _
  | cons t r => exact hs t (List.mem_cons_self ..)

theorem declP_small {l r : List Tok} {d : Decl} (h : declP l = .ok d r) (hs : Small l) (hl : l.length ≤ 10000) : DeclOk d ∧ Small r ∧ r.length < l.length := by
  obtain ⟨m, r1, h1, h2⟩ := Pr.bind_ok (show (takeP [7, 8] l).bind _ = _ from h)
  obtain ⟨_, s1, e1, _⟩ := takeP_small h1 hs
  split at h2
  · obtain ⟨n, r2, h3, h4⟩ := Pr.bind_ok h2
    obtain ⟨k1, s2, e2, _⟩ := takeP_small h3 s1
    injection h4 with h5 h6
    subst h5 h6
    refine ⟨⟨by simp, fun t ht => ?_, fun _ => by simp⟩, s2, by omega⟩
    simp only [List.mem_singleton] at ht
    subst ht
    unfold maxLen
    omega
  · obtain ⟨n, r2, h3, h4⟩ := Pr.bind_ok h2
    obtain ⟨k1, s2, e2, _⟩ := takeP_small h3 s1
    obtain ⟨q1, q2, q3, q4⟩ := syms_small s2
    injection h4 with h5 h6
    subst h5 h6
    refine ⟨⟨by simp; omega, fun t ht => ?_, fun _ => by simp⟩, q2, by omega⟩
    rcases List.mem_cons.1 ht with rfl | ht
    · unfold maxLen; omega
    · have := q1 t ht
      unfold maxLen
      omega

theorem sidesP_small : ∀ (f : Nat) (l : List Tok) (acc S : List Side) (r : List Tok), sidesP f l acc = .ok S r → Small l → l.length + acc.length ≤ 10000 → (∀ s ∈ acc, SideOk s) → (∀ s ∈ S, SideOk s) ∧ S.length ≤ 10000 ∧ Small r ∧ r.length < l.length := by
  intro f
  induction f with
  | zero => intro l acc S r h; cases h
  | succ f ih =>
    intro l acc S r h hs hl ha
    obtain ⟨t, r1, h1, h2⟩ := Pr.bind_ok (show (takeP [4, 5] (restL l)).bind _ = _ from h)
    obtain ⟨q1, q2, q3, q4⟩ := syms_small hs
    obtain ⟨_, s1, e1, _⟩ := takeP_small h1 q2
    have hnew : ∀ s ∈ acc ++ [(⟨headT l, symsL l⟩ : Side)], SideOk s := fun s hm => by
      rcases List.mem_append.1 hm with hm | hm
      · exact ha s hm
      · rw [List.mem_singleton] at hm
        subst hm
        exact ⟨by simp only; omega, head_small hs, q1⟩
    split at h2
    · injection h2 with h5 h6
      subst h5 h6
      exact ⟨hnew, by simp; omega, s1, by omega⟩
    · obtain ⟨a, b, c, d⟩ := ih _ _ _ _ h2 s1 (by simp; omega) hnew
      exact ⟨a, b, c, by omega⟩

theorem ruleP_small {f : Nat} {l r : List Tok} {R : Rul} (h : ruleP f l = .ok R r) (hs : Small l) (hl : l.length ≤ 10000) : RulOk R ∧ Small r ∧ r.length < l.length := by
  obtain ⟨left, r1, h1, h2⟩ := Pr.bind_ok (show (takeP [1] l).bind _ = _ from h)
  obtain ⟨k1, s1, e1, _⟩ := takeP_small h1 hs
  obtain ⟨c, r2, h3, h4⟩ := Pr.bind_ok h2
  obtain ⟨_, s2, e2, _⟩ := takeP_small h3 s1
  obtain ⟨S, r3, h5, h6⟩ := Pr.bind_ok h4
  obtain ⟨a, b, c3, d⟩ := sidesP_small f r2 [] S r3 h5 s2 (by simp; omega) (fun s hm => by cases hm)
  injection h6 with h7 h8
  subst h7 h8
  exact ⟨⟨k1, b, a⟩, c3, by omega⟩

theorem declsP_small : ∀ (f : Nat) (l : List Tok) (acc D : List Decl) (r : List Tok), declsP f l acc = .ok D r → Small l → l.length + acc.length ≤ 10000 → (∀ d ∈ acc, DeclOk d) → (∀ d ∈ D, DeclOk d) ∧ D.length ≤ 10000 ∧ Small r ∧ r.length ≤ l.length := by
  intro f
  induction f with
  | zero => intro l acc S r h; cases h
  | succ f ih =>
    intro l acc D r h hs hl ha
    unfold declsP at h
    split at h
    · injection h with h5 h6
      subst h5 h6
      exact ⟨ha, by omega, hs, Nat.le_refl _⟩
    · obtain ⟨d, r1, h1, h2⟩ := Pr.bind_ok h
      obtain ⟨k1, s1, e1⟩ := declP_small h1 hs (by omega)
      obtain ⟨a, b, c, e⟩ := ih _ _ _ _ h2 s1 (by simp; omega) (fun x hm => by
        rcases List.mem_append.1 hm with hm | hm
        · exact ha x hm
        · rw [List.mem_singleton] at hm
          subst hm
          exact k1)
      exact ⟨a, b, c, by omega⟩

theorem rulesP_small : ∀ (f : Nat) (l : List Tok) (acc D : List Rul) (r : List Tok), rulesP f l acc = .ok D r → Small l → l.length + acc.length ≤ 10000 → (∀ d ∈ acc, RulOk d) → (∀ d ∈ D, RulOk d) ∧ D.length ≤ 10000 := by
  intro f
  induction f with
  | zero => intro l acc S r h; cases h
  | succ f ih =>
    intro l acc D r h hs hl ha
    unfold rulesP at h
    split at h
    · injection h with h5 h6
      subst h5 h6
      exact ⟨ha, by omega⟩
    · obtain ⟨d, r1, h1, h2⟩ := Pr.bind_ok h
      obtain ⟨k1, s1, e1⟩ := ruleP_small h1 hs (by omega)
      exact ih _ _ _ _ h2 s1 (by simp; omega) (fun x hm => by
        rcases List.mem_append.1 hm with hm | hm
        · exact ha x hm
        · rw [List.mem_singleton] at hm
          subst hm
          exact k1)

theorem sourceP_small {f : Nat} {l r : List Tok} {src : Src} (h : sourceP f l = .ok src r) (hs : Small l) (hl : l.length ≤ 9000) : SrcOk src := by
  obtain ⟨D, r1, h1, h2⟩ := Pr.bind_ok h
  obtain ⟨d1, d2, s1, e1⟩ := declsP_small f l [] D r1 h1 hs (by simp; omega) (fun d hm => by cases hm)
  obtain ⟨m, r2, h3, h4⟩ := Pr.bind_ok h2
  obtain ⟨_, s2, e2, _⟩ := takeP_small h3 s1
  obtain ⟨R, r3, h5, h6⟩ := Pr.bind_ok h4
  obtain ⟨k1, s3, e3⟩ := ruleP_small h5 s2 (by omega)
  obtain ⟨Rs, r4, h7, h8⟩ := Pr.bind_ok h6
  obtain ⟨k2, k3⟩ := rulesP_small f r3 [R] Rs r4 h7 s3 (by simp; omega) (fun x hm => by
    rw [List.mem_singleton] at hm
    subst hm
    exact k1)
  injection h8 with h9 h10
  subst h9
  exact ⟨d2, k3, d1, k2⟩

end Go.Proofs.YtimfiaphhomelaaGreatDoor.Rd

namespace Go.Proofs.YtimfiaphhomelaaGreatDoor.Rd
open Go.RowKit Go.Maps
open Go.Proofs.YtimfiaphhomelaaGreatDoor.Tk (Tok tcs cells cells_length cells_snoc Just info_tok cells_three_new AllIs Lexes MaxLen)
set_option linter.unusedVariables false
set_option linter.unusedSimpArgs false

/-- What Parse answers. -/
def ParseGave (y : Mo Gr.Gram) (w : World) (e : Ending) (w' : World) : Prop := match y with
  | .ok G => ∃ sh, e = .returned (.tuple #[Gr.gv sh G, .nilIface]) ∧ Gr.GAt sh G w' ∧ Below w.heap.size w w'
  | .no n p => e = .returned (.tuple #[.agg zg, .iface 67 (.agg #[.int .i64 n, .int .i64 (p : Int)])]) ∧ Below w.heap.size w w'

/-- A text's grammar, or its first error. -/
def ParseIs (l : List UInt8) (y : Mo Gr.Gram) : Prop := ∃ r, Lexes l r ∧ match r with
  | .bad n p => y = .no n p
  | .ok T => ∃ x, Is (fun f => sourceP f T) x ∧ match x with
    | .no n p => y = .no n p
    | .ok src _ => y = makeM src
    | .out => False

/-- The parser's variable, as it is made. -/
theorem pat_of {base : Nat} {T : List Tok} {v : Value} {w : World} (h : w.ownsRow base 73 3 v T.length (cells T)) (hT : T ≠ []) : PAt w.heap.size T (w.alloc (.cells #[v] 56)) := by
  rcases h.2 with ⟨_, h0⟩ | ⟨g, cap, cur, rfl, h2, h3, h4, h5, _⟩
  · exact absurd (List.eq_nil_of_length_eq_zero h0) hT
  · have hc := World.ownsRow.cells h (g := g) rfl
    have hg : g < w.heap.size := (Array.getElem?_eq_some_iff.1 h3).1
    refine ⟨g, 0, cap, by simp, by simp, fun i hi => ?_, hg, h4, h5⟩
    have := hc i _ (List.getElem?_eq_getElem hi)
    rw [WideShapes.add_plain] at this
    rw [World.cell?_alloc_lt _ _ ⟨g, 0 + i, none⟩ hg]
    exact this

set_option maxRecDepth 100000 in
set_option maxHeartbeats 4000000 in
theorem parse_bad (s : ByteArray) (n : Int) (p : Nat) (w : World) (AA : Hid (∀ w1, Below w.heap.size w w1 → Calls Tryz.prog 15 #[.string s] w1 (AllIs (.bad n p) w1))) :
    Calls Tryz.prog 7 #[.string s] w (ParseGave (.no n p) w) := by
  have hmf : ∀ (fn : Fn) (first cap : Array Value) (w : World), (Instr.makeFunc fn first cap).run Tryz.prog w = .ok (.func fn first cap) w := fun _ _ _ _ => rfl
  have B0 := Lib.hid (Gr.step (Gr.boxed w (.cells zg 26)) (Gr.boxed _ (.cells #[.nilIface] 28)))
  have Z0 := Lib.hid ((Bk.new w zg 26 _ rfl).went (Gr.boxed _ (.cells #[.nilIface] 28)))
  have E0 := Lib.hid (Bk.new (w.alloc (.cells zg 26)) #[.nilIface] 28 (w.heap.size + 1) (by simp))
  go_enter_defers Tryz.func7, Tryz.ntmps7
  go_wp2_with (go_at_call 15; refine (AA.out _ B0.out).mono ?_; rintro e w1 ⟨rfl, hb⟩; have B1 := Lib.hid (Gr.step B0.out hb); have Z1 := Lib.hid (Z0.out.went hb); have E1 := Lib.hid (E0.out.went hb); obtain ⟨z0, z1, z2, z3, zf⟩ := (Z0.out.went hb).four; have e0 : w1.cell? ⟨w.heap.size + 1, 0, none⟩ = some .nilIface := (E0.out.went hb).cell rfl; have ef := (E0.out.went hb).free; have hel := (E0.out.went hb).lt; clear hb)
  go_region
  all_goals
    go_wp2
    have hF := (((((((B1.out.setCell (p := ⟨w.heap.size + 1, 0, none⟩) (Nat.le_succ _) (.iface 67 (.agg #[.int .i64 n, .int .i64 (p : Int)]))).setCell (p := ⟨w.heap.size, 0, none⟩) (Nat.le_refl _) (.slice none 0 0)).setCell (p := ⟨w.heap.size, 1, none⟩) (Nat.le_refl _) (.slice none 0 0)).setCell (p := ⟨w.heap.size, 2, none⟩) (Nat.le_refl _) (.slice none 0 0)).setCell (p := ⟨w.heap.size, 3, none⟩) (Nat.le_refl _) (.int .i64 0)).setCell (p := ⟨w.heap.size + 1, 0, none⟩) (Nat.le_succ _) (.iface 67 (.agg #[.int .i64 n, .int .i64 (p : Int)])))).drew
    have hwl : w.heap.size < w1.heap.size := by omega
    simp [bodyPostD, Leaves, results, Tryz.results7, go_sem, ParseGave, hF, z0, z1, z2, z3, zf, e0, ef, hel, hwl]

/-- Behind gtok.All: its tokens in memory; the results' variables. -/
theorem after_all {T : List Tok} {a1 : Option Addr} {c1 : Nat} {w w1 : World} (hR : w1.ownsRow ((w.alloc (.cells zg 26)).alloc (.cells #[.nilIface] 28)).heap.size 73 3 (.slice a1 T.length c1) T.length (cells T))
    (hb : Below ((w.alloc (.cells zg 26)).alloc (.cells #[.nilIface] 28)).heap.size ((w.alloc (.cells zg 26)).alloc (.cells #[.nilIface] 28)) w1) :
    (w1.setCell ⟨w.heap.size + 1, 0, none⟩ .nilIface).ownsRow (w.heap.size + 1 + 1) 73 3 (.slice a1 T.length c1) T.length (cells T) ∧ Below w.heap.size w (w1.setCell ⟨w.heap.size + 1, 0, none⟩ .nilIface) ∧
    Bk w.heap.size zg 26 (w1.setCell ⟨w.heap.size + 1, 0, none⟩ .nilIface) ∧ Bk (w.heap.size + 1) #[.nilIface] 28 (w1.setCell ⟨w.heap.size + 1, 0, none⟩ .nilIface) ∧
    w1.cell? ⟨w.heap.size + 1, 0, none⟩ = some .nilIface ∧ w1.frozen? ⟨w.heap.size + 1, 0, none⟩ = false ∧ w.heap.size + 1 < w1.heap.size := by
  have hW : ((w.alloc (.cells zg 26)).alloc (.cells #[.nilIface] 28)).heap.size = w.heap.size + 1 + 1 := by simp
  have b0 := Gr.step (Gr.boxed w (.cells zg 26)) (Gr.boxed _ (.cells #[.nilIface] 28))
  have z1 := ((Bk.new w zg 26 _ rfl).went (Gr.boxed _ (.cells #[.nilIface] 28))).went hb
  have e1 := (Bk.new (w.alloc (.cells zg 26)) #[.nilIface] 28 (w.heap.size + 1) (by simp)).went hb
  refine ⟨?_, (Gr.step b0 hb).setCell (p := ⟨w.heap.size + 1, 0, none⟩) (Nat.le_succ _) _, z1.fr (Sep.Fr.setCell (S := fun k => k = w.heap.size + 1) (.refl _ w1) ⟨w.heap.size + 1, 0, none⟩ rfl .nilIface) (by omega), e1.set (j := 0) (by simp) .nilIface, e1.cell rfl, e1.free 0, e1.lt⟩
  rw [hW] at hR
  exact Sep.ownsRow_at hR fun g hg => Below.heap_setCell w1 ⟨w.heap.size + 1, 0, none⟩ .nilIface g (by have := (World.ownsRow.lt hR g hg).1; simp only; omega)

set_option maxRecDepth 100000 in
set_option maxHeartbeats 400000 in
theorem parse_no1 (s : ByteArray) (n : Int) (q : Nat) (T : List Tok) (w : World) (AA : Hid (∀ w1, Below w.heap.size w w1 → Calls Tryz.prog 15 #[.string s] w1 (AllIs (.ok T) w1))) (hl : EndT T) (hlen : T.length ≤ 10000) (hx : Is (fun f => sourceP f T) (.no n q)) (hn : ¬ n = 0) :
    Calls Tryz.prog 7 #[.string s] w (ParseGave (.no n q) w) := by
  have hmf : ∀ (fn : Fn) (first cap : Array Value) (w : World), (Instr.makeFunc fn first cap).run Tryz.prog w = .ok (.func fn first cap) w := fun _ _ _ _ => rfl
  have B0 := Lib.hid (Gr.step (Gr.boxed w (.cells zg 26)) (Gr.boxed _ (.cells #[.nilIface] 28)))
  have SO := Lib.hid (fun p w1 (hP : PAt p T w1) => source_any p T _ w1 hx hP hl hlen)
  have HT := Lib.hid (endT_ne hl)
  clear hl hlen hx
  go_enter_defers Tryz.func7, Tryz.ntmps7
  go_upto_region 4 with (go_at_call 15; refine (AA.out _ B0.out).mono ?_; rintro e w1 ⟨v1, rfl, hR, hb⟩; obtain ⟨a1, c1, rfl⟩ := row_shape hR; obtain ⟨r1, r2, r3, r4, e0, ef, hel⟩ := after_all hR hb; have R1 := Lib.hid r1; have B1 := Lib.hid r2; have Z1 := Lib.hid r3; have E1 := Lib.hid r4; clear hb hR r1 r2 r3 r4)
  generalize w1.setCell ⟨w.heap.size + 1, 0, none⟩ .nilIface = W2 at *
  clear e0 ef hel
  go_wp2_with (go_at_call 19; ((with_reducible refine (SO.out _ _ (pat_of R1.out HT.out)).mono ?_)); rintro e w2 ⟨rfl, hF⟩; have F2 := Lib.hid hF; clear hF)
  have b := Gr.boxed W2 (.cells #[.slice a1 T.length c1] 56)
  have hz := Z1.out.lt
  have he := E1.out.lt
  have z2 := (Z1.out.went b).fr F2.out (by omega)
  have e2 := (E1.out.went b).fr F2.out (by omega)
  have b2 := (Gr.step B1.out b).trans (F2.out.below (m := w.heap.size) (fun k hk => by omega) (Gr.step B1.out b).size)
  clear Z1 E1 B1 F2 R1 SO HT AA B0 b
  refine leaves_cons (f := 16) (args := #[.pointer (some ⟨w.heap.size + 1, 0, none⟩)]) (by simp) (by simp [go_sem]) ?_
  refine (caught ⟨w.heap.size + 1, 0, none⟩ .nilIface n q w2 (e2.cell rfl) (e2.free 0) hn).mono ?_
  rintro x u' w'' ⟨rfl, rfl, o, rfl⟩
  have bo := Gr.boxed w2 o
  have hF := (Gr.step b2 bo).setCell (p := ⟨w.heap.size + 1, 0, none⟩) (Nat.le_succ _) (.iface 67 (.agg #[.int .i64 n, .int .i64 (q : Int)]))
  have e3 := (e2.went bo).set (j := 0) (by simp) (.iface 67 (.agg #[.int .i64 n, .int .i64 (q : Int)]))
  have z3 := (z2.went bo).fr (Sep.Fr.setCell (S := fun k => k = w.heap.size + 1) (.refl _ _) ⟨w.heap.size + 1, 0, none⟩ rfl (.iface 67 (.agg #[.int .i64 n, .int .i64 (q : Int)]))) (by omega)
  have e0 : ((w2.alloc o).setCell ⟨w.heap.size + 1, 0, none⟩ (.iface 67 (.agg #[.int .i64 n, .int .i64 (q : Int)]))).cell? ⟨w.heap.size + 1, 0, none⟩ = some (.iface 67 (.agg #[.int .i64 n, .int .i64 (q : Int)])) := e3.cell rfl
  obtain ⟨y0, y1, y2, y3, yf⟩ := z3.four
  generalize (w2.alloc o).setCell ⟨w.heap.size + 1, 0, none⟩ (.iface 67 (.agg #[.int .i64 n, .int .i64 (q : Int)])) = W3 at *
  simp [Leaves, settle, results, Tryz.results7, go_sem, ParseGave, hF, y0, y1, y2, y3, e0]

set_option maxRecDepth 100000 in
set_option maxHeartbeats 400000 in
theorem parse_no2 (s : ByteArray) (n : Int) (q : Nat) (T : List Tok) (w : World) (AA : Hid (∀ w1, Below w.heap.size w w1 → Calls Tryz.prog 15 #[.string s] w1 (AllIs (.ok T) w1))) (hl : EndT T) (hlen : T.length ≤ 10000) (src : Src) (rest : List Tok) (hx : Is (fun f => sourceP f T) (.ok src rest)) (hok : SrcOk src) (hm : makeM src = .no n q) (hn : ¬ n = 0) :
    Calls Tryz.prog 7 #[.string s] w (ParseGave (.no n q) w) := by
  have hmf : ∀ (fn : Fn) (first cap : Array Value) (w : World), (Instr.makeFunc fn first cap).run Tryz.prog w = .ok (.func fn first cap) w := fun _ _ _ _ => rfl
  have B0 := Lib.hid (Gr.step (Gr.boxed w (.cells zg 26)) (Gr.boxed _ (.cells #[.nilIface] 28)))
  have SO := Lib.hid (fun p w1 (hP : PAt p T w1) => source_any p T _ w1 hx hP hl hlen)
  have HT := Lib.hid (endT_ne hl)
  have MK := Lib.hid (fun (b : Nat) w2 dv rv (hD : DeclsV b src.decls dv w2) (hR : RulesV b src.rules rv w2) => show Calls Tryz.prog 18 #[srcV dv rv] w2 (MkGave (.no n q) w2) from hm ▸ make_any w2 src dv rv hD hR hok)
  clear hl hlen hx hok hm
  go_enter_defers Tryz.func7, Tryz.ntmps7
  go_upto_region 4 with (go_at_call 15; refine (AA.out _ B0.out).mono ?_; rintro e w1 ⟨v1, rfl, hR, hb⟩; obtain ⟨a1, c1, rfl⟩ := row_shape hR; obtain ⟨r1, r2, r3, r4, e0, ef, hel⟩ := after_all hR hb; have R1 := Lib.hid r1; have B1 := Lib.hid r2; have Z1 := Lib.hid r3; have E1 := Lib.hid r4; clear hb hR r1 r2 r3 r4)
  generalize w1.setCell ⟨w.heap.size + 1, 0, none⟩ .nilIface = W2 at *
  clear e0 ef hel
  go_wp2_with (first
    | (go_at_call 19; ((with_reducible refine (SO.out _ _ (pat_of R1.out HT.out)).mono ?_)); rintro e w2 ⟨v2, rfl, ⟨dv, rv, rfl, hD, hR⟩, hP, hF⟩; have F2 := Lib.hid hF; have DV := Lib.hid hD; have RV := Lib.hid hR; clear hF hD hR hP)
    | (go_at_call 18; refine (MK.out _ _ _ _ DV.out RV.out).mono ?_; rintro e w3 ⟨rfl, hb⟩; have B3 := Lib.hid hb; clear hb))
  have b := Gr.boxed W2 (.cells #[.slice a1 T.length c1] 56)
  have hz := Z1.out.lt
  have he := E1.out.lt
  have z2 := ((Z1.out.went b).fr F2.out (by omega)).went B3.out
  have e2 := ((E1.out.went b).fr F2.out (by omega)).went B3.out
  have b2 := Gr.step ((Gr.step B1.out b).trans (F2.out.below (m := w.heap.size) (fun k hk => by omega) (Gr.step B1.out b).size)) B3.out
  clear Z1 E1 B1 F2 R1 SO HT AA B0 b B3 DV RV MK
  refine leaves_cons (f := 16) (args := #[.pointer (some ⟨w.heap.size + 1, 0, none⟩)]) (by simp) (by simp [go_sem]) ?_
  refine (caught ⟨w.heap.size + 1, 0, none⟩ .nilIface n q w3 (e2.cell rfl) (e2.free 0) hn).mono ?_
  rintro x u' w'' ⟨rfl, rfl, o, rfl⟩
  have bo := Gr.boxed w3 o
  have hF := (Gr.step b2 bo).setCell (p := ⟨w.heap.size + 1, 0, none⟩) (Nat.le_succ _) (.iface 67 (.agg #[.int .i64 n, .int .i64 (q : Int)]))
  have e3 := (e2.went bo).set (j := 0) (by simp) (.iface 67 (.agg #[.int .i64 n, .int .i64 (q : Int)]))
  have z3 := (z2.went bo).fr (Sep.Fr.setCell (S := fun k => k = w.heap.size + 1) (.refl _ _) ⟨w.heap.size + 1, 0, none⟩ rfl (.iface 67 (.agg #[.int .i64 n, .int .i64 (q : Int)]))) (by omega)
  have e0 : ((w3.alloc o).setCell ⟨w.heap.size + 1, 0, none⟩ (.iface 67 (.agg #[.int .i64 n, .int .i64 (q : Int)]))).cell? ⟨w.heap.size + 1, 0, none⟩ = some (.iface 67 (.agg #[.int .i64 n, .int .i64 (q : Int)])) := e3.cell rfl
  obtain ⟨y0, y1, y2, y3, yf⟩ := z3.four
  generalize (w3.alloc o).setCell ⟨w.heap.size + 1, 0, none⟩ (.iface 67 (.agg #[.int .i64 n, .int .i64 (q : Int)])) = W3 at *
  simp [Leaves, settle, results, Tryz.results7, go_sem, ParseGave, hF, y0, y1, y2, y3, e0]

theorem ok_after {v : Value} {w W2 w2 w3 : World} (z1 : Bk w.heap.size zg 26 W2) (e1 : Bk (w.heap.size + 1) #[.nilIface] 28 W2) (b1 : Below w.heap.size w W2) (hF : Sep.Fr (fun k => k = W2.heap.size) (W2.alloc (.cells #[v] 56)) w2) (hb : Below w2.heap.size w2 w3) :
    Bk w.heap.size zg 26 w3 ∧ Bk (w.heap.size + 1) #[.nilIface] 28 w3 ∧ Below w.heap.size w w3 ∧ w.heap.size < w2.heap.size ∧ w.heap.size + 1 < w2.heap.size := by
  have b := Gr.boxed W2 (.cells #[v] 56)
  have hz := z1.lt
  have he := e1.lt
  have z2 := (z1.went b).fr hF (by omega)
  have e2 := (e1.went b).fr hF (by omega)
  exact ⟨z2.went hb, e2.went hb, Gr.step ((Gr.step b1 b).trans (hF.below (m := w.heap.size) (fun k hk => by omega) (Gr.step b1 b).size)) hb, z2.lt, e2.lt⟩

set_option maxRecDepth 100000 in
set_option maxHeartbeats 400000 in
theorem parse_ok (s : ByteArray) (G : Gr.Gram) (T : List Tok) (w : World) (AA : Hid (∀ w1, Below w.heap.size w w1 → Calls Tryz.prog 15 #[.string s] w1 (AllIs (.ok T) w1))) (hl : EndT T) (hlen : T.length ≤ 10000) (src : Src) (rest : List Tok) (hx : Is (fun f => sourceP f T) (.ok src rest)) (hok : SrcOk src) (hm : makeM src = .ok G) :
    Calls Tryz.prog 7 #[.string s] w (ParseGave (.ok G) w) := by
  have hmf : ∀ (fn : Fn) (first cap : Array Value) (w : World), (Instr.makeFunc fn first cap).run Tryz.prog w = .ok (.func fn first cap) w := fun _ _ _ _ => rfl
  have B0 := Lib.hid (Gr.step (Gr.boxed w (.cells zg 26)) (Gr.boxed _ (.cells #[.nilIface] 28)))
  have SO := Lib.hid (fun p w1 (hP : PAt p T w1) => source_any p T _ w1 hx hP hl hlen)
  have HT := Lib.hid (endT_ne hl)
  have MK := Lib.hid (fun (b : Nat) w2 dv rv (hD : DeclsV b src.decls dv w2) (hR : RulesV b src.rules rv w2) => show Calls Tryz.prog 18 #[srcV dv rv] w2 (MkGave (.ok G) w2) from hm ▸ make_any w2 src dv rv hD hR hok)
  clear hl hlen hx hok hm
  go_enter_defers Tryz.func7, Tryz.ntmps7
  go_upto_region 4 with (go_at_call 15; refine (AA.out _ B0.out).mono ?_; rintro e w1 ⟨v1, rfl, hR, hb⟩; obtain ⟨a1, c1, rfl⟩ := row_shape hR; obtain ⟨r1, r2, r3, r4, e0, ef, hel⟩ := after_all hR hb; have R1 := Lib.hid r1; have B1 := Lib.hid r2; have Z1 := Lib.hid r3; have E1 := Lib.hid r4; clear hb hR r1 r2 r3 r4)
  generalize w1.setCell ⟨w.heap.size + 1, 0, none⟩ .nilIface = W2 at *
  clear e0 ef hel
  go_wp2_with (first
    | (go_at_call 19; ((with_reducible refine (SO.out _ _ (pat_of R1.out HT.out)).mono ?_)); rintro e w2 ⟨v2, rfl, ⟨dv, rv, rfl, hD, hR⟩, hP, hF⟩; have F2 := Lib.hid hF; have DV := Lib.hid hD; have RV := Lib.hid hR; clear hF hD hR hP)
    | (go_at_call 18; refine (MK.out _ _ _ _ DV.out RV.out).mono ?_; rintro e w3 ⟨⟨s1, s2, s3, s4, s5, s6⟩, rfl, hK, hb⟩; have K3 := Lib.hid hK; obtain ⟨z3, e3, b3, hz, hq⟩ := ok_after Z1.out E1.out B1.out F2.out hb; have ZZ := Lib.hid z3; have EE := Lib.hid e3; have BB := Lib.hid b3; have HZ := Lib.hid hq; obtain ⟨y0, y1, y2, y3, yf⟩ := z3.four; have x0 : w3.cell? ⟨w.heap.size + 1, 0, none⟩ = some .nilIface := e3.cell rfl; have xf := e3.free; have hel := e3.lt; have hwl : w.heap.size < w3.heap.size := z3.lt; clear hb hK z3 e3 b3 hz hq))
  have hf4 := fr_set4 w3 w.heap.size (.slice s1 G.terms.length s2) (.slice s3 G.nons.length s4) (.slice s5 G.rules.length s6) (.int .i64 G.start)
  have hf5 := Sep.Fr.setCell (S := fun k => k = w.heap.size + 1) (.refl _ ((((w3.setCell ⟨w.heap.size, 0, none⟩ (.slice s1 G.terms.length s2)).setCell ⟨w.heap.size, 1, none⟩ (.slice s3 G.nons.length s4)).setCell ⟨w.heap.size, 2, none⟩ (.slice s5 G.rules.length s6)).setCell ⟨w.heap.size, 3, none⟩ (.int .i64 G.start))) ⟨w.heap.size + 1, 0, none⟩ rfl .nilIface
  have qz := ((((ZZ.out.set (j := 0) (by simp) (.slice s1 G.terms.length s2)).set (j := 1) (by simp) (.slice s3 G.nons.length s4)).set (j := 2) (by simp) (.slice s5 G.rules.length s6)).set (j := 3) (by simp) (.int .i64 G.start)).fr hf5 (by omega)
  have qe := (EE.out.fr hf4 (by omega)).set (j := 0) (by simp) .nilIface
  have hB := ((BB.out.trans (hf4.below (m := w.heap.size) (fun k hk => by omega) BB.out.size))).setCell (p := ⟨w.heap.size + 1, 0, none⟩) (Nat.le_succ _) .nilIface
  have hG := K3.out (fun k => k = w.heap.size ∨ k = w.heap.size + 1) _ (fun k hk => by
      rcases hk with rfl | rfl
      · exact ⟨by have := HZ.out; omega, bk_nostr ZZ.out (by simp) (by simp) (by simp)⟩
      · refine ⟨HZ.out, fun j s hc => ?_⟩
        have h2 := EE.out
        unfold Bk at h2
        simp only [World.cell?, h2] at hc
        rcases j with _ | j <;> simp at hc) ((hf4.mono (T := fun k => k = w.heap.size ∨ k = w.heap.size + 1) fun k hk => .inl hk).trans (hf5.mono (T := fun k => k = w.heap.size ∨ k = w.heap.size + 1) fun k hk => .inr hk) fun k hk => .inl hk)
  have u0 := qe.cell (j := 0) (v := .nilIface) rfl
  obtain ⟨t0, t1, t2, t3, tf⟩ := (show Bk w.heap.size #[.slice s1 G.terms.length s2, .slice s3 G.nons.length s4, .slice s5 G.rules.length s6, .int .i64 G.start] 26 _ from qz).four
  clear qz qe hf4 hf5
  generalize (((((w3.setCell ⟨w.heap.size, 0, none⟩ (.slice s1 G.terms.length s2)).setCell ⟨w.heap.size, 1, none⟩ (.slice s3 G.nons.length s4)).setCell ⟨w.heap.size, 2, none⟩ (.slice s5 G.rules.length s6)).setCell ⟨w.heap.size, 3, none⟩ (.int .i64 G.start)).setCell ⟨w.heap.size + 1, 0, none⟩ .nilIface) = W4 at *
  refine leaves_cons (f := 16) (args := #[.pointer (some ⟨w.heap.size + 1, 0, none⟩)]) (by simp) (by simp [go_sem]) ?_
  refine (idle1 ⟨w.heap.size + 1, 0, none⟩ _).mono ?_
  rintro x u' w'' ⟨rfl, rfl, rfl⟩
  have hR : ParseGave (.ok G) w (.returned (.tuple #[Gr.gv ⟨s1, s2, s3, s4, s5, s6⟩ G, .nilIface])) w'' := ⟨⟨s1, s2, s3, s4, s5, s6⟩, rfl, hG, hB⟩
  simp [Leaves, settle, results, Tryz.results7, go_sem, t0, t1, t2, t3, u0]
  exact hR


/-- What Parse answers of a text. -/
theorem parse_any (s : ByteArray) (y : Mo Gr.Gram) (w : World) (h : ParseIs s.data.toList y) (hs : s.size ≤ 140737488355328) (hm : MaxLen w) : Calls Tryz.prog 7 #[.string s] w (ParseGave y w) := by
  obtain ⟨r, hr, hy⟩ := h
  have AA := Lib.hid (fun w1 (hb : Below w.heap.size w w1) => Tk.all_any s r w1 hr hs (hm.keep hb))
  cases r with
  | bad n p =>
    simp only at hy
    subst hy
    exact parse_bad s n p w AA
  | ok T =>
    obtain ⟨x, hx, hy⟩ := hy
    obtain ⟨t1, t2, t3⟩ := lexes_ok hr
    obtain ⟨f, hf, hne⟩ := hx
    cases x with
    | out => exact absurd rfl hne
    | no n q =>
      simp only at hy
      subst hy
      exact parse_no1 s n q T w AA t1 (by omega) ⟨f, hf, hne⟩ (sourceP_nz f T n q hf)
    | ok src rest =>
      simp only at hy
      have hok := sourceP_small hf (fun t ht => by have := t3 t ht; omega) (by omega)
      cases hmk : makeM src with
      | ok G =>
        rw [hmk] at hy
        subst hy
        exact parse_ok s G T w AA t1 (by omega) src rest ⟨f, hf, hne⟩ hok hmk
      | no n q =>
        rw [hmk] at hy
        subst hy
        exact parse_no2 s n q T w AA t1 (by omega) src rest ⟨f, hf, hne⟩ hok hmk (makeM_nz src n q hmk)

end Go.Proofs.YtimfiaphhomelaaGreatDoor.Rd
