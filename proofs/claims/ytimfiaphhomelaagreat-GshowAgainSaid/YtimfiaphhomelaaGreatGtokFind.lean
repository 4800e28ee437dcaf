/-
  Package gtok: what stands at a place, by the reader that its byte calls for. Conditions: a text of at most 8192 bytes; the library's variable MaxLen holds a number.
-/
import Derived.Test.YtimfiaphhomelaaGreatGtokRead
namespace Go.Proofs.YtimfiaphhomelaaGreat.Tk
open Go.RowKit Go.Maps
set_option linter.unusedVariables false
set_option linter.unusedSimpArgs false

/-- What read hands back. -/
def tokRes (s : ByteArray) (a : Nat) : Step → Value
  | .tok k b => .tuple #[.agg #[.int .i64 k, .string (s.extract a b), .int .i64 (a : Int)], .nilIface]
  | .bad e p => .tuple #[.agg #[.int .i64 0, .string ⟨#[]⟩, .int .i64 0], .iface 82 (.agg #[.int .i64 e, .int .i64 (p : Int)])]

/-- A token that ends within the text. -/
def Ends (s : ByteArray) (a : Nat) : Step → Prop
  | .tok _ b => a ≤ b ∧ b ≤ s.size
  | .bad _ _ => True

/-- A reader that finds a step at a place, now and later. -/
def Finds (s : ByteArray) (a : Nat) (y : Step) (v : Value) (w : World) : Prop := ∀ w', Below w.heap.size w w' → Calls Tryz.prog 49 #[.string s, .int .i64 (a : Int), v] w' (Gr.Is (tokRes s a y) w')

theorem single1_any (s : ByteArray) (x k : Int) (b : Nat) (w : World) (hx : 0 ≤ x) (hx2 : x ≤ 8192) (hc : w.cell? ⟨b, 0, none⟩ = some (.int .i64 k)) :
    Calls Tryz.prog 103 #[.string s, .int .i64 x, .pointer (some ⟨b, 0, none⟩)] w (Just (.tuple #[.int .i64 k, .int .i64 (x + 1), .nilIface]) w) := by
  go_enter Tryz.func103, Tryz.ntmps103
  go_wp2
  go_ret3
  exact ⟨rfl, rfl⟩

set_option maxHeartbeats 1000000 in
theorem read_single (s : ByteArray) (a b : Nat) (k : Int) (w : World) (ha : a < s.size) (hs : s.size ≤ 8192) (hc : w.cell? ⟨b, 0, none⟩ = some (.int .i64 k)) :
    Calls Tryz.prog 49 #[.string s, .int .i64 (a : Int), .func (.func 103) #[] #[.pointer (some ⟨b, 0, none⟩)]] w (Gr.Is (tokRes s a (.tok k (a + 1))) w) := by
  have HC := Lib.hid (fun w1 (hb : Below w.heap.size w w1) => single1_any s a k b w1 (by omega) (by omega) (Gr.cell_later hb hc))
  clear hc
  go_enter Tryz.func49, Tryz.ntmps49
  go_wp2_with (go_at_call 103; refine (HC.out _ (Gr.boxed _ _)).mono ?_; rintro e w' ⟨rfl, rfl⟩)
  refine bodyPost_ret (v := tokRes s a (.tok k (a + 1))) (by simp [results, Tryz.results49, go_sem, tokRes]) rfl ⟨rfl, ?_⟩
  exact Gr.boxed _ _

set_option maxHeartbeats 1000000 in
theorem read_finish (s : ByteArray) (a : Nat) (y : Step) (w : World) (ha : a ≤ s.size) (hs : s.size ≤ 8192) (hy : Ends s a y) (h : ∀ w', Below w.heap.size w w' → Calls Tryz.prog 75 #[.string s, .int .i64 (a : Int)] w' (Just (gave y) w')) :
    Calls Tryz.prog 49 #[.string s, .int .i64 (a : Int), .func (.func 75) #[] #[]] w (Gr.Is (tokRes s a y) w) := by
  have HC := Lib.hid h
  clear h
  cases y with
  | tok k b =>
    obtain ⟨h1, h2⟩ := hy
    unfold gave at HC
    go_enter Tryz.func49, Tryz.ntmps49
    go_wp2_with (go_at_call 75; refine (HC.out _ (Gr.boxed _ _)).mono ?_; rintro e w' ⟨rfl, rfl⟩)
    refine bodyPost_ret (v := tokRes s a (.tok k b)) (by simp [results, Tryz.results49, go_sem, tokRes]) rfl ⟨rfl, ?_⟩
    exact Gr.boxed _ _
  | bad e1 p1 =>
    clear hy
    unfold gave at HC
    go_enter Tryz.func49, Tryz.ntmps49
    go_wp2_with (go_at_call 75; refine (HC.out _ (Gr.boxed _ _)).mono ?_; rintro e w' ⟨rfl, rfl⟩)
    refine bodyPost_ret (v := tokRes s a (.bad e1 p1)) (by simp [results, Tryz.results49, go_sem, tokRes]) rfl ⟨rfl, ?_⟩
    exact Gr.boxed _ _

set_option maxHeartbeats 1000000 in
theorem read_wrong (s : ByteArray) (a : Nat) (y : Step) (w : World) (ha : a ≤ s.size) (hs : s.size ≤ 8192) (hy : Ends s a y) (h : ∀ w', Below w.heap.size w w' → Calls Tryz.prog 82 #[.string s, .int .i64 (a : Int)] w' (Just (gave y) w')) :
    Calls Tryz.prog 49 #[.string s, .int .i64 (a : Int), .func (.func 82) #[] #[]] w (Gr.Is (tokRes s a y) w) := by
  have HC := Lib.hid h
  clear h
  cases y with
  | tok k b =>
    obtain ⟨h1, h2⟩ := hy
    unfold gave at HC
    go_enter Tryz.func49, Tryz.ntmps49
    go_wp2_with (go_at_call 82; refine (HC.out _ (Gr.boxed _ _)).mono ?_; rintro e w' ⟨rfl, rfl⟩)
    refine bodyPost_ret (v := tokRes s a (.tok k b)) (by simp [results, Tryz.results49, go_sem, tokRes]) rfl ⟨rfl, ?_⟩
    exact Gr.boxed _ _
  | bad e1 p1 =>
    clear hy
    unfold gave at HC
    go_enter Tryz.func49, Tryz.ntmps49
    go_wp2_with (go_at_call 82; refine (HC.out _ (Gr.boxed _ _)).mono ?_; rintro e w' ⟨rfl, rfl⟩)
    refine bodyPost_ret (v := tokRes s a (.bad e1 p1)) (by simp [results, Tryz.results49, go_sem, tokRes]) rfl ⟨rfl, ?_⟩
    exact Gr.boxed _ _

set_option maxHeartbeats 1000000 in
theorem read_comment (s : ByteArray) (a : Nat) (y : Step) (w : World) (ha : a ≤ s.size) (hs : s.size ≤ 8192) (hy : Ends s a y) (h : ∀ w', Below w.heap.size w w' → Calls Tryz.prog 77 #[.string s, .int .i64 (a : Int)] w' (Just (gave y) w')) :
    Calls Tryz.prog 49 #[.string s, .int .i64 (a : Int), .func (.func 77) #[] #[]] w (Gr.Is (tokRes s a y) w) := by
  have HC := Lib.hid h
  clear h
  cases y with
  | tok k b =>
    obtain ⟨h1, h2⟩ := hy
    unfold gave at HC
    go_enter Tryz.func49, Tryz.ntmps49
    go_wp2_with (go_at_call 77; refine (HC.out _ (Gr.boxed _ _)).mono ?_; rintro e w' ⟨rfl, rfl⟩)
    refine bodyPost_ret (v := tokRes s a (.tok k b)) (by simp [results, Tryz.results49, go_sem, tokRes]) rfl ⟨rfl, ?_⟩
    exact Gr.boxed _ _
  | bad e1 p1 =>
    clear hy
    unfold gave at HC
    go_enter Tryz.func49, Tryz.ntmps49
    go_wp2_with (go_at_call 77; refine (HC.out _ (Gr.boxed _ _)).mono ?_; rintro e w' ⟨rfl, rfl⟩)
    refine bodyPost_ret (v := tokRes s a (.bad e1 p1)) (by simp [results, Tryz.results49, go_sem, tokRes]) rfl ⟨rfl, ?_⟩
    exact Gr.boxed _ _

set_option maxHeartbeats 1000000 in
theorem read_percent (s : ByteArray) (a : Nat) (y : Step) (w : World) (ha : a ≤ s.size) (hs : s.size ≤ 8192) (hy : Ends s a y) (h : ∀ w', Below w.heap.size w w' → Calls Tryz.prog 78 #[.string s, .int .i64 (a : Int)] w' (Just (gave y) w')) :
    Calls Tryz.prog 49 #[.string s, .int .i64 (a : Int), .func (.func 78) #[] #[]] w (Gr.Is (tokRes s a y) w) := by
  have HC := Lib.hid h
  clear h
  cases y with
  | tok k b =>
    obtain ⟨h1, h2⟩ := hy
    unfold gave at HC
    go_enter Tryz.func49, Tryz.ntmps49
    go_wp2_with (go_at_call 78; refine (HC.out _ (Gr.boxed _ _)).mono ?_; rintro e w' ⟨rfl, rfl⟩)
    refine bodyPost_ret (v := tokRes s a (.tok k b)) (by simp [results, Tryz.results49, go_sem, tokRes]) rfl ⟨rfl, ?_⟩
    exact Gr.boxed _ _
  | bad e1 p1 =>
    clear hy
    unfold gave at HC
    go_enter Tryz.func49, Tryz.ntmps49
    go_wp2_with (go_at_call 78; refine (HC.out _ (Gr.boxed _ _)).mono ?_; rintro e w' ⟨rfl, rfl⟩)
    refine bodyPost_ret (v := tokRes s a (.bad e1 p1)) (by simp [results, Tryz.results49, go_sem, tokRes]) rfl ⟨rfl, ?_⟩
    exact Gr.boxed _ _

set_option maxHeartbeats 1000000 in
theorem read_quoted (s : ByteArray) (a : Nat) (y : Step) (w : World) (ha : a ≤ s.size) (hs : s.size ≤ 8192) (hy : Ends s a y) (h : ∀ w', Below w.heap.size w w' → Calls Tryz.prog 79 #[.string s, .int .i64 (a : Int)] w' (Just (gave y) w')) :
    Calls Tryz.prog 49 #[.string s, .int .i64 (a : Int), .func (.func 79) #[] #[]] w (Gr.Is (tokRes s a y) w) := by
  have HC := Lib.hid h
  clear h
  cases y with
  | tok k b =>
    obtain ⟨h1, h2⟩ := hy
    unfold gave at HC
    go_enter Tryz.func49, Tryz.ntmps49
    go_wp2_with (go_at_call 79; refine (HC.out _ (Gr.boxed _ _)).mono ?_; rintro e w' ⟨rfl, rfl⟩)
    refine bodyPost_ret (v := tokRes s a (.tok k b)) (by simp [results, Tryz.results49, go_sem, tokRes]) rfl ⟨rfl, ?_⟩
    exact Gr.boxed _ _
  | bad e1 p1 =>
    clear hy
    unfold gave at HC
    go_enter Tryz.func49, Tryz.ntmps49
    go_wp2_with (go_at_call 79; refine (HC.out _ (Gr.boxed _ _)).mono ?_; rintro e w' ⟨rfl, rfl⟩)
    refine bodyPost_ret (v := tokRes s a (.bad e1 p1)) (by simp [results, Tryz.results49, go_sem, tokRes]) rfl ⟨rfl, ?_⟩
    exact Gr.boxed _ _

set_option maxHeartbeats 1000000 in
theorem read_name (s : ByteArray) (a : Nat) (y : Step) (w : World) (ha : a ≤ s.size) (hs : s.size ≤ 8192) (hy : Ends s a y) (h : ∀ w', Below w.heap.size w w' → Calls Tryz.prog 81 #[.string s, .int .i64 (a : Int)] w' (Just (gave y) w')) :
    Calls Tryz.prog 49 #[.string s, .int .i64 (a : Int), .func (.func 81) #[] #[]] w (Gr.Is (tokRes s a y) w) := by
  have HC := Lib.hid h
  clear h
  cases y with
  | tok k b =>
    obtain ⟨h1, h2⟩ := hy
    unfold gave at HC
    go_enter Tryz.func49, Tryz.ntmps49
    go_wp2_with (go_at_call 81; refine (HC.out _ (Gr.boxed _ _)).mono ?_; rintro e w' ⟨rfl, rfl⟩)
    refine bodyPost_ret (v := tokRes s a (.tok k b)) (by simp [results, Tryz.results49, go_sem, tokRes]) rfl ⟨rfl, ?_⟩
    exact Gr.boxed _ _
  | bad e1 p1 =>
    clear hy
    unfold gave at HC
    go_enter Tryz.func49, Tryz.ntmps49
    go_wp2_with (go_at_call 81; refine (HC.out _ (Gr.boxed _ _)).mono ?_; rintro e w' ⟨rfl, rfl⟩)
    refine bodyPost_ret (v := tokRes s a (.bad e1 p1)) (by simp [results, Tryz.results49, go_sem, tokRes]) rfl ⟨rfl, ?_⟩
    exact Gr.boxed _ _

end Go.Proofs.YtimfiaphhomelaaGreat.Tk
