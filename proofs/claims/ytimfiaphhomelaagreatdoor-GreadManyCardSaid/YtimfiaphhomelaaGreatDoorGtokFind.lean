/-
  Package gtok: what stands at a place, by the reader that its byte calls for. Conditions: a text of at most 8192 bytes; the library's variable MaxLen holds a number.
-/
import Derived.Test.YtimfiaphhomelaaGreatDoorGtokRead
namespace Go.Proofs.YtimfiaphhomelaaGreatDoor.Tk
open Go.RowKit Go.Maps
set_option linter.unusedVariables false
set_option linter.unusedSimpArgs false

/-- What read hands back. -/
def tokRes (s : ByteArray) (a : Nat) : Step → Value
  | .tok k b => .tuple #[.agg #[.int .i64 k, .string (s.extract a b), .int .i64 (a : Int)], .nilIface]
  | .bad e p => .tuple #[.agg #[.int .i64 0, .string ⟨#[]⟩, .int .i64 0], .iface 67 (.agg #[.int .i64 e, .int .i64 (p : Int)])]

/-- A token that ends within the text. -/
def Ends (s : ByteArray) (a : Nat) : Step → Prop
  | .tok _ b => a ≤ b ∧ b ≤ s.size
  | .bad _ _ => True

/-- A reader that finds a step at a place, now and later. -/
def Finds (s : ByteArray) (a : Nat) (y : Step) (v : Value) (w : World) : Prop := ∀ w', Below w.heap.size w w' → Calls Tryz.prog 31 #[.string s, .int .i64 (a : Int), v] w' (Gr.Is (tokRes s a y) w')

theorem single1_any (s : ByteArray) (x k : Int) (b : Nat) (w : World) (hx : 0 ≤ x) (hx2 : x ≤ 8192) (hc : w.cell? ⟨b, 0, none⟩ = some (.int .i64 k)) :
    Calls Tryz.prog 90 #[.string s, .int .i64 x, .pointer (some ⟨b, 0, none⟩)] w (Just (.tuple #[.int .i64 k, .int .i64 (x + 1), .nilIface]) w) := by
  go_enter Tryz.func90, Tryz.ntmps90
  go_wp2
  go_ret3
  exact ⟨rfl, rfl⟩

set_option maxHeartbeats 1000000 in
theorem read_single (s : ByteArray) (a b : Nat) (k : Int) (w : World) (ha : a < s.size) (hs : s.size ≤ 8192) (hc : w.cell? ⟨b, 0, none⟩ = some (.int .i64 k)) :
    Calls Tryz.prog 31 #[.string s, .int .i64 (a : Int), .func (.func 90) #[] #[.pointer (some ⟨b, 0, none⟩)]] w (Gr.Is (tokRes s a (.tok k (a + 1))) w) := by
  have HC := Lib.hid (fun w1 (hb : Below w.heap.size w w1) => single1_any s a k b w1 (by omega) (by omega) (Gr.cell_later hb hc))
  clear hc
  go_enter Tryz.func31, Tryz.ntmps31
  go_wp2_with (go_at_call 90; refine (HC.out _ (Gr.boxed _ _)).mono ?_; rintro e w' ⟨rfl, rfl⟩)
  refine bodyPost_ret (v := tokRes s a (.tok k (a + 1))) (by simp [results, Tryz.results31, go_sem, tokRes]) rfl ⟨rfl, ?_⟩
  exact Gr.boxed _ _

set_option maxHeartbeats 1000000 in
theorem read_finish (s : ByteArray) (a : Nat) (y : Step) (w : World) (ha : a ≤ s.size) (hs : s.size ≤ 8192) (hy : Ends s a y) (h : ∀ w', Below w.heap.size w w' → Calls Tryz.prog 60 #[.string s, .int .i64 (a : Int)] w' (Just (gave y) w')) :
    Calls Tryz.prog 31 #[.string s, .int .i64 (a : Int), .func (.func 60) #[] #[]] w (Gr.Is (tokRes s a y) w) := by
  have HC := Lib.hid h
  clear h
  cases y with
  | tok k b =>
    obtain ⟨h1, h2⟩ := hy
    unfold gave at HC
    go_enter Tryz.func31, Tryz.ntmps31
    go_wp2_with (go_at_call 60; refine (HC.out _ (Gr.boxed _ _)).mono ?_; rintro e w' ⟨rfl, rfl⟩)
    refine bodyPost_ret (v := tokRes s a (.tok k b)) (by simp [results, Tryz.results31, go_sem, tokRes]) rfl ⟨rfl, ?_⟩
    exact Gr.boxed _ _
  | bad e1 p1 =>
    clear hy
    unfold gave at HC
    go_enter Tryz.func31, Tryz.ntmps31
    go_wp2_with (go_at_call 60; refine (HC.out _ (Gr.boxed _ _)).mono ?_; rintro e w' ⟨rfl, rfl⟩)
    refine bodyPost_ret (v := tokRes s a (.bad e1 p1)) (by simp [results, Tryz.results31, go_sem, tokRes]) rfl ⟨rfl, ?_⟩
    exact Gr.boxed _ _

set_option maxHeartbeats 1000000 in
theorem read_wrong (s : ByteArray) (a : Nat) (y : Step) (w : World) (ha : a ≤ s.size) (hs : s.size ≤ 8192) (hy : Ends s a y) (h : ∀ w', Below w.heap.size w w' → Calls Tryz.prog 67 #[.string s, .int .i64 (a : Int)] w' (Just (gave y) w')) :
    Calls Tryz.prog 31 #[.string s, .int .i64 (a : Int), .func (.func 67) #[] #[]] w (Gr.Is (tokRes s a y) w) := by
  have HC := Lib.hid h
  clear h
  cases y with
  | tok k b =>
    obtain ⟨h1, h2⟩ := hy
    unfold gave at HC
    go_enter Tryz.func31, Tryz.ntmps31
    go_wp2_with (go_at_call 67; refine (HC.out _ (Gr.boxed _ _)).mono ?_; rintro e w' ⟨rfl, rfl⟩)
    refine bodyPost_ret (v := tokRes s a (.tok k b)) (by simp [results, Tryz.results31, go_sem, tokRes]) rfl ⟨rfl, ?_⟩
    exact Gr.boxed _ _
  | bad e1 p1 =>
    clear hy
    unfold gave at HC
    go_enter Tryz.func31, Tryz.ntmps31
    go_wp2_with (go_at_call 67; refine (HC.out _ (Gr.boxed _ _)).mono ?_; rintro e w' ⟨rfl, rfl⟩)
    refine bodyPost_ret (v := tokRes s a (.bad e1 p1)) (by simp [results, Tryz.results31, go_sem, tokRes]) rfl ⟨rfl, ?_⟩
    exact Gr.boxed _ _

set_option maxHeartbeats 1000000 in
theorem read_comment (s : ByteArray) (a : Nat) (y : Step) (w : World) (ha : a ≤ s.size) (hs : s.size ≤ 8192) (hy : Ends s a y) (h : ∀ w', Below w.heap.size w w' → Calls Tryz.prog 62 #[.string s, .int .i64 (a : Int)] w' (Just (gave y) w')) :
    Calls Tryz.prog 31 #[.string s, .int .i64 (a : Int), .func (.func 62) #[] #[]] w (Gr.Is (tokRes s a y) w) := by
  have HC := Lib.hid h
  clear h
  cases y with
  | tok k b =>
    obtain ⟨h1, h2⟩ := hy
    unfold gave at HC
    go_enter Tryz.func31, Tryz.ntmps31
    go_wp2_with (go_at_call 62; refine (HC.out _ (Gr.boxed _ _)).mono ?_; rintro e w' ⟨rfl, rfl⟩)
    refine bodyPost_ret (v := tokRes s a (.tok k b)) (by simp [results, Tryz.results31, go_sem, tokRes]) rfl ⟨rfl, ?_⟩
    exact Gr.boxed _ _
  | bad e1 p1 =>
    clear hy
    unfold gave at HC
    go_enter Tryz.func31, Tryz.ntmps31
    go_wp2_with (go_at_call 62; refine (HC.out _ (Gr.boxed _ _)).mono ?_; rintro e w' ⟨rfl, rfl⟩)
    refine bodyPost_ret (v := tokRes s a (.bad e1 p1)) (by simp [results, Tryz.results31, go_sem, tokRes]) rfl ⟨rfl, ?_⟩
    exact Gr.boxed _ _

set_option maxHeartbeats 1000000 in
theorem read_percent (s : ByteArray) (a : Nat) (y : Step) (w : World) (ha : a ≤ s.size) (hs : s.size ≤ 8192) (hy : Ends s a y) (h : ∀ w', Below w.heap.size w w' → Calls Tryz.prog 63 #[.string s, .int .i64 (a : Int)] w' (Just (gave y) w')) :
    Calls Tryz.prog 31 #[.string s, .int .i64 (a : Int), .func (.func 63) #[] #[]] w (Gr.Is (tokRes s a y) w) := by
  have HC := Lib.hid h
  clear h
  cases y with
  | tok k b =>
    obtain ⟨h1, h2⟩ := hy
    unfold gave at HC
    go_enter Tryz.func31, Tryz.ntmps31
    go_wp2_with (go_at_call 63; refine (HC.out _ (Gr.boxed _ _)).mono ?_; rintro e w' ⟨rfl, rfl⟩)
    refine bodyPost_ret (v := tokRes s a (.tok k b)) (by simp [results, Tryz.results31, go_sem, tokRes]) rfl ⟨rfl, ?_⟩
    exact Gr.boxed _ _
  | bad e1 p1 =>
    clear hy
    unfold gave at HC
    go_enter Tryz.func31, Tryz.ntmps31
    go_wp2_with (go_at_call 63; refine (HC.out _ (Gr.boxed _ _)).mono ?_; rintro e w' ⟨rfl, rfl⟩)
    refine bodyPost_ret (v := tokRes s a (.bad e1 p1)) (by simp [results, Tryz.results31, go_sem, tokRes]) rfl ⟨rfl, ?_⟩
    exact Gr.boxed _ _

set_option maxHeartbeats 1000000 in
theorem read_quoted (s : ByteArray) (a : Nat) (y : Step) (w : World) (ha : a ≤ s.size) (hs : s.size ≤ 8192) (hy : Ends s a y) (h : ∀ w', Below w.heap.size w w' → Calls Tryz.prog 64 #[.string s, .int .i64 (a : Int)] w' (Just (gave y) w')) :
    Calls Tryz.prog 31 #[.string s, .int .i64 (a : Int), .func (.func 64) #[] #[]] w (Gr.Is (tokRes s a y) w) := by
  have HC := Lib.hid h
  clear h
  cases y with
  | tok k b =>
    obtain ⟨h1, h2⟩ := hy
    unfold gave at HC
    go_enter Tryz.func31, Tryz.ntmps31
    go_wp2_with (go_at_call 64; refine (HC.out _ (Gr.boxed _ _)).mono ?_; rintro e w' ⟨rfl, rfl⟩)
    refine bodyPost_ret (v := tokRes s a (.tok k b)) (by simp [results, Tryz.results31, go_sem, tokRes]) rfl ⟨rfl, ?_⟩
    exact Gr.boxed _ _
  | bad e1 p1 =>
    clear hy
    unfold gave at HC
    go_enter Tryz.func31, Tryz.ntmps31
    go_wp2_with (go_at_call 64; refine (HC.out _ (Gr.boxed _ _)).mono ?_; rintro e w' ⟨rfl, rfl⟩)
    refine bodyPost_ret (v := tokRes s a (.bad e1 p1)) (by simp [results, Tryz.results31, go_sem, tokRes]) rfl ⟨rfl, ?_⟩
    exact Gr.boxed _ _

set_option maxHeartbeats 1000000 in
theorem read_name (s : ByteArray) (a : Nat) (y : Step) (w : World) (ha : a ≤ s.size) (hs : s.size ≤ 8192) (hy : Ends s a y) (h : ∀ w', Below w.heap.size w w' → Calls Tryz.prog 66 #[.string s, .int .i64 (a : Int)] w' (Just (gave y) w')) :
    Calls Tryz.prog 31 #[.string s, .int .i64 (a : Int), .func (.func 66) #[] #[]] w (Gr.Is (tokRes s a y) w) := by
  have HC := Lib.hid h
  clear h
  cases y with
  | tok k b =>
    obtain ⟨h1, h2⟩ := hy
    unfold gave at HC
    go_enter Tryz.func31, Tryz.ntmps31
    go_wp2_with (go_at_call 66; refine (HC.out _ (Gr.boxed _ _)).mono ?_; rintro e w' ⟨rfl, rfl⟩)
    refine bodyPost_ret (v := tokRes s a (.tok k b)) (by simp [results, Tryz.results31, go_sem, tokRes]) rfl ⟨rfl, ?_⟩
    exact Gr.boxed _ _
  | bad e1 p1 =>
    clear hy
    unfold gave at HC
    go_enter Tryz.func31, Tryz.ntmps31
    go_wp2_with (go_at_call 66; refine (HC.out _ (Gr.boxed _ _)).mono ?_; rintro e w' ⟨rfl, rfl⟩)
    refine bodyPost_ret (v := tokRes s a (.bad e1 p1)) (by simp [results, Tryz.results31, go_sem, tokRes]) rfl ⟨rfl, ?_⟩
    exact Gr.boxed _ _

end Go.Proofs.YtimfiaphhomelaaGreatDoor.Tk
