/- A part of the proof. -/
import Derived.Test.YtbcgmiocolpjoaaGreatPk40
import Derived.Test.YtbcgmiocolpjoaaGreatPk36
import Derived.Test.YtbcgmiocolpjoaaGreatPk28
set_option maxHeartbeats 8000000
set_option maxRecDepth 100000
set_option linter.unusedVariables false
namespace Go.Proofs.YtbcgmiocolpjoaaGreat
namespace Ro
open Go.RowKit Go.Maps
open Gr (Gram Sh GAt gv Bx checkN top cell_later zAB boxed drawn ivs zAS zAG)
open Le (RVAt ansT nilB)
open Im
open Au
theorem zDC : (Tryz.prog.info? 40).map (fun i => (i.zero, i.size, i.bytes)) = some (some (.slice none 0 0), 1, 24) := by kernel_rfl
theorem zLK : (Tryz.prog.info? 4).map (fun i => (i.zero, i.size, i.bytes)) = some (some (.bool false), 1, 1) := by kernel_rfl
theorem zHz (n : Nat) (hn : n <= 10000) (w : World) :
  (Instr.makeSlice 66 (.int .i64 (n : Int)) (.int .i64 (n : Int))).run Tryz.prog w = .ok (.slice (some ⟨w.heap.size, 0, none⟩) n n) (w.alloc (.cells (madeCells #[.slice none 0 0] n) 40)) :=
 run_make_row' 66 40 (.slice none 0 0) 24 Tryz.underlying66 zDC rfl .i64 .i64 n (by omega) (by omega) w
theorem zLZ (n : Nat) (hn : n <= 10000) (w : World) :
  (Instr.makeSlice 71 (.int .i64 (n : Int)) (.int .i64 (n : Int))).run Tryz.prog w = .ok (.slice (some ⟨w.heap.size, 0, none⟩) n n) (w.alloc (.cells (madeCells #[.bool false] n) 4)) :=
 run_make_row' 71 4 (.bool false) 1 Tryz.underlying71 zLK rfl .i64 .i64 n (by omega) (by omega) w
theorem zCM (n : Nat) (z : Value) (T : TypeId) (w : World) : Fil w.heap.size T n (fun _ => z) (w.alloc (.cells (madeCells #[z] n) T)) := by
 refine ⟨_, heap_alloc_new _ _, size_madeCells _ _, fun j hj => ?_⟩
 unfold madeCells
 rw [Array.getElem?_map, Array.getElem?_range, if_pos hj]
 simp only [Option.map_some]
 congr 1
 have : j % (#[z] : Array Value).size = 0 := Nat.mod_one j
 rw [this]
 rfl
def KV (G : Gram) (pw bL : Nat) (w : World) : Prop := ∀ w', Sep.Fr (fun x => x = bL \/ w.heap.size <= x) w w' -> RVAt (nilB G) (.pointer (some ⟨pw, 0, none⟩)) (ansT G) w'
theorem KV.fr {G : Gram} {pw bL : Nat} {w w1 : World} (h : KV G pw bL w) (hF : Sep.Fr (fun x => x = bL \/ w.heap.size <= x) w w1) : KV G pw bL w1 := fun w2 h2 =>
 h w2 (hF.trans h2 fun k hk => hk.elim (fun e => .inl (.inl e)) fun e => .inr (Nat.le_trans hF.size e))
theorem KV.went {G : Gram} {pw bL : Nat} {w w1 : World} (h : KV G pw bL w) (hb : Below w.heap.size w w1) : KV G pw bL w1 := h.fr (Sep.Fr.of_below hb)
theorem zOT {G : Gram} {q1 q2 q3 hi n pw bL : Nat} {f : Nat -> Value} {w : World} (hn : nilB G = false) (h : Le.RAt pw q1 q2 q3 hi n (ansT G) f w) (hb : w.heap.size <= bL) : KV G pw bL w := fun w' hF => by
 have k1 := h.hp
 have k2 := h.h1
 have k3 := h.h2
 have k4 := h.h3
 have k5 := h.hw
 exact .inr ⟨hn, pw, q1, q2, q3, hi, n, f, rfl, h.fr hF (by omega) (by omega) (by omega) (by omega) fun k hk => by omega⟩
theorem zOU {G : Gram} {q1 q2 q3 hi n pw bL : Nat} {f : Nat -> Value} {w : World} (hn : nilB G = false) (h : Le.RAt pw q1 q2 q3 hi n (ansT G) f w) {m : Nat} (hm : bL <= m) (m1 : m < q1) (m2 : m < q2) (m3 : m < q3) {N : Nat} {v : Nat -> Value} (hL : Fil bL 40 N v w) : KV G pw bL w := fun w' hF => by
 have k1 := h.hp
 have k2 := h.h1
 have k3 := h.h2
 have k4 := h.h3
 have k5 := h.hw
 have hne : pw ≠ bL := fun e => by
  obtain ⟨cur, c1, _⟩ := hL
  have hb : w.heap[pw]? = _ := h.box
  rw [e, c1] at hb
  simp at hb
 exact .inr ⟨hn, pw, q1, q2, q3, hi, n, f, rfl, h.fr hF (by omega) (by omega) (by omega) (by omega) fun k hk => by omega⟩
def KW (G : Gram) (pw bL bI : Nat) (w : World) : Prop := ∃ W0, KV G pw bL W0 /\ Sep.Fr (fun x => x = bL \/ W0.heap.size <= x) W0 w /\ W0.heap.size <= bI
theorem KW.rv {G : Gram} {pw bL bI : Nat} {w : World} (h : KW G pw bL bI w) : RVAt (nilB G) (.pointer (some ⟨pw, 0, none⟩)) (ansT G) w :=
 let ⟨_, k, f, _⟩ := h
 k _ f
theorem KW.went {G : Gram} {pw bL bI : Nat} {w w1 : World} (h : KW G pw bL bI w) (hb : Below w.heap.size w w1) : KW G pw bL bI w1 :=
 let ⟨W0, k, f, l⟩ := h
 ⟨W0, k, f.trans (Sep.Fr.of_below (S := fun x => w.heap.size <= x) hb) fun _ hk => .inr (Nat.le_trans f.size hk), l⟩
theorem KW.put {G : Gram} {pw bL bI i j : Nat} {u v : Value} {w : World} (h : KW G pw bL bI w) : KW G pw bL bI ((w.setCell ⟨bL, i, none⟩ u).setCell ⟨bI, j, none⟩ v) :=
 let ⟨W0, k, f, l⟩ := h
 ⟨W0, k, (f.setCell ⟨bL, i, none⟩ (.inl rfl) _).setCell ⟨bI, j, none⟩ (.inr l) _, l⟩
theorem zJX {G : Gram} {pw bL m : Nat} {w : World} (hn : nilB G = false) (h : ∃ q1 q2 q3 hi n f, Le.RAt pw q1 q2 q3 hi n (ansT G) f w /\ m < q1 /\ m < q2 /\ m < q3) (hb : w.heap.size <= bL) : KV G pw bL w :=
 let ⟨_, _, _, _, _, _, k, _⟩ := h
 zOT hn k hb
theorem zJY {G : Gram} {pw bL m N : Nat} {v : Nat -> Value} {w : World} (hn : nilB G = false) (hL : Fil bL 40 N v w) (h : ∃ q1 q2 q3 hi n f, Le.RAt pw q1 q2 q3 hi n (ansT G) f w /\ m < q1 /\ m < q2 /\ m < q3) (hb : bL <= m) : KV G pw bL w :=
 let ⟨_, _, _, _, _, _, k, m1, m2, m3⟩ := h
 zOU hn k hb m1 m2 m3 hL
structure RIni (G : Gram) (n : Nat) (W : World) (p bL pw : Nat) (w : World) : Prop where
 c0 : w.cell? ⟨p, 0, none⟩ = some (.slice (some ⟨bL, 0, none⟩) n n)
 c1 : w.cell? ⟨p, 1, none⟩ = some (.pointer (some ⟨pw, 0, none⟩))
 fl : Fil bL 40 n (fun _ => .slice none 0 0) w
 words : KV G pw bL w
 below : Below W.heap.size W w
 lo : W.heap.size <= bL /\ bL ≠ p /\ W.heap.size <= p
theorem zHG {G : Gram} {n bL pw : Nat} {W w : World} (hb : Below W.heap.size W w) (hL : Fil bL 40 n (fun _ => .slice none 0 0) w) (hlo : W.heap.size <= bL) (hV : KV G pw bL w) :
  RIni G n W w.heap.size bL pw (w.alloc (.cells #[.slice (some ⟨bL, 0, none⟩) n n, .pointer (some ⟨pw, 0, none⟩)] 70)) :=
 ⟨zAB rfl rfl, zAB rfl rfl, hL.went (boxed _ _), hV.went (boxed _ _), Gr.step hb (boxed _ _), hlo, Nat.ne_of_lt hL.lt, hb.size⟩
structure RrAt (G : Gram) (q : Whole) (p bL pw : Nat) (L : Nat -> List Int) (A : Nat -> Option Addr) (C : Nat -> Nat) (w : World) : Prop where
 c0 : w.cell? ⟨p, 0, none⟩ = some (.slice (some ⟨bL, 0, none⟩) q.1.length q.1.length)
 c1 : w.cell? ⟨p, 1, none⟩ = some (.pointer (some ⟨pw, 0, none⟩))
 fl : ∀ i, i < q.1.length -> w.cell? ⟨bL, i, none⟩ = some (.slice (A i) (L i).length (C i)) /\ Sep.Reads (A i) (ivs (L i)) w /\ (L i).length <= C i /\ (L i).length <= 4000
 least : ∀ i, i < q.1.length -> zCC (top G) q (L i) i
 words : RVAt (nilB G) (.pointer (some ⟨pw, 0, none⟩)) (ansT G) w
theorem RrAt.went {G : Gram} {q : Whole} {p bL pw : Nat} {L : Nat -> List Int} {A : Nat -> Option Addr} {C : Nat -> Nat} {w w' : World} (h : RrAt G q p bL pw L A C w) (hb : Below w.heap.size w w') : RrAt G q p bL pw L A C w' :=
 ⟨cell_later hb h.c0, cell_later hb h.c1, fun i hi => ⟨cell_later hb (h.fl i hi).1, (h.fl i hi).2.1.below hb (Nat.le_refl _), (h.fl i hi).2.2⟩, h.least, h.words.went hb⟩
def zOA (G : Gram) (w : World) (e : Ending) (w' : World) : Prop :=
 (∃ er : Int, er ≠ 0 /\ Built G er [] /\ e = .returned (.tuple #[.pointer none, .int .i64 er]) /\ Below w.heap.size w w') \/
 ∃ (q : Whole) (p bL pw : Nat) (L : Nat -> List Int) (A : Nat -> Option Addr) (C : Nat -> Nat), checkN G = 0 /\ Done G q /\ q.1.length <= 2000 /\ Built G 0 (states q) /\ e = .returned (.tuple #[.pointer (some ⟨p, 0, none⟩), .int .i64 0]) /\ RrAt G q p bL pw L A C w' /\ Below w.heap.size w w'
structure RLp (G : Gram) (q : Whole) (W : World) (p bL bI pw B0 : Nat) (L : Nat -> List Int) (is : Nat -> Bool) (A : Nat -> Option Addr) (C : Nat -> Nat) (w : World) : Prop where
 c0 : w.cell? ⟨p, 0, none⟩ = some (.slice (some ⟨bL, 0, none⟩) q.1.length q.1.length)
 c1 : w.cell? ⟨p, 1, none⟩ = some (.pointer (some ⟨pw, 0, none⟩))
 ls : LsAt q.1.length bL bI B0 L is A C w
 words : KW G pw bL bI w
 ri : RI (top G) q q.1.length L is
 below : Below W.heap.size W w
 lo : W.heap.size <= bL /\ W.heap.size <= bI /\ bL ≠ p /\ bI ≠ p /\ B0 <= w.heap.size
theorem RLp.went {G : Gram} {q : Whole} {W w w' : World} {p bL bI pw B0 : Nat} {L : Nat -> List Int} {is : Nat -> Bool} {A : Nat -> Option Addr} {C : Nat -> Nat} (h : RLp G q W p bL bI pw B0 L is A C w) (hb : Below w.heap.size w w') : RLp G q W p bL bI pw B0 L is A C w' :=
 ⟨cell_later hb h.c0, cell_later hb h.c1, h.ls.went hb, h.words.went hb, h.ri, Gr.step h.below hb, h.lo.1, h.lo.2.1, h.lo.2.2.1, h.lo.2.2.2.1, Nat.le_trans h.lo.2.2.2.2 hb.size⟩
theorem RLp.put {G : Gram} {q : Whole} {W w : World} {p bL bI pw B0 : Nat} {L : Nat -> List Int} {is : Nat -> Bool} {A : Nat -> Option Addr} {C : Nat -> Nat} (h : RLp G q W p bL bI pw B0 L is A C w) {i j : Nat} {s : Int} (hi : i < q.1.length) (hj : j < q.1.length) (hv : is i = true) (ht : (s, (j : Int)) ∈ q.2.getD i []) (hl : is j = false \/ zDk (L i ++ [s]) (L j) = true)
  {a : Option Addr} {c : Nat} (hr : Sep.Reads a (ivs (L i ++ [s])) w) (hc : (L i ++ [s]).length <= c) (hb : ∀ b o, a = some ⟨b, o, none⟩ -> B0 <= b) :
  RLp G q W p bL bI pw B0 (upd L j (L i ++ [s])) (upd is j true) (upd A j a) (upd C j c) ((w.setCell ⟨bL, j, none⟩ (.slice a (L i ++ [s]).length c)).setCell ⟨bI, j, none⟩ (.bool true)) := by
 have hG : Sep.Fr (fun x => x = bL \/ x = bI) w ((w.setCell ⟨bL, j, none⟩ (.slice a (L i ++ [s]).length c)).setCell ⟨bI, j, none⟩ (.bool true)) := ((Sep.Fr.refl (fun x => x = bL \/ x = bI) w).setCell ⟨bL, j, none⟩ (.inl rfl) _).setCell ⟨bI, j, none⟩ (.inr rfl) _
 have h1 := h.lo.1
 have h2 := h.lo.2.1
 have h3 := h.lo.2.2.1
 have h4 := h.lo.2.2.2.1
 refine ⟨hG.cell h.c0 (by simp; omega), hG.cell h.c1 (by simp; omega), h.ls.put hj hr hc fun b o e _ => hb b o e, h.words.put, (h.ri.step hi hj hv ht hl).1, ?_, h1, h2, h3, h4, by rw [Rw.zAf, Rw.zAf]; exact h.lo.2.2.2.2⟩
 have h5 : Below W.heap.size W W := .refl _ _
 exact Sep.Fr.below (S := fun x => x = bL \/ x = bI \/ W.heap.size <= x) ((Sep.Fr.of_below h.below).trans hG fun k hk => .inl (by rcases hk with e | e <;> simp [e])) (fun k hk => by omega) (Nat.le_refl _)
theorem zLY (n : Nat) (z u : Value) (T : TypeId) (w : World) : Fil w.heap.size T n (fun x => if x = 0 then u else z) (w.alloc (.cells ((madeCells #[z] n).setIfInBounds 0 u) T)) := by
 obtain ⟨cur, h1, h2, h3⟩ := zCM n z T w
 rw [heap_alloc_new] at h1
 cases h1
 refine ⟨_, heap_alloc_new _ _, by rw [Array.size_setIfInBounds]; exact h2, fun j hj => ?_⟩
 rw [Array.getElem?_setIfInBounds]
 by_cases e : 0 = j
 ·subst e
  rw [if_pos rfl, if_pos (by rw [h2]; exact hj)]
  rfl
 ·rw [if_neg e, h3 j hj]
  show some z = some (if j = 0 then u else z)
  rw [if_neg (fun h => e h.symm)]
theorem zKD {G : Gram} {q : Whole} {W w : World} {p bL pw : Nat} (hR : RIni G q.1.length W p bL pw w) (hp : p < w.heap.size) (D : Done G q) :
  RLp G q W p bL w.heap.size pw (w.heap.size + 1) (fun _ => []) (upd (fun _ => false) 0 true) (fun _ => none) (fun _ => 0) (w.alloc (.cells ((madeCells #[.bool false] q.1.length).setIfInBounds 0 (.bool true)) 4)) := by
 have hb := boxed w (.cells ((madeCells #[.bool false] q.1.length).setIfInBounds 0 (.bool true)) 4)
 refine ⟨cell_later hb hR.c0, cell_later hb hR.c1, ⟨(hR.fl.went hb).congr fun _ _ => rfl, (zLY q.1.length (.bool false) (.bool true) 4 w).congr fun x _ => ?_, fun i hi => ⟨Sep.Reads.nil _ _, Nat.le_refl _, fun b o e => by cases e⟩, Nat.ne_of_lt hR.fl.lt, Nat.lt_succ_of_lt hR.fl.lt, Nat.lt_succ_self _⟩, ⟨w, hR.words, Sep.Fr.of_below hb, Nat.le_refl _⟩, RI.start (zAa D) D.ok.pos _ rfl, Gr.step hR.below hb, hR.lo.1, hR.below.size, hR.lo.2.1, fun e => ?_, ?_⟩
 ·by_cases e : x = 0
  ·subst e
   rw [if_pos rfl, upd_same]
  ·rw [if_neg e, zAE e]
 ·omega
 ·rw [World.size_alloc]
  exact Nat.le_refl _
theorem zD2 {w : World} {o o' : Obj} {k : Nat} (h : w.heap[k]? = some o') : (w.alloc o).heap[k]? = some o' := by
 have hk : k < w.heap.size := by
  rcases Nat.lt_or_ge k w.heap.size with c | c
  ·exact c
  ·rw [Array.getElem?_eq_none c] at h
   cases h
 exact ((boxed w o).block k hk).trans h
theorem zFT {w : World} {o : Obj} {k : Nat} (h : k = w.heap.size) : (w.alloc o).heap[k]? = some o := by
 subst h
 exact World.alloc_heap_new _ _
theorem zCi {w : World} {k : Nat} {t : Int} {T : TypeId} (h : w.heap[k]? = some (.cells #[.int .i64 t] T (0, 0))) : Sep.Reads (some ⟨k, 0, none⟩) (ivs [t]) w := Gr.zBn (by simp [World.cell?, h, Gr.iv])
theorem zJM (X Y : List Int) : ivs (X ++ Y) = ivs X ++ ivs Y := by simp [ivs]
theorem zO8 {G : Gram} {q : Whole} {W w : World} {p bL bI pw B0 : Nat} {L : Nat -> List Int} {is : Nat -> Bool} {A : Nat -> Option Addr} {C : Nat -> Nat} (hR : RLp G q W p bL bI pw B0 L is A C w) (D : Done G q) (hl : q.1.length <= 2000) (V : Vis q L is q.1.length 0) : RrAt G q p bL pw L A C w := by
 have DN := hR.ri.done (zCg D) (fun t h0 ht => D.early h0 ht) (fun i s j hi ht hm => V.done i hi ht s j hm)
 refine ⟨hR.c0, hR.c1, fun i hi => ⟨hR.ls.fl.cell hi, (hR.ls.rd i hi).1, (hR.ls.rd i hi).2.1, ?_⟩, fun i hi => (DN i hi).2, hR.words.rv⟩
 have h1 := hR.ri.len i hi (DN i hi).1
 have h2 := zGk q.1.length is
 omega
theorem zDg.skip {B n S0 : Nat} {q : Whole} {b : Bool} {L : Nat -> List Int} {is : Nat -> Bool} {i k : Nat} (h : zDg B n q S0 b L is i k) (hi : is i = false) : zDg B n q S0 b L is (i + 1) 0 :=
 h.elim (fun c => .inl c) fun c => .inr ⟨c.1, c.2.1, c.2.2.skip hi⟩
theorem zDg.nextI {B n S0 : Nat} {q : Whole} {b : Bool} {L : Nat -> List Int} {is : Nat -> Bool} {i k : Nat} (h : zDg B n q S0 b L is i k) (hk : k = (q.2.getD i []).length) : zDg B n q S0 b L is (i + 1) 0 :=
 h.elim (fun c => .inl c) fun c => .inr ⟨c.1, c.2.1, c.2.2.nextI hk⟩
theorem zDg.nextK {B n S0 : Nat} {q : Whole} {b : Bool} {L : Nat -> List Int} {is : Nat -> Bool} {i k : Nat} {T : List (Int × Int)} (h : zDg B n q S0 b L is i k) (hT : q.2.getD i [] = T) (hk : k < T.length) (hn : ∀ s (j : Nat), T[k] = (s, (j : Int)) -> ¬ New L is i s j) : zDg B n q S0 b L is i (k + 1) := by
 subst hT
 exact h.elim (fun c => .inl c) fun c => .inr ⟨c.1, c.2.1, c.2.2.nextK hk hn⟩
theorem zDg.put {B n S0 : Nat} {q : Whole} {b : Bool} {L L' : Nat -> List Int} {is is' : Nat -> Bool} {i k k' : Nat} (h : zDg B n q S0 b L is i k) (hs : sumV B n L' is' < sumV B n L is) : zDg B n q S0 true L' is' i k' :=
 .inl ⟨rfl, Nat.lt_of_lt_of_le hs (h.elim (fun c => Nat.le_of_lt c.2) fun c => c.2.1)⟩
theorem zDT (h : Sh) (G : Gram) (w : World) (k : GAt h G w) :
    Calls Tryz.prog 9 #[gv h G] w (zOA G w) := by
  have X0 := zPB (Bx.start h G w 25)
  have BU := zPB (fun w1 (b : Below w.heap.size w w1) => zEG h G w1 (k.went b))
  have LO := zPB (fun w1 (b : Below w.heap.size w w1) => Le.zL1 h G w1 (k.went b))
  clear k
  obtain ⟨x0, x1, x2, x3⟩ := X0.out.box
  unfold gv at *
  go_enter Tryz.func9, Tryz.ntmps9
  go_wp2_with fail
  refine (BU.out _ X0.out.below).mono ?_
  rintro e w1 ⟨X, er, aX, cX, rfl, hB, hS, hle, hb1⟩
  have X1 := zPB (X0.out.went hb1)
  clear x0 x1 x2 x3 X0 hb1 BU
  obtain ⟨x0, x1, x2, x3⟩ := X1.out.box
  rcases zFF hB with ⟨h0, rfl, hB'⟩ | ⟨rfl, hv, q, rfl, D, hlen, hB'⟩
  · have hne : (er != 0) = true := by simpa using h0
    go_wp2
    exact bodyPost_ret (v := .tuple #[.pointer none, .int .i64 er]) (by simp [results, Tryz.results9, go_sem]) rfl (.inl ⟨er, h0, hB', rfl, X1.out.below⟩)
  · have hsl : (states q).length = q.1.length := zAg D.all
    rw [hsl]
    have hnb : nilB G = false := by
      unfold nilB
      rw [decide_eq_true hv]
      rfl
    have LQ := zPB (fun w2 (b : Below w1.heap.size w1 w2) => (show Calls Tryz.prog 24 #[.agg #[.slice h.a1 G.terms.length h.c1, .slice h.a2 G.nons.length h.c2, .slice h.a3 G.rules.length h.c3, .int .i64 G.start]] w2 (fun e w' => ∃ pw : Nat, e = .returned (.pointer (some ⟨pw, 0, none⟩)) /\ (∃ q1 q2 q3 hi n f, Le.RAt pw q1 q2 q3 hi n (ansT G) f w' /\ w2.heap.size < q1 /\ w2.heap.size < q2 /\ w2.heap.size < q3) /\ Below w2.heap.size w2 w') from
      (LO.out w2 (Gr.step X1.out.below b)).mono fun e w' ⟨v, h1, _, h3, h4⟩ => by
        obtain ⟨_, pw, q1, q2, q3, hi, n, f, rfl, h5, h6⟩ := h4 hnb
        exact ⟨pw, h1, ⟨q1, q2, q3, hi, n, f, h5, h6⟩, h3⟩))
    have HQ := zPB (fun w' (b : Below w1.heap.size w1 w') => (show w'.cell? ⟨w.heap.size, 0, none⟩ = some (.slice h.a1 G.terms.length h.c1) /\ w'.cell? ⟨w.heap.size, 1, none⟩ = some (.slice h.a2 G.nons.length h.c2) /\ w'.cell? ⟨w.heap.size, 2, none⟩ = some (.slice h.a3 G.rules.length h.c3) /\ w'.cell? ⟨w.heap.size, 3, none⟩ = some (.int .i64 G.start) from ⟨cell_later b x0, cell_later b x1, cell_later b x2, cell_later b x3⟩))
    have kA := drawn w1
    have SS := zPB hS
    have HBU := zPB hB'
    have hmk := fun w => zHz q.1.length (by omega) w
    have hmy := fun w => zLZ q.1.length (by omega) w
    clear hB hS hle hB' LO x0 x1 x2 x3
    obtain ⟨x0, x1, x2, x3⟩ := HQ.out w1 (.refl _ _)
    go_wp2_with fail
    go_cut [6] (fun s wx => ∃ p bL pw, s = .pointer (some ⟨p, 0, none⟩) /\ RIni G q.1.length w1 p bL pw wx)
    case first =>
      go_region_held3 (fun w' => w'.cell? ⟨w.heap.size, 0, none⟩ = some (.slice h.a1 G.terms.length h.c1) /\ w'.cell? ⟨w.heap.size, 1, none⟩ = some (.slice h.a2 G.nons.length h.c2) /\ w'.cell? ⟨w.heap.size, 2, none⟩ = some (.slice h.a3 G.rules.length h.c3) /\ w'.cell? ⟨w.heap.size, 3, none⟩ = some (.int .i64 G.start))
        (first | exact HQ.out _ (by assumption) | exact HQ.out _ (Gr.step (by assumption) (boxed _ _)) | exact HQ.out _ (Gr.step (Gr.step (by assumption) (boxed _ _)) (boxed _ _)))
        (first
          | (go_at_call 24; (with_reducible refine (LQ.out _ (by first | assumption | exact Gr.step (by assumption) (boxed _ _))).mono ?_); rintro e w6 ⟨pw, rfl, hV, hb6⟩; have kL : Below w1.heap.size w1 w6 := Gr.step (by first | assumption | exact Gr.step (by assumption) (boxed _ _)) hb6; have VV := zPB hV; have H6 := zPB hb6; clear hV hb6)
          | fail)
      all_goals
        first
          | (have F := zPB (zHG (bL := w1.heap.size) kL (((zCM q.1.length (.slice none 0 0) 40 w1).went (drawn _)).went H6.out) (Nat.le_refl _) (zJY hnb (((zCM q.1.length (.slice none 0 0) 40 w1).went (drawn _)).went H6.out) VV.out (by simp))); go_wp2_with fail; go_meet; case rel => exact ⟨_, _, _, rfl, F.out⟩)
          | (have F := zPB (zHG (bL := w6.heap.size) (Gr.step kL (boxed w6 (.cells (madeCells #[.slice none 0 0] q.1.length) 40))) (zCM q.1.length (.slice none 0 0) 40 w6) kL.size ((zJX hnb VV.out (Nat.le_refl _)).went (boxed _ _))); rw [World.size_alloc] at F; go_wp2_with fail; go_meet; case rel => exact ⟨_, _, _, rfl, F.out⟩)
          | (go_wp2_with fail; done)
    case rest =>
      obtain ⟨p, bL, pw, rfl, hR⟩ := hcut
      have hp : p < wc.heap.size := World.block_lt_of_cell? wc _ hR.c0
      have R := zPB (zKD hR hp D)
      have hn0 := D.ok.pos
      have hin0 : (0 : Int) < (q.1.length : Int) := by omega
      have hcc : (madeCells #[.bool false] q.1.length)[0]? = some (.bool false) := by
        obtain ⟨cur, h1, h2, h3⟩ := zCM q.1.length (.bool false) 4 wc
        rw [heap_alloc_new] at h1
        cases h1
        exact h3 0 hn0
      have SS2 := zPB (fun w' (b : Below w1.heap.size w1 w') => SS.out.went b)
      clear hR hp LQ x0 x1 x2 x3
      go_wp2_with fail
      clear hcc hmk hmy
      generalize (wc.alloc (.cells ((madeCells #[.bool false] q.1.length).setIfInBounds 0 (.bool true)) 4)) = w8 at *
      generalize wc.heap.size = bI at *
      go_loopg [8] (sumV (top G) q.1.length (fun _ => []) (upd (fun _ => false) 0 true) + 1) (fun g v wr => ∃ (b : Bool) (L : Nat -> List Int) (is : Nat -> Bool) (A : Nat -> Option Addr) (C : Nat -> Nat), v = .bool b /\ RLp G q w1 p bL bI pw (bI + 1) L is A C wr /\ (b = true -> sumV (top G) q.1.length L is + 1 <= g) /\ (b = false -> Vis q L is q.1.length 0))
      case atStart => exact ⟨true, _, _, _, _, rfl, R.out, fun _ => Nat.le_refl _, fun h => by cases h⟩
      case round =>
        clear R
        obtain ⟨b, L, is, A, C, rfl, hR, hg, hv2⟩ := hrel
        have R := zPB hR
        cases b with
        | false =>
          have F := zPB (zO8 hR D hlen (hv2 rfl))
          clear hR hg hv2
          go_wp2
          exact bodyPost_ret (v := .tuple #[.pointer (some ⟨p, 0, none⟩), .int .i64 0]) (by simp [results, Tryz.results9, go_sem]) rfl (.inr ⟨q, p, bL, pw, L, A, C, hv, D, hlen, HBU.out, rfl, F.out, Gr.step X1.out.below R.out.below⟩)
        | true =>
          have GG := zPB (hg rfl)
          clear hR hg hv2
          go_wp2
          go_loopw [8, 9] (fun m i wr => ∃ (ii : Nat) (b : Bool) (L2 : Nat -> List Int) (is2 : Nat -> Bool) (A2 : Nat -> Option Addr) (C2 : Nat -> Nat), ii <= q.1.length /\ i = .int .i64 (ii : Int) /\ m = .bool b /\ RLp G q w1 p bL bI pw (bI + 1) L2 is2 A2 C2 wr /\ zDg (top G) q.1.length q (sumV (top G) q.1.length L is) b L2 is2 ii 0) (fun _ i _ => q.1.length - (intOf i).toNat)
          case atStart => exact ⟨0, false, L, is, A, C, Nat.zero_le _, rfl, rfl, R.out, .inr ⟨rfl, Nat.le_refl _, Vis.start⟩⟩
          case round =>
            clear R
            obtain ⟨ii, b, L2, is2, A2, C2, hii, rfl, rfl, hR, hV⟩ := hrel
            have R := zPB hR
            have V := zPB hV
            clear hR hV
            by_cases hlt : ii < q.1.length
            · have hin2 : ii < (states q).length := by rw [zAg D.all]; exact hlt
              have hst : (states q)[ii] = (zAI q.1 ii, q.2.getD ii []) := by
                have h := zBJ D.all hlt
                rw [List.getElem?_eq_getElem hin2] at h
                injection h
              obtain ⟨bS, oS, a1, c1, a2, c2, rfl, s0, s1, _, hT, _, _⟩ := SS.out ii hin2
              rw [hst] at s0 s1 hT
              dsimp only at s0 s1 hT
              have TT := zPB (fun w' (b : Below w1.heap.size w1 w') => hT.went b)
              have S1 := zPB (fun w' (b : Below w1.heap.size w1 w') => cell_later b s1)
              have hlt2 : (ii : Int) < (q.1.length : Int) := by omega
              have hTl : (q.2.getD ii []).length <= 240 := Nat.le_trans (zEd D hlt) (zBK hv)
              clear s0 s1 hT hst
              obtain ⟨T, hTq⟩ : ∃ T, q.2.getD ii [] = T := ⟨_, rfl⟩
              rw [hTq] at TT S1 hTl
              have HT := zPB hTq
              clear hTq
              go_wp2
              go_loopw [8, 10] (fun m kv wr => ∃ (kk : Nat) (b : Bool) (L2 : Nat -> List Int) (is2 : Nat -> Bool) (A2 : Nat -> Option Addr) (C2 : Nat -> Nat), kk <= T.length /\ kv = .int .i64 (kk : Int) /\ m = .bool b /\ RLp G q w1 p bL bI pw (bI + 1) L2 is2 A2 C2 wr /\ zDg (top G) q.1.length q (sumV (top G) q.1.length L is) b L2 is2 ii kk) (fun _ kv _ => T.length - (intOf kv).toNat)
              case atStart => exact ⟨0, b, L2, is2, A2, C2, Nat.zero_le _, rfl, rfl, R.out, V.out⟩
              case round =>
                clear R V
                obtain ⟨kk, b, L2, is2, A2, C2, hkk, rfl, rfl, hR, hV⟩ := hrel
                have R := zPB hR
                have V := zPB hV
                clear hR hV
                have s1 := S1.out _ R.out.below
                by_cases hlk : kk < T.length
                · have hlk2 : (kk : Int) < (T.length : Int) := by omega
                  have fi := R.out.ls.fi.cell hlt
                  cases hy : is2 ii with
                  | false =>
                    have V1 := zPB (V.out.skip hy)
                    rw [hy] at fi
                    clear V hy
                    go_wp2
                    go_roundw
                    case rel => exact ⟨ii + 1, b, L2, is2, A2, C2, by omega, by go_num, rfl, R.out, V1.out⟩
                    case measure => simp [intOf]; omega
                  | true =>
                    rw [hy] at fi
                    obtain ⟨b5, o5, rfl, t0, t1⟩ := (TT.out wr R.out.below).at kk hlk
                    obtain ⟨j, hj2, hjn⟩ := zCg D ii T[kk].1 T[kk].2 hlt (by rw [HT.out]; exact List.getElem_mem hlk)
                    have hmem : (T[kk].1, (j : Int)) ∈ q.2.getD ii [] := by
                      rw [HT.out, ← hj2]
                      exact List.getElem_mem hlk
                    have hone : ∀ s' (j' : Nat), T[kk] = (s', (j' : Int)) -> s' = T[kk].1 /\ j' = j := fun s' j' h => ⟨by rw [h], by rw [h] at hj2; dsimp only at hj2; omega⟩
                    have HO := zPB (And.intro hmem hone)
                    rw [hj2] at t1
                    clear hmem hone hj2
                    generalize T[kk].1 = s at *
                    have c0 := R.out.c0
                    have fL := R.out.ls.fl.cell hlt
                    obtain ⟨hrd, hcap, hlo⟩ := R.out.ls.rd ii hlt
                    have hlen2 : (L2 ii).length <= 2000 := by
                      have h1 := R.out.ri.len ii hlt hy
                      have h2 := zGk q.1.length is2
                      omega
                    have hjn2 : (j : Int) < (q.1.length : Int) := by omega
                    have RD := zPB hrd
                    have LO := zPB hlo
                    clear hrd hlo
                    go_wp2_with fail
                    have HQ8 := zPB (fun w' (b : Below wr.heap.size wr w') => (show w'.cell? ⟨p, 0, none⟩ = some (.slice (some ⟨bL, 0, none⟩) q.1.length q.1.length) /\ w'.cell? ⟨bL, ii, none⟩ = some (.slice (A2 ii) (L2 ii).length (C2 ii)) /\ w'.cell? ⟨bS, oS + ii * 2 + 1, none⟩ = some (.slice (some ⟨b5, o5, none⟩) T.length c2) /\ w'.cell? ⟨b5, o5 + kk * 2, none⟩ = some (.int .i64 s) from ⟨cell_later b c0, cell_later b fL, cell_later b s1, cell_later b t0⟩))
                    have kA := drawn wr
                    obtain ⟨i0, hii', hz0, hz1, hz2⟩ := info_parts zAS
                    have hbn := Gr.zCf
                    have T1 := zPB (fun w1 (b : Below wr.heap.size wr w1) => RD.out.below b (Nat.le_refl _))
                    have l1 : (ivs (L2 ii)).length = (L2 ii).length := by simp [ivs]
                    go_cut [12] (fun v wx => ∃ a c, v = .slice a ((L2 ii).length + 1) c /\ Sep.Reads a (ivs (L2 ii ++ [s])) wx /\ (L2 ii).length + 1 <= c /\ (∀ b o, a = some ⟨b, o, none⟩ -> bI + 1 <= b) /\ Below wr.heap.size wr wx)
                    case first =>
                      go_region_held3 (fun w' => w'.cell? ⟨p, 0, none⟩ = some (.slice (some ⟨bL, 0, none⟩) q.1.length q.1.length) /\ w'.cell? ⟨bL, ii, none⟩ = some (.slice (A2 ii) (L2 ii).length (C2 ii)) /\ w'.cell? ⟨bS, oS + ii * 2 + 1, none⟩ = some (.slice (some ⟨b5, o5, none⟩) T.length c2) /\ w'.cell? ⟨b5, o5 + kk * 2, none⟩ = some (.int .i64 s))
                        (first | exact HQ8.out _ (by assumption) | exact HQ8.out _ (by first | exact Gr.step (boxed _ _) (drawn _) | exact Gr.step (drawn _) (boxed _ _) | exact Gr.step (Gr.step (boxed _ _) (drawn _)) (boxed _ _) | exact Gr.step (Gr.step (boxed _ _) (boxed _ _)) (drawn _) | exact Gr.step (Gr.step (drawn _) (boxed _ _)) (boxed _ _) | exact boxed _ _ | exact drawn _ | exact Gr.step K4.out (boxed _ _) | exact K4.out | exact K5.out))
                        (first
                          | (refine zAG _ (by rfl) _ _ 40 (by rfl) wr.heap.size 3 i0 (.int .i64 0) 8 Tryz.underlying40 hii' hz0 hz1 hz2 rfl _ 0 [] (by rfl) (Rw.zE1 (by first | exact World.alloc_heap_new _ _ | exact zFT (by simp) | exact zD2 (World.alloc_heap_new _ _)) (by first | exact Nat.le_refl _ | (simp; done) | (simp; omega))) (A2 ii) (L2 ii).length (C2 ii) (ivs (L2 ii)) (by rfl) l1 (T1.out _ (by first | exact Gr.step (boxed _ _) (drawn _) | exact Gr.step (drawn _) (boxed _ _) | exact Gr.step (Gr.step (boxed _ _) (drawn _)) (boxed _ _) | exact Gr.step (Gr.step (boxed _ _) (boxed _ _)) (drawn _) | exact Gr.step (Gr.step (drawn _) (boxed _ _)) (boxed _ _))) (Gr.zA2 _) (by unfold maxLen; omega) (by omega) (by first | (simp; done) | (simp; omega)) ?_
                             intro v7 w7 hown4 hg4 _
                             obtain ⟨a7, c7, rfl⟩ := Rw.zAK hown4
                             rw [Nat.zero_add] at hown4 ⊢
                             have K4 := zPB (show Below wr.heap.size wr w7 from Below.grown (by first | exact Gr.step (boxed _ _) (drawn _) | exact Gr.step (drawn _) (boxed _ _) | exact Gr.step (Gr.step (boxed _ _) (drawn _)) (boxed _ _) | exact Gr.step (Gr.step (boxed _ _) (boxed _ _)) (drawn _) | exact Gr.step (Gr.step (drawn _) (boxed _ _)) (boxed _ _)) hg4 (Below.size (by first | exact Gr.step (boxed _ _) (drawn _) | exact Gr.step (drawn _) (boxed _ _) | exact Gr.step (Gr.step (boxed _ _) (drawn _)) (boxed _ _) | exact Gr.step (Gr.step (boxed _ _) (boxed _ _)) (drawn _) | exact Gr.step (Gr.step (drawn _) (boxed _ _)) (boxed _ _))) (fun k hk => by simp [Value.ownBlock] at hk; omega))
                             have O4 := zPB (show w7.ownsRow wr.heap.size 3 1 (.slice a7 (L2 ii).length c7) (L2 ii).length (ivs (L2 ii)) from hown4)
                             (first
                               | (have RB4 := zPB (show w7.heap[wr.heap.size + 1]? = some (.cells #[.int .i64 s] 3 (0, 0)) from (hg4.block _ (by simp) (by simp [Value.ownBlock])).trans (by first | exact zFT (by simp) | exact zFT rfl)))
                               | (have RB4 := zPB (show w7.heap[wr.heap.size]? = some (.cells #[.int .i64 s] 3 (0, 0)) from (hg4.block _ (by simp; try omega) (by simp [Value.ownBlock])).trans (by first | exact zD2 (zFT rfl) | exact zD2 (World.alloc_heap_new _ _))))
                               | skip)
                             have hs4 := K4.out.size
                             clear hown4 hg4)
                          | (refine zAG _ (by rfl) _ _ 40 (by rfl) wr.heap.size 3 i0 (.int .i64 0) 8 Tryz.underlying40 hii' hz0 hz1 hz2 rfl (.slice a7 (L2 ii).length c7) (L2 ii).length (ivs (L2 ii)) (by rfl) (by first | exact O4.out | exact Sep.zAH O4.out fun g hg => Below.heap_alloc _ _ _ (O4.out.lt g hg).2) (some ⟨wr.heap.size + 1, 0, none⟩) 1 1 (ivs [s]) (by rfl) rfl (zCi RB4.out) (Gr.zA2 _) (by unfold maxLen; omega) (by omega) (by first | exact K4.out.size | exact (Gr.step K4.out (boxed _ _)).size) ?_
                             intro v8 w10 hown2 hg2 _
                             have K5 := zPB (show Below wr.heap.size wr w10 from Below.grown (w := _) (by first | exact K4.out | exact Gr.step K4.out (boxed _ _)) hg2 (by first | exact K4.out.size | exact (Gr.step K4.out (boxed _ _)).size) (fun k hk => (O4.out.lt k hk).1))
                             obtain ⟨a8, c8, rfl⟩ := Rw.zAK hown2
                             have O5 := zPB hown2
                             clear hown2 hg2)
                          | (refine zAG _ (by rfl) _ _ 40 (by rfl) wr.heap.size 3 i0 (.int .i64 0) 8 Tryz.underlying40 hii' hz0 hz1 hz2 rfl (.slice a7 (L2 ii).length c7) (L2 ii).length (ivs (L2 ii)) (by rfl) (by first | exact O4.out | exact Sep.zAH O4.out fun g hg => Below.heap_alloc _ _ _ (O4.out.lt g hg).2) (some ⟨wr.heap.size, 0, none⟩) 1 1 (ivs [s]) (by rfl) rfl (zCi RB4.out) (Gr.zA2 _) (by unfold maxLen; omega) (by omega) (by first | exact K4.out.size | exact (Gr.step K4.out (boxed _ _)).size) ?_
                             intro v8 w10 hown2 hg2 _
                             have K5 := zPB (show Below wr.heap.size wr w10 from Below.grown (w := _) (by first | exact K4.out | exact Gr.step K4.out (boxed _ _)) hg2 (by first | exact K4.out.size | exact (Gr.step K4.out (boxed _ _)).size) (fun k hk => (O4.out.lt k hk).1))
                             obtain ⟨a8, c8, rfl⟩ := Rw.zAK hown2
                             have O5 := zPB hown2
                             clear hown2 hg2)
                          | (refine zAG _ (by rfl) _ _ 40 (by rfl) wr.heap.size 3 i0 (.int .i64 0) 8 Tryz.underlying40 hii' hz0 hz1 hz2 rfl (.slice a7 (L2 ii).length c7) (L2 ii).length (ivs (L2 ii)) (by rfl) (by first | exact O4.out | exact Sep.zAH O4.out fun g hg => Below.heap_alloc _ _ _ (O4.out.lt g hg).2) (some ⟨w7.heap.size, 0, none⟩) 1 1 (ivs [s]) (by rfl) rfl (zCi (World.alloc_heap_new _ _)) (Gr.zA2 _) (by unfold maxLen; omega) (by omega) (by first | exact K4.out.size | exact (Gr.step K4.out (boxed _ _)).size) ?_
                             intro v8 w10 hown2 hg2 _
                             have K5 := zPB (show Below wr.heap.size wr w10 from Below.grown (w := _) (by first | exact K4.out | exact Gr.step K4.out (boxed _ _)) hg2 (by first | exact K4.out.size | exact (Gr.step K4.out (boxed _ _)).size) (fun k hk => (O4.out.lt k hk).1))
                             obtain ⟨a8, c8, rfl⟩ := Rw.zAK hown2
                             have O5 := zPB hown2
                             clear hown2 hg2)
                          | fail)
                      all_goals
                        have N8 := zPB (show ∀ b o, a8 = some ⟨b, o, none⟩ -> bI + 1 <= b from fun b o e => by
                          have q1 := (O5.out.lt b (by rw [e]; rfl)).1
                          have q2 := R.out.lo.2.2.2.2
                          omega)
                        go_wp2_with fail
                        go_meet
                        case rel => exact ⟨a8, c8, rfl, by rw [zJM]; exact Sep.Reads.of_row O5.out, Gr.zKI O5.out, N8.out, K5.out⟩
                    case rest =>
                      obtain ⟨a, c, rfl, hrw, hcw, hlw, hbw⟩ := hcut
                      have hll : (L2 ii ++ [s]).length = (L2 ii).length + 1 := by rw [List.length_append, List.length_singleton]
                      have R9 := zPB (R.out.went hbw)
                      have d0 := R9.out.c0
                      have dI := R9.out.ls.fi.cell hjn
                      have dL := R9.out.ls.fl.cell hjn
                      have zI := R9.out.ls.fi.free
                      have zL := R9.out.ls.fl.free
                      have hne := R9.out.ls.ne
                      have hne2 := Ne.symm hne
                      obtain ⟨hrj, _, _⟩ := R9.out.ls.rd j hjn
                      have PT := zPB (fun w9 (b9 : Below wc.heap.size wc w9) (hn : is2 j = false \/ zDk (L2 ii ++ [s]) (L2 j) = true) => (show RLp G q w1 p bL bI pw (bI + 1) (upd L2 j (L2 ii ++ [s])) (upd is2 j true) (upd A2 j a) (upd C2 j c) ((w9.setCell ⟨bL, j, none⟩ (.slice a ((L2 ii).length + 1) c)).setCell ⟨bI, j, none⟩ (.bool true)) from by
                        have h := (R9.out.went b9).put (c := c) hlt hjn hy HO.out.1 hn (hrw.below b9 (Nat.le_refl _)) (by omega) hlw
                        rw [hll] at h
                        exact h))
                      have PV := zPB (fun (hn : is2 j = false \/ zDk (L2 ii ++ [s]) (L2 j) = true) => V.out.put (k' := kk + 1) (R9.out.ri.step hlt hjn hy HO.out.1 hn).2)
                      have PN := zPB (fun (hn : ¬ New L2 is2 ii s j) => V.out.nextK HT.out hlk fun s' j' e => by
                        obtain ⟨rfl, rfl⟩ := HO.out.2 s' j' e
                        exact hn)
                      clear hcw hlw V HQ8 T1 RD LO l1 kA
                      cases hz : is2 j with
                      | false =>
                        have P := zPB (PT.out wc (.refl _ _) (.inl hz))
                        have PP := zPB (PV.out (.inl hz))
                        rw [hz] at dI
                        clear PT PV PN hz hrw hrj hll
                        go_wp2
                        go_roundw
                        case rel => exact ⟨kk + 1, true, _, _, _, _, by omega, by go_num, rfl, P.out, PP.out⟩
                        case measure => simp [intOf]; omega
                      | true =>
                        have LS := zPB (zLU (L2 ii ++ [s]) (L2 j) a (A2 j) c (C2 j) wc hrw hrj (by omega) (by
                          have h1 := R9.out.ri.len j hjn hz
                          have h3 := zGk q.1.length is2
                          omega))
                        rw [hll] at LS
                        rw [hz] at dI
                        clear hrw hrj hll
                        cases hb : Le.zAy (L2 ii ++ [s]) (L2 j) with
                        | true =>
                          rw [hb] at LS
                          rw [zFa] at hb
                          have P := zPB (fun w9 b9 => PT.out w9 b9 (.inr hb))
                          have PP := zPB (PV.out (.inr hb))
                          have DI := zPB (fun w9 (b9 : Below wc.heap.size wc w9) => And.intro (cell_later b9 d0) (And.intro (cell_later b9 dL) (cell_later b9 dI)))
                          have Z := zPB (fun w9 (b9 : Below wc.heap.size wc w9) => And.intro (R9.out.went b9).ls.fi.free (R9.out.went b9).ls.fl.free)
                          clear PT PV PN hz hb
                          go_wp2_with (go_at_call 25; refine LS.out.mono ?_; rintro e w9 ⟨rfl, hb⟩; have P9 := zPB (P.out w9 hb); obtain ⟨e0, eL, eI⟩ := DI.out w9 hb; obtain ⟨eyI, eyL⟩ := Z.out w9 hb; clear hb)
                          go_roundw
                          case rel => exact ⟨kk + 1, true, _, _, _, _, by omega, by go_num, rfl, P9.out, PP.out⟩
                          case measure => simp [intOf]; omega
                        | false =>
                          rw [hb] at LS
                          rw [zFa] at hb
                          have PP := zPB (PN.out fun hn => by
                            rcases hn with k | k
                            · rw [hz] at k
                              cases k
                            · rw [hb] at k
                              cases k)
                          clear PT PV PN hz hb
                          go_wp2_with (go_at_call 25; refine LS.out.mono ?_; rintro e w9 ⟨rfl, hb⟩; have S9 := zPB (R9.out.went hb); clear hb)
                          go_roundw
                          case rel => exact ⟨kk + 1, b, L2, is2, A2, C2, by omega, by go_num, rfl, S9.out, PP.out⟩
                          case measure => simp [intOf]; omega
                · have V1 := zPB (V.out.nextI (k := kk) (by rw [HT.out]; omega))
                  have hlk2 : ¬ (kk : Int) < (T.length : Int) := by omega
                  clear V
                  go_wp2
                  go_roundw
                  case rel => exact ⟨ii + 1, b, L2, is2, A2, C2, by omega, by go_num, rfl, R.out, V1.out⟩
                  case measure => simp [intOf]; omega
            · obtain rfl : ii = q.1.length := by omega
              go_wp2
              go_roundg (sumV (top G) q.1.length L is)
              case measure => have := GG.out; omega
              case rel =>
                refine ⟨b, L2, is2, A2, C2, rfl, R.out, ?_, ?_⟩
                · rintro rfl
                  rcases V.out with c | c
                  · exact c.2
                  · cases c.1
                · rintro rfl
                  rcases V.out with c | c
                  · cases c.1
                  · exact c.2.2
