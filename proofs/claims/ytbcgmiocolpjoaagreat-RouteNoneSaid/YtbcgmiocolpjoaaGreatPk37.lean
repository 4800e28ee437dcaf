/- A part of the proof. -/
import Derived.Shelf.Spec.SlicesInsert
import Derived.Deep.LoopGhost
import Derived.Test.YtbcgmiocolpjoaaGreatPk33
set_option maxHeartbeats 4000000
set_option maxRecDepth 100000
set_option linter.unusedVariables false
namespace Go.Proofs.YtbcgmiocolpjoaaGreat
namespace Ro
open Go.RowKit Go.Maps
open Rw (zAF)
open Gr (Gram top cell_later boxed zAS)
open Im
open Au
theorem zJI : (Tryz.prog.info? 73).map (fun i => (i.zero, i.size, i.bytes)) = some (some (.agg #[.int .i64 0, .int .i64 0]), 2, 16) := by kernel_rfl
theorem zH0 (n : Nat) (hn : n <= 10000) (w : World) :
  (Instr.makeSlice 60 (.int .i64 (n : Int)) (.int .i64 (n : Int))).run Tryz.prog w = .ok (.slice (some ⟨w.heap.size, 0, none⟩) n n) (w.alloc (.cells (madeCells #[.int .i64 0, .int .i64 0] (n * 2)) 73)) := by
 obtain ⟨i0, hi, hz0, hz1, hz2⟩ := info_parts zJI
 have hr := run_make (P := Tryz.prog) w 60 73 i0 (.agg #[.int .i64 0, .int .i64 0]) Tryz.underlying60 hi hz0 .i64 .i64 (n : Int) (n : Int) (by omega) (Int.le_refl _) (by rw [hz2]; omega) (by omega)
 rw [Int.toNat_natCast] at hr
 rw [hr, hz1]
 rfl
theorem zHx (n : Nat) (w : World) : Fil w.heap.size 73 (n * 2) (stV fun _ => (0, 0)) (w.alloc (.cells (madeCells #[.int .i64 0, .int .i64 0] (n * 2)) 73)) := by
 refine ⟨_, heap_alloc_new _ _, size_madeCells _ _, fun j hj => ?_⟩
 unfold madeCells
 rw [Array.getElem?_map, Array.getElem?_range, if_pos hj]
 simp only [Option.map_some]
 congr 1
 unfold stV
 rcases Nat.mod_two_eq_zero_or_one j with h | h
 ·have : j % (#[Value.int .i64 0, Value.int .i64 0] : Array Value).size = 0 := h
  rw [this, if_pos h]
  rfl
 ·have : j % (#[Value.int .i64 0, Value.int .i64 0] : Array Value).size = 1 := h
  rw [this, if_neg (by omega)]
  rfl
theorem zGM (base qd : Nat) (x : Int) (w : World) (hq : qd = w.heap.size) (hb : base <= qd) : (w.alloc (.cells #[.int .i64 x] 3)).ownsRow base 3 1 (.slice (some ⟨qd, 0, none⟩) 1 1) 1 [.int .i64 x] := by
 subst hq
 exact World.ownsRow_lit w #[.int .i64 x] 1 hb (by decide) (by simp)
structure SI (G : Gram) (q : Whole) (w : World) (L : Nat -> List Int) (Q : List Nat) (p m k : Nat) (E : Nat -> Nat × Int) (a : Option Addr) (c : Nat) (wr : World) : Prop where
 bf : BF (top G) q q.1.length L Q p m
 en : En E L Q
 le : k <= Q.length
 fil : Fil w.heap.size 73 (q.1.length * 2) (stV E) wr
 row : wr.ownsRow (w.heap.size + 1) 3 1 (.slice a (Q.length - k) c) (Q.length - k) (nv (Q.drop k))
 below : Below w.heap.size w wr
section
variable {G : Gram} {q : Whole} {w wr wa wb : World} {L : Nat -> List Int} {Q : List Nat} {p m k : Nat} {E : Nat -> Nat × Int} {a : Option Addr} {c : Nat}
theorem SI.went (r : SI G q w L Q p m k E a c wr) (hb : Below wr.heap.size wr wa) : SI G q w L Q p m k E a c wa :=
 ⟨r.bf, r.en, r.le, r.fil.went hb, Sep.zAH r.row fun g e => hb.block g (World.ownsRow.lt r.row g e).2, Gr.step r.below hb⟩
end
theorem zOM (w : World) (b j : Nat) (u v : Value) : Sep.Fr (fun x => x = b) w ((w.setCell ⟨b, j, none⟩ u).setCell ⟨b, j + 1, none⟩ v) := ((Sep.Fr.refl (fun x => x = b) w).setCell ⟨b, j, none⟩ rfl u).setCell ⟨b, j + 1, none⟩ rfl v
structure PI (G : Gram) (q : Whole) (w : World) (Q : List Nat) (k : Nat) (E : Nat -> Nat × Int) (a : Option Addr) (c : Nat) (wr : World) : Prop where
 fil : Fil w.heap.size 73 (q.1.length * 2) (stV E) wr
 row : wr.ownsRow (w.heap.size + 1) 3 1 (.slice a (Q.length - k) c) (Q.length - k) (nv (Q.drop k))
 below : Below w.heap.size w wr
section
variable {G : Gram} {q : Whole} {w wr wa wb : World} {L : Nat -> List Int} {Q : List Nat} {p m k : Nat} {E : Nat -> Nat × Int} {a : Option Addr} {c : Nat}
theorem PI.went (r : PI G q w Q k E a c wr) (hb : Below wr.heap.size wr wa) : PI G q w Q k E a c wa :=
 ⟨r.fil.went hb, Sep.zAH r.row fun g e => hb.block g (World.ownsRow.lt r.row g e).2, Gr.step r.below hb⟩
theorem SI.put (r : SI G q w L Q p m k E a c wa) {j i : Nat} {s : Int} (hj : j < q.1.length) :
  PI G q w Q k (upd E j (i, s)) a c ((wa.setCell ⟨w.heap.size, j * 2, none⟩ (.int .i64 (i : Int))).setCell ⟨w.heap.size, j * 2 + 1, none⟩ (.int .i64 s)) := by
 have f := zOM wa w.heap.size (j * 2) (.int .i64 (i : Int)) (.int .i64 s)
 refine ⟨((r.fil.set (j := j * 2) (by omega) (.int .i64 (i : Int))).set (j := j * 2 + 1) (by omega) (.int .i64 s)).congr fun x _ => zNs E j i s x, Sep.zAH r.row fun g e => ?_, r.below.trans (f.below (m := w.heap.size) (fun x hx => by omega) r.below.size)⟩
 have h1 := World.ownsRow.lt r.row g e
 exact f.block g h1.2 (by omega)
theorem PI.push {j i : Nat} {s : Int} (h : PI G q w Q k (upd E j (i, s)) a c wa) (b : BF (top G) q q.1.length (upd L j (L i ++ [s])) (Q ++ [j]) p m) (e : En (upd E j (i, s)) (upd L j (L i ++ [s])) (Q ++ [j])) (hk : k <= Q.length) {v' : Value}
  (hown : wb.ownsRow (w.heap.size + 1) 3 1 v' (Q.length - k + 1) (nv (Q.drop k) ++ [.int .i64 (j : Int)])) (hg : wa.grownBy wb (Value.slice a (Q.length - k) c).ownBlock) :
  ∃ a' c', v' = .slice a' ((Q ++ [j]).length - k) c' /\ SI G q w (upd L j (L i ++ [s])) (Q ++ [j]) p m k (upd E j (i, s)) a' c' wb := by
 obtain ⟨a', c', rfl⟩ := Rw.zAK hown
 have hl : (Q ++ [j]).length - k = Q.length - k + 1 := by rw [List.length_append, List.length_singleton]; omega
 have hd : (Q ++ [j]).drop k = Q.drop k ++ [j] := List.drop_append_of_le_length hk
 have hbl : w.heap.size < wa.heap.size := h.fil.lt
 refine ⟨a', c', by rw [hl], b, e, by rw [List.length_append]; omega, h.fil.kept (hg.block _ hbl fun e2 => ?_), ?_, ?_⟩
 ·have := (World.ownsRow.lt h.row _ e2.symm).1
  omega
 ·rw [hl, hd]
  unfold nv at hown ⊢
  rw [List.map_append]
  exact hown
 ·exact h.below.grown hg (Nat.le_of_lt hbl) fun g e2 => by
   have := (World.ownsRow.lt h.row g e2).1
   omega
end
def zOu (G : Gram) (q : Whole) (w : World) (e : Ending) (w' : World) : Prop := ∃ b E, e = .returned (.slice (some ⟨b, 0, none⟩) q.1.length q.1.length) /\ w.heap.size <= b /\ Fil b 73 (q.1.length * 2) (stV E) w' /\ Ends (top G) q E /\ Below w.heap.size w w'
theorem zIN (G : Gram) (q : Whole) (D : Done G q) (hl : q.1.length <= 2000) (ht : top G <= 240) (aS : Option Addr) (cS : Nat) (w : World) (hS : StaA aS (states q) w) :
  Calls Tryz.prog 22 #[.slice aS q.1.length cS] w (zOu G q w) := by
 have hpos := D.ok.pos
 have hmk := fun w => zH0 q.1.length (by omega) w
 obtain ⟨i0, hj, hz0, hz1, hz2⟩ := info_parts zAS
 have SS := zPB (fun w1 (b : Below w.heap.size w w1) => hS.went b)
 have b1 := boxed w (.cells (madeCells #[.int .i64 0, .int .i64 0] (q.1.length * 2)) 73)
 have b2 := boxed (w.alloc (.cells (madeCells #[.int .i64 0, .int .i64 0] (q.1.length * 2)) 73)) (.cells #[.int .i64 0] 3)
 have R0 := zPB (show SI G q w (fun _ => []) [0] 0 0 0 (fun _ => (0, 0)) (some ⟨w.heap.size + 1, 0, none⟩) 1 ((w.alloc (.cells (madeCells #[.int .i64 0, .int .i64 0] (q.1.length * 2)) 73)).alloc (.cells #[.int .i64 0] 3)) from
  ⟨BF.start (zAa D) hpos _ rfl, En.start _ rfl, Nat.zero_le _, (zHx q.1.length w).went b2, zGM (w.heap.size + 1) (w.heap.size + 1) 0 _ (by rw [World.size_alloc]) (Nat.le_refl _), Gr.step b1 b2⟩)
 clear hS b1 b2
 go_enter Tryz.func22, Tryz.ntmps22
 go_wp2_with fail
 generalize (w.alloc (.cells (madeCells #[.int .i64 0, .int .i64 0] (q.1.length * 2)) 73)).alloc (.cells #[.int .i64 0] 3) = w2 at *
 clear hmk
 go_loopg [4] q.1.length (fun gh v wr => ∃ (L : Nat -> List Int) (Q : List Nat) (p : Nat) (E : Nat -> Nat × Int) (a : Option Addr) (c : Nat), v = .slice a (Q.length - p) c /\ gh = q.1.length - p /\ SI G q w L Q p 0 p E a c wr)
 case atStart => exact ⟨_, _, 0, _, _, _, rfl, rfl, R0.out⟩
 case round =>
  obtain ⟨L, Q, p, E, a, c, rfl, hgh, hR⟩ := hrel
  have R := zPB hR
  have hfew := hR.bf.few
  have HG := zPB hgh
  clear hR R0 hgh
  by_cases hlt : p < Q.length
  ·obtain ⟨m, hm⟩ : ∃ m, Q.length - p = m + 1 := ⟨Q.length - p - 1, by omega⟩
   have hi : Q[p]? = some Q[p] := List.getElem?_eq_getElem hlt
   have hin := R.out.bf.inn _ (List.getElem_mem hlt)
   have hrow := R.out.row
   rw [hm, List.drop_eq_getElem_cons hlt] at hrow
   generalize Q[p] = i at *
   obtain ⟨g, cur, rfl, hgb, hgl, hcm, hg, hc0, hcj, hml, hrow', hfit⟩ := zNi hrow
   have hmk : m = Q.length - (p + 1) := by omega
   have hnl : (nv (Q.drop (p + 1))).length = m := by rw [zBW, ← hml]
   have R3 := zPB (show SI G q w L Q p 0 (p + 1) E (some ⟨g, 0, none⟩) c (wr.setRow g (cur.toList.take 0 ++ nv (Q.drop (p + 1)) ++ cur.toList.drop (0 + (nv (Q.drop (p + 1))).length)).toArray) from
    ⟨R.out.bf, R.out.en, by omega, R.out.fil.kept (setRow_other wr g _ _ (by omega)), by rw [← hmk]; exact hrow', R.out.below.trans (zFp (m := w.heap.size) (by omega) R.out.below.size)⟩)
   have hcp : ∀ (a : Addr) (sL sC : Nat) ty, Nat.min sL (m + 1) = m -> (m = 0 \/ a = ⟨g, 1, none⟩) -> (Builtin.copy_ #[40, 40] ty #[.slice (some ⟨g, 0, none⟩) (m + 1) c, .slice (some a) sL sC]).run Tryz.prog wr = .ok (goInt m) (wr.setRow g (cur.toList.take 0 ++ nv (Q.drop (p + 1)) ++ cur.toList.drop (0 + (nv (Q.drop (p + 1))).length)).toArray) := fun a sL sC ty h1 h2 => by
    have h := run_copy_row Tryz.prog wr 40 40 ty 3 g 0 (m + 1) c a sL sC cur 3 (nv (Q.drop (p + 1))) Tryz.underlying40 (by rw [hj]; simp [hz1]) hg (by rw [hnl, h1]) (fun j v hjv => by
     rcases h2 with e | rfl
     ·rw [List.getElem?_eq_none (by omega)] at hjv
      cases hjv
     ·rw [WideShapes.add_plain]
      exact hcj j v hjv) hfit (zOb _)
    rw [hnl] at h ⊢
    exact h
   have HCP := zPB hcp
   have HMK := zPB hmk
   generalize wr.setRow g (cur.toList.take 0 ++ nv (Q.drop (p + 1)) ++ cur.toList.drop (0 + (nv (Q.drop (p + 1))).length)).toArray = w3 at *
   rw [hm]
   clear hcp hrow hrow' hg hcj hfit hnl hml hmk hfew
   have hm1 : (0 : Int) < (m : Int) + 1 := by omega
   have hin2 : i < (states q).length := by rw [zAg D.all]; exact hin
   have hst : (states q)[i] = (zAI q.1 i, q.2.getD i []) := by
    have h := zBJ D.all hin
    rw [List.getElem?_eq_getElem hin2] at h
    injection h
   obtain ⟨bS, oS, a1, c1, a2, c2, rfl, s0, s1, _, hT, _, _⟩ := SS.out w (.refl _ _) i hin2
   rw [hst] at s0 s1 hT
   dsimp only at s0 s1 hT
   have s1' := cell_later R3.out.below s1
   have hii : (i : Int) < (q.1.length : Int) := by omega
   have TT := zPB (fun w1 (b : Below w.heap.size w w1) => hT.went b)
   have UP := zPB (zIu D hin)
   have SY := zPB (fun x (hx : x ∈ q.2.getD i []) => zAa D i x.1 x.2 hx)
   have TO := zPB (fun s (t : Int) (h : (s, t) ∈ q.2.getD i []) => zCg D i s t hin h)
   have TZ := zPB (fun s (h : (s, (0 : Int)) ∈ q.2.getD i []) => zIv D hin h)
   have HI := zPB hi
   have hTl : (q.2.getD i []).length <= 240 := Nat.le_trans (zEd D hin) ht
   clear s0 s1 hT hst hi R
   generalize hTq : q.2.getD i [] = T at *
   have HT := zPB hTq
   clear hTq
   by_cases hc1 : c = 1
   case' pos =>
    obtain rfl : m = 0 := by omega
    subst hc1
    have hce : (Builtin.copy_ #[40, 40] 3 #[.slice (some ⟨g, 0, none⟩) 1 1, .slice (some ⟨g, 0, none⟩) 0 0]).run Tryz.prog wr = .ok (.int .i64 0) w3 := HCP.out ⟨g, 0, none⟩ 0 0 _ rfl (.inl rfl)
    go_wp2_with fail
   case' neg =>
    have hc2 : 2 <= c := by omega
    have hm2 : m <= c := by omega
    have hce : (Builtin.copy_ #[40, 40] 3 #[.slice (some ⟨g, 0, none⟩) (m + 1) c, .slice (some ⟨g, 1, none⟩) m (c - 1)]).run Tryz.prog wr = .ok (.int .i64 (m : Int)) w3 := HCP.out ⟨g, 1, none⟩ m (c - 1) _ (by simp) (.inr rfl)
    go_wp2_with fail
   all_goals
    clear hce s1'
    go_loopw [30, 4] (fun kv v wz => ∃ (kk : Nat) (L : Nat -> List Int) (Q : List Nat) (E : Nat -> Nat × Int) (a : Option Addr) (c : Nat), kv = .int .i64 (kk : Int) /\ kk <= T.length /\ v = .slice a (Q.length - (p + 1)) c /\ Q[p]? = some i /\ SI G q w L Q p (symB T kk) (p + 1) E a c wz) (fun kv _ _ => T.length - (intOf kv).toNat)
    case atStart => exact ⟨0, L, Q, E, _, _, rfl, Nat.zero_le _, by rw [← HMK.out], HI.out, R3.out⟩
    case round =>
     obtain ⟨kk, L2, Q2, E2, a3, c3, rfl, hkk, rfl, hi2, hR2⟩ := hrel
     have R2 := zPB hR2
     have hf2 := hR2.bf.few
     have hp2 : p + 1 <= Q2.length := hR2.le
     clear hR2
     by_cases hlk : kk < T.length
     ·obtain ⟨b5, o5, rfl, t0, t1⟩ := (TT.out wr R2.out.below).at kk hlk
      obtain ⟨e1, e2, e3, e4⟩ := zMH (B := top G) UP.out SY.out hlk
      obtain ⟨j, hj2, hjn⟩ := TO.out T[kk].1 T[kk].2 (List.getElem_mem hlk)
      have hmem : (((symB T (kk + 1) : Nat) : Int), (j : Int)) ∈ T := by
       rw [← e1, ← hj2]
       exact List.getElem_mem hlk
      have hone : ∀ t (x : Nat), (t, (x : Int)) ∈ T -> ((symB T kk : Nat) : Int) < t -> t <= ((symB T (kk + 1) : Nat) : Int) -> t = ((symB T (kk + 1) : Nat) : Int) /\ x = j := fun t x hx h1 h2 => by
       have h3 := e4 _ hx h1 h2
       have h4 : t = T[kk].1 := congrArg Prod.fst h3
       have h5 : (x : Int) = T[kk].2 := congrArg Prod.snd h3
       exact ⟨by rw [h4, e1], by omega⟩
      have hkl : (kk : Int) < (T.length : Int) := by omega
      have hkk2 : kk + 1 <= T.length := by omega
      rw [e1] at t0
      rw [hj2] at t1
      have HO := zPB (And.intro hmem hone)
      have HE := zPB (And.intro e2 e3)
      have HI2 := zPB hi2
      clear e1 e2 e3 e4 hj2 hmem hone hi2
      obtain ⟨s, hsk⟩ : ∃ s, symB T (kk + 1) = s := ⟨_, rfl⟩
      have HSK := zPB hsk
      rw [hsk] at HO HE t0
      clear hsk
      have bx := boxed wr (.cells #[.int .i64 (s : Int), .int .i64 (j : Int)] 55)
      have R5 := zPB (R2.out.went bx)
      have f0 := R5.out.fil.cell (j := j * 2) (by omega)
      have f1 := R5.out.fil.cell (j := j * 2 + 1) (by omega)
      rw [(zEO E2 j).1] at f0
      rw [(zEO E2 j).2] at f1
      have g0 := R5.out.fil.free (j * 2)
      have g1 := R5.out.fil.free (j * 2 + 1)
      have hjn2 : (j : Int) < (q.1.length : Int) := by omega
      by_cases hjQ : j ∈ Q2
      ·have hj0 : j ≠ 0 := fun e => by
        subst e
        exact TZ.out _ HO.out.1
       obtain ⟨_, hs1, _⟩ := R2.out.en.old j hjQ hj0
       have hne : ((E2 j).2 == 0) = false := by rw [beq_eq_false_iff_ne]; omega
       have NX := zPB (show SI G q w L2 Q2 p s (p + 1) E2 a3 c3 (wr.alloc (.cells #[.int .i64 (s : Int), .int .i64 (j : Int)] 55)) from
        ⟨R2.out.bf.old HI2.out HE.out.1 HE.out.2 hjQ (by rw [HT.out]; exact HO.out.1) (by rw [HT.out]; exact HO.out.2), R5.out.en, R5.out.le, R5.out.fil, R5.out.row, R5.out.below⟩)
       generalize (E2 j).2 = v at *
       clear hs1 hjQ hj0 bx
       go_wp2_with fail
       go_roundw
       case rel => exact ⟨kk + 1, L2, Q2, E2, a3, c3, by go_num, hkk2, rfl, HI2.out, by rw [HSK.out]; exact NX.out⟩
       case measure => first | (simp [intOf]; omega) | omega
      ·have hz := R2.out.en.new j (.inl hjQ)
       rw [hz] at f1
       have P5 := zPB ((R2.out.put (j := j) (i := i) (s := (s : Int)) hjn).went (boxed ((wr.setCell ⟨w.heap.size, j * 2, none⟩ (.int .i64 (i : Int))).setCell ⟨w.heap.size, j * 2 + 1, none⟩ (.int .i64 (s : Int))) (.cells #[.int .i64 (s : Int), .int .i64 (j : Int)] 55)))
       have P6 := zPB (P5.out.went (boxed (((wr.setCell ⟨w.heap.size, j * 2, none⟩ (.int .i64 (i : Int))).setCell ⟨w.heap.size, j * 2 + 1, none⟩ (.int .i64 (s : Int))).alloc (.cells #[.int .i64 (s : Int), .int .i64 (j : Int)] 55)) (.cells #[.int .i64 (j : Int)] 3)))
       have ON := zPB (zGM (w.heap.size + 1) (wr.heap.size + 1) (j : Int) (((wr.setCell ⟨w.heap.size, j * 2, none⟩ (.int .i64 (i : Int))).setCell ⟨w.heap.size, j * 2 + 1, none⟩ (.int .i64 (s : Int))).alloc (.cells #[.int .i64 (s : Int), .int .i64 (j : Int)] 55)) (by simp) (by have := R2.out.fil.lt; omega))
       have NQ := R2.out.bf.new HI2.out HE.out.1 HE.out.2 hjQ hjn (by rw [HT.out]; exact HO.out.1) (by rw [HT.out]; exact HO.out.2)
       have NE := R2.out.en.add (List.mem_of_getElem? HI2.out) (List.mem_of_getElem? R2.out.bf.head) hjQ (show 1 <= (s : Int) by have := HE.out.1; omega)
       have PU := zPB (fun v' wb hown hg => P6.out.push (v' := v') (wb := wb) NQ NE hp2 hown hg)
       have RX := zPB P6.out.row
       have HIN := zPB (show (Q2 ++ [j])[p]? = some i from by rw [List.getElem?_append_left (by omega)]; exact HI2.out)
       have hbs : w.heap.size + 1 <= ((((wr.setCell ⟨w.heap.size, j * 2, none⟩ (.int .i64 (i : Int))).setCell ⟨w.heap.size, j * 2 + 1, none⟩ (.int .i64 (s : Int))).alloc (.cells #[.int .i64 (s : Int), .int .i64 (j : Int)] 55)).alloc (.cells #[.int .i64 (j : Int)] 3)).heap.size := by have := P6.out.fil.lt; omega
       have k0 := R2.out.fil.cell (j := j * 2) (by omega)
       have k1 := R2.out.fil.cell (j := j * 2 + 1) (by omega)
       rw [(zEO E2 j).1] at k0
       rw [(zEO E2 j).2, hz] at k1
       have l0 := R2.out.fil.free (j * 2)
       have l1 := R2.out.fil.free (j * 2 + 1)
       have hbw : w.heap.size < wr.heap.size := R2.out.fil.lt
       clear NQ NE bx hjQ
       go_wp2_with (at_builtin; refine zAF _ rfl _ _ 40 rfl (w.heap.size + 1) 3 i0 (.int .i64 0) 1 8 Tryz.underlying40 hj hz0 hz1 hz2 rfl (by decide) (.slice a3 (Q2.length - (p + 1)) c3) (Q2.length - (p + 1)) (nv (Q2.drop (p + 1))) rfl RX.out (w.heap.size + 1) _ 1 [.int .i64 (j : Int)] rfl ON.out (by simp [Value.oneCell']) (by unfold maxLen; omega) (by omega) hbs ?_; intro v' w9 hown hg _; have P9 := zPB (PU.out v' w9 hown hg); clear hown hg)
       obtain ⟨a9, c9, rfl, NX⟩ := P9.out
       go_roundw
       case rel => exact ⟨kk + 1, _, _, _, a9, c9, by go_num, hkk2, rfl, HIN.out, by rw [HSK.out]; exact NX⟩
       case measure => first | (simp [intOf]; omega) | omega
     ·obtain rfl : kk = T.length := by omega
      have NX := zPB (show SI G q w L2 Q2 (p + 1) 0 (p + 1) E2 a3 c3 wr from
       ⟨R2.out.bf.next hi2 (fun t x hx => by rw [HT.out] at hx; exact zNw UP.out (fun x hx => (SY.out x hx).1) _ hx), R2.out.en, R2.out.le, R2.out.fil, R2.out.row, R2.out.below⟩)
      have HG2 := HG.out
      clear hi2
      go_wp2_with fail
      go_roundg (q.1.length - (p + 1))
      case measure => omega
      case rel => exact ⟨L2, Q2, p + 1, E2, a3, c3, rfl, rfl, NX.out⟩
  ·have hpe : p = Q.length := by have := R.out.le; omega
   have hm0 : Q.length - p = 0 := by omega
   rw [hm0]
   go_wp2
   go_ret
   exact ⟨_, E, rfl, Nat.le_refl _, R.out.fil, R.out.bf.ends D hpe R.out.en hfew, R.out.below⟩
