/- A part of the proof. -/
import Derived.Deep.AppendLies
import Derived.Test.YtnfbjlainpenaaaGreatPk05
set_option maxHeartbeats 2000000
set_option maxRecDepth 100000
set_option linter.unusedVariables false
namespace Go.Proofs.YtnfbjlainpenaaaGreat
open Go.RowKit Go.Maps
namespace Gr
theorem zDD {P : Program} (w : World) (t ty : TypeId) (base : Nat) (e : TypeId) (i : TypeInfo) (z : Value) (bytes : Nat) (ht : P.underlying t = some (.slice e)) (hi : P.info? e = some i) (hz : i.zero = some z)
  (hsize : i.size = 1) (hby : i.bytes = bytes) (hzs : z.cells.size = 1) (v : Value) (n : Nat) (xs : List Value) (hown : w.ownsRow base e 1 v n xs)
  (a : Option Addr) (m c : Nat) (news : List Value) (hl : news.length = m) (hr : Sep.Reads a news w) (h1 : ∀ u ∈ news, u.oneCell' = true)
  (h63 : n + m <= maxLen) (hbytes : (n + m) * bytes <= 140737488355328) (hbase : base <= w.heap.size) :
  ∃ v' w', (Builtin.append_ #[t, t] ty #[v, .slice a m c]).run P w = .ok v' w' /\ w'.ownsRow base e 1 v' (n + m) (xs ++ news) /\ w.grownBy w' v.ownBlock /\ (v'.ownBlock = v.ownBlock \/ v'.ownBlock = some w.heap.size) := by
 cases a with
 | some ad =>
  obtain ⟨v', w', h2, h3, h4, _, h5⟩ := run_append_own_at (P := P) w base t ty e i z 1 bytes ht hi hz hsize hby hzs (by decide) v n xs hown ad m c news (by omega) (fun j u hj => by
   obtain ⟨hj1, rfl⟩ := List.getElem?_eq_some_iff.1 hj
   obtain ⟨b, o, e, hc⟩ := hr j hj1
   injection e with e
   subst e
   rw [WideShapes.add_plain]
   exact hc) h1 h63 hbytes hbase
  exact ⟨v', w', h2, h3, h4, h5⟩
 | none =>
  have h0 : news = [] := by
   rcases news with _ | ⟨x, l⟩
   ·rfl
   ·obtain ⟨_, _, e, _⟩ := hr 0 (by simp)
    cases e
  subst h0
  obtain rfl : m = 0 := by simpa using hl.symm
  refine ⟨v, w, ?_, by simpa using hown, ⟨rfl, rfl, rfl, Nat.le_refl _, fun _ _ _ => rfl⟩, .inl rfl⟩
  rcases hown.2 with ⟨rfl, rfl⟩ | ⟨g, cap, cur, rfl, hbg, hg, hnc, hcm, hcs, htake⟩
  ·simp [Builtin.append_, run_underlying ht, sizeOf, typeInfo, hi, Builtin.lenOf, Builtin.firstCells]
  ·simp [Builtin.append_, run_underlying ht, sizeOf, typeInfo, hi, Builtin.lenOf, Builtin.firstCells, loadCells, storeCells, hnc]
theorem zEL {P : Program} (w : World) {o : Oper} {a : Act} {K : Act -> World -> Prop} {Q : Exit -> Act -> World -> Prop} (s x : Operand) (t : TypeId)
  (ho : o.op = .call { callee := .builtin .append, args := #[s, x], argTypes := #[t, t] })
  (base : Nat) (e : TypeId) (i : TypeInfo) (z : Value) (bytes : Nat) (ht : P.underlying t = some (.slice e)) (hi : P.info? e = some i) (hz : i.zero = some z)
  (hsize : i.size = 1) (hby : i.bytes = bytes) (hzs : z.cells.size = 1) (v : Value) (n : Nat) (xs : List Value) (hs : a.eval s = v) (hown : w.ownsRow base e 1 v n xs)
  (ad : Option Addr) (m c : Nat) (news : List Value) (hx : a.eval x = .slice ad m c) (hl : news.length = m) (hr : Sep.Reads ad news w) (h1 : ∀ u ∈ news, u.oneCell' = true)
  (h63 : n + m <= maxLen) (hbytes : (n + m) * bytes <= 140737488355328) (hbase : base <= w.heap.size)
  (h : ∀ v' w', w'.ownsRow base e 1 v' (n + m) (xs ++ news) -> w.grownBy w' v.ownBlock -> (v'.ownBlock = v.ownBlock \/ v'.ownBlock = some w.heap.size) -> K (a.put o.dst v') w') : o.wp P a w K Q := by
 obtain ⟨v', w', hr, h2, h3, h4⟩ := zDD (P := P) w t o.type base e i z bytes ht hi hz hsize hby hzs v n xs hown ad m c news hl hr h1 h63 hbytes hbase
 unfold Oper.wp execOp
 simp only [ho, resolve, invoke, builtin, Sem.run_bind, Sem.run_pure, Result.andThen_ok, List.map_toArray, List.map_cons, List.map_nil, hs, hx, hr]
 exact h v' w' h2 h3 h4
theorem zAj {P : Program} (w : World) {ops : Array Oper} {o : Oper} {a : Act} {K : Act -> World -> Prop} {Q : Exit -> Act -> World -> Prop} {E : Prop} (hgd : o.guard = none) (s x : Operand) (t : TypeId)
  (ho : o.op = .call { callee := .builtin .append, args := #[s, x], argTypes := #[t, t] })
  (base : Nat) (e : TypeId) (i : TypeInfo) (z : Value) (bytes : Nat) (ht : P.underlying t = some (.slice e)) (hi : P.info? e = some i) (hz : i.zero = some z)
  (hsize : i.size = 1) (hby : i.bytes = bytes) (hzs : z.cells.size = 1) (v : Value) (n : Nat) (xs : List Value) (hs : a.eval s = v) (hown : w.ownsRow base e 1 v n xs)
  (ad : Option Addr) (m c : Nat) (news : List Value) (hx : a.eval x = .slice ad m c) (hl : news.length = m) (hr : Sep.Reads ad news w) (h1 : ∀ u ∈ news, u.oneCell' = true)
  (h63 : n + m <= maxLen) (hbytes : (n + m) * bytes <= 140737488355328) (hbase : base <= w.heap.size)
  (h : ∀ v' w', w'.ownsRow base e 1 v' (n + m) (xs ++ news) -> w.grownBy w' v.ownBlock -> (v'.ownBlock = v.ownBlock \/ v'.ownBlock = some w.heap.size) -> K (a.put o.dst v') w') :
  if Region.wanted o (yielded ops a.tmps) = true then Oper.wp P o a w K Q else E := by
 have hw : Region.wanted o (yielded ops a.tmps) = true := by simp [Region.wanted, hgd]
 rw [if_pos hw]
 exact zEL w s x t ho base e i z bytes ht hi hz hsize hby hzs v n xs hs hown ad m c news hx hl hr h1 h63 hbytes hbase h
theorem zFc (h : Sh) (G : Gram) (s : Int) (w : World) (k : GAt h G w) (hr : G.rules.length <= 65536) :
  Calls Tryz.prog 55 #[gv h G, .int .i64 s] w (Listed (ofL G s) w) := by
 obtain ⟨i0, hi, hz0, hz1, hz2⟩ := info_parts zAq
 obtain ⟨a1, c1, a2, c2, a3, c3⟩ := h
 have hc3 := k.r2
 have X := zNR (Bx.start ⟨a1, c1, a2, c2, a3, c3⟩ G w 25)
 have K := zNR (fun w1 (b : Below w.heap.size w w1) => (k.went b).rules)
 clear k
 have HO := zNR (show (w.alloc (.cells #[.slice a1 G.terms.length c1, .slice a2 G.nons.length c2, .slice a3 G.rules.length c3, .int .i64 G.start] 25)).ownsRow (w.heap.size + 1) 3 1 (.slice none 0 0) (ofI G.rules s 0).length (ivs (ofI G.rules s 0)) from ⟨rfl, .inl ⟨rfl, rfl⟩⟩)
 unfold gv
 dsimp only
 go_enter Tryz.func55, Tryz.ntmps55
 go_wp2
 go_loopw [5, 6] (fun v i wr => ∃ j : Nat, j <= G.rules.length /\ i = .int .i64 j /\ wr.ownsRow (w.heap.size + 1) 3 1 v (ofI G.rules s j).length (ivs (ofI G.rules s j)) /\ Bx w ⟨a1, c1, a2, c2, a3, c3⟩ G wr) (fun _ i _ => G.rules.length - (intOf i).toNat)
 case atStart => exact ⟨0, Nat.zero_le _, rfl, HO.out, X.out⟩
 case round =>
  obtain ⟨j, hj, rfl, hO, hX⟩ := hrel
  obtain ⟨a', c', rfl⟩ := Sep.zAX hO
  clear HO X
  have X := zNR hX
  have HO := zNR hO
  have hle := zIp G.rules s j
  clear hO hX
  by_cases hlt : j < G.rules.length
  ·obtain ⟨b, o, ra, rc, e, h1, h2, h3, h4, h5⟩ := K.out _ X.out.below j hlt
   have e1 := zBj hlt
   rw [← e1] at h1
   generalize G.rules[j].2 = rr at h2 h3 h4 h5
   try dsimp only at e
   subst e
   obtain ⟨x0, x1, x2, x3⟩ := X.out.box
   clear e1 h3
   by_cases hs : leftOf G.rules j = s
   ·have HI := zNR (zIo hs)
    subst hs
    generalize leftOf G.rules j = s at *
    go_wp2_with (at_builtin; go_loud (refine wpList_append_own _ rfl _ _ 40 rfl (w.heap.size + 1) 3 i0 (.int .i64 0) 1 8 Tryz.underlying40 hi hz0 hz1 hz2 rfl (by decide) _ _ _ rfl (HO.out.alloc _) ⟨wr.heap.size, 0, none⟩ 1 1 [iv j] rfl rfl ?c1 ?c2 ?c3 ?c4 ?c5 ?_))
    case c1 =>
     intro i u hi
     match i, hi with
     | 0, hi => simp at hi; subst hi; simp [iv]
    case c2 => first | rfl | (intro u hu; simp at hu; subst hu; rfl)
    case c3 => unfold maxLen; omega
    case c4 => omega
    case c5 => have := X.out.size; simp; omega
    intro v' w2 hown' hgrow _
    have X := zNR ((X.out.alloc _).grown hgrow fun q hq => (HO.out.lt q hq).1)
    have HO := zNR (show w2.ownsRow (w.heap.size + 1) 3 1 v' (ofI G.rules s (j + 1)).length (ivs (ofI G.rules s (j + 1))) by rw [HI.out]; simpa [ivs] using hown')
    clear hown' hgrow
    go_wp2
    go_roundw
    case rel => exact ⟨j + 1, by omega, by go_num, HO.out, X.out⟩
    case measure => simp [intOf]; omega
   ·have HI := zNR (zGH hs)
    have hb : (leftOf G.rules j == s) = false := by simpa using hs
    clear hs
    go_wp2_with (at_builtin; fail)
    go_roundw
    case rel => exact ⟨j + 1, by omega, by go_num, by rw [HI.out]; exact HO.out, X.out⟩
    case measure => simp [intOf]; omega
  ·have hE : j = G.rules.length := by omega
   subst hE
   have HR := zNR (Sep.Reads.of_row HO.out)
   have HN := zNR (zEF (W := w) HO.out (by omega))
   obtain ⟨x0, x1, x2, x3⟩ := X.out.box
   go_wp2
   go_ret
   exact ⟨_, _, rfl, HR.out, HN.out, X.out.below⟩
theorem zFK : (Tryz.prog.info? 9).map (fun i => (i.zero, i.size, i.bytes)) = some (some (.string ByteArray.empty), 1, 16) := by kernel_rfl
theorem zBg (L : List ByteArray) : ∀ u ∈ L.map Value.string, u.oneCell' = true := by
 intro u hu
 obtain ⟨s, _, rfl⟩ := List.mem_map.1 hu
 rfl
theorem zHm (w : World) : (Instr.buildSlice 22 0 #[]).run Tryz.prog w = .ok (.slice (some ⟨w.heap.size, 0, none⟩) 0 0) (w.alloc (.cells #[] 9)) := by kernel_rfl
def zHY (L : List ByteArray) (w : World) (e : Ending) (w' : World) : Prop :=
 ∃ a c, e = .returned (.slice a L.length c) /\ Sep.Reads a (L.map .string) w' /\ L.length <= c /\ Below w.heap.size w w'
theorem zME {w : World} {base n c : Nat} {e : TypeId} {a : Option Addr} {xs : List Value} (h : w.ownsRow base e 1 (.slice a n c) n xs) : n <= c := by
 rcases h.2 with ⟨h1, h2⟩ | ⟨g, cap, cur, h1, _, _, h3, _⟩
 ·omega
 ·simp only [Value.slice.injEq] at h1
  omega
theorem zIx (L : List ByteArray) (s : ByteArray) (a : Option Addr) (c : Nat) (w : World) (h : Sep.Reads a (L.map .string) w) (hl : L.length <= 17592186044416) :
  Calls Tryz.prog 80 #[.slice a L.length c, .string s] w fun e w' => e = .returned (.int .i64 (It.place L s)) /\ w = w' := by
 have HR := zNR h
 clear h
 go_enter Tryz.func80, Tryz.ntmps80
 go_wp2
 go_loop [5] (fun i => ∃ k : Nat, k <= L.length /\ i = .int .i64 k /\ zGc L s k) (fun i => L.length - (intOf i).toNat)
 case atStart => exact ⟨0, Nat.zero_le _, rfl, ahead_zero _ _⟩
 case round =>
  obtain ⟨k, hk, rfl, hb⟩ := hrel
  have HB := zNR hb
  clear hb
  by_cases hlt : k < L.length
  ·obtain ⟨b, o, rfl, hc⟩ := HR.out k (by simpa using hlt)
   simp only [List.getElem_map] at hc
   by_cases he : L[k] = s
   ·rw [he] at hc
    have HP := zNR (zHe HB.out hlt he)
    clear he
    go_wp2
    go_ret
    exact ⟨by rw [HP.out]; rfl, rfl⟩
   ·have HN := zNR (zGh HB.out hlt he)
    have hne := zJp he
    clear he
    go_wp2
    go_round
    case rel => exact ⟨k + 1, by omega, by go_num, HN.out⟩
    case measure => simp [intOf]; omega
  ·have HE := zNR (zHd HB.out hlt)
   go_wp2
   go_ret
   exact ⟨by rw [HE.out]; rfl, rfl⟩
theorem zIm (h : Sh) (G : Gram) (w : World) (k : GAt h G w) (ht : G.terms.length + G.nons.length <= 65536) :
    Calls Tryz.prog 52 #[gv h G] w (zHY (names G) w) := by
  obtain ⟨i0, hi0, hz0, hz1, hz2⟩ := info_parts zFK
  have X := zNR (Bx.start h G w 25)
  have HT := zNR (fun w1 (b : Below w.heap.size w w1) => (k.went b).terms)
  have HN := zNR (fun w1 (b : Below w.heap.size w w1) => (k.went b).nons)
  have hb := zHm
  clear k
  unfold gv
  go_enter Tryz.func52, Tryz.ntmps52
  go_wp2
  obtain ⟨wq, hwq⟩ : ∃ wq, w.alloc (.cells #[.slice h.a1 G.terms.length h.c1, .slice h.a2 G.nons.length h.c2, .slice h.a3 G.rules.length h.c3, .int .i64 G.start] 25) = wq := ⟨_, rfl⟩
  rw [hwq]
  rw [hwq] at X
  clear hwq
  have HQ := zNR (show ∀ w', Below wq.heap.size wq w' -> w'.cell? ⟨w.heap.size, 0, none⟩ = some (.slice h.a1 G.terms.length h.c1) /\ w'.cell? ⟨w.heap.size, 1, none⟩ = some (.slice h.a2 G.nons.length h.c2) /\ Below wq.heap.size wq w'
    from fun w' b => ⟨cell_later b X.out.box.x0, cell_later b X.out.box.x1, b⟩)
  have hbd := drawn wq
  have hbe : Below wq.heap.size wq (wq.drew.alloc (.cells #[] 9)) := hbd.alloc (Nat.le_refl _) _
  have hbf : Below wq.heap.size wq (wq.alloc (.cells #[] 9)).drew := ((Below.refl _ _).alloc (Nat.le_refl _) _).drew
  have HO := zNR (show (wq.alloc (.cells #[] 9)).drew.ownsRow wq.heap.size 9 1 (.slice (some ⟨wq.heap.size, 0, none⟩) 0 0) 0 [] from World.ownsRow_made wq #[] 0 (Nat.le_refl _) (by simp) (by simp))
  have HS := zNR (zBg G.terms)
  have HS2 := zNR (zBg G.nons)
  go_region_held3 (fun w' => w'.cell? ⟨w.heap.size, 0, none⟩ = some (.slice h.a1 G.terms.length h.c1) /\ w'.cell? ⟨w.heap.size, 1, none⟩ = some (.slice h.a2 G.nons.length h.c2) /\ Below wq.heap.size wq w')
    (exact HQ.out _ (by assumption))
    (first
      | (refine zAj _ (by rfl) (.tmp 3) (.tmp 5) 22 (by rfl) wq.heap.size 9 i0 (.string ByteArray.empty) 16 Tryz.underlying22 hi0 hz0 hz1 hz2 rfl _ 0 [] (by rfl) HO.out h.a1 G.terms.length h.c1 (G.terms.map .string) (by rfl) (by simp) (HT.out _ (step X.out.below hbf)) HS.out (by unfold maxLen; omega) (by omega) (by simp) ?_
         intro v1 w1 hown1 hg1 hat1
         have kB : Below wq.heap.size wq w1 := hbf.grown hg1 (by simp) (fun q hq => (HO.out.lt q hq).1)
         have HO1 := zNR hown1
         clear hown1 hg1 hat1)
      | (refine zAj _ (by rfl) (.tmp 6) (.tmp 8) 22 (by rfl) wq.heap.size 9 i0 (.string ByteArray.empty) 16 Tryz.underlying22 hi0 hz0 hz1 hz2 rfl _ (0 + G.terms.length) ([] ++ G.terms.map .string) (by rfl) HO1.out h.a2 G.nons.length h.c2 (G.nons.map .string) (by rfl) (by simp) (HN.out _ (step X.out.below kB)) HS2.out (by unfold maxLen; omega) (by omega) kB.size ?_
         intro v2 w2 hown2 hg2 hat2
         have kC : Below wq.heap.size wq w2 := kB.grown hg2 kB.size (fun q hq => (HO1.out.lt q hq).1)
         have HO2 := zNR hown2
         clear hown2 hg2 hat2)
      | fail)
  have HF := zNR (show zHY (names G) w (.returned v2) w2 from by
    have h1 := HO2.out
    rw [List.nil_append, ← List.map_append, Nat.zero_add, ← List.length_append] at h1
    obtain ⟨a', c', rfl⟩ := Sep.zAX h1
    exact ⟨a', c', rfl, .of_row h1, zME h1, step X.out.below kC⟩)
  go_wp2
  go_ret
  exact HF.out
theorem zKa (L : List ByteArray) (s : ByteArray) : -1 <= It.place L s /\ It.place L s <= L.length := by
 cases h : It.isIn L s with
 | true => rw [It.zED h]; have := It.zMw (L := L) (s := s); omega
 | false => rw [It.zCt h]; omega
