/- A part of the proof. -/
import Derived.Deep.AppendLies
import Derived.Test.YtbcgmiocolpjoaaGreatPk05
set_option maxHeartbeats 2000000
set_option maxRecDepth 100000
set_option linter.unusedVariables false
namespace Go.Proofs.YtbcgmiocolpjoaaGreat
open Go.RowKit Go.Maps
namespace Gr
theorem zDo {P : Program} (w : World) (t ty : TypeId) (base : Nat) (e : TypeId) (i : TypeInfo) (z : Value) (bytes : Nat) (ht : P.underlying t = some (.slice e)) (hi : P.info? e = some i) (hz : i.zero = some z)
  (hsize : i.size = 1) (hby : i.bytes = bytes) (hzs : z.cells.size = 1) (v : Value) (n : Nat) (xs : List Value) (hown : w.ownsRow base e 1 v n xs)
  (a : Option Addr) (m c : Nat) (news : List Value) (hl : news.length = m) (hr : Sep.Reads a news w) (h1 : ∀ u ∈ news, u.oneCell' = true)
  (h63 : n + m <= maxLen) (hbytes : (n + m) * bytes <= 140737488355328) (hbase : base <= w.heap.size) :
  ∃ v' w', (Builtin.append_ #[t, t] ty #[v, .slice a m c]).run P w = .ok v' w' /\ w'.ownsRow base e 1 v' (n + m) (xs ++ news) /\ w.grownBy w' v.ownBlock /\ (v'.ownBlock = v.ownBlock \/ v'.ownBlock = some w.heap.size) := by
 cases a with
 | some ad =>
  obtain ⟨v', w', h2, h3, h4, _, h5⟩ := run_append_own_at (P := P) w base t ty e i z 1 bytes ht hi hz hsize hby hzs (by decide) v n xs hown ad m c news (by omega) (fun j u hj => by
   obtain ⟨hj1, rfl⟩ := List.getElem?_eq_some_iff.1 hj
   obtain ⟨b, o, e, hc⟩ := hr j hj1
   injection e with e
   subst e
   rw [WideShapes.add_plain]
   exact hc) h1 h63 hbytes hbase
  exact ⟨v', w', h2, h3, h4, h5⟩
 | none =>
  have h0 : news = [] := by
   rcases news with _ | ⟨x, l⟩
   ·rfl
   ·obtain ⟨_, _, e, _⟩ := hr 0 (by simp)
    cases e
  subst h0
  obtain rfl : m = 0 := by simpa using hl.symm
  refine ⟨v, w, ?_, by simpa using hown, ⟨rfl, rfl, rfl, Nat.le_refl _, fun _ _ _ => rfl⟩, .inl rfl⟩
  rcases hown.2 with ⟨rfl, rfl⟩ | ⟨g, cap, cur, rfl, hbg, hg, hnc, hcm, hcs, htake⟩
  ·simp [Builtin.append_, run_underlying ht, sizeOf, typeInfo, hi, Builtin.lenOf, Builtin.firstCells]
  ·simp [Builtin.append_, run_underlying ht, sizeOf, typeInfo, hi, Builtin.lenOf, Builtin.firstCells, loadCells, storeCells, hnc]
theorem zCc {P : Program} (w : World) {o : Oper} {a : Act} {K : Act -> World -> Prop} {Q : Exit -> Act -> World -> Prop} (s x : Operand) (t : TypeId)
  (ho : o.op = .call { callee := .builtin .append, args := #[s, x], argTypes := #[t, t] })
  (base : Nat) (e : TypeId) (i : TypeInfo) (z : Value) (bytes : Nat) (ht : P.underlying t = some (.slice e)) (hi : P.info? e = some i) (hz : i.zero = some z)
  (hsize : i.size = 1) (hby : i.bytes = bytes) (hzs : z.cells.size = 1) (v : Value) (n : Nat) (xs : List Value) (hs : a.eval s = v) (hown : w.ownsRow base e 1 v n xs)
  (ad : Option Addr) (m c : Nat) (news : List Value) (hx : a.eval x = .slice ad m c) (hl : news.length = m) (hr : Sep.Reads ad news w) (h1 : ∀ u ∈ news, u.oneCell' = true)
  (h63 : n + m <= maxLen) (hbytes : (n + m) * bytes <= 140737488355328) (hbase : base <= w.heap.size)
  (h : ∀ v' w', w'.ownsRow base e 1 v' (n + m) (xs ++ news) -> w.grownBy w' v.ownBlock -> (v'.ownBlock = v.ownBlock \/ v'.ownBlock = some w.heap.size) -> K (a.put o.dst v') w') : o.wp P a w K Q := by
 obtain ⟨v', w', hr, h2, h3, h4⟩ := zDo (P := P) w t o.type base e i z bytes ht hi hz hsize hby hzs v n xs hown ad m c news hl hr h1 h63 hbytes hbase
 unfold Oper.wp execOp
 simp only [ho, resolve, invoke, builtin, Sem.run_bind, Sem.run_pure, Result.andThen_ok, List.map_toArray, List.map_cons, List.map_nil, hs, hx, hr]
 exact h v' w' h2 h3 h4
theorem zBY {P : Program} (w : World) {ops : Array Oper} {rest : List Oper} {o : Oper} {a : Act} {Q : Exit -> Act -> World -> Prop} (hgd : o.guard = none) (s x : Operand) (t : TypeId)
  (ho : o.op = .call { callee := .builtin .append, args := #[s, x], argTypes := #[t, t] })
  (base : Nat) (e : TypeId) (i : TypeInfo) (z : Value) (bytes : Nat) (ht : P.underlying t = some (.slice e)) (hi : P.info? e = some i) (hz : i.zero = some z)
  (hsize : i.size = 1) (hby : i.bytes = bytes) (hzs : z.cells.size = 1) (v : Value) (n : Nat) (xs : List Value) (hs : a.eval s = v) (hown : w.ownsRow base e 1 v n xs)
  (ad : Option Addr) (m c : Nat) (news : List Value) (hx : a.eval x = .slice ad m c) (hl : news.length = m) (hr : Sep.Reads ad news w) (h1 : ∀ u ∈ news, u.oneCell' = true)
  (h63 : n + m <= maxLen) (hbytes : (n + m) * bytes <= 140737488355328) (hbase : base <= w.heap.size)
  (h : ∀ v' w', w'.ownsRow base e 1 v' (n + m) (xs ++ news) -> w.grownBy w' v.ownBlock -> (v'.ownBlock = v.ownBlock \/ v'.ownBlock = some w.heap.size) -> wpList P ops Q rest (a.put o.dst v') w') : wpList P ops Q (o :: rest) a w :=
 wpList_plain hgd fun _ hK => zCc w s x t ho base e i z bytes ht hi hz hsize hby hzs v n xs hs hown ad m c news hx hl hr h1 h63 hbytes hbase fun v' w' h2 h3 h4 => hK _ _ (h v' w' h2 h3 h4)
theorem zAG {P : Program} (w : World) {ops : Array Oper} {o : Oper} {a : Act} {K : Act -> World -> Prop} {Q : Exit -> Act -> World -> Prop} {E : Prop} (hgd : o.guard = none) (s x : Operand) (t : TypeId)
  (ho : o.op = .call { callee := .builtin .append, args := #[s, x], argTypes := #[t, t] })
  (base : Nat) (e : TypeId) (i : TypeInfo) (z : Value) (bytes : Nat) (ht : P.underlying t = some (.slice e)) (hi : P.info? e = some i) (hz : i.zero = some z)
  (hsize : i.size = 1) (hby : i.bytes = bytes) (hzs : z.cells.size = 1) (v : Value) (n : Nat) (xs : List Value) (hs : a.eval s = v) (hown : w.ownsRow base e 1 v n xs)
  (ad : Option Addr) (m c : Nat) (news : List Value) (hx : a.eval x = .slice ad m c) (hl : news.length = m) (hr : Sep.Reads ad news w) (h1 : ∀ u ∈ news, u.oneCell' = true)
  (h63 : n + m <= maxLen) (hbytes : (n + m) * bytes <= 140737488355328) (hbase : base <= w.heap.size)
  (h : ∀ v' w', w'.ownsRow base e 1 v' (n + m) (xs ++ news) -> w.grownBy w' v.ownBlock -> (v'.ownBlock = v.ownBlock \/ v'.ownBlock = some w.heap.size) -> K (a.put o.dst v') w') :
  if Region.wanted o (yielded ops a.tmps) = true then Oper.wp P o a w K Q else E := by
 have hw : Region.wanted o (yielded ops a.tmps) = true := by simp [Region.wanted, hgd]
 rw [if_pos hw]
 exact zCc w s x t ho base e i z bytes ht hi hz hsize hby hzs v n xs hs hown ad m c news hx hl hr h1 h63 hbytes hbase h
theorem zGD : (Tryz.prog.info? 9).map (fun i => (i.zero, i.size, i.bytes)) = some (some (.string ByteArray.empty), 1, 16) := by kernel_rfl
theorem zBv (L : List ByteArray) : ∀ u ∈ L.map Value.string, u.oneCell' = true := by
 intro u hu
 obtain ⟨s, _, rfl⟩ := List.mem_map.1 hu
 rfl
theorem zIk (w : World) : (Instr.buildSlice 22 0 #[]).run Tryz.prog w = .ok (.slice (some ⟨w.heap.size, 0, none⟩) 0 0) (w.alloc (.cells #[] 9)) := by kernel_rfl
def zIX (L : List ByteArray) (w : World) (e : Ending) (w' : World) : Prop :=
 ∃ a c, e = .returned (.slice a L.length c) /\ Sep.Reads a (L.map .string) w' /\ L.length <= c /\ Below w.heap.size w w'
theorem zKI {w : World} {base n c : Nat} {e : TypeId} {a : Option Addr} {xs : List Value} (h : w.ownsRow base e 1 (.slice a n c) n xs) : n <= c := by
 rcases h.2 with ⟨h1, h2⟩ | ⟨g, cap, cur, h1, _, _, h3, _⟩
 ·omega
 ·simp only [Value.slice.injEq] at h1
  omega
theorem zJ1 (L : List ByteArray) (s : ByteArray) (a : Option Addr) (c : Nat) (w : World) (h : Sep.Reads a (L.map .string) w) (hl : L.length <= 17592186044416) :
  Calls Tryz.prog 80 #[.slice a L.length c, .string s] w fun e w' => e = .returned (.int .i64 (It.place L s)) /\ w = w' := by
 have HR := zPB h
 clear h
 go_enter Tryz.func80, Tryz.ntmps80
 go_wp2
 go_loop [5] (fun i => ∃ k : Nat, k <= L.length /\ i = .int .i64 k /\ zHZ L s k) (fun i => L.length - (intOf i).toNat)
 case atStart => exact ⟨0, Nat.zero_le _, rfl, ahead_zero _ _⟩
 case round =>
  obtain ⟨k, hk, rfl, hb⟩ := hrel
  have HB := zPB hb
  clear hb
  by_cases hlt : k < L.length
  ·obtain ⟨b, o, rfl, hc⟩ := HR.out k (by simpa using hlt)
   simp only [List.getElem_map] at hc
   by_cases he : L[k] = s
   ·rw [he] at hc
    have HP := zPB (zId HB.out hlt he)
    clear he
    go_wp2
    go_ret
    exact ⟨by rw [HP.out]; rfl, rfl⟩
   ·have HN := zPB (zHd HB.out hlt he)
    have hne := zK3 he
    clear he
    go_wp2
    go_round
    case rel => exact ⟨k + 1, by omega, by go_num, HN.out⟩
    case measure => simp [intOf]; omega
  ·have HE := zPB (zIc HB.out hlt)
   go_wp2
   go_ret
   exact ⟨by rw [HE.out]; rfl, rfl⟩
theorem zJq (h : Sh) (G : Gram) (w : World) (k : GAt h G w) (ht : G.terms.length + G.nons.length <= 65536) :
    Calls Tryz.prog 52 #[gv h G] w (zIX (names G) w) := by
  obtain ⟨i0, hi0, hz0, hz1, hz2⟩ := info_parts zGD
  have X := zPB (Bx.start h G w 25)
  have HT := zPB (fun w1 (b : Below w.heap.size w w1) => (k.went b).terms)
  have HN := zPB (fun w1 (b : Below w.heap.size w w1) => (k.went b).nons)
  have hb := zIk
  clear k
  unfold gv
  go_enter Tryz.func52, Tryz.ntmps52
  go_wp2
  obtain ⟨wq, hwq⟩ : ∃ wq, w.alloc (.cells #[.slice h.a1 G.terms.length h.c1, .slice h.a2 G.nons.length h.c2, .slice h.a3 G.rules.length h.c3, .int .i64 G.start] 25) = wq := ⟨_, rfl⟩
  rw [hwq]
  rw [hwq] at X
  clear hwq
  have HQ := zPB (show ∀ w', Below wq.heap.size wq w' -> w'.cell? ⟨w.heap.size, 0, none⟩ = some (.slice h.a1 G.terms.length h.c1) /\ w'.cell? ⟨w.heap.size, 1, none⟩ = some (.slice h.a2 G.nons.length h.c2) /\ Below wq.heap.size wq w'
    from fun w' b => ⟨cell_later b X.out.box.x0, cell_later b X.out.box.x1, b⟩)
  have hbd := drawn wq
  have hbe : Below wq.heap.size wq (wq.drew.alloc (.cells #[] 9)) := hbd.alloc (Nat.le_refl _) _
  have hbf : Below wq.heap.size wq (wq.alloc (.cells #[] 9)).drew := ((Below.refl _ _).alloc (Nat.le_refl _) _).drew
  have HO := zPB (show (wq.alloc (.cells #[] 9)).drew.ownsRow wq.heap.size 9 1 (.slice (some ⟨wq.heap.size, 0, none⟩) 0 0) 0 [] from World.ownsRow_made wq #[] 0 (Nat.le_refl _) (by simp) (by simp))
  have HS := zPB (zBv G.terms)
  have HS2 := zPB (zBv G.nons)
  go_region_held3 (fun w' => w'.cell? ⟨w.heap.size, 0, none⟩ = some (.slice h.a1 G.terms.length h.c1) /\ w'.cell? ⟨w.heap.size, 1, none⟩ = some (.slice h.a2 G.nons.length h.c2) /\ Below wq.heap.size wq w')
    (exact HQ.out _ (by assumption))
    (first
      | (refine zAG _ (by rfl) (.tmp 3) (.tmp 5) 22 (by rfl) wq.heap.size 9 i0 (.string ByteArray.empty) 16 Tryz.underlying22 hi0 hz0 hz1 hz2 rfl _ 0 [] (by rfl) HO.out h.a1 G.terms.length h.c1 (G.terms.map .string) (by rfl) (by simp) (HT.out _ (step X.out.below hbf)) HS.out (by unfold maxLen; omega) (by omega) (by simp) ?_
         intro v1 w1 hown1 hg1 hat1
         have kB : Below wq.heap.size wq w1 := hbf.grown hg1 (by simp) (fun q hq => (HO.out.lt q hq).1)
         have HO1 := zPB hown1
         clear hown1 hg1 hat1)
      | (refine zAG _ (by rfl) (.tmp 6) (.tmp 8) 22 (by rfl) wq.heap.size 9 i0 (.string ByteArray.empty) 16 Tryz.underlying22 hi0 hz0 hz1 hz2 rfl _ (0 + G.terms.length) ([] ++ G.terms.map .string) (by rfl) HO1.out h.a2 G.nons.length h.c2 (G.nons.map .string) (by rfl) (by simp) (HN.out _ (step X.out.below kB)) HS2.out (by unfold maxLen; omega) (by omega) kB.size ?_
         intro v2 w2 hown2 hg2 hat2
         have kC : Below wq.heap.size wq w2 := kB.grown hg2 kB.size (fun q hq => (HO1.out.lt q hq).1)
         have HO2 := zPB hown2
         clear hown2 hg2 hat2)
      | fail)
  have HF := zPB (show zIX (names G) w (.returned v2) w2 from by
    have h1 := HO2.out
    rw [List.nil_append, ← List.map_append, Nat.zero_add, ← List.length_append] at h1
    obtain ⟨a', c', rfl⟩ := Sep.zAe h1
    exact ⟨a', c', rfl, .of_row h1, zKI h1, step X.out.below kC⟩)
  go_wp2
  go_ret
  exact HF.out
theorem zLt (L : List ByteArray) (s : ByteArray) : -1 <= It.place L s /\ It.place L s <= L.length := by
 cases h : It.isIn L s with
 | true => rw [It.zEx h]; have := It.zOa (L := L) (s := s); omega
 | false => rw [It.zDO h]; omega
theorem zCf (w : World) : (Instr.buildSlice 40 0 #[]).run Tryz.prog w = .ok (.slice (some ⟨w.heap.size, 0, none⟩) 0 0) (w.alloc (.cells #[] 3)) := by kernel_rfl
theorem zA2 (l : List Int) : ∀ u ∈ ivs l, u.oneCell' = true := by
 intro u hu
 obtain ⟨s, _, rfl⟩ := List.mem_map.1 hu
 rfl
theorem zIp (a : Option Addr) (l : List Int) (c : Nat) (w : World) (h : Sep.Reads a (ivs l) w) (hl : l.length <= 17592186044416) :
  Calls Tryz.prog 108 #[.slice a l.length c] w (Listed l w) := by
 obtain ⟨i0, hi, hz0, hz1, hz2⟩ := info_parts zAS
 cases a with
 | none =>
  have h0 : l = [] := by
   rcases l with _ | ⟨x, l⟩
   ·rfl
   ·obtain ⟨_, _, e, _⟩ := h 0 (by simp [ivs])
    cases e
  subst h0
  have hn := Lib.run_eql_slice_nil (P := Tryz.prog)
  go_enter Tryz.func108, Tryz.ntmps108
  go_wp2
  go_ret
  exact ⟨Option.none, _, rfl, .nil _ _, (fun _ h => by cases h), .refl _ _⟩
 | some x =>
  have HB := zPB (fun v (w1 w2 : World) (h1 : w2.ownsRow w.heap.size 3 1 v (0 + l.length) ([] ++ ivs l)) (h2 : (w.alloc (.cells #[] 3)).grownBy w2 (some w.heap.size)) => show Listed l w (.returned v) w2 from by
   rw [Nat.zero_add, List.nil_append] at h1
   obtain ⟨a', c', rfl⟩ := Sep.zAe h1
   exact ⟨a', c', rfl, .of_row h1, zDU h1 (Nat.le_refl _), ((Below.refl _ _).alloc (Nat.le_refl _) _).grown h2 (by simp) fun k hk => by injection hk with hk; omega⟩)
  have HO := zPB (World.ownsRow_made (base := w.heap.size) (e := 3) (size := 1) w #[] 0 (Nat.le_refl _) (by simp) (by simp))
  have HN := zPB (show ∀ (j : Nat) (u : Value), (ivs l)[j]? = some u -> (w.alloc (.cells #[] 3)).cell? (x.add j) = some u from fun j u hj => by
   obtain ⟨hj1, rfl⟩ := List.getElem?_eq_some_iff.1 hj
   obtain ⟨b, o, e, hc⟩ := h j hj1
   injection e with e
   subst e
   rw [WideShapes.add_plain]
   exact cell_later (boxed _ _) hc)
  have HL := zPB (zA2 l)
  have hll := zHu l
  clear h
  have hn := Lib.run_eql_slice_nil (P := Tryz.prog)
  have hb := zCf
  go_enter Tryz.func108, Tryz.ntmps108
  go_wp2_with (at_builtin; refine wpList_append_own_at _ rfl _ _ 40 rfl w.heap.size 3 i0 (.int .i64 0) 1 8 Tryz.underlying40 hi hz0 hz1 hz2 rfl (by decide) _ _ _ rfl HO.out x l.length c (ivs l) rfl (by simp [ivs]) HN.out HL.out (by unfold maxLen; omega) (by omega) (by simp) ?_; intro v' w2 hown2 hg2 _ _; have HE := zPB (HB.out v' w w2 hown2 hg2); clear hown2 hg2)
  go_ret
  exact HE.out
def zKy (r : Int × List Int) (ok : Bool) (w : World) (e : Ending) (w' : World) : Prop :=
 ∃ a c, e = .returned (.tuple #[.agg #[.int .i64 r.1, .slice a r.2.length c], .bool ok]) /\ Sep.Reads a (ivs r.2) w' /\ Below w.heap.size w w'
theorem zBn {w : World} {q : Nat} {x : Int} (h : w.cell? ⟨q, 0, Option.none⟩ = some (iv x)) : Sep.Reads (some ⟨q, 0, Option.none⟩) (ivs [x]) w := fun i hi => by
 obtain rfl : i = 0 := by simp [ivs] at hi; omega
 exact ⟨q, 0, rfl, by simpa [ivs] using h⟩
theorem zCU (h : Sh) (G : Gram) (i : Int) (w : World) (k : GAt h G w) :
  Calls Tryz.prog 95 #[gv h G, .int .i64 i] w (zKy (zAN G i) (zAW G i) w) := by
 have X := zPB (Bx.start h G w 25)
 have hc3 := k.r2
 by_cases h0 : i < 0 \/ (G.rules.length : Int) < i
 ·obtain ⟨e1, e2⟩ := zC4 h0
  rw [e1, e2]
  clear k e1 e2
  by_cases h1 : i < 0
  ·clear h0
   unfold gv
   go_enter Tryz.func95, Tryz.ntmps95
   go_wp2
   exact bodyPost_ret (v := .tuple #[.agg #[.int .i64 0, .slice Option.none 0 0], .bool false]) (by simp [results, Tryz.results95, go_sem]) rfl ⟨_, _, rfl, .nil _ _, (X.out.alloc _).below⟩
  ·have h2 : (G.rules.length : Int) < i := by omega
   clear h0
   unfold gv
   go_enter Tryz.func95, Tryz.ntmps95
   go_wp2
   exact bodyPost_ret (v := .tuple #[.agg #[.int .i64 0, .slice Option.none 0 0], .bool false]) (by simp [results, Tryz.results95, go_sem]) rfl ⟨_, _, rfl, .nil _ _, (X.out.alloc _).below⟩
 ·by_cases h1 : i = (G.rules.length : Int)
  ·subst h1
   obtain ⟨e1, e2⟩ := zBP G
   rw [e1, e2]
   clear k e1 e2 h0
   unfold gv
   go_enter Tryz.func95, Tryz.ntmps95
   go_wp2
   refine bodyPost_ret (v := .tuple #[.agg #[.int .i64 0, .slice (some ⟨w.heap.size + 1 + 1, 0, Option.none⟩) 1 1], .bool true]) (by simp [results, Tryz.results95, go_sem]) rfl ⟨_, _, rfl, zBn (zAB (by simp) rfl), ((X.out.alloc _).alloc _).below⟩
  ·obtain ⟨j, rfl⟩ : ∃ j : Nat, i = (j : Int) := ⟨i.toNat, by omega⟩
   have hj : j < G.rules.length := by omega
   obtain ⟨e1, e2⟩ := zBp hj
   rw [e1, e2]
   obtain ⟨a1, c1, a2, c2, a3, c3⟩ := h
   obtain ⟨b, o, ra, rc, e, g1, g2, g3, g4, g5⟩ := k.rules j hj
   dsimp only at e
   subst e
   generalize G.rules[j] = r at g1 g2 g3 g4 g5 ⊢
   have hblt : b < w.heap.size := World.block_lt_of_cell? w ⟨b, o + j * 2, Option.none⟩ g1
   have HR := zPB (show Sep.Reads ra (ivs r.2) w from g3)
   clear k e1 e2 h0 h1 g3
   unfold gv
   dsimp only
   go_enter Tryz.func95, Tryz.ntmps95
   go_wp2
   obtain ⟨wq, hwq⟩ : ∃ wq, ((w.alloc (.cells #[.slice a1 G.terms.length c1, .slice a2 G.nons.length c2, .slice (some ⟨b, o, Option.none⟩) G.rules.length c3, .int .i64 G.start] 25)).alloc (.cells #[.int .i64 0, .slice Option.none 0 0] 59)).alloc (.cells #[.int .i64 r.1, .slice ra r.2.length rc] 59) = wq := ⟨_, rfl⟩
   rw [hwq]
   have q0 : wq.cell? ⟨w.heap.size + 1 + 1, 0, Option.none⟩ = some (.int .i64 r.1) := by rw [← hwq]; exact zAB (by simp) rfl
   have q1 : wq.cell? ⟨w.heap.size + 1 + 1, 1, Option.none⟩ = some (.slice ra r.2.length rc) := by rw [← hwq]; exact zAB (by simp) rfl
   have q2 : wq.cell? ⟨w.heap.size + 1, 0, Option.none⟩ = some (.int .i64 0) := by rw [← hwq]; exact zAJ (zAB (by simp) rfl)
   have q3 : wq.cell? ⟨w.heap.size + 1, 1, Option.none⟩ = some (.slice Option.none 0 0) := by rw [← hwq]; exact zAJ (zAB (by simp) rfl)
   have q4 : wq.frozen? ⟨w.heap.size + 1, 0, Option.none⟩ = false := by rw [← hwq]; exact zBx (i := 0) (boxed _ _) (zCG (by simp)) (zAB (by simp) rfl)
   have q5 : wq.frozen? ⟨w.heap.size + 1, 1, Option.none⟩ = false := by rw [← hwq]; exact zBx (i := 0) (boxed _ _) (zCG (by simp)) (zAB (by simp) rfl)
   have QB := zPB (show Below w.heap.size w wq by rw [← hwq]; exact ((X.out.alloc _).alloc _).below)
   have QC := zPB (fun w1 (k : Below wq.heap.size wq w1) => zIp ra r.2 rc w1 ((HR.out.below QB.out (Nat.le_refl _)).below k (Nat.le_refl _)) (by omega))
   have HQ := zPB (show ∀ w', Below wq.heap.size wq w' -> w'.cell? ⟨w.heap.size + 1 + 1, 0, Option.none⟩ = some (.int .i64 r.1) /\ w'.cell? ⟨w.heap.size + 1 + 1, 1, Option.none⟩ = some (.slice ra r.2.length rc) /\ Below w.heap.size w w'
    from fun w' hb => ⟨cell_later hb q0, cell_later hb q1, QB.out.trans (hb.mono QB.out.size)⟩)
   have HT := zPB (show ∀ w' u v, Below wq.heap.size wq w' -> ((w'.setCell ⟨w.heap.size + 1, 0, Option.none⟩ u).setCell ⟨w.heap.size + 1, 1, Option.none⟩ v).cell? ⟨w.heap.size + 1 + 1, 0, Option.none⟩ = some (.int .i64 r.1) /\ ((w'.setCell ⟨w.heap.size + 1, 0, Option.none⟩ u).setCell ⟨w.heap.size + 1, 1, Option.none⟩ v).cell? ⟨w.heap.size + 1 + 1, 1, Option.none⟩ = some (.slice ra r.2.length rc) /\ Below w.heap.size w ((w'.setCell ⟨w.heap.size + 1, 0, Option.none⟩ u).setCell ⟨w.heap.size + 1, 1, Option.none⟩ v)
    from fun w' u v hb => ⟨by rw [World.cell?_setCell_other _ _ _ _ (by intro e; simp at e), World.cell?_setCell_other _ _ _ _ (by intro e; simp at e)]; exact cell_later hb q0, by rw [World.cell?_setCell_other _ _ _ _ (by intro e; simp at e), World.cell?_setCell_other _ _ _ _ (by intro e; simp at e)]; exact cell_later hb q1,
     ((QB.out.trans (hb.mono QB.out.size)).setCell (by simp) _).setCell (by simp) _⟩)
   have hbd := drawn wq
   clear hwq X HR
   go_region_held3 (fun w' => w'.cell? ⟨w.heap.size + 1 + 1, 0, Option.none⟩ = some (.int .i64 r.1) /\ w'.cell? ⟨w.heap.size + 1 + 1, 1, Option.none⟩ = some (.slice ra r.2.length rc) /\ Below w.heap.size w w')
    (first | exact HQ.out _ (by assumption) | exact HT.out _ _ _ (by assumption))
    (first
     | (go_at_call 108; refine (QC.out _ hbd).mono ?_; rintro e wn ⟨a', c', rfl, hr, hnew, hb⟩; have HR3 := zPB hr; have HN := zPB hnew; have kB : Below wq.heap.size wq wn := step hbd hb; have z2 := cell_later kB q2; have z3 := cell_later kB q3; have z4 := zBx kB q4 q2; have z5 := zBx kB q5 q2; clear hr hnew hb)
     | fail)
   go_wp2
   have hqs := World.block_lt_of_cell? wq ⟨w.heap.size + 1, 0, Option.none⟩ q2
   have f0 : ((wn.setCell ⟨w.heap.size + 1, 0, Option.none⟩ (.int .i64 r.1)).setCell ⟨w.heap.size + 1, 1, Option.none⟩ (.slice a' r.2.length c')).cell? ⟨w.heap.size + 1, 0, Option.none⟩ = some (.int .i64 r.1) := by
    rw [World.cell?_setCell_other _ _ _ _ (by intro e; simp at e)]
    exact World.cell?_setCell_same _ _ _ z2
   have f1 : ((wn.setCell ⟨w.heap.size + 1, 0, Option.none⟩ (.int .i64 r.1)).setCell ⟨w.heap.size + 1, 1, Option.none⟩ (.slice a' r.2.length c')).cell? ⟨w.heap.size + 1, 1, Option.none⟩ = some (.slice a' r.2.length c') := by
    have y3 : (wn.setCell ⟨w.heap.size + 1, 0, Option.none⟩ (.int .i64 r.1)).cell? ⟨w.heap.size + 1, 1, Option.none⟩ = some (.slice Option.none 0 0) := by
     rw [World.cell?_setCell_other _ _ _ _ (by intro e; simp at e)]
     exact z3
    exact World.cell?_setCell_same _ _ _ y3
   have HF := zPB (show Sep.Reads a' (ivs r.2) ((wn.setCell ⟨w.heap.size + 1, 0, Option.none⟩ (.int .i64 r.1)).setCell ⟨w.heap.size + 1, 1, Option.none⟩ (.slice a' r.2.length c')) from HR3.out.keep fun b' o' e' => by
    have hn := HN.out _ e'
    have hn' : wq.heap.size <= b' := hn
    have hqs' : w.heap.size + 1 < wq.heap.size := hqs
    rw [Below.heap_setCell _ _ _ _ (by simp; omega), Below.heap_setCell _ _ _ _ (by simp; omega)])
   exact bodyPost_ret (v := .tuple #[.agg #[.int .i64 r.1, .slice a' r.2.length c'], .bool true]) (by simp [results, Tryz.results95, go_sem, f0, f1]) rfl ⟨_, _, rfl, HF.out, (HT.out _ _ _ kB).2.2⟩
theorem zFn (h : Sh) (G : Gram) (i : Int) (w : World) (k : GAt h G w) :
  Calls Tryz.prog 84 #[gv h G, .int .i64 i] w (zKy (zAN G i) (zAW G i) w) := by
 have X := zPB (Bx.start h G w 25)
 have hc3 := k.r2
 by_cases h0 : i < 0 \/ (G.rules.length : Int) < i
 ·obtain ⟨e1, e2⟩ := zC4 h0
  rw [e1, e2]
  clear k e1 e2
  by_cases h1 : i < 0
  ·clear h0
   unfold gv
   go_enter Tryz.func84, Tryz.ntmps84
   go_wp2
   exact bodyPost_ret (v := .tuple #[.agg #[.int .i64 0, .slice Option.none 0 0], .bool false]) (by simp [results, Tryz.results84, go_sem]) rfl ⟨_, _, rfl, .nil _ _, (X.out.alloc _).below⟩
  ·have h2 : (G.rules.length : Int) < i := by omega
   clear h0
   unfold gv
   go_enter Tryz.func84, Tryz.ntmps84
   go_wp2
   exact bodyPost_ret (v := .tuple #[.agg #[.int .i64 0, .slice Option.none 0 0], .bool false]) (by simp [results, Tryz.results84, go_sem]) rfl ⟨_, _, rfl, .nil _ _, (X.out.alloc _).below⟩
 ·by_cases h1 : i = (G.rules.length : Int)
  ·subst h1
   obtain ⟨e1, e2⟩ := zBP G
   rw [e1, e2]
   clear k e1 e2 h0
   unfold gv
   go_enter Tryz.func84, Tryz.ntmps84
   go_wp2
   refine bodyPost_ret (v := .tuple #[.agg #[.int .i64 0, .slice (some ⟨w.heap.size + 1 + 1, 0, Option.none⟩) 1 1], .bool true]) (by simp [results, Tryz.results84, go_sem]) rfl ⟨_, _, rfl, zBn (zAB (by simp) rfl), ((X.out.alloc _).alloc _).below⟩
  ·obtain ⟨j, rfl⟩ : ∃ j : Nat, i = (j : Int) := ⟨i.toNat, by omega⟩
   have hj : j < G.rules.length := by omega
   obtain ⟨e1, e2⟩ := zBp hj
   rw [e1, e2]
   obtain ⟨a1, c1, a2, c2, a3, c3⟩ := h
   obtain ⟨b, o, ra, rc, e, g1, g2, g3, g4, g5⟩ := k.rules j hj
   dsimp only at e
   subst e
   generalize G.rules[j] = r at g1 g2 g3 g4 g5 ⊢
   have hblt : b < w.heap.size := World.block_lt_of_cell? w ⟨b, o + j * 2, Option.none⟩ g1
   have HR := zPB (show Sep.Reads ra (ivs r.2) w from g3)
   clear k e1 e2 h0 h1 g3
   unfold gv
   dsimp only
   go_enter Tryz.func84, Tryz.ntmps84
   go_wp2
   exact bodyPost_ret (v := .tuple #[.agg #[.int .i64 r.1, .slice ra r.2.length rc], .bool true]) (by simp [results, Tryz.results84, go_sem]) rfl ⟨_, _, rfl, HR.out.below (X.out.alloc _).below (Nat.le_refl _), (X.out.alloc _).below⟩
