/- A part of the proof. -/
import Derived.Test.YtbajcecncgdpmaaGreatDoorPk07
set_option maxHeartbeats 4000000
set_option maxRecDepth 100000
set_option linter.unusedVariables false
namespace Go.Proofs.YtbajcecncgdpmaaGreatDoor
open Go.RowKit Go.Maps
namespace Gr
theorem zEF (h : Sh) (G : Gram) (s : Int) (w : World) (k : GAt h G w) (hr : G.rules.length <= 65536) :
  Calls Tryz.prog 45 #[gv h G, .int .i64 s] w (Listed (ofL G s) w) := by
 obtain ⟨i0, hi, hz0, hz1, hz2⟩ := info_parts zA5
 obtain ⟨a1, c1, a2, c2, a3, c3⟩ := h
 have hc3 := k.r2
 have X := zSt (Bx.start ⟨a1, c1, a2, c2, a3, c3⟩ G w 25)
 have K := zSt (fun w1 (b : Below w.heap.size w w1) => (k.went b).rules)
 clear k
 have HO := zSt (show (w.alloc (.cells #[.slice a1 G.terms.length c1, .slice a2 G.nons.length c2, .slice a3 G.rules.length c3, .int .i64 G.start] 25)).ownsRow (w.heap.size + 1) 3 1 (.slice none 0 0) (ofI G.rules s 0).length (ivs (ofI G.rules s 0)) from ⟨rfl, .inl ⟨rfl, rfl⟩⟩)
 unfold gv
 dsimp only
 go_enter Tryz.func45, Tryz.ntmps45
 go_wp2
 go_loopw [5, 6] (fun v i wr => ∃ j : Nat, j <= G.rules.length /\ i = .int .i64 j /\ wr.ownsRow (w.heap.size + 1) 3 1 v (ofI G.rules s j).length (ivs (ofI G.rules s j)) /\ Bx w ⟨a1, c1, a2, c2, a3, c3⟩ G wr) (fun _ i _ => G.rules.length - (intOf i).toNat)
 case atStart => exact ⟨0, Nat.zero_le _, rfl, HO.out, X.out⟩
 case round =>
  obtain ⟨j, hj, rfl, hO, hX⟩ := hrel
  obtain ⟨a', c', rfl⟩ := Sep.zAZ hO
  clear HO X
  have X := zSt hX
  have HO := zSt hO
  have hle := zLk G.rules s j
  clear hO hX
  by_cases hlt : j < G.rules.length
  ·obtain ⟨b, o, ra, rc, e, h1, h2, h3, h4, h5⟩ := K.out _ X.out.below j hlt
   have e1 := zAV hlt
   rw [← e1] at h1
   generalize G.rules[j].2 = rr at h2 h3 h4 h5
   try dsimp only at e
   subst e
   obtain ⟨x0, x1, x2, x3⟩ := X.out.box
   clear e1 h3
   by_cases hs : leftOf G.rules j = s
   ·have HI := zSt (zLj hs)
    subst hs
    generalize leftOf G.rules j = s at *
    go_wp2_with (at_builtin; go_loud (refine wpList_append_own _ rfl _ _ 37 rfl (w.heap.size + 1) 3 i0 (.int .i64 0) 1 8 Tryz.underlying37 hi hz0 hz1 hz2 rfl (by decide) _ _ _ rfl (HO.out.alloc _) ⟨wr.heap.size, 0, none⟩ 1 1 [iv j] rfl rfl ?c1 ?c2 ?c3 ?c4 ?c5 ?_))
    case c1 =>
     intro i u hi
     match i, hi with
     | 0, hi => simp at hi; subst hi; simp [iv]
    case c2 => first | rfl | (intro u hu; simp at hu; subst hu; rfl)
    case c3 => unfold maxLen; omega
    case c4 => omega
    case c5 => have := X.out.size; simp; omega
    intro v' w2 hown' hgrow _
    have X := zSt ((X.out.alloc _).grown hgrow fun q hq => (HO.out.lt q hq).1)
    have HO := zSt (show w2.ownsRow (w.heap.size + 1) 3 1 v' (ofI G.rules s (j + 1)).length (ivs (ofI G.rules s (j + 1))) by rw [HI.out]; simpa [ivs] using hown')
    clear hown' hgrow
    go_wp2
    go_roundw
    case rel => exact ⟨j + 1, by omega, by go_num, HO.out, X.out⟩
    case measure => simp [intOf]; omega
   ·have HI := zSt (zIS hs)
    have hb : (leftOf G.rules j == s) = false := by simpa using hs
    clear hs
    go_wp2_with (at_builtin; fail)
    go_roundw
    case rel => exact ⟨j + 1, by omega, by go_num, by rw [HI.out]; exact HO.out, X.out⟩
    case measure => simp [intOf]; omega
  ·have hE : j = G.rules.length := by omega
   subst hE
   have HR := zSt (Sep.Reads.of_row HO.out)
   have HN := zSt (zDL (W := w) HO.out (by omega))
   obtain ⟨x0, x1, x2, x3⟩ := X.out.box
   go_wp2
   go_ret
   exact ⟨_, _, rfl, HR.out, HN.out, X.out.below⟩
theorem zEd {P : Program} (w : World) (t ty : TypeId) (base : Nat) (e : TypeId) (i : TypeInfo) (z : Value) (bytes : Nat) (ht : P.underlying t = some (.slice e)) (hi : P.info? e = some i) (hz : i.zero = some z)
  (hsize : i.size = 1) (hby : i.bytes = bytes) (hzs : z.cells.size = 1) (v : Value) (n : Nat) (xs : List Value) (hown : w.ownsRow base e 1 v n xs)
  (a : Option Addr) (m c : Nat) (news : List Value) (hl : news.length = m) (hr : Sep.Reads a news w) (h1 : ∀ u ∈ news, u.oneCell' = true)
  (h63 : n + m <= maxLen) (hbytes : (n + m) * bytes <= 140737488355328) (hbase : base <= w.heap.size) :
  ∃ v' w', (Builtin.append_ #[t, t] ty #[v, .slice a m c]).run P w = .ok v' w' /\ w'.ownsRow base e 1 v' (n + m) (xs ++ news) /\ w.grownBy w' v.ownBlock /\ (v'.ownBlock = v.ownBlock \/ v'.ownBlock = some w.heap.size) := by
 cases a with
 | some ad =>
  obtain ⟨v', w', h2, h3, h4, _, h5⟩ := run_append_own_at (P := P) w base t ty e i z 1 bytes ht hi hz hsize hby hzs (by decide) v n xs hown ad m c news (by omega) (fun j u hj => by
   obtain ⟨hj1, rfl⟩ := List.getElem?_eq_some_iff.1 hj
   obtain ⟨b, o, e, hc⟩ := hr j hj1
   injection e with e
   subst e
   rw [WideShapes.add_plain]
   exact hc) h1 h63 hbytes hbase
  exact ⟨v', w', h2, h3, h4, h5⟩
 | none =>
  have h0 : news = [] := by
   rcases news with _ | ⟨x, l⟩
   ·rfl
   ·obtain ⟨_, _, e, _⟩ := hr 0 (by simp)
    cases e
  subst h0
  obtain rfl : m = 0 := by simpa using hl.symm
  refine ⟨v, w, ?_, by simpa using hown, ⟨rfl, rfl, rfl, Nat.le_refl _, fun _ _ _ => rfl⟩, .inl rfl⟩
  rcases hown.2 with ⟨rfl, rfl⟩ | ⟨g, cap, cur, rfl, hbg, hg, hnc, hcm, hcs, htake⟩
  ·simp [Builtin.append_, run_underlying ht, sizeOf, typeInfo, hi, Builtin.lenOf, Builtin.firstCells]
  ·simp [Builtin.append_, run_underlying ht, sizeOf, typeInfo, hi, Builtin.lenOf, Builtin.firstCells, loadCells, storeCells, hnc]
theorem zFw {P : Program} (w : World) {o : Oper} {a : Act} {K : Act -> World -> Prop} {Q : Exit -> Act -> World -> Prop} (s x : Operand) (t : TypeId)
  (ho : o.op = .call { callee := .builtin .append, args := #[s, x], argTypes := #[t, t] })
  (base : Nat) (e : TypeId) (i : TypeInfo) (z : Value) (bytes : Nat) (ht : P.underlying t = some (.slice e)) (hi : P.info? e = some i) (hz : i.zero = some z)
  (hsize : i.size = 1) (hby : i.bytes = bytes) (hzs : z.cells.size = 1) (v : Value) (n : Nat) (xs : List Value) (hs : a.eval s = v) (hown : w.ownsRow base e 1 v n xs)
  (ad : Option Addr) (m c : Nat) (news : List Value) (hx : a.eval x = .slice ad m c) (hl : news.length = m) (hr : Sep.Reads ad news w) (h1 : ∀ u ∈ news, u.oneCell' = true)
  (h63 : n + m <= maxLen) (hbytes : (n + m) * bytes <= 140737488355328) (hbase : base <= w.heap.size)
  (h : ∀ v' w', w'.ownsRow base e 1 v' (n + m) (xs ++ news) -> w.grownBy w' v.ownBlock -> (v'.ownBlock = v.ownBlock \/ v'.ownBlock = some w.heap.size) -> K (a.put o.dst v') w') : o.wp P a w K Q := by
 obtain ⟨v', w', hr, h2, h3, h4⟩ := zEd (P := P) w t o.type base e i z bytes ht hi hz hsize hby hzs v n xs hown ad m c news hl hr h1 h63 hbytes hbase
 unfold Oper.wp execOp
 simp only [ho, resolve, invoke, builtin, Sem.run_bind, Sem.run_pure, Result.andThen_ok, List.map_toArray, List.map_cons, List.map_nil, hs, hx, hr]
 exact h v' w' h2 h3 h4
theorem zCH {P : Program} (w : World) {ops : Array Oper} {o : Oper} {a : Act} {K : Act -> World -> Prop} {Q : Exit -> Act -> World -> Prop} {E : Prop} (hgd : o.guard = none) (s x : Operand) (t : TypeId)
  (ho : o.op = .call { callee := .builtin .append, args := #[s, x], argTypes := #[t, t] })
  (base : Nat) (e : TypeId) (i : TypeInfo) (z : Value) (bytes : Nat) (ht : P.underlying t = some (.slice e)) (hi : P.info? e = some i) (hz : i.zero = some z)
  (hsize : i.size = 1) (hby : i.bytes = bytes) (hzs : z.cells.size = 1) (v : Value) (n : Nat) (xs : List Value) (hs : a.eval s = v) (hown : w.ownsRow base e 1 v n xs)
  (ad : Option Addr) (m c : Nat) (news : List Value) (hx : a.eval x = .slice ad m c) (hl : news.length = m) (hr : Sep.Reads ad news w) (h1 : ∀ u ∈ news, u.oneCell' = true)
  (h63 : n + m <= maxLen) (hbytes : (n + m) * bytes <= 140737488355328) (hbase : base <= w.heap.size)
  (h : ∀ v' w', w'.ownsRow base e 1 v' (n + m) (xs ++ news) -> w.grownBy w' v.ownBlock -> (v'.ownBlock = v.ownBlock \/ v'.ownBlock = some w.heap.size) -> K (a.put o.dst v') w') :
  if Region.wanted o (yielded ops a.tmps) = true then Oper.wp P o a w K Q else E := by
 have hw : Region.wanted o (yielded ops a.tmps) = true := by simp [Region.wanted, hgd]
 rw [if_pos hw]
 exact zFw w s x t ho base e i z bytes ht hi hz hsize hby hzs v n xs hs hown ad m c news hx hl hr h1 h63 hbytes hbase h
theorem zHL : (Tryz.prog.info? 9).map (fun i => (i.zero, i.size, i.bytes)) = some (some (.string ByteArray.empty), 1, 16) := by kernel_rfl
theorem zCI (L : List ByteArray) : ∀ u ∈ L.map Value.string, u.oneCell' = true := by
 intro u hu
 obtain ⟨s, _, rfl⟩ := List.mem_map.1 hu
 rfl
theorem zKI (w : World) : (Instr.buildSlice 22 0 #[]).run Tryz.prog w = .ok (.slice (some ⟨w.heap.size, 0, none⟩) 0 0) (w.alloc (.cells #[] 9)) := by kernel_rfl
def zJz (L : List ByteArray) (w : World) (e : Ending) (w' : World) : Prop :=
 ∃ a c, e = .returned (.slice a L.length c) /\ Sep.Reads a (L.map .string) w' /\ L.length <= c /\ Below w.heap.size w w'
theorem zMC {w : World} {base n c : Nat} {e : TypeId} {a : Option Addr} {xs : List Value} (h : w.ownsRow base e 1 (.slice a n c) n xs) : n <= c := by
 rcases h.2 with ⟨h1, h2⟩ | ⟨g, cap, cur, h1, _, _, h3, _⟩
 ·omega
 ·simp only [Value.slice.injEq] at h1
  omega
theorem zLx (L : List ByteArray) (s : ByteArray) (a : Option Addr) (c : Nat) (w : World) (h : Sep.Reads a (L.map .string) w) (hl : L.length <= 17592186044416) :
  Calls Tryz.prog 102 #[.slice a L.length c, .string s] w fun e w' => e = .returned (.int .i64 (It.place L s)) /\ w = w' := by
 have HR := zSt h
 clear h
 go_enter Tryz.func102, Tryz.ntmps102
 go_wp2
 go_loop [5] (fun i => ∃ k : Nat, k <= L.length /\ i = .int .i64 k /\ zIm L s k) (fun i => L.length - (intOf i).toNat)
 case atStart => exact ⟨0, Nat.zero_le _, rfl, ahead_zero _ _⟩
 case round =>
  obtain ⟨k, hk, rfl, hb⟩ := hrel
  have HB := zSt hb
  clear hb
  by_cases hlt : k < L.length
  ·obtain ⟨b, o, rfl, hc⟩ := HR.out k (by simpa using hlt)
   simp only [List.getElem_map] at hc
   by_cases he : L[k] = s
   ·rw [he] at hc
    have HP := zSt (zKA HB.out hlt he)
    clear he
    go_wp2
    go_ret
    exact ⟨by rw [HP.out]; rfl, rfl⟩
   ·have HN := zSt (zIp HB.out hlt he)
    have hne := zMy he
    clear he
    go_wp2
    go_round
    case rel => exact ⟨k + 1, by omega, by go_num, HN.out⟩
    case measure => simp [intOf]; omega
  ·have HE := zSt (zJ9 HB.out hlt)
   go_wp2
   go_ret
   exact ⟨by rw [HE.out]; rfl, rfl⟩
theorem zLd (h : Sh) (G : Gram) (w : World) (k : GAt h G w) (ht : G.terms.length + G.nons.length <= 65536) :
    Calls Tryz.prog 68 #[gv h G] w (zJz (names G) w) := by
  obtain ⟨i0, hi0, hz0, hz1, hz2⟩ := info_parts zHL
  have X := zSt (Bx.start h G w 25)
  have HT := zSt (fun w1 (b : Below w.heap.size w w1) => (k.went b).terms)
  have HN := zSt (fun w1 (b : Below w.heap.size w w1) => (k.went b).nons)
  have hb := zKI
  clear k
  unfold gv
  go_enter Tryz.func68, Tryz.ntmps68
  go_wp2
  obtain ⟨wq, hwq⟩ : ∃ wq, w.alloc (.cells #[.slice h.a1 G.terms.length h.c1, .slice h.a2 G.nons.length h.c2, .slice h.a3 G.rules.length h.c3, .int .i64 G.start] 25) = wq := ⟨_, rfl⟩
  rw [hwq]
  rw [hwq] at X
  clear hwq
  have HQ := zSt (show ∀ w', Below wq.heap.size wq w' -> w'.cell? ⟨w.heap.size, 0, none⟩ = some (.slice h.a1 G.terms.length h.c1) /\ w'.cell? ⟨w.heap.size, 1, none⟩ = some (.slice h.a2 G.nons.length h.c2) /\ Below wq.heap.size wq w'
    from fun w' b => ⟨cell_later b X.out.box.x0, cell_later b X.out.box.x1, b⟩)
  have hbd := drawn wq
  have hbe : Below wq.heap.size wq (wq.drew.alloc (.cells #[] 9)) := hbd.alloc (Nat.le_refl _) _
  have hbf : Below wq.heap.size wq (wq.alloc (.cells #[] 9)).drew := ((Below.refl _ _).alloc (Nat.le_refl _) _).drew
  have HO := zSt (show (wq.alloc (.cells #[] 9)).drew.ownsRow wq.heap.size 9 1 (.slice (some ⟨wq.heap.size, 0, none⟩) 0 0) 0 [] from World.ownsRow_made wq #[] 0 (Nat.le_refl _) (by simp) (by simp))
  have HS := zSt (zCI G.terms)
  have HS2 := zSt (zCI G.nons)
  go_region_held3 (fun w' => w'.cell? ⟨w.heap.size, 0, none⟩ = some (.slice h.a1 G.terms.length h.c1) /\ w'.cell? ⟨w.heap.size, 1, none⟩ = some (.slice h.a2 G.nons.length h.c2) /\ Below wq.heap.size wq w')
    (exact HQ.out _ (by assumption))
    (first
      | (refine zCH _ (by rfl) (.tmp 3) (.tmp 5) 22 (by rfl) wq.heap.size 9 i0 (.string ByteArray.empty) 16 Tryz.underlying22 hi0 hz0 hz1 hz2 rfl _ 0 [] (by rfl) HO.out h.a1 G.terms.length h.c1 (G.terms.map .string) (by rfl) (by simp) (HT.out _ (step X.out.below hbf)) HS.out (by unfold maxLen; omega) (by omega) (by simp) ?_
         intro v1 w1 hown1 hg1 hat1
         have kB : Below wq.heap.size wq w1 := hbf.grown hg1 (by simp) (fun q hq => (HO.out.lt q hq).1)
         have HO1 := zSt hown1
         clear hown1 hg1 hat1)
      | (refine zCH _ (by rfl) (.tmp 6) (.tmp 8) 22 (by rfl) wq.heap.size 9 i0 (.string ByteArray.empty) 16 Tryz.underlying22 hi0 hz0 hz1 hz2 rfl _ (0 + G.terms.length) ([] ++ G.terms.map .string) (by rfl) HO1.out h.a2 G.nons.length h.c2 (G.nons.map .string) (by rfl) (by simp) (HN.out _ (step X.out.below kB)) HS2.out (by unfold maxLen; omega) (by omega) kB.size ?_
         intro v2 w2 hown2 hg2 hat2
         have kC : Below wq.heap.size wq w2 := kB.grown hg2 kB.size (fun q hq => (HO1.out.lt q hq).1)
         have HO2 := zSt hown2
         clear hown2 hg2 hat2)
      | fail)
  have HF := zSt (show zJz (names G) w (.returned v2) w2 from by
    have h1 := HO2.out
    rw [List.nil_append, ← List.map_append, Nat.zero_add, ← List.length_append] at h1
    obtain ⟨a', c', rfl⟩ := Sep.zAZ h1
    exact ⟨a', c', rfl, .of_row h1, zMC h1, step X.out.below kC⟩)
  go_wp2
  go_ret
  exact HF.out
theorem zOG (L : List ByteArray) (s : ByteArray) : -1 <= It.place L s /\ It.place L s <= L.length := by
 cases h : It.isIn L s with
 | true => rw [It.zFm h]; have := It.zRl (L := L) (s := s); omega
 | false => rw [It.zED h]; omega
theorem law : Keyed Tryz.prog 9 := string_keyed Tryz.underlying9
theorem zO9 {s : ByteArray} (h : s.size <= maxLen) : keyOf Tryz.prog 9 (.string s) = some (.string s.data.toList) := WideMaps.keyOf_string_mk Tryz.underlying9 h
theorem zP9 {s : ByteArray} (h : s.size <= maxLen) : WideAt.IsKeyLit (.string s.data.toList) := law.key (zO9 h)
noncomputable abbrev zMl : Value -> Option (DataW Unit × List MemPlace) := plainElem Tryz.prog 3
def Keys (L : List ByteArray) (D : DataW Unit) : Prop :=
 (∀ s : ByteArray, Maps.has D (.string s.data.toList) = It.isIn L s) /\ Maps.size D <= L.length /\ (Maps.size D = L.length ↔ L.Nodup)
theorem zNb : Keys [] (.map []) := ⟨fun s => rfl, by simp [Maps.size], by simp [Maps.size]⟩
theorem zNc {L : List ByteArray} {D : DataW Unit} {s : ByteArray} (hT : Tidy D) (hM : IsMap D) (hk : WideAt.IsKeyLit (.string s.data.toList)) (h : Keys L D) (d : DataW Unit) : Keys (L ++ [s]) (D.put (.string s.data.toList) d) := by
 obtain ⟨h1, h2, h3⟩ := h
 have hz := size_put (k := .string s.data.toList) hT d
 rw [h1 s] at hz
 refine ⟨fun t => ?_, ?_, ?_⟩
 ·by_cases e : s = t
  ·subst e
   rw [has_put_same hM hk, It.zGZ]
  ·have hne : (Lit.string t.data.toList) ≠ .string s.data.toList := fun h => e (It.zFL (by injection h with h; exact h.symm))
   rw [has_put_other hne, h1 t, Bool.eq_iff_iff, It.zBF, It.zBF]
   simp [Ne.symm e]
 ·rw [hz]
  split <;> simp <;> omega
 ·rw [hz]
  cases hi : It.isIn L s with
  | true =>
   have hm := It.zBF.1 hi
   rw [if_pos rfl]
   constructor
   ·intro e
    simp at e
    omega
   ·intro hN
    rw [List.nodup_append] at hN
    exact absurd rfl (hN.2.2 s hm s (by simp))
  | false =>
   have hm : s ∉ L := fun h => by rw [It.zBF.2 h] at hi; cases hi
   rw [if_neg (by simp)]
   simp only [List.length_append, List.length_cons, List.length_nil, Nat.zero_add, Nat.add_right_cancel_iff]
   rw [h3, List.nodup_append]
   constructor
   ·intro hN
    refine ⟨hN, by simp, fun a ha b hb => ?_⟩
    simp only [List.mem_singleton] at hb
    subst hb
    exact fun e => hm (e ▸ ha)
   ·exact fun hN => hN.1
theorem zLZ {G : Gram} (h : GOk G) {s : Nat} (hs : s < (names G).length) : ((names G)[s]).size <= 140737488355328 := by
 have := List.getElem_mem hs
 rcases List.mem_append.1 (show (names G)[s] ∈ G.terms ++ G.nons from this) with h1 | h1
 ·exact h.terms _ h1
 ·exact h.nons _ h1
theorem zEZ (h : Sh) (G : Gram) (w : World) (k : GAt h G w) :
  Calls Tryz.prog 73 #[gv h G] w (Is (.bool (!zDK G)) w) := by
 have T := zSt (fun w1 (b : Below w.heap.size w w1) => zBe h G w1 (k.went b))
 have N := zSt (fun s w1 (b : Below w.heap.size w w1) => zFi h G s w1 (k.went b))
 have X := zSt (Bx.start h G w 25)
 have SZ := zSt (fun s hs => zLZ k.ok (s := s) hs)
 have ht : top G <= 281474976710656 := by have := k.t2; have := k.n2; unfold top; omega
 have hmm := @run_makeMap Tryz.prog
 clear k
 unfold gv
 go_enter Tryz.func73, Tryz.ntmps73
 go_wp2
 go_loopw [4] (fun i wr => ∃ j : Nat, ∃ D, j <= top G /\ i = .int .i64 ((j : Int) + 1) /\ Bx w h G wr /\ wr.ownsMap Tryz.prog 9 zMl (w.heap.size + 1) j D /\ Keys ((names G).take j) D) (fun i _ => (top G + 1) - (intOf i).toNat)
 case atStart => exact ⟨0, .map [], Nat.zero_le _, rfl, X.out.alloc _, by simpa using World.ownsMap_made (w.alloc _) Tryz.prog 9 zMl, by simpa using zNb⟩
 case round =>
  clear X
  obtain ⟨j, D, hj, rfl, hX, hO, hK⟩ := hrel
  have X := zSt hX
  obtain ⟨x0, x1, x2, x3⟩ := hX.box
  have O := zSt hO
  have KY := zSt hK
  clear hX hO hK
  by_cases hlt : j < top G
  ·have hl : j < (names G).length := by rw [zAh]; exact hlt
   have E := zSt (zHW hlt)
   have ST := zSt (List.take_succ_eq_append_getElem hl)
   have hs := SZ.out j hl
   generalize (names G)[j] = x at E ST hs
   have hk := zSt (zO9 (s := x) (by unfold maxLen; omega))
   have K2 := zSt (fun d => zNc (O.out.tidy law) O.out.isMap (zP9 (s := x) (by unfold maxLen; omega)) KY.out d)
   clear hl
   go_wp2_with (first
    | (go_at_call 51; refine (T.out _ X.out.below).mono ?_; rintro e w1 ⟨rfl, hb⟩; have X := zSt (X.out.went hb); have O := zSt (Sep.ownsMap_at O.out (hb.block _ O.out.lt)); obtain ⟨x0, x1, x2, x3⟩ := X.out.box; clear hb)
    | (go_at_call 109; refine (N.out _ _ X.out.below).mono ?_; rw [E.out]; rintro e w2 ⟨rfl, hb⟩; have X := zSt (X.out.went hb); have O := zSt (Sep.ownsMap_at O.out (hb.block _ O.out.lt)); clear hb)
    | (at_mapUpdate; refine wpList_mapUpdate_own _ rfl _ _ _ 93 rfl 9 3 law Tryz.underlying93 zMl (w.heap.size + 1) j D rfl O.out (by unfold maxLen; omega) _ _ _ rfl rfl hk.out _ [] (plainElem_int Tryz.underlying3 (WalkArith.wf_i64 (by omega))) ?_; intro w3 hown1 hg1; have X := zSt (X.out.grown hg1 (fun q hq => by injection hq with hq; omega)); have O := zSt hown1; clear hown1 hg1))
   go_roundw
   case rel => exact ⟨j + 1, _, by omega, by go_num, X.out, O.out, by rw [ST.out]; exact K2.out _⟩
   case measure => simp [intOf]; omega
  ·have hE : j = top G := by omega
   subst hE
   have HK := zSt (show Keys (names G) D by have h1 := KY.out; rw [List.take_of_length_le (by rw [zAh]; exact Nat.le_refl _)] at h1; exact h1)
   have hsz := HK.out.2.1
   rw [zAh] at hsz
   go_wp2_with (first
    | (go_at_call 51; refine (T.out _ X.out.below).mono ?_; rintro e w1 ⟨rfl, hb⟩; have X := zSt (X.out.went hb); have O := zSt (Sep.ownsMap_at O.out (hb.block _ O.out.lt)); obtain ⟨x0, x1, x2, x3⟩ := X.out.box; clear hb)
    | (at_len; refine wpList_len_own _ rfl _ 93 rfl 9 3 Tryz.underlying93 zMl (w.heap.size + 1) (top G) D rfl O.out ?_))
   go_ret
   refine ⟨zAD ?_, X.out.below⟩
   have h3 := HK.out.2.2
   rw [zAh] at h3
   unfold zDK
   by_cases hN : (names G).Nodup
   ·rw [decide_eq_true hN]
    have := h3.2 hN
    simp
    omega
   ·rw [decide_eq_false hN]
    have : ¬ Maps.size D = top G := fun e => hN (h3.1 e)
    simp
    omega
theorem zJL {L : List ByteArray} {k : Nat} (hk : k < L.length) (h : (L.take k).Nodup) (hp : It.place (L.take k) L[k] = -1) : (L.take (k + 1)).Nodup := by
 rw [List.take_succ_eq_append_getElem hk, List.nodup_append]
 refine ⟨h, by simp, fun a ha b hb => ?_⟩
 simp only [List.mem_singleton] at hb
 subst hb
 rintro rfl
 rw [It.zFm (It.zBF.2 ha)] at hp
 omega
theorem zJK {L : List ByteArray} {k : Nat} (hk : k < L.length) (hp : ¬ It.place (L.take k) L[k] = -1) : ¬ L.Nodup := by
 intro hN
 cases hi : It.isIn (L.take k) L[k] with
 | false => exact hp (It.zED hi)
 | true =>
  have hm := It.zBF.1 hi
  obtain ⟨i, hi', e⟩ := List.mem_iff_getElem.1 hm
  simp at hi'
  rw [List.getElem_take] at e
  have := (List.getElem_inj hN (i := i) (j := k) (h₀ := by omega) (h₁ := hk)).1 e
  omega
theorem zJQ {P : Program} {f : FuncId} {args : Array Value} {w : World} {v : Value} (h : Calls P f args w fun e w' => e = .returned v /\ w = w') : Calls P f args w fun e w' => e = .returned v /\ w' = w :=
 h.mono fun _ _ ⟨h1, h2⟩ => ⟨h1, h2.symm⟩
theorem zN3 (L : List ByteArray) (a : Option Addr) (c : Nat) (w : World) (h : Sep.Reads a (L.map .string) w) (hc : L.length <= c) (hl : L.length <= 17592186044416) :
  Calls Tryz.prog 67 #[.slice a L.length c] w (Is (.bool (decide L.Nodup)) w) := by
 have HR := zSt h
 clear h
 go_enter Tryz.func67, Tryz.ntmps67
 go_wp2
 go_loopw [3] (fun i wr => ∃ k : Nat, k <= L.length /\ i = .int .i64 k /\ (L.take k).Nodup /\ Below w.heap.size w wr) (fun i _ => L.length - (intOf i).toNat)
 case atStart => exact ⟨0, Nat.zero_le _, rfl, by simp, .refl _ _⟩
 case round =>
  obtain ⟨k, hk, rfl, hN, hW⟩ := hrel
  have ND := zSt hN
  have HW := zSt hW
  clear hN
  by_cases hlt : k < L.length
  ·obtain ⟨b, o, rfl, hx⟩ := zBT (v := .string L[k]) HR.out (by simp) hlt (by simp [hlt])
   have hx := cell_later hW hx
   have NE := zSt (fun he => zJL hlt ND.out he)
   have NF := zSt (fun he => zJK hlt he)
   have PL := zSt (show ∀ m s, Calls Tryz.prog 102 #[.slice (some ⟨b, o, none⟩) k c, .string s] (wr.drewN m) fun e w' => e = .returned (.int .i64 (It.place (L.take k) s)) /\ w' = wr.drewN m from fun m s => zJQ (by
    have := zLx (L.take k) s (some ⟨b, o, none⟩) c (wr.drewN m) (fun i hi => by
     simp at hi
     obtain ⟨b', o', e', hc'⟩ := HR.out i (by simp; omega)
     refine ⟨b', o', e', ?_⟩
     have hc' := cell_later hW hc'
     simp only [List.getElem_map, List.getElem_take] at hc' ⊢
     exact hc') (by simp; omega)
    rw [List.length_take, Nat.min_eq_left (by omega)] at this
    exact this))
   have hpl := zOG (L.take k) L[k]
   rw [List.length_take, Nat.min_eq_left (by omega)] at hpl
   generalize L[k] = x at hx NE NF hpl
   have HP := zSt (fun m => PL.out m x)
   clear PL hW
   by_cases hp : It.place (L.take k) x = -1
   ·rw [hp] at HP
    have N2 := zSt (NE.out hp)
    clear hp hpl
    go_wp2
    go_quiet ((go_at_call 102; exact Calls.quiet_of_same (HP.out _)))
    go_wp2
    go_roundw
    case rel => exact ⟨k + 1, by omega, by go_num, N2.out, HW.out.trans ⟨rfl, rfl, rfl, Nat.le_refl _, fun _ _ => rfl⟩⟩
    case measure => simp [intOf]; omega
   ·have F := zSt (NF.out hp)
    have hp0 : 0 <= It.place (L.take k) x := by omega
    generalize It.place (L.take k) x = p at *
    clear hp
    go_wp2
    go_quiet ((go_at_call 102; exact Calls.quiet_of_same (HP.out _)))
    go_wp2
    go_ret
    exact ⟨zAD (by rw [decide_eq_false F.out]), HW.out.trans ⟨rfl, rfl, rfl, Nat.le_refl _, fun _ _ => rfl⟩⟩
  ·have F := zSt (show L.Nodup by have h1 := ND.out; rw [List.take_of_length_le (by omega)] at h1; exact h1)
   clear hW
   go_wp2
   go_ret
   exact ⟨zAD (by rw [decide_eq_true F.out]), HW.out⟩
def zJy (l : List Int) (w : World) (e : Ending) (w' : World) : Prop :=
 ∃ a c, e = .returned (.slice a l.length c) /\ Sep.Reads a (ivs l) w' /\ New a w /\ Below w.heap.size w w' /\ l.length <= c
def zQ8 (r : Int × List Int) (ok : Bool) (w : World) (e : Ending) (w' : World) : Prop :=
 ∃ a c, e = .returned (.tuple #[.agg #[.int .i64 r.1, .slice a r.2.length c], .bool ok]) /\ Sep.Reads a (ivs r.2) w' /\ Below w.heap.size w w' /\ New a w /\ r.2.length <= c
theorem zKQ (a : Option Addr) (l : List Int) (c : Nat) (w : World) (h : Sep.Reads a (ivs l) w) (hl : l.length <= 17592186044416) :
  Calls Tryz.prog 89 #[.slice a l.length c] w (zJy l w) := by
 obtain ⟨i0, hi, hz0, hz1, hz2⟩ := info_parts zA5
 cases a with
 | none =>
  have h0 : l = [] := by
   rcases l with _ | ⟨x, l⟩
   ·rfl
   ·obtain ⟨_, _, e, _⟩ := h 0 (by simp [ivs])
    cases e
  subst h0
  have hn := Lib.run_eql_slice_nil (P := Tryz.prog)
  go_enter Tryz.func89, Tryz.ntmps89
  go_wp2
  go_ret
  exact ⟨Option.none, _, rfl, .nil _ _, (fun _ h => by cases h), .refl _ _, Nat.zero_le _⟩
 | some x =>
  have HB := zSt (fun v (w1 w2 : World) (h1 : w2.ownsRow w.heap.size 3 1 v (0 + l.length) ([] ++ ivs l)) (h2 : (w.alloc (.cells #[] 3)).grownBy w2 (some w.heap.size)) => show zJy l w (.returned v) w2 from by
   rw [Nat.zero_add, List.nil_append] at h1
   obtain ⟨a', c', rfl⟩ := Sep.zAZ h1
   exact ⟨a', c', rfl, .of_row h1, zDL h1 (Nat.le_refl _), ((Below.refl _ _).alloc (Nat.le_refl _) _).grown h2 (by simp) fun k hk => by injection hk with hk; omega, zMC h1⟩)
  have HO := zSt (World.ownsRow_made (base := w.heap.size) (e := 3) (size := 1) w #[] 0 (Nat.le_refl _) (by simp) (by simp))
  have HN := zSt (show ∀ (j : Nat) (u : Value), (ivs l)[j]? = some u -> (w.alloc (.cells #[] 3)).cell? (x.add j) = some u from fun j u hj => by
   obtain ⟨hj1, rfl⟩ := List.getElem?_eq_some_iff.1 hj
   obtain ⟨b, o, e, hc⟩ := h j hj1
   injection e with e
   subst e
   rw [WideShapes.add_plain]
   exact cell_later (boxed _ _) hc)
  have HL := zSt (zK8 l)
  have hll := zE2 l
  clear h
  have hn := Lib.run_eql_slice_nil (P := Tryz.prog)
  have hb := zEo
  go_enter Tryz.func89, Tryz.ntmps89
  go_wp2_with (at_builtin; refine wpList_append_own_at _ rfl _ _ 37 rfl w.heap.size 3 i0 (.int .i64 0) 1 8 Tryz.underlying37 hi hz0 hz1 hz2 rfl (by decide) _ _ _ rfl HO.out x l.length c (ivs l) rfl (by simp [ivs]) HN.out HL.out (by unfold maxLen; omega) (by omega) (by simp) ?_; intro v' w2 hown2 hg2 _ _; have HE := zSt (HB.out v' w w2 hown2 hg2); clear hown2 hg2)
  go_ret
  exact HE.out
theorem zOY (h : Sh) (G : Gram) (i : Int) (w : World) (k : GAt h G w) :
  Calls Tryz.prog 53 #[gv h G, .int .i64 i] w (zQ8 (zAB G i) (zAN G i) w) := by
 have X := zSt (Bx.start h G w 25)
 have hc3 := k.r2
 by_cases h0 : i < 0 \/ (G.rules.length : Int) < i
 ·obtain ⟨e1, e2⟩ := zC4 h0
  rw [e1, e2]
  clear k e1 e2
  by_cases h1 : i < 0
  ·clear h0
   unfold gv
   go_enter Tryz.func53, Tryz.ntmps53
   go_wp2
   exact bodyPost_ret (v := .tuple #[.agg #[.int .i64 0, .slice Option.none 0 0], .bool false]) (by simp [results, Tryz.results53, go_sem]) rfl ⟨_, _, rfl, .nil _ _, (X.out.alloc _).below, (fun _ h => by cases h), Nat.zero_le _⟩
  ·have h2 : (G.rules.length : Int) < i := by omega
   clear h0
   unfold gv
   go_enter Tryz.func53, Tryz.ntmps53
   go_wp2
   exact bodyPost_ret (v := .tuple #[.agg #[.int .i64 0, .slice Option.none 0 0], .bool false]) (by simp [results, Tryz.results53, go_sem]) rfl ⟨_, _, rfl, .nil _ _, (X.out.alloc _).below, (fun _ h => by cases h), Nat.zero_le _⟩
 ·by_cases h1 : i = (G.rules.length : Int)
  ·subst h1
   obtain ⟨e1, e2⟩ := zAU G
   rw [e1, e2]
   clear k e1 e2 h0
   unfold gv
   go_enter Tryz.func53, Tryz.ntmps53
   go_wp2
   refine bodyPost_ret (v := .tuple #[.agg #[.int .i64 0, .slice (some ⟨w.heap.size + 1 + 1, 0, Option.none⟩) 1 1], .bool true]) (by simp [results, Tryz.results53, go_sem]) rfl ⟨_, _, rfl, zBk (zAA (by simp) rfl), ((X.out.alloc _).alloc _).below, (fun x h => by injection h with h; subst h; dsimp only; omega), Nat.le_refl _⟩
  ·obtain ⟨j, rfl⟩ : ∃ j : Nat, i = (j : Int) := ⟨i.toNat, by omega⟩
   have hj : j < G.rules.length := by omega
   obtain ⟨e1, e2⟩ := zAb hj
   rw [e1, e2]
   obtain ⟨a1, c1, a2, c2, a3, c3⟩ := h
   obtain ⟨b, o, ra, rc, e, g1, g2, g3, g4, g5⟩ := k.rules j hj
   dsimp only at e
   subst e
   generalize G.rules[j] = r at g1 g2 g3 g4 g5 ⊢
   have hblt : b < w.heap.size := World.block_lt_of_cell? w ⟨b, o + j * 2, Option.none⟩ g1
   have HR := zSt (show Sep.Reads ra (ivs r.2) w from g3)
   clear k e1 e2 h0 h1 g3
   unfold gv
   dsimp only
   go_enter Tryz.func53, Tryz.ntmps53
   go_wp2
   obtain ⟨wq, hwq⟩ : ∃ wq, ((w.alloc (.cells #[.slice a1 G.terms.length c1, .slice a2 G.nons.length c2, .slice (some ⟨b, o, Option.none⟩) G.rules.length c3, .int .i64 G.start] 25)).alloc (.cells #[.int .i64 0, .slice Option.none 0 0] 41)).alloc (.cells #[.int .i64 r.1, .slice ra r.2.length rc] 41) = wq := ⟨_, rfl⟩
   rw [hwq]
   have q0 : wq.cell? ⟨w.heap.size + 1 + 1, 0, Option.none⟩ = some (.int .i64 r.1) := by rw [← hwq]; exact zAA (by simp) rfl
   have q1 : wq.cell? ⟨w.heap.size + 1 + 1, 1, Option.none⟩ = some (.slice ra r.2.length rc) := by rw [← hwq]; exact zAA (by simp) rfl
   have q2 : wq.cell? ⟨w.heap.size + 1, 0, Option.none⟩ = some (.int .i64 0) := by rw [← hwq]; exact zAJ (zAA (by simp) rfl)
   have q3 : wq.cell? ⟨w.heap.size + 1, 1, Option.none⟩ = some (.slice Option.none 0 0) := by rw [← hwq]; exact zAJ (zAA (by simp) rfl)
   have q4 : wq.frozen? ⟨w.heap.size + 1, 0, Option.none⟩ = false := by rw [← hwq]; exact zA4 (i := 0) (boxed _ _) (zBo (by simp)) (zAA (by simp) rfl)
   have q5 : wq.frozen? ⟨w.heap.size + 1, 1, Option.none⟩ = false := by rw [← hwq]; exact zA4 (i := 0) (boxed _ _) (zBo (by simp)) (zAA (by simp) rfl)
   have QB := zSt (show Below w.heap.size w wq by rw [← hwq]; exact ((X.out.alloc _).alloc _).below)
   have QC := zSt (fun w1 (k : Below wq.heap.size wq w1) => zKQ ra r.2 rc w1 ((HR.out.below QB.out (Nat.le_refl _)).below k (Nat.le_refl _)) (by omega))
   have HQ := zSt (show ∀ w', Below wq.heap.size wq w' -> w'.cell? ⟨w.heap.size + 1 + 1, 0, Option.none⟩ = some (.int .i64 r.1) /\ w'.cell? ⟨w.heap.size + 1 + 1, 1, Option.none⟩ = some (.slice ra r.2.length rc) /\ Below w.heap.size w w'
    from fun w' hb => ⟨cell_later hb q0, cell_later hb q1, QB.out.trans (hb.mono QB.out.size)⟩)
   have HT := zSt (show ∀ w' u v, Below wq.heap.size wq w' -> ((w'.setCell ⟨w.heap.size + 1, 0, Option.none⟩ u).setCell ⟨w.heap.size + 1, 1, Option.none⟩ v).cell? ⟨w.heap.size + 1 + 1, 0, Option.none⟩ = some (.int .i64 r.1) /\ ((w'.setCell ⟨w.heap.size + 1, 0, Option.none⟩ u).setCell ⟨w.heap.size + 1, 1, Option.none⟩ v).cell? ⟨w.heap.size + 1 + 1, 1, Option.none⟩ = some (.slice ra r.2.length rc) /\ Below w.heap.size w ((w'.setCell ⟨w.heap.size + 1, 0, Option.none⟩ u).setCell ⟨w.heap.size + 1, 1, Option.none⟩ v)
    from fun w' u v hb => ⟨by rw [World.cell?_setCell_other _ _ _ _ (by intro e; simp at e), World.cell?_setCell_other _ _ _ _ (by intro e; simp at e)]; exact cell_later hb q0, by rw [World.cell?_setCell_other _ _ _ _ (by intro e; simp at e), World.cell?_setCell_other _ _ _ _ (by intro e; simp at e)]; exact cell_later hb q1,
     ((QB.out.trans (hb.mono QB.out.size)).setCell (by simp) _).setCell (by simp) _⟩)
   have hbd := drawn wq
   clear hwq X HR
   go_region_held3 (fun w' => w'.cell? ⟨w.heap.size + 1 + 1, 0, Option.none⟩ = some (.int .i64 r.1) /\ w'.cell? ⟨w.heap.size + 1 + 1, 1, Option.none⟩ = some (.slice ra r.2.length rc) /\ Below w.heap.size w w')
    (first | exact HQ.out _ (by assumption) | exact HT.out _ _ _ (by assumption))
    (first
     | (go_at_call 89; refine (QC.out _ hbd).mono ?_; rintro e wn ⟨a', c', rfl, hr, hnew, hb, hcp⟩; have HCP := zSt hcp; have HR3 := zSt hr; have HN := zSt hnew; have kB : Below wq.heap.size wq wn := step hbd hb; have z2 := cell_later kB q2; have z3 := cell_later kB q3; have z4 := zA4 kB q4 q2; have z5 := zA4 kB q5 q2; clear hr hnew hb hcp)
     | fail)
   go_wp2
   have hqs := World.block_lt_of_cell? wq ⟨w.heap.size + 1, 0, Option.none⟩ q2
   have f0 : ((wn.setCell ⟨w.heap.size + 1, 0, Option.none⟩ (.int .i64 r.1)).setCell ⟨w.heap.size + 1, 1, Option.none⟩ (.slice a' r.2.length c')).cell? ⟨w.heap.size + 1, 0, Option.none⟩ = some (.int .i64 r.1) := by
    rw [World.cell?_setCell_other _ _ _ _ (by intro e; simp at e)]
    exact World.cell?_setCell_same _ _ _ z2
   have f1 : ((wn.setCell ⟨w.heap.size + 1, 0, Option.none⟩ (.int .i64 r.1)).setCell ⟨w.heap.size + 1, 1, Option.none⟩ (.slice a' r.2.length c')).cell? ⟨w.heap.size + 1, 1, Option.none⟩ = some (.slice a' r.2.length c') := by
    have y3 : (wn.setCell ⟨w.heap.size + 1, 0, Option.none⟩ (.int .i64 r.1)).cell? ⟨w.heap.size + 1, 1, Option.none⟩ = some (.slice Option.none 0 0) := by
     rw [World.cell?_setCell_other _ _ _ _ (by intro e; simp at e)]
     exact z3
    exact World.cell?_setCell_same _ _ _ y3
   have HF := zSt (show Sep.Reads a' (ivs r.2) ((wn.setCell ⟨w.heap.size + 1, 0, Option.none⟩ (.int .i64 r.1)).setCell ⟨w.heap.size + 1, 1, Option.none⟩ (.slice a' r.2.length c')) from HR3.out.keep fun b' o' e' => by
    have hn := HN.out _ e'
    have hn' : wq.heap.size <= b' := hn
    have hqs' : w.heap.size + 1 < wq.heap.size := hqs
    rw [Below.heap_setCell _ _ _ _ (by simp; omega), Below.heap_setCell _ _ _ _ (by simp; omega)])
   exact bodyPost_ret (v := .tuple #[.agg #[.int .i64 r.1, .slice a' r.2.length c'], .bool true]) (by simp [results, Tryz.results53, go_sem, f0, f1]) rfl ⟨_, _, rfl, HF.out, (HT.out _ _ _ kB).2.2, (fun x hx => by have h1 := HN.out x hx; have hqs' : w.heap.size + 1 < wq.heap.size := hqs; have h2 : wq.heap.size <= x.block := h1; omega), HCP.out⟩
