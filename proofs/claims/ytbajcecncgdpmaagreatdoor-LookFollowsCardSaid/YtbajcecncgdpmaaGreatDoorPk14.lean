/- A part of the proof. -/
import Derived.Test.YtbajcecncgdpmaaGreatDoorPk12
import Derived.Test.YtbajcecncgdpmaaGreatDoorPk13
set_option linter.unusedVariables false
namespace Go.Proofs.YtbajcecncgdpmaaGreatDoor
namespace Lk
open Gr (Gram checkN zAT zAB zAN ofN top zAp zAV zAw zAb zAU zAM)
open Im
open Au
open Fi (zCS)
def byTo (G : Gram) (s : Int) (m : Nat) : List Nat := (List.range m).filter fun k => (zAB G (k : Int)).1 == s
def byL (G : Gram) (s : Int) : List Nat := byTo G s (G.rules.length + 1)
theorem zMx {G : Gram} {s : Int} {m : Nat} (h : (zAB G (m : Int)).1 = s) : byTo G s (m + 1) = byTo G s m ++ [m] := by
 simp [byTo, List.range_succ, List.filter_append, h]
theorem zKK {G : Gram} {s : Int} {m : Nat} (h : (zAB G (m : Int)).1 ≠ s) : byTo G s (m + 1) = byTo G s m := by
 simp [byTo, List.range_succ, List.filter_append, h]
theorem zH4 (G : Gram) (s : Int) (m : Nat) : (byTo G s m).length <= m := by
 unfold byTo
 have := List.length_filter_le (fun k : Nat => (zAB G (k : Int)).1 == s) (List.range m)
 simpa using this
theorem zNn {G : Gram} {s : Int} {m k : Nat} : k ∈ byTo G s m ↔ k < m /\ (zAB G (k : Int)).1 = s := by
 simp [byTo]
theorem zBS {G : Gram} {s : Int} {k : Nat} : k ∈ byL G s ↔ k <= G.rules.length /\ (zAB G (k : Int)).1 = s := by
 unfold byL
 rw [zNn]
 omega
theorem zIx (G : Gram) (s : Int) (m : Nat) : (byTo G s m).Nodup := List.Pairwise.filter _ List.nodup_range
theorem zGD {G : Gram} {s : Int} (hs : s ≠ 0) {k : Nat} : k ∈ byL G s ↔ k ∈ ofN G s := by
 rw [zBS, zAp]
 constructor
 ·rintro ⟨h1, h2⟩
  by_cases e : k = G.rules.length
  ·subst e
   rw [(zAU G).2] at h2
   exact absurd h2.symm hs
  ·have hk : k < G.rules.length := by omega
   rw [(zAb hk).2] at h2
   exact ⟨hk, by rw [zAV hk]; exact h2⟩
 ·rintro ⟨h1, h2⟩
  rw [zAV h1] at h2
  exact ⟨Nat.le_of_lt h1, by rw [(zAb h1).2]; exact h2⟩
theorem zAu {G : Gram} (hv : checkN G = 0) {k : Nat} (hk : k <= G.rules.length) : (k = G.rules.length /\ (zAB G (k : Int)).1 = 0) \/ (k < G.rules.length /\ (G.terms.length : Int) < (zAB G (k : Int)).1 /\ (zAB G (k : Int)).1 <= (top G : Int)) := by
 by_cases e : k = G.rules.length
 ·exact .inl ⟨e, by rw [e, (zAU G).2]⟩
 ·have hk : k < G.rules.length := by omega
  have h1 := zAw (zAT hv).2.2.2.1 hk
  rw [zAV hk] at h1
  have := zAM.1 h1
  refine .inr ⟨hk, ?_, ?_⟩
  ·rw [(zAb hk).2]; omega
  ·rw [(zAb hk).2]; unfold top; omega
theorem zH3 {G : Gram} (hv : checkN G = 0) {k : Nat} (h : k ∈ byL G 0) : k = G.rules.length := by
 obtain ⟨h1, h2⟩ := zBS.1 h
 rcases zAu hv h1 with ⟨e, _⟩ | ⟨_, e, _⟩
 ·exact e
 ·omega
def hd (G : Gram) (s : Int) : Itm := ((((byL G s).headD 0 : Nat) : Int), 0)
def rep (G : Gram) (x : Itm) : Itm := if x.2 = 0 then hd G (zAB G x.1).1 else x
theorem zBw {G : Gram} {x : Itm} (h : x.2 ≠ 0) : rep G x = x := if_neg h
theorem zBx {G : Gram} {x : Itm} (h : x.2 = 0) : rep G x = hd G (zAB G x.1).1 := if_pos h
theorem zBq {G : Gram} {k : Nat} (hk : k <= G.rules.length) : (byL G (zAB G (k : Int)).1).headD 0 ∈ byL G (zAB G (k : Int)).1 := by
 have : k ∈ byL G (zAB G (k : Int)).1 := zBS.2 ⟨hk, rfl⟩
 cases h : byL G (zAB G (k : Int)).1 with
 | nil => rw [h] at this; cases this
 | cons a l => exact List.mem_cons_self ..
theorem head_ne {G : Gram} {s : Int} (h : byL G s ≠ []) : (byL G s).headD 0 ∈ byL G s := by
 cases e : byL G s with
 | nil => exact absurd e h
 | cons a l => exact List.mem_cons_self ..
theorem zDi {G : Gram} {s : Int} {r : Nat} (h : r ∈ byL G s) : rep G ((r : Int), 0) = hd G s := by
 rw [zBx rfl, (zBS.1 h).2]
theorem zO5 {G : Gram} {s : Int} (h : byL G s ≠ []) : rep G (hd G s) = hd G s := zDi (head_ne h)
theorem zQa {G : Gram} {x : Itm} (h : zAN G x.1 = true) : rep G (rep G x) = rep G x := by
 by_cases e : x.2 = 0
 ·unfold zAN at h
  obtain ⟨h1, h2⟩ := of_decide_eq_true h
  obtain ⟨k, hk⟩ := Int.eq_ofNat_of_zero_le h1
  rw [zBx e]
  refine zO5 fun q => ?_
  have := zBq (G := G) (k := k) (by omega)
  rw [← hk, q] at this
  cases this
 ·rw [zBw e, zBw e]
theorem zIB {G : Gram} {s : Int} (h : byL G s ≠ []) : zAG G (hd G s) = true := zAv (zBS.1 (head_ne h)).1
theorem zL4 {G : Gram} {x : Itm} (h : zAG G x = true) : zAG G (rep G x) = true := by
 by_cases e : x.2 = 0
 ·obtain ⟨⟨h1, h2⟩, _⟩ := zAK.1 h
  obtain ⟨k, hk⟩ := Int.eq_ofNat_of_zero_le h1
  rw [zBx e]
  refine zIB fun q => ?_
  have := zBq (G := G) (k := k) (by omega)
  rw [← hk, q] at this
  cases this
 ·rw [zBw e]
  exact h
theorem zIG {G : Gram} {q : Whole} (hv : checkN G = 0) {i : Nat} {x : Itm} {t : Int} (hx : zAN G x.1 = true) : La G q i (rep G x) t ↔ La G q i x t := by
 by_cases e : x.2 = 0
 ·obtain ⟨r, d⟩ := x
  dsimp only at e hx
  subst e
  unfold zAN at hx
  obtain ⟨h1, h2⟩ := of_decide_eq_true hx
  obtain ⟨k, rfl⟩ := Int.eq_ofNat_of_zero_le h1
  have hk : k <= G.rules.length := by omega
  have hm := zBq (G := G) hk
  have e1 : rep G ((k : Int), 0) = ((((byL G (zAB G (k : Int)).1).headD 0 : Nat) : Int), 0) := rfl
  rw [e1]
  generalize (byL G (zAB G (k : Int)).1).headD 0 = k0 at hm
  obtain ⟨m1, m2⟩ := zBS.1 hm
  have key : ∀ a b : Nat, a <= G.rules.length -> b <= G.rules.length -> (zAB G (a : Int)).1 = (zAB G (b : Int)).1 -> La G q i ((a : Int), 0) t -> La G q i ((b : Int), 0) t := by
   intro a b ha hb hab hl
   generalize hy : (((a : Int), (0 : Int)) : Itm) = y at hl
   cases hl with
   | start =>
    injection hy with hy _
    have ea : a = G.rules.length := by omega
    subst ea
    rw [(zAU G).2] at hab
    rcases zAu hv hb with ⟨e, _⟩ | ⟨_, e, _⟩
    ·subst e; exact .start
    ·omega
   | move h0 hb0 _ =>
    injection hy with _ hy
    have := (zAK.1 (zAa.1 hb0).1).2.1
    omega
   | opens h0 hb0 hr hl =>
    injection hy with hy _
    rename_i r y t0 _
    obtain rfl : a = r := by omega
    obtain ⟨a1, a2⟩ := zAp.1 hr
    rw [zAV a1] at a2
    rw [(zAb a1).2] at hab
    refine .opens h0 hb0 (zAp.2 ?_) hl
    rcases zAu hv hb with ⟨e, e2⟩ | ⟨e, e2, _⟩
    ·rcases zAu hv ha with ⟨e3, _⟩ | ⟨e3, e4, _⟩
     ·omega
     ·rw [(zAb a1).2] at e4
      omega
    ·refine ⟨e, ?_⟩
     rw [zAV e]
     rw [(zAb e).2] at hab
     rw [← hab]
     exact a2
  exact ⟨key _ _ m1 hk m2, key _ _ hk m1 m2.symm⟩
 ·rw [zBw e]
def cloL (G : Gram) (K : List Itm) (ss : List Int) : List Itm := K ++ ss.flatMap fun s => (byL G s).map fun k : Nat => (((k : Int), 0) : Itm)
theorem zNo {G : Gram} {K : List Itm} {ss : List Int} {x : Itm} : x ∈ cloL G K ss ↔ x ∈ K \/ ∃ s ∈ ss, ∃ k ∈ byL G s, x = ((k : Int), 0) := by
 unfold cloL
 rw [List.mem_append, List.mem_flatMap]
 constructor
 ·rintro (h | ⟨s, h1, h2⟩)
  ·exact .inl h
  ·obtain ⟨k, h3, h4⟩ := List.mem_map.1 h2
   exact .inr ⟨s, h1, k, h3, h4.symm⟩
 ·rintro (h | ⟨s, h1, k, h2, rfl⟩)
  ·exact .inl h
  ·exact .inr ⟨s, h1, List.mem_map.2 ⟨k, h2, rfl⟩⟩
def zBd (q : Whole) (i : Nat) : List Int := (q.2.getD i []).map Prod.fst
theorem zDe {G : Gram} {q : Whole} (D : Done G q) {i : Nat} (hi : i < q.1.length) {s : Int} : s ∈ zBd q i ↔ ∃ m : Nat, m < top G /\ s = ((m + 1 : Nat) : Int) /\ stL G (clL G (zAF q.1 i)) s ≠ [] := by
 unfold zBd
 have hl : i < q.2.length := by rw [D.all]; exact hi
 rw [D.ok.trans i hl, List.mem_map]
 constructor
 ·rintro ⟨⟨a, b⟩, h, rfl⟩
  obtain ⟨m, h1, rfl, h2, _⟩ := zAj.1 h
  exact ⟨m, h1, rfl, h2⟩
 ·rintro ⟨m, h1, rfl, h2⟩
  exact ⟨_, zAj.2 ⟨m, h1, rfl, h2, rfl⟩, rfl⟩
theorem zDs {G : Gram} {q : Whole} (D : Done G q) (hv : checkN G = 0) {i : Nat} (hi : i < q.1.length) (x : Itm) : x ∈ cloL G (zAF q.1 i) (zBd q i) ↔ Clo G (zAF q.1 i) x := by
 rw [zNo]
 constructor
 ·rintro (h | ⟨s, h1, k, h2, rfl⟩)
  ·exact .of h ((D.ok.good _ (zAf hi)).2.2 _ h)
  ·obtain ⟨m, hm, rfl, hn⟩ := (zDe D hi).1 h1
   obtain ⟨y, hy⟩ := List.exists_mem_of_ne_nil _ hn
   obtain ⟨z, z1, z2, z3, _⟩ := ((zD2 _ _ _).2 y).1 hy
   refine .next (((zEY _ _).2 z).1 z1) z2 ?_
   rw [z3]
   exact (zGD (by omega)).1 h2
 ·intro h
  cases h with
  | of h _ => exact .inl h
  | next hc hb hr =>
   rename_i y r
   refine .inr ?_
   obtain ⟨yr, yd⟩ := y
   obtain ⟨b1, b2⟩ := zAa.1 hb
   obtain ⟨c1, c2⟩ := zAK.1 b1
   dsimp only at c1 c2 b2
   obtain ⟨n, rfl⟩ := Int.eq_ofNat_of_zero_le c1.1
   obtain ⟨d, rfl⟩ := Int.eq_ofNat_of_zero_le c2.1
   have hrb : zAN G (n : Int) = true := by
    unfold zAN
    exact decide_eq_true c1
   have hd : d < (zAB G (n : Int)).2.length := by
    unfold rlen at b2
    omega
   obtain ⟨s1, s2⟩ := zBL hrb hd
   obtain ⟨k1, k2⟩ := zAy hv hrb hd
   obtain ⟨m, hm⟩ := Int.eq_ofNat_of_zero_le (show 0 <= (zAB G (n : Int)).2[d] - 1 by omega)
   have es : behV G ((n : Int), (d : Int)) = ((m + 1 : Nat) : Int) := by rw [s2]; omega
   rw [es] at hr
   refine ⟨((m + 1 : Nat) : Int), (zDe D hi).2 ⟨m, by omega, rfl, fun e => ?_⟩, r, (zGD (by omega)).2 hr, rfl⟩
   have : ((n : Int), ((d : Int) + 1)) ∈ stL G (clL G (zAF q.1 i)) ((m + 1 : Nat) : Int) := ((zD2 _ _ _).2 _).2 ⟨((n : Int), (d : Int)), ((zEY _ _).2 _).2 hc, s1, es, rfl⟩
   rw [e] at this
   cases this
theorem zKW {G : Gram} {q : Whole} (D : Done G q) (hv : checkN G = 0) {i : Nat} (hi : i < q.1.length) {x : Itm} (hx : Clo G (zAF q.1 i) x) (hb : behB G x = true) : ∃ j : Nat, j < q.1.length /\ leads (q.2.getD i []) (behV G x) = (j : Int) /\ (x.1, x.2 + 1) ∈ zAF q.1 j := by
 obtain ⟨yr, yd⟩ := x
 obtain ⟨b1, b2⟩ := zAa.1 hb
 obtain ⟨c1, c2⟩ := zAK.1 b1
 dsimp only at c1 c2 b2
 obtain ⟨n, rfl⟩ := Int.eq_ofNat_of_zero_le c1.1
 obtain ⟨d, rfl⟩ := Int.eq_ofNat_of_zero_le c2.1
 have hrb : zAN G (n : Int) = true := by
  unfold zAN
  exact decide_eq_true c1
 have hd : d < (zAB G (n : Int)).2.length := by
  unfold rlen at b2
  omega
 obtain ⟨j, h1, h2, h3⟩ := D.one hv hi hrb hd (((zEY _ _).2 _).2 hx)
 exact ⟨j, h1, by rw [(zBL hrb hd).2]; exact h2, by simpa using h3⟩
theorem zCs {G : Gram} {q : Whole} (D : Done G q) {j : Nat} (h0 : 0 < j) (hj : j < q.1.length) {y : Itm} (hy : y ∈ zAF q.1 j) : ∃ (i : Nat) (x : Itm), i < q.1.length /\ Clo G (zAF q.1 i) x /\ behB G x = true /\ leads (q.2.getD i []) (behV G x) = (j : Int) /\ y = (x.1, x.2 + 1) := by
 obtain ⟨i, s, h1, h2, h3, h4⟩ := D.ok.early j h0 hj
 rw [h4] at hy
 obtain ⟨x, x1, x2, x3, x4⟩ := ((zD2 _ _ _).2 y).1 hy
 refine ⟨i, x, by omega, ((zEY _ _).2 x).1 x1, x2, ?_, x4⟩
 rw [x3, D.ok.trans i h2]
 have hn : stL G (clL G (zAF q.1 i)) ((s + 1 : Nat) : Int) ≠ [] := fun e => by rw [← h4] at e; exact (D.ok.good _ (zAf hj)).1 e
 rw [zD6 h3 hn]
 congr 1
 rw [← h4, zA8 hj]
 exact D.ok.nodup.idxOf_getElem j hj
theorem zBi {α : Type} [DecidableEq α] : ∀ {l M : List α}, l.Nodup -> (∀ x ∈ l, x ∈ M) -> l.length <= M.length
 | [], _, _, _ => Nat.zero_le _
 | x :: l, M, h, k => by
  have h' := List.nodup_cons.1 h
  have hm := k x (List.mem_cons_self ..)
  have := zBi (M := M.erase x) h'.2 fun z hz => (List.mem_erase_of_ne (fun e => h'.1 (by rw [← e]; exact hz))).2 (k z (List.mem_cons_of_mem _ hz))
  rw [List.length_erase_of_mem hm] at this
  have := List.length_pos_of_mem hm
  rw [List.length_cons]
  omega
abbrev Pl := Nat × Itm
structure Way where
 v : Value
 f : Nat -> Bool
 e : Bool
 «to» : Nat
structure Nt where
 pls : List Pl
 D : Nat -> Nat
 E : Nat -> Nat
 Ys : Nat -> List Way
 wv : Nat -> Value
 S : Nat -> Nat -> Bool
 Wt : Nat -> Bool
 qs : List Nat
def Way.Ov (y : Way) : Prop := y.e = true /\ ∀ u, y.f u = false
def Way.In (G : Gram) (x : Itm) (y : Way) : Prop := (y.e = true ↔ ∀ z ∈ zFn G x, Fi.Can G z) /\ ∀ u : Nat, y.f u = true ↔ zCS G (zFn G x) (u : Int)
def zFy (G : Gram) (q : Whole) (pls : List Pl) (i : Nat) (x : Itm) (y : Way) : Prop :=
 (∃ j : Nat, leads (q.2.getD i []) (behV G x) = (j : Int) /\ pls[y.to]? = some (j, (x.1, x.2 + 1)) /\ y.Ov) \/ (byL G (behV G x) ≠ [] /\ pls[y.to]? = some (i, hd G (behV G x)) /\ y.In G x)
structure Lk1 (G : Gram) (q : Whole) (N : Nt) : Prop where
 nd : N.pls.Nodup
 can : ∀ p ∈ N.pls, p.1 < q.1.length /\ rep G p.2 = p.2 /\ zAG G p.2 = true
 sound : ∀ (k i : Nat) (c : Itm), N.pls[k]? = some (i, c) -> ∀ y ∈ N.Ys k, ∃ x, Clo G (zAF q.1 i) x /\ rep G x = c /\ behB G x = true /\ zFy G q N.pls i x y
def Lkd (G : Gram) (q : Whole) (N : Nt) (i : Nat) (x : Itm) : Prop :=
 behB G x = true -> ∃ k : Nat, N.pls[k]? = some (i, rep G x) /\ (∃ j : Nat, leads (q.2.getD i []) (behV G x) = (j : Int) /\ ∃ y ∈ N.Ys k, N.pls[y.to]? = some (j, (x.1, x.2 + 1)) /\ y.Ov) /\ (byL G (behV G x) ≠ [] -> ∃ y ∈ N.Ys k, N.pls[y.to]? = some (i, hd G (behV G x)) /\ y.In G x)
structure Gro (N M : Nt) : Prop where
 pls : ∀ (k : Nat) (p : Pl), N.pls[k]? = some p -> M.pls[k]? = some p
 ys : ∀ k, k < N.pls.length -> ∀ y ∈ N.Ys k, y ∈ M.Ys k
theorem zAX {α : Type} {l : List α} {k : Nat} {p : α} (h : l[k]? = some p) : k < l.length := by
 rcases Nat.lt_or_ge k l.length with q | q
 ·exact q
 ·rw [List.getElem?_eq_none q] at h
  cases h
theorem Gro.refl (N : Nt) : Gro N N := ⟨fun _ _ h => h, fun _ _ _ h => h⟩
theorem Gro.len {N M : Nt} (h : Gro N M) : N.pls.length <= M.pls.length := by
 rcases Nat.lt_or_ge M.pls.length N.pls.length with q | q
 ·have := h.pls M.pls.length _ (List.getElem?_eq_getElem q)
  rw [List.getElem?_eq_none (Nat.le_refl _)] at this
  cases this
 ·exact q
theorem Gro.trans {N M L : Nt} (h : Gro N M) (k : Gro M L) : Gro N L := ⟨fun a p e => k.pls a p (h.pls a p e), fun a ha y hy => k.ys a (Nat.lt_of_lt_of_le ha h.len) y (h.ys a ha y hy)⟩
theorem Lkd.gro {G : Gram} {q : Whole} {N M : Nt} {i : Nat} {x : Itm} (h : Lkd G q N i x) (g : Gro N M) : Lkd G q M i x := fun hb => by
 obtain ⟨k, h1, ⟨j, h2, y, h3, h4, h5⟩, h6⟩ := h hb
 have hk := zAX h1
 refine ⟨k, g.pls _ _ h1, ⟨j, h2, y, g.ys k hk y h3, g.pls _ _ h4, h5⟩, fun hn => ?_⟩
 obtain ⟨z, z1, z2, z3⟩ := h6 hn
 exact ⟨z, g.ys k hk z z1, g.pls _ _ z2, z3⟩
theorem zFy.gro {G : Gram} {q : Whole} {a b : List Pl} {i : Nat} {x : Itm} {y : Way} (h : zFy G q a i x y) (g : ∀ (k : Nat) (p : Pl), a[k]? = some p -> b[k]? = some p) : zFy G q b i x y := by
 rcases h with ⟨j, h1, h2, h3⟩ | ⟨h1, h2, h3⟩
 ·exact .inl ⟨j, h1, g _ _ h2, h3⟩
 ·exact .inr ⟨h1, g _ _ h2, h3⟩
def Nt.cell (N : Nt) (p : Pl) (d e : Nat) : Nt :=
 { pls := N.pls ++ [p], D := upd N.D N.pls.length d, E := upd N.E N.pls.length e, Ys := upd N.Ys N.pls.length [], wv := upd N.wv N.pls.length (.slice none 0 0), S := upd N.S N.pls.length (fun _ => false), Wt := upd N.Wt N.pls.length false, qs := N.qs }
theorem Nt.cell_gro (N : Nt) (p : Pl) (d e : Nat) : Gro N (N.cell p d e) := by
 refine ⟨fun k r h => ?_, fun k hk y hy => ?_⟩
 ·show (N.pls ++ [p])[k]? = some r
  rw [List.getElem?_append_left (zAX h)]
  exact h
 ·show y ∈ upd N.Ys N.pls.length [] k
  rw [zAC (by omega)]
  exact hy
theorem Lk1.cell {G : Gram} {q : Whole} {N : Nt} (h : Lk1 G q N) {i : Nat} {c : Itm} (hn : (i, c) ∉ N.pls) (hi : i < q.1.length) (hc : rep G c = c) (hr : zAG G c = true) (d e : Nat) : Lk1 G q (N.cell (i, c) d e) := by
 refine ⟨?_, fun p hp => ?_, fun k j x hk y hy => ?_⟩
 ·show (N.pls ++ [(i, c)]).Nodup
  rw [List.nodup_append]
  refine ⟨h.nd, by simp, fun a ha b hb => ?_⟩
  rw [List.mem_singleton] at hb
  subst hb
  exact fun e => hn (e ▸ ha)
 ·rcases List.mem_append.1 (show p ∈ N.pls ++ [(i, c)] from hp) with k | k
  ·exact h.can p k
  ·rw [List.mem_singleton] at k
   subst k
   exact ⟨hi, hc, hr⟩
 ·have hy' : y ∈ upd N.Ys N.pls.length [] k := hy
  by_cases ek : k = N.pls.length
  ·subst ek
   rw [upd_same] at hy'
   cases hy'
  ·rw [zAC ek] at hy'
   have hk' : (N.pls ++ [(i, c)])[k]? = some (j, x) := hk
   have hl := zAX hk'
   rw [List.length_append] at hl
   simp only [List.length_cons, List.length_nil] at hl
   rw [List.getElem?_append_left (by omega)] at hk'
   obtain ⟨z, z1, z2, z3, z4⟩ := h.sound k j x hk' y hy'
   exact ⟨z, z1, z2, z3, z4.gro fun a p e' => (N.cell_gro (i, c) d e).pls a p e'⟩
def Nt.lead (N : Nt) (k : Nat) (y : Way) (v : Value) : Nt := { N with Ys := upd N.Ys k (N.Ys k ++ [y]), wv := upd N.wv k v }
theorem Nt.lead_gro (N : Nt) (k : Nat) (y : Way) (v : Value) : Gro N (N.lead k y v) := by
 refine ⟨fun _ _ h => h, fun a ha z hz => ?_⟩
 show z ∈ upd N.Ys k (N.Ys k ++ [y]) a
 by_cases e : a = k
 ·subst e
  rw [upd_same]
  exact List.mem_append_left _ hz
 ·rw [zAC e]
  exact hz
theorem Nt.lead_mem (N : Nt) (k : Nat) (y : Way) (v : Value) : y ∈ (N.lead k y v).Ys k := by
 show y ∈ upd N.Ys k (N.Ys k ++ [y]) k
 rw [upd_same]
 exact List.mem_append_right _ (List.mem_singleton.2 rfl)
theorem Lk1.lead {G : Gram} {q : Whole} {N : Nt} (h : Lk1 G q N) {k i : Nat} {x : Itm} (hk : N.pls[k]? = some (i, rep G x)) (hx : Clo G (zAF q.1 i) x) (hb : behB G x = true) {y : Way} (hy : zFy G q N.pls i x y) (v : Value) : Lk1 G q (N.lead k y v) := by
 refine ⟨h.nd, h.can, fun a j c ha z hz => ?_⟩
 have hz' : z ∈ upd N.Ys k (N.Ys k ++ [y]) a := hz
 by_cases e : a = k
 ·subst e
  rw [upd_same] at hz'
  rcases List.mem_append.1 hz' with r | r
  ·exact h.sound a j c ha z r
  ·rw [List.mem_singleton] at r
   subst r
   have ha' : N.pls[a]? = some (j, c) := ha
   rw [hk] at ha'
   injection ha' with ha'
   injection ha' with e1 e2
   subst e1 e2
   exact ⟨x, hx, rfl, hb, hy⟩
 ·rw [zAC e] at hz'
  exact h.sound a j c ha z hz'
theorem Lk1.len {G : Gram} {q : Whole} {N : Nt} (h : Lk1 G q N) {A : List Itm} (hA : ∀ x, zAG G x = true -> x ∈ A) : N.pls.length <= q.1.length * A.length := by
 have h1 : N.pls.length <= ((List.range q.1.length).flatMap fun i => A.map fun x => ((i, x) : Pl)).length := by
  refine zBi h.nd fun p hp => ?_
  obtain ⟨k1, _, k3⟩ := h.can p hp
  exact List.mem_flatMap.2 ⟨p.1, List.mem_range.2 k1, List.mem_map.2 ⟨p.2, hA _ k3, rfl⟩⟩
 have h2 : ∀ l : List Nat, (l.flatMap fun i => A.map fun x => ((i, x) : Pl)).length = l.length * A.length := fun l => by
  induction l with
  | nil => simp
  | cons a l ih => rw [List.flatMap_cons, List.length_append, ih, List.length_map, List.length_cons, Nat.succ_mul]; omega
 rw [h2, List.length_range] at h1
 exact h1
end Lk
namespace Lk
open Gr (Gram checkN zAT zAB zAN nonB zAp zAw zAU zAM)
open Im
open Au
open Bt (Upto orr gains)
theorem zB8 {B C : Nat -> Bool} {n : Nat} : gains B n C = true ↔ ∃ i, i < n /\ C i = true /\ B i = false := by
 unfold gains
 rw [List.any_eq_true]
 constructor
 ·rintro ⟨i, h1, h2⟩
  rw [Bool.and_eq_true, Bool.not_eq_true'] at h2
  exact ⟨i, List.mem_range.1 h1, h2.1, h2.2⟩
 ·rintro ⟨i, h1, h2, h3⟩
  exact ⟨i, List.mem_range.2 h1, by rw [h2, h3]; rfl⟩
theorem zPE (B C : Nat -> Bool) (n : Nat) {i : Nat} (h : B i = true) : orr B n C i = true := by
 unfold orr
 rw [h]
 rfl
theorem zLr (B C : Nat -> Bool) (n : Nat) {i : Nat} (h : C i = true) (hi : i < n) : orr B n C i = true := by
 unfold orr
 rw [h]
 simp [hi]
theorem zEC {B C : Nat -> Bool} {n i : Nat} (h : orr B n C i = true) : B i = true \/ (C i = true /\ i < n) := by
 unfold orr at h
 rw [Bool.or_eq_true, Bool.and_eq_true, decide_eq_true_iff] at h
 exact h
theorem zIU {B C : Nat -> Bool} {n : Nat} (h : gains B n C = false) : orr B n C = B := by
 funext i
 cases hb : B i with
 | true => exact zPE B C n hb
 | false =>
  cases ho : orr B n C i with
  | false => rfl
  | true =>
   rcases zEC ho with q | ⟨q1, q2⟩
   ·rw [hb] at q; cases q
   ·rw [zB8.2 ⟨i, q2, q1, hb⟩] at h; cases h
theorem zOD {B C : Nat -> Bool} {n : Nat} (h : Upto B n) : Upto (orr B n C) n := ⟨h.1, fun i hi => by
 cases ho : orr B n C i with
 | false => rfl
 | true =>
  rcases zEC ho with q | ⟨_, q2⟩
  ·rw [h.2 i hi] at q; cases q
  ·omega⟩
def Nt.give (m : Nat) (N : Nt) (k : Nat) (F : Nat -> Bool) : Nt :=
 { N with S := upd N.S k (orr (N.S k) m F), Wt := if gains (N.S k) m F && !N.Wt k then upd N.Wt k true else N.Wt, qs := if gains (N.S k) m F && !N.Wt k then N.qs ++ [k] else N.qs }
def Stl (S : Nat -> Nat -> Bool) (k : Nat) (y : Way) : Prop := (∀ t, y.f t = true -> S y.to t = true) /\ (y.e = true -> ∀ t, S k t = true -> S y.to t = true)
theorem zBO (m : Nat) (N : Nt) (k : Nat) (F : Nat -> Bool) {a t : Nat} (h : N.S a t = true) : (N.give m k F).S a t = true := by
 show upd N.S k (orr (N.S k) m F) a t = true
 by_cases e : a = k
 ·subst e
  rw [upd_same]
  exact zPE _ _ _ h
 ·rw [zAC e]
  exact h
theorem zDx (m : Nat) (N : Nt) (k : Nat) (F : Nat -> Bool) (hF : Upto F m) {t : Nat} (h : F t = true) : (N.give m k F).S k t = true := by
 show upd N.S k (orr (N.S k) m F) k t = true
 rw [upd_same]
 refine zLr _ _ _ h ?_
 rcases Nat.lt_or_ge t m with q | q
 ·exact q
 ·rw [hF.2 t q] at h; cases h
theorem zEv {m : Nat} {N : Nt} {k : Nat} {F : Nat -> Bool} {a t : Nat} (h : (N.give m k F).S a t = true) : N.S a t = true \/ (a = k /\ F t = true) := by
 have h' : upd N.S k (orr (N.S k) m F) a t = true := h
 by_cases e : a = k
 ·subst e
  rw [upd_same] at h'
  exact (zEC h').imp id fun q => ⟨rfl, q.1⟩
 ·rw [zAC e] at h'
  exact .inl h'
theorem zGV {m : Nat} {N : Nt} {k : Nat} {F : Nat -> Bool} (h : gains (N.S k) m F = false) : N.give m k F = N := by
 unfold Nt.give
 rw [h, zIU h]
 have : upd N.S k (N.S k) = N.S := by
  funext a
  by_cases e : a = k
  ·subst e; rw [upd_same]
  ·rw [zAC e]
 rw [this]
 rfl
theorem zPs {m : Nat} {N : Nt} {k : Nat} {F : Nat -> Bool} {a : Nat} (h : N.Wt a = true) : (N.give m k F).Wt a = true := by
 show (if gains (N.S k) m F && !N.Wt k then upd N.Wt k true else N.Wt) a = true
 split
 ·by_cases e : a = k
  ·subst e; rw [upd_same]
  ·rw [zAC e]; exact h
 ·exact h
theorem zI6 {m : Nat} {N : Nt} {k : Nat} {F : Nat -> Bool} (h : gains (N.S k) m F = true) : (N.give m k F).Wt k = true := by
 show (if gains (N.S k) m F && !N.Wt k then upd N.Wt k true else N.Wt) k = true
 rw [h, Bool.true_and]
 cases hw : N.Wt k with
 | true => simpa using hw
 | false =>
  rw [if_pos (by rfl), upd_same]
theorem zEw {m : Nat} {N : Nt} {k : Nat} {F : Nat -> Bool} {a : Nat} (h : a ≠ k) : (N.give m k F).S a = N.S a := zAC h
structure Sp3 (G : Gram) (q : Whole) (m : Nat) (N : Nt) (X : Nat -> List Way) : Prop where
 upto : ∀ k, k < N.pls.length -> Upto (N.S k) m
 snd : ∀ (k i : Nat) (c : Itm), N.pls[k]? = some (i, c) -> ∀ t : Nat, N.S k t = true -> La G q i c (t : Int)
 nd : N.qs.Nodup
 qu : ∀ k, k ∈ N.qs ↔ k < N.pls.length /\ N.Wt k = true
 full : ∀ k, k < N.pls.length -> N.Wt k = true -> ∃ t, N.S k t = true
 set : ∀ k, k < N.pls.length -> N.Wt k = true \/ (∀ t, N.S k t = false) \/ ∀ y ∈ X k, Stl N.S k y
theorem Sp3.give {G : Gram} {q : Whole} {m : Nat} {N : Nt} {X : Nat -> List Way} (h : Sp3 G q m N X) {k : Nat} {i : Nat} {c : Itm} (hk : N.pls[k]? = some (i, c)) {F : Nat -> Bool} (hF : ∀ t : Nat, F t = true -> La G q i c (t : Int)) : Sp3 G q m (N.give m k F) X := by
 have hl := zAX hk
 cases hg : gains (N.S k) m F with
 | false => rw [zGV hg]; exact h
 | true =>
  refine ⟨fun a ha => ?_, fun a j d ha t ht => ?_, ?_, fun a => ?_, fun a ha hw => ?_, fun a ha => ?_⟩
  ·show Upto (upd N.S k (orr (N.S k) m F) a) m
   by_cases e : a = k
   ·subst e
    rw [upd_same]
    exact zOD (h.upto a hl)
   ·rw [zAC e]
    exact h.upto a ha
  ·rcases zEv ht with r | ⟨rfl, r⟩
   ·exact h.snd a j d ha t r
   ·have ha' : N.pls[a]? = some (j, d) := ha
    rw [hk] at ha'
    injection ha' with ha'
    injection ha' with e1 e2
    subst e1 e2
    exact hF t r
  ·show (if gains (N.S k) m F && !N.Wt k then N.qs ++ [k] else N.qs).Nodup
   split
   ·rename_i hc
    rw [Bool.and_eq_true, Bool.not_eq_true'] at hc
    rw [List.nodup_append]
    refine ⟨h.nd, by simp, fun a ha b hb => ?_⟩
    rw [List.mem_singleton] at hb
    subst hb
    intro e
    subst e
    have := ((h.qu a).1 ha).2
    rw [hc.2] at this
    cases this
   ·exact h.nd
  ·show a ∈ (if gains (N.S k) m F && !N.Wt k then N.qs ++ [k] else N.qs) ↔ a < N.pls.length /\ (if gains (N.S k) m F && !N.Wt k then upd N.Wt k true else N.Wt) a = true
   split
   ·rename_i hc
    rw [List.mem_append, List.mem_singleton, h.qu]
    by_cases e : a = k
    ·subst e
     rw [upd_same]
     exact ⟨fun _ => ⟨hl, rfl⟩, fun _ => .inr rfl⟩
    ·rw [zAC e]
     constructor
     ·rintro (r | r)
      ·exact r
      ·exact absurd r e
     ·exact .inl
   ·exact h.qu a
  ·by_cases e : a = k
   ·subst e
    obtain ⟨t, _, h2, _⟩ := zB8.1 hg
    obtain ⟨t, h1, h2, h3⟩ := zB8.1 hg
    refine ⟨t, ?_⟩
    show upd N.S a (orr (N.S a) m F) a t = true
    rw [upd_same]
    exact zLr _ _ _ h2 h1
   ·have hw' : N.Wt a = true := by
     have hw1 : (if gains (N.S k) m F && !N.Wt k then upd N.Wt k true else N.Wt) a = true := hw
     split at hw1
     ·rw [zAC e] at hw1
      exact hw1
     ·exact hw1
    obtain ⟨t, ht⟩ := h.full a ha hw'
    exact ⟨t, zBO _ _ _ _ ht⟩
  ·by_cases e : a = k
   ·subst e
    exact .inl (zI6 hg)
   ·rcases h.set a ha with r | r | r
    ·exact .inl (zPs r)
    ·exact .inr (.inl fun t => by rw [zEw e]; exact r t)
    ·refine .inr (.inr fun y hy => ⟨fun t ht => zBO _ _ _ _ ((r y hy).1 t ht), fun he t ht => ?_⟩)
     rw [zEw e] at ht
     exact zBO _ _ _ _ ((r y hy).2 he t ht)
def Nt.pop (N : Nt) (k : Nat) : Nt := { N with Wt := upd N.Wt k false, qs := N.qs.dropLast }
theorem Sp3.pop {G : Gram} {q : Whole} {m : Nat} {N : Nt} {X : Nat -> List Way} (h : Sp3 G q m N X) {l : List Nat} {k : Nat} (e : N.qs = l ++ [k]) : k < N.pls.length /\ (∃ t, N.S k t = true) /\ Sp3 G q m (N.pop k) (upd X k []) := by
 have hk := (h.qu k).1 (by rw [e]; exact List.mem_append_right _ (List.mem_singleton.2 rfl))
 have hnd := h.nd
 rw [e, List.nodup_append] at hnd
 have hd : N.qs.dropLast = l := by rw [e]; simp
 refine ⟨hk.1, h.full k hk.1 hk.2, h.upto, h.snd, ?_, fun a => ?_, fun a ha hw => ?_, fun a ha => ?_⟩
 ·show N.qs.dropLast.Nodup
  rw [hd]
  exact hnd.1
 ·show a ∈ N.qs.dropLast ↔ a < N.pls.length /\ upd N.Wt k false a = true
  rw [hd]
  by_cases ea : a = k
  ·subst ea
   rw [upd_same]
   exact ⟨fun q => absurd rfl (hnd.2.2 a q a (List.mem_singleton.2 rfl)), fun q => by cases q.2⟩
  ·rw [zAC ea, ← h.qu, e, List.mem_append, List.mem_singleton]
   exact ⟨.inl, fun q => q.resolve_right ea⟩
 ·have hw' : upd N.Wt k false a = true := hw
  by_cases ea : a = k
  ·subst ea
   rw [upd_same] at hw'
   cases hw'
  ·rw [zAC ea] at hw'
   exact h.full a ha hw'
 ·show upd N.Wt k false a = true \/ (∀ t, N.S a t = false) \/ ∀ y ∈ upd X k [] a, Stl N.S a y
  by_cases ea : a = k
  ·subst ea
   rw [upd_same, upd_same]
   exact .inr (.inr fun y hy => by cases hy)
  ·rw [zAC ea, zAC ea]
   exact h.set a ha
def Nt.go (m : Nat) (N : Nt) (k : Nat) (y : Way) : Nt := if y.e = true then (N.give m y.to y.f).give m y.to ((N.give m y.to y.f).S k) else N.give m y.to y.f
theorem zSY (m : Nat) (N : Nt) (k : Nat) (y : Way) {a t : Nat} (h : N.S a t = true) : (N.go m k y).S a t = true := by
 unfold Nt.go
 split
 ·exact zBO _ _ _ _ (zBO _ _ _ _ h)
 ·exact zBO _ _ _ _ h
theorem zRT {m : Nat} {N : Nt} {k : Nat} {y : Way} (hf : Upto y.f m) (hS : Upto ((N.give m y.to y.f).S k) m) : Stl (N.go m k y).S k y := by
 unfold Nt.go
 split
 ·refine ⟨fun t ht => zBO _ _ _ _ (zDx _ _ _ _ hf ht), fun _ t ht => ?_⟩
  rcases zEv ht with r | ⟨rfl, r⟩
  ·exact zDx _ _ _ _ hS r
  ·exact zDx _ _ _ _ hS r
 ·rename_i he
  exact ⟨fun t ht => zDx _ _ _ _ hf ht, fun e => absurd e he⟩
theorem Sp3.go {G : Gram} {q : Whole} {m : Nat} {N : Nt} {X : Nat -> List Way} (h : Sp3 G q m N X) {k : Nat} (hk : k < N.pls.length) (h0 : ∃ t, N.S k t = true) {y : Way} (hto : y.to < N.pls.length) (hf : Upto y.f m)
  (hF : ∀ (i : Nat) (c : Itm), N.pls[y.to]? = some (i, c) -> ∀ t : Nat, y.f t = true -> La G q i c (t : Int)) (hE : y.e = true -> ∀ (i : Nat) (c : Itm) (j : Nat) (d : Itm), N.pls[y.to]? = some (i, c) -> N.pls[k]? = some (j, d) -> ∀ t : Nat, La G q j d (t : Int) -> La G q i c (t : Int)) :
  Sp3 G q m (N.go m k y) (upd X k (X k ++ [y])) := by
 obtain ⟨⟨i, c⟩, hp⟩ : ∃ p, N.pls[y.to]? = some p := ⟨_, List.getElem?_eq_getElem hto⟩
 obtain ⟨⟨j, d⟩, hq⟩ : ∃ p, N.pls[k]? = some p := ⟨_, List.getElem?_eq_getElem hk⟩
 have h1 := h.give hp (hF i c hp)
 have hS : Upto ((N.give m y.to y.f).S k) m := h1.upto k hk
 have st := zRT (N := N) (k := k) hf hS
 have h2 : Sp3 G q m (N.go m k y) X := by
  unfold Nt.go
  split
  ·rename_i he
   exact h1.give (k := y.to) (i := i) (c := c) hp fun t ht => hE he i c j d hp hq t (h1.snd k j d hq t ht)
  ·exact h1
 refine ⟨h2.upto, h2.snd, h2.nd, h2.qu, h2.full, fun a ha => ?_⟩
 by_cases e : a = k
 ·subst e
  rw [upd_same]
  refine (h2.set a ha).imp id fun r => r.imp id fun r z hz => ?_
  rcases List.mem_append.1 hz with r2 | r2
  ·exact r z r2
  ·rw [List.mem_singleton] at r2
   subst r2
   exact st
 ·rw [zAC e]
  exact h2.set a ha
theorem zRS (m : Nat) (N : Nt) (k : Nat) (y : Way) : (N.go m k y).pls = N.pls /\ (N.go m k y).Ys = N.Ys /\ (N.go m k y).D = N.D /\ (N.go m k y).E = N.E /\ (N.go m k y).wv = N.wv := by
 unfold Nt.go
 split <;> exact ⟨rfl, rfl, rfl, rfl, rfl⟩
def Nt.lack (m : Nat) (N : Nt) : Nat := ((List.range N.pls.length).flatMap fun k => (List.range m).map fun t => (k, t)).countP fun e => !N.S e.1 e.2
theorem zGM {α : Type} {p r : α -> Bool} : ∀ {l : List α}, (∀ x ∈ l, p x = true -> r x = true) -> l.countP p <= l.countP r /\ ((∃ x ∈ l, p x = false /\ r x = true) -> l.countP p < l.countP r)
 | [], _ => ⟨Nat.le_refl _, fun ⟨x, h, _⟩ => by cases h⟩
 | y :: l, h => by
  obtain ⟨i1, i2⟩ := zGM (l := l) (p := p) (r := r) fun x hx => h x (List.mem_cons_of_mem _ hx)
  have hy := h y (List.mem_cons_self ..)
  rw [List.countP_cons, List.countP_cons]
  refine ⟨?_, ?_⟩
  ·cases e1 : p y <;> cases e2 : r y <;> simp_all <;> omega
  ·rintro ⟨x, h1, h2, h3⟩
   rcases List.mem_cons.1 h1 with e | e
   ·subst e
    rw [h2, h3]
    simp
    omega
   ·have := i2 ⟨x, e, h2, h3⟩
    cases e1 : p y <;> cases e2 : r y <;> simp_all <;> omega
theorem zLH {m : Nat} {N : Nt} {k : Nat} (hk : k < N.pls.length) (F : Nat -> Bool) : (N.give m k F).lack m <= N.lack m /\ (gains (N.S k) m F = true -> (N.give m k F).lack m < N.lack m) := by
 have hc := zGM (l := (List.range N.pls.length).flatMap fun k => (List.range m).map fun t => (k, t)) (p := fun e : Nat × Nat => !(N.give m k F).S e.1 e.2) (r := fun e => !N.S e.1 e.2) (fun e _ h => by
  rw [Bool.not_eq_true'] at h ⊢
  cases e2 : N.S e.1 e.2 with
  | false => rfl
  | true => rw [zBO m N k F e2] at h; cases h)
 refine ⟨hc.1, fun hg => hc.2 ?_⟩
 obtain ⟨t, h1, h2, h3⟩ := zB8.1 hg
 refine ⟨(k, t), List.mem_flatMap.2 ⟨k, List.mem_range.2 hk, List.mem_map.2 ⟨t, List.mem_range.2 h1, rfl⟩⟩, ?_, ?_⟩
 ·dsimp only
  have : (N.give m k F).S k t = true := by
   show upd N.S k (orr (N.S k) m F) k t = true
   rw [upd_same]
   exact zLr _ _ _ h2 h1
  rw [this]
  rfl
 ·dsimp only
  rw [h3]
  rfl
def Nt.num (m : Nat) (N : Nt) : Nat := N.lack m * (N.pls.length + 1) + N.qs.length
theorem zIQ {m : Nat} {N : Nt} {k : Nat} (hk : k < N.pls.length) (hq : N.qs.length <= N.pls.length) (F : Nat -> Bool) : (N.give m k F).num m <= N.num m := by
 cases hg : gains (N.S k) m F with
 | false => rw [zGV hg]; exact Nat.le_refl _
 | true =>
  have h1 := (zLH (m := m) hk F).2 hg
  have h2 : (N.give m k F).qs.length <= N.qs.length + 1 := by
   show (if gains (N.S k) m F && !N.Wt k then N.qs ++ [k] else N.qs).length <= _
   split <;> simp
  have h3 : (N.give m k F).pls = N.pls := rfl
  unfold Nt.num
  rw [h3]
  generalize (N.give m k F).lack m = a at *
  generalize N.lack m = b at *
  have : (a + 1) * (N.pls.length + 1) <= b * (N.pls.length + 1) := Nat.mul_le_mul_right _ h1
  rw [Nat.succ_mul] at this
  omega
theorem Sp3.qlen {G : Gram} {q : Whole} {m : Nat} {N : Nt} {X : Nat -> List Way} (h : Sp3 G q m N X) : N.qs.length <= N.pls.length := by
 have := zBi h.nd (M := List.range N.pls.length) fun k hk => List.mem_range.2 ((h.qu k).1 hk).1
 simpa using this
theorem zQL {m : Nat} {N : Nt} {l : List Nat} {k : Nat} (e : N.qs = l ++ [k]) : (N.pop k).num m < N.num m := by
 have : (N.pop k).qs = l := by
  show N.qs.dropLast = l
  rw [e]
  simp
 unfold Nt.num
 rw [this, e, List.length_append]
 show N.lack m * (N.pls.length + 1) + l.length < N.lack m * (N.pls.length + 1) + (l.length + 1)
 omega
theorem zRk {G : Gram} {q : Whole} {m : Nat} {N : Nt} {X : Nat -> List Way} (h : Sp3 G q m N X) {k : Nat} {y : Way} (hto : y.to < N.pls.length) (hq : (N.give m y.to y.f).qs.length <= N.pls.length) : (N.go m k y).num m <= N.num m := by
 have h1 := zIQ (m := m) hto h.qlen y.f
 unfold Nt.go
 split
 ·exact Nat.le_trans (zIQ (m := m) (N := N.give m y.to y.f) hto hq _) h1
 ·exact h1
open Classical in
theorem zNG {G : Gram} {q : Whole} (D : Done G q) (hv : checkN G = 0) {N : Nt} {m : Nat} (h1 : Lk1 G q N) (h3 : Sp3 G q m N N.Ys) (hq : N.qs = []) (hL : ∀ i, i < q.1.length -> ∀ x, Clo G (zAF q.1 i) x -> Lkd G q N i x)
  {k0 : Nat} (hk0 : N.pls[k0]? = some (0, ((G.rules.length : Int), 0))) (h0 : N.S k0 0 = true) {k i : Nat} {c : Itm} (hk : N.pls[k]? = some (i, c)) (t : Nat) : N.S k t = true ↔ La G q i c (t : Int) := by
 have idle : ∀ a, a < N.pls.length -> N.Wt a = false := fun a ha => by
  cases hw : N.Wt a with
  | false => rfl
  | true =>
   have := (h3.qu a).2 ⟨ha, hw⟩
   rw [hq] at this
   cases this
 have settled : ∀ a, a < N.pls.length -> (∃ t, N.S a t = true) -> ∀ y ∈ N.Ys a, Stl N.S a y := fun a ha ⟨t, ht⟩ => by
  rcases h3.set a ha with r | r | r
  ·rw [idle a ha] at r; cases r
  ·rw [r t] at ht; cases ht
  ·exact r
 have one : ∀ {a b : Nat} {p : Pl}, N.pls[a]? = some p -> N.pls[b]? = some p -> a = b := fun {a b p} ha hb => by
  have la := zAX ha
  have lb := zAX hb
  rw [List.getElem?_eq_getElem la, Option.some.injEq] at ha
  rw [List.getElem?_eq_getElem lb, Option.some.injEq] at hb
  rcases Nat.lt_trichotomy a b with r | r | r
  ·exact absurd (ha.trans hb.symm) (List.pairwise_iff_getElem.1 h1.nd a b la lb r)
  ·exact r
  ·exact absurd (hb.trans ha.symm) (List.pairwise_iff_getElem.1 h1.nd b a lb la r)
 refine ⟨h3.snd k i c hk t, fun hl => ?_⟩
 have key : ∀ {i : Nat} {x : Itm} {t : Int}, La G q i x t -> ∃ (k : Nat) (n : Nat), N.pls[k]? = some (i, rep G x) /\ t = (n : Int) /\ N.S k n = true := by
  intro i x t hl
  induction hl with
  | start =>
   refine ⟨k0, 0, ?_, rfl, h0⟩
   rw [hk0]
   have : rep G ((G.rules.length : Int), 0) = ((G.rules.length : Int), 0) := by
    have hm := zBq (G := G) (k := G.rules.length) (Nat.le_refl _)
    rw [zBx rfl]
    unfold hd
    dsimp only
    rw [(zAU G).2] at hm ⊢
    rw [zH3 hv hm]
   rw [this]
  | move h0 hb hl ih =>
   rename_i i j x t
   obtain ⟨k, n, e1, e2, e3⟩ := ih
   obtain ⟨p1, p2⟩ := zLG D hv h0
   obtain ⟨k', f1, ⟨j', f2, y, f3, f4, f5⟩, _⟩ := hL i p1 x p2 hb
   obtain rfl := one f1 e1
   have : j' = j := by rw [hl] at f2; omega
   subst this
   have st := settled _ (zAX f1) ⟨n, e3⟩ y f3
   have hx := (zAK.1 (zAa.1 hb).1).2.1
   exact ⟨y.to, n, by rw [zBw (show (x.1, x.2 + 1).2 ≠ 0 from by dsimp only; omega)]; exact f4, e2, st.2 f5.1 n e3⟩
  | opens h0 hb hr hl ih =>
   rename_i i r x t u
   obtain ⟨k, n, e1, e2, e3⟩ := ih
   obtain ⟨p1, p2⟩ := zLG D hv h0
   have hleft := zAp.1 hr
   have hnb : nonB G (behV G x) = true := by
    rw [← hleft.2]
    exact zAw (zAT hv).2.2.2.1 hleft.1
   have hne : behV G x ≠ 0 := by
    have := zAM.1 hnb
    omega
   have hrb : r ∈ byL G (behV G x) := (zGD hne).2 hr
   obtain ⟨k', f1, _, f2⟩ := hL i p1 x p2 hb
   obtain ⟨y, f3, f4, f5⟩ := f2 fun e => by rw [e] at hrb; cases hrb
   obtain rfl := one f1 e1
   have st := settled _ (zAX f1) ⟨n, e3⟩ y f3
   have hu := Fi.zBH hl
   obtain ⟨u', rfl⟩ := Int.eq_ofNat_of_zero_le hu.1
   refine ⟨y.to, u', by rw [zDi hrb]; exact f4, rfl, ?_⟩
   rcases (zA7 hv (zD5 h0)).1 hl with r1 | ⟨r1, r2⟩
   ·exact st.1 u' ((f5.2 u').2 r1)
   ·have : u' = n := by omega
    subst this
    exact st.2 (f5.1.2 r1) u' e3
 obtain ⟨k', n, e1, e2, e3⟩ := key hl
 have hc := (h1.can (i, c) (List.mem_iff_getElem?.2 ⟨k, hk⟩)).2.1
 rw [show rep G c = c from hc] at e1
 obtain rfl := one e1 hk
 have : n = t := by omega
 rw [← this]
 exact e3
theorem zR1 {G : Gram} {q : Whole} (hv : checkN G = 0) {N : Nt} (h1 : Lk1 G q N) {k j : Nat} {d : Itm} (hk : N.pls[k]? = some (j, d)) {y : Way} (hy : y ∈ N.Ys k) {t0 : Nat} (ht : La G q j d (t0 : Int)) {i : Nat} {c : Itm} (hc : N.pls[y.to]? = some (i, c)) :
  (∀ t : Nat, y.f t = true -> La G q i c (t : Int)) /\ (y.e = true -> ∀ t : Nat, La G q j d (t : Int) -> La G q i c (t : Int)) := by
 obtain ⟨x, x1, x2, x3, x4⟩ := h1.sound k j d hk y hy
 have hrx : zAN G x.1 = true := by
  have := (zAK.1 (zAS x1)).1
  unfold zAN
  exact decide_eq_true this
 subst x2
 have hx := (zIG (q := q) hv hrx).1 ht
 rcases x4 with ⟨j', f1, f2, f3⟩ | ⟨f1, f2, f3⟩
 ·rw [hc] at f2
  injection f2 with f2
  injection f2 with e1 e2
  subst e1 e2
  refine ⟨fun t h => (by rw [f3.2 t] at h; cases h), fun _ t h => ?_⟩
  exact .move ((zIG hv hrx).1 h) x3 f1
 ·rw [hc] at f2
  injection f2 with f2
  injection f2 with e1 e2
  subst e1 e2
  have hm := head_ne f1
  have hne : behV G x ≠ 0 := by
   obtain ⟨xr, xd⟩ := x
   obtain ⟨b1, b2⟩ := zAa.1 x3
   obtain ⟨c1, c2⟩ := zAK.1 b1
   dsimp only at c1 c2 b2
   obtain ⟨n, rfl⟩ := Int.eq_ofNat_of_zero_le c1.1
   obtain ⟨d, rfl⟩ := Int.eq_ofNat_of_zero_le c2.1
   have hd : d < (zAB G (n : Int)).2.length := by
    unfold rlen at b2
    omega
   rw [(zBL hrx hd).2]
   have := zAy hv hrx hd
   omega
  have hof := (zGD hne).1 hm
  refine ⟨fun t h => ?_, fun e t h => ?_⟩
  ·exact .opens hx x3 hof ((zA7 hv (zD5 hx)).2 (.inl ((f3.2 t).1 h)))
  ·have hx' := (zIG (q := q) hv hrx).1 h
   exact .opens hx' x3 hof ((zA7 hv (zD5 hx')).2 (.inr ⟨f3.1.1 e, rfl⟩))
