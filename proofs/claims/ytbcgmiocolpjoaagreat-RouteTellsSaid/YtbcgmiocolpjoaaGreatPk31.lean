/- A part of the proof. -/
import Derived.Test.YtbcgmiocolpjoaaGreatPk29
import Derived.Test.YtbcgmiocolpjoaaGreatPk30
set_option maxHeartbeats 4000000
set_option maxRecDepth 100000
set_option linter.unusedVariables false
namespace Go.Proofs.YtbcgmiocolpjoaaGreat
open Go.RowKit Go.Maps
namespace Im
open Gr (Gram Sh gv GAt Bx drawn checkN cell_later)
def Nw (w : World) (a : Option Addr) : Prop := ∀ b o, a = some ⟨b, o, none⟩ -> w.heap.size <= b
theorem Nw.step {w : World} {a a' : Option Addr} {n : Nat} (h : Nw w a) (hn : w.heap.size <= n) (k : ∀ b o, a' = some ⟨b, o, none⟩ -> a' = a \/ n <= b) : Nw w a' := fun b o e => by
 rcases k b o e with q | q
 ·exact h b o (q ▸ e)
 ·omega
def zKv (P : Itm -> Prop) (w : World) (e : Ending) (w' : World) : Prop := ∃ (Y : List Itm) (a : Option Addr) (c : Nat), e = .returned (.slice a Y.length c) /\ Y.length <= c /\ Is Y P /\ ItsA a Y w' /\ Below w.heap.size w w' /\ Nw w a
def zOw (L : List Itm) (F : Itm -> Itm) (Q : Itm -> Prop) (j : Nat) (x : Itm) : Prop := ∃ q, ∃ h : q < L.length, q < j /\ x = F L[q] /\ Q L[q]
structure Out (W : World) (h : Sh) (G : Gram) (L : List Itm) (F : Itm -> Itm) (Q : Itm -> Prop) (j : Nat) (Y : List Itm) (a : Option Addr) (c : Nat) (w : World) : Prop where
 bx : Bx W h G w
 its : Is Y (zOw L F Q j)
 at_ : ItsA a Y w
 cap : Y.length <= c
 len : Y.length <= j
theorem Out.went {W : World} {h : Sh} {G : Gram} {L : List Itm} {F : Itm -> Itm} {Q : Itm -> Prop} {j : Nat} {Y : List Itm} {a : Option Addr} {c : Nat} {w w' : World} (k : Out W h G L F Q j Y a c w) (hb : Below w.heap.size w w') : Out W h G L F Q j Y a c w' := ⟨k.bx.went hb, k.its, k.at_.went hb, k.cap, k.len⟩
theorem Out.miss {W : World} {h : Sh} {G : Gram} {L : List Itm} {F : Itm -> Itm} {Q : Itm -> Prop} {j : Nat} {Y : List Itm} {a : Option Addr} {c : Nat} {w : World} (k : Out W h G L F Q j Y a c w) (hj : j < L.length) (hq : ¬ Q L[j]) : Out W h G L F Q (j + 1) Y a c w := ⟨k.bx, zKi k.its hj hq, k.at_, k.cap, Nat.le_succ_of_le k.len⟩
theorem Out.hit {W : World} {h : Sh} {G : Gram} {L : List Itm} {F : Itm -> Itm} {Q : Itm -> Prop} {j : Nat} {Y : List Itm} {a a' : Option Addr} {c c' : Nat} {w w' : World} (k : Out W h G L F Q j Y a c w) (hj : j < L.length) (hq : Q L[j]) {x : Itm} (hx : x = F L[j]) (hb : Below w.heap.size w w') (h1 : (putI Y x).length <= c') (h2 : ItsA a' (putI Y x) w') : Out W h G L F Q (j + 1) (putI Y x) a' c' w' := by
 subst hx
 refine ⟨k.bx.went hb, zMO k.its hj hq, h2, h1, ?_⟩
 rw [zEE k.its.1]
 have := k.len
 split <;> omega
theorem zKV {G : Gram} {L : List Itm} {s : Int} (x : Itm) : (∃ y ∈ L, x = nx y /\ Hs G s y) ↔ zFC G L s x :=
 ⟨fun ⟨y, h1, h2, h3, h4⟩ => ⟨y, h1, h3, h4, h2⟩, fun ⟨y, h1, h3, h4, h2⟩ => ⟨y, h1, h2, h3, h4⟩⟩
theorem zKK (h : Sh) (G : Gram) (hv : checkN G = 0) (L : List Itm) (a : Option Addr) (c : Nat) (s : Int) (w : World) (k : GAt h G w) (kl : ItsA a L w) (hL : L.length <= 10000) :
  Calls Tryz.prog 34 #[gv h G, .slice a L.length c, .int .i64 s] w (zKv (zFC G L s) w) := by
 have X0 := zPB (Bx.start h G w 25)
 have BH := zPB (fun (x : Itm) w1 (b : Below w.heap.size w w1) => zEF h G x w1 (k.went b))
 have KL := zPB (fun w1 (b : Below w.heap.size w w1) => kl.went b)
 have PU := zPB (fun (Y : List Itm) (ay : Option Addr) (cy : Nat) (x : Itm) w1 (hY : ItsA ay Y w1) (hc : Y.length <= cy) (hl : Y.length <= 100000) => zHI Y ay cy x w1 hY hc hl)
 have mixed : Tryz.prog.follows .mixedOrders = true := by kernel_rfl
 clear k kl
 have O0 := zPB (show Out w h G L nx (Hs G s) 0 [] none 0 _ from ⟨X0.out, Is.nil fun x ⟨_, _, q, _⟩ => by omega, .nil _ _, Nat.le_refl _, Nat.le_refl _⟩)
 unfold gv at *
 go_enter Tryz.func34, Tryz.ntmps34
 go_wp2
 go_loopw [7, 8, 9, 10] (fun v i _ _ wr => ∃ (j : Nat) (Y : List Itm) (ao : Option Addr) (co : Nat), i = .int .i64 j /\ j <= L.length /\ v = .slice ao Y.length co /\ Out w h G L nx (Hs G s) j Y ao co wr /\ Nw w ao) (fun _ i _ _ _ => L.length - (intOf i).toNat)
 case atStart => exact ⟨0, [], none, 0, rfl, Nat.zero_le _, rfl, O0.out, fun b o e => by cases e⟩
 case round =>
  obtain ⟨j, Y, ao, co, rfl, hj, rfl, hO, hN⟩ := hrel
  have NN := zPB hN
  clear hN
  have O := zPB hO
  clear hO O0
  by_cases hlt : j < L.length
  ·obtain ⟨b1, o1, ea, p0, p1⟩ := (KL.out wr O.out.bx.below).at j hlt
   have HIT := zPB (fun hq (a' : Option Addr) (c' : Nat) (w' : World) hb h1 h2 => O.out.hit (a' := a') (c' := c') (w' := w') hlt hq rfl hb h1 h2)
   have MISS := zPB (fun hq => O.out.miss hlt hq)
   have e1 : ((L[j].1, L[j].2) : Itm) = L[j] := rfl
   generalize L[j] = x at p0 p1 e1 HIT MISS
   obtain ⟨x0, x1⟩ := x
   dsimp only at p0 p1
   clear e1
   subst ea
   have hGw : ∀ m os, Gw wr (Go.Sort.grow (wr.drewN m) os) := fun m os => ⟨m, os, rfl⟩
   have k0 : ∀ m os, (Go.Sort.grow (wr.drewN m) os).cell? ⟨b1, o1 + j * 2, none⟩ = some (.int .i64 x0) := fun m os => cell_later (hGw m os).below p0
   have k1 : ∀ m os, (Go.Sort.grow (wr.drewN m) os).cell? ⟨b1, o1 + j * 2 + 1, none⟩ = some (.int .i64 x1) := fun m os => cell_later (hGw m os).below p1
   have k2 : ∀ m os, (Go.Sort.grow (wr.drewN m) os).cell? ⟨w.heap.size, 0, none⟩ = some (.slice h.a1 G.terms.length h.c1) := fun m os => cell_later (hGw m os).below O.out.bx.box.x0
   have k3 : ∀ m os, (Go.Sort.grow (wr.drewN m) os).cell? ⟨w.heap.size, 1, none⟩ = some (.slice h.a2 G.nons.length h.c2) := fun m os => cell_later (hGw m os).below O.out.bx.box.x1
   have k4 : ∀ m os, (Go.Sort.grow (wr.drewN m) os).cell? ⟨w.heap.size, 2, none⟩ = some (.slice h.a3 G.rules.length h.c3) := fun m os => cell_later (hGw m os).below O.out.bx.box.x2
   have k5 : ∀ m os, (Go.Sort.grow (wr.drewN m) os).cell? ⟨w.heap.size, 3, none⟩ = some (.int .i64 G.start) := fun m os => cell_later (hGw m os).below O.out.bx.box.x3
   have CB := zPB (fun m os => BH.out (x0, x1) (Go.Sort.grow (wr.drewN m) os) (Gr.step O.out.bx.below (hGw m os).below))
   unfold iv at CB
   dsimp only at CB
   have HS : Hs G s (x0, x1) ↔ behB G (x0, x1) = true /\ behV G (x0, x1) = s := Iff.rfl
   have HR := zPB (fun (q : behB G (x0, x1) = true) => zBd hv (zBi.1 q).1)
   generalize Hs G s (x0, x1) = hs at HS HIT MISS
   generalize behB G (x0, x1) = bb at CB HS HR
   generalize behV G (x0, x1) = bv at CB HS
   go_wp2
   go_quiet_grown (first | (go_at_call 58; refine Calls.grown_of (CB.out _ _)))
   have O2 := zPB (O.out.went (hGw nq osq).below)
   have hb2 := (hGw nq osq).below
   have p0 := k0 nq osq
   have p1 := k1 nq osq
   generalize Go.Sort.grow (wr.drewN nq) osq = w2 at O2 hb2 p0 p1 ⊢
   clear k0 k1 k2 k3 k4 k5 CB hGw
   by_cases hh : bb = true /\ bv = s
   ·obtain ⟨rfl, rfl⟩ := hh
    obtain ⟨_, _, b3, b4⟩ := HR.out rfl
    try dsimp only at b3 b4
    have HI := zPB (HIT.out (HS.2 ⟨rfl, rfl⟩))
    clear HIT MISS HS HR
    go_wp2
    have hl : Y.length <= 100000 := by have := O2.out.len; omega
    have CP := zPB (fun w1 (b : Below w2.heap.size w2 w1) => PU.out Y ao co (x0, x1 + 1) w1 (O2.out.at_.went b) O2.out.cap hl)
    unfold iv at CP
    have HQ := zPB (fun w' (b : Below w2.heap.size w2 w') => (show w'.cell? ⟨b1, o1 + j * 2, none⟩ = some (.int .i64 x0) /\ w'.cell? ⟨b1, o1 + j * 2 + 1, none⟩ = some (.int .i64 x1) from ⟨cell_later b p0, cell_later b p1⟩))
    have kA := drawn w2
    have hwr : IntKind.i64.wrap (x1 + 1) = x1 + 1 := by
     simp [IntKind.wrap, IntKind.bits, IntKind.signed]
     omega
    go_region_held3 (fun w' => w'.cell? ⟨b1, o1 + j * 2, none⟩ = some (.int .i64 x0) /\ w'.cell? ⟨b1, o1 + j * 2 + 1, none⟩ = some (.int .i64 x1))
     (exact HQ.out _ (by assumption))
     (first
      | (go_at_call 57; refine (CP.out _ kA).mono ?_; rintro e w3 ⟨a3, c3, rfl, h1, h2, hb, hnw⟩; have k3 : Below w2.heap.size w2 w3 := Gr.step kA hb; have O3 := zPB (HI.out a3 c3 _ (Gr.step hb2 k3) h1 h2); have N3 := zPB (NN.out.step O2.out.bx.below.size hnw); clear h1 h2 hb hnw)
      | fail)
    go_wp2
    go_roundw
    case rel => exact ⟨j + 1, _, a3, c3, by go_num, by omega, rfl, O3.out, N3.out⟩
    case measure => simp [intOf]; omega
   ·have O3 := zPB (MISS.out fun q => hh (HS.1 q))
    have O4 := zPB (O3.out.went hb2)
    clear HIT MISS HS O2 O3 O HR
    have hh' : bb = false \/ (bb = true /\ (bv == s) = false) := by
     cases bb with
     | false => exact .inl rfl
     | true => exact .inr ⟨rfl, by simpa using fun q => hh ⟨rfl, q⟩⟩
    clear hh
    rcases hh' with rfl | ⟨rfl, hne⟩
    ·go_wp2
     go_roundw
     case rel => exact ⟨j + 1, Y, ao, co, by go_num, by omega, rfl, O4.out, NN.out⟩
     case measure => simp [intOf]; omega
    ·go_wp2
     go_roundw
     case rel => exact ⟨j + 1, Y, ao, co, by go_num, by omega, rfl, O4.out, NN.out⟩
     case measure => simp [intOf]; omega
  ·have hE : j = L.length := by omega
   subst hE
   have F := zPB (show zKv (zFC G L s) w (.returned (.slice ao Y.length co)) wr from ⟨Y, ao, co, rfl, O.out.cap, O.out.its.iff fun x => (zC5 x).trans (zKV x), O.out.at_, O.out.bx.below, NN.out⟩)
   go_wp2
   go_ret
   exact F.out
end Im
namespace Im
open Gr (Gram Sh gv GAt Bx checkN cell_later ofL ofN zDT)
def Rq (G : Gram) (y : Itm) : Prop := zAD G y = true
structure Rc (W : World) (h : Sh) (G : Gram) (L Y : List Itm) (a : Option Addr) (c : Nat) (w : World) : Prop where
 bx : Bx W h G w
 at_ : ItsA a Y w
 cap : Y.length <= c
 mid : Mid G L Y
 nw : Nw W a
theorem Rc.went {W : World} {h : Sh} {G : Gram} {L Y : List Itm} {a : Option Addr} {c : Nat} {w w' : World} (k : Rc W h G L Y a c w) (hb : Below w.heap.size w w') : Rc W h G L Y a c w' := ⟨k.bx.went hb, k.at_.went hb, k.cap, k.mid, k.nw⟩
theorem Out.rc {W : World} {h : Sh} {G : Gram} {L Y : List Itm} {a : Option Addr} {c : Nat} {w : World} (k : Out W h G L id (Rq G) L.length Y a c w) (n : Nw W a) : Rc W h G L Y a c w :=
 ⟨k.bx, k.at_, k.cap, .start (k.its.iff fun x => (zC5 x).trans ⟨fun ⟨y, h1, h2, h3⟩ => by obtain rfl : x = y := h2; exact ⟨h1, h3⟩, fun ⟨h1, h3⟩ => ⟨x, h1, rfl, h3⟩⟩), n⟩
theorem Rc.done {W : World} {h : Sh} {G : Gram} {L Y : List Itm} {a : Option Addr} {c : Nat} {w : World} (k : Rc W h G L Y a c w) (hs : Shut G Y) : zKv (Clo G L) W (.returned (.slice a Y.length c)) w :=
 ⟨Y, a, c, rfl, k.cap, k.mid.done hs, k.at_, k.bx.below, k.nw⟩
theorem Rc.len {W : World} {h : Sh} {G : Gram} {L Y : List Itm} {a : Option Addr} {c : Nat} {w : World} (k : Rc W h G L Y a c w) (hv : checkN G = 0) : Y.length <= 2709 := Nat.le_trans k.mid.len (zAZ hv)
def zFB (G : Gram) (Y : List Itm) (j : Nat) : Prop := ∀ q, ∀ h : q < Y.length, q < j -> behB G Y[q] = true -> ∀ r ∈ ofN G (behV G Y[q]), ((r : Int), (0 : Int)) ∈ Y
theorem zKQ (G : Gram) (Y : List Itm) : zFB G Y 0 := fun q _ h => absurd h (Nat.not_lt_zero q)
theorem zKP {G : Gram} {Y : List Itm} {j : Nat} (h : zFB G Y j) (hj : j < Y.length) (k : behB G Y[j] = true -> ∀ r ∈ ofN G (behV G Y[j]), ((r : Int), (0 : Int)) ∈ Y) : zFB G Y (j + 1) := fun q hq hl => by
 by_cases e : q = j
 ·subst e
  exact k
 ·exact h q hq (by omega)
theorem zMA {G : Gram} {Y : List Itm} (h : zFB G Y Y.length) : Shut G Y := fun y hy => by
 obtain ⟨q, hq, rfl⟩ := List.getElem_of_mem hy
 exact h q hq hq
theorem zG6 {G : Gram} {L : List Itm} {y : Itm} (hy : Clo G L y) (hb : behB G y = true) : ∀ (rs : List Nat) (out : List Itm), Mid G L out -> (∀ r ∈ rs, r ∈ ofN G (behV G y)) -> Mid G L (adds out rs)
 | [], out, m, _ => m
 | r :: rs, out, m, h => zG6 hy hb rs (putI out ((r : Int), 0)) (m.put hy hb (h r (List.mem_cons_self ..))) fun q hq => h q (List.mem_cons_of_mem _ hq)
theorem zFD {Y : List Itm} {rs : List Nat} {k : Nat} (h : k < rs.length) : putI (adds Y (rs.take k)) ((rs[k] : Nat), 0) = adds Y (rs.take (k + 1)) := by
 rw [List.take_succ_eq_append_getElem h, zIb]
theorem Rc.more {W : World} {h : Sh} {G : Gram} {L Y : List Itm} {rs : List Nat} {kk : Nat} {a a' : Option Addr} {c c' : Nat} {w w' : World} {y : Itm} (k : Rc W h G L (adds Y (rs.take kk)) a c w) (hk : kk < rs.length) (hy : Clo G L y) (hb : behB G y = true) (hm : Mid G L Y) (hr : rs = ofN G (behV G y))
  (hbl : Below w.heap.size w w') (h1 : (putI (adds Y (rs.take kk)) ((rs[kk] : Nat), 0)).length <= c') (h2 : ItsA a' (putI (adds Y (rs.take kk)) ((rs[kk] : Nat), 0)) w') (hn : ∀ b o, a' = some ⟨b, o, none⟩ -> a' = a \/ w.heap.size <= b) : Rc W h G L (adds Y (rs.take (kk + 1))) a' c' w' := by
 rw [zFD hk] at h1 h2
 exact ⟨k.bx.went hbl, h2, h1, zG6 hy hb _ _ hm fun r hr' => by rw [← hr]; exact List.mem_of_mem_take hr', k.nw.step k.bx.below.size hn⟩
theorem zO7 {G : Gram} {s : Int} {a : Option Addr} {w : World} {rs : List Nat} (h : Sep.Reads a (Gr.ivs (ofL G s)) w) (hr : rs = ofN G s) {k : Nat} (hk : k < rs.length) : ∃ b o, a = some ⟨b, o, none⟩ /\ w.cell? ⟨b, o + k, none⟩ = some (.int .i64 ((rs[k] : Nat) : Int)) := by
 subst hr
 have hl : k < (Gr.ivs (ofL G s)).length := by simp [Gr.ivs, Gr.zA8, hk]
 obtain ⟨b, o, e, hc⟩ := h k hl
 refine ⟨b, o, e, ?_⟩
 rw [hc]
 simp [Gr.ivs, Gr.iv, ofL, Gr.ofI, ofN]
def zMa (M : Nat) (v n : Value) : Nat := match v, n with
 | .slice _ l _, .int _ i => 2 * (M - l) + if i = (l : Int) then 0 else 1
 | _, _ => 0
theorem zCT (M l c : Nat) (a : Option Addr) (k : IntKind) (i : Int) : zMa M (.slice a l c) (.int k i) = 2 * (M - l) + if i = (l : Int) then 0 else 1 := rfl
theorem zIG (h : Sh) (G : Gram) (hv : checkN G = 0) (L : List Itm) (a : Option Addr) (c : Nat) (w : World) (k : GAt h G w) (kl : ItsA a L w) (hL : L.length <= 10000) (hrl : G.rules.length <= 65536) :
  Calls Tryz.prog 32 #[gv h G, .slice a L.length c] w (zKv (Clo G L) w) := by
 have X0 := zPB (Bx.start h G w 25)
 have BR := zPB (fun (x : Itm) w1 (b : Below w.heap.size w w1) => zFm h G x w1 (k.went b))
 have BH := zPB (fun (x : Itm) w1 (b : Below w.heap.size w w1) => zEF h G x w1 (k.went b))
 have OF := zPB (fun (s : Int) w1 (b : Below w.heap.size w w1) => zDT h G s w1 (k.went b) hrl)
 have KL := zPB (fun w1 (b : Below w.heap.size w w1) => kl.went b)
 have PU := zPB (fun (Y : List Itm) (ay : Option Addr) (cy : Nat) (x : Itm) w1 (hY : ItsA ay Y w1) (hc : Y.length <= cy) (hl : Y.length <= 100000) => zHI Y ay cy x w1 hY hc hl)
 have mixed : Tryz.prog.follows .mixedOrders = true := by kernel_rfl
 clear k kl
 have O0 := zPB (show Out w h G L id (Rq G) 0 [] none 0 _ from ⟨X0.out, Is.nil fun x ⟨_, _, q, _⟩ => by omega, .nil _ _, Nat.le_refl _, Nat.le_refl _⟩)
 unfold gv at *
 go_enter Tryz.func32, Tryz.ntmps32
 go_wp2
 go_loopw [5, 6] (fun v i wr => ∃ (j : Nat) (Y : List Itm) (ao : Option Addr) (co : Nat), i = .int .i64 j /\ j <= L.length /\ v = .slice ao Y.length co /\ Out w h G L id (Rq G) j Y ao co wr /\ Nw w ao) (fun _ i _ => L.length - (intOf i).toNat)
 case atStart => exact ⟨0, [], none, 0, rfl, Nat.zero_le _, rfl, O0.out, fun b o e => by cases e⟩
 case round =>
  obtain ⟨j, Y, ao, co, rfl, hj, rfl, hO, hN⟩ := hrel
  have NN := zPB hN
  clear hN
  have O := zPB hO
  clear hO O0
  by_cases hlt : j < L.length
  ·obtain ⟨b1, o1, ea, p0, p1⟩ := (KL.out wr O.out.bx.below).at j hlt
   have HIT := zPB (fun hq (a' : Option Addr) (c' : Nat) (w' : World) hb h1 h2 => O.out.hit (a' := a') (c' := c') (w' := w') hlt hq rfl hb h1 h2)
   have MISS := zPB (fun hq => O.out.miss hlt hq)
   have e1 : ((L[j].1, L[j].2) : Itm) = L[j] := rfl
   generalize L[j] = x at p0 p1 e1 HIT MISS
   obtain ⟨x0, x1⟩ := x
   dsimp only at p0 p1
   clear e1
   subst ea
   have hGw : ∀ m os, Gw wr (Go.Sort.grow (wr.drewN m) os) := fun m os => ⟨m, os, rfl⟩
   have k0 : ∀ m os, (Go.Sort.grow (wr.drewN m) os).cell? ⟨b1, o1 + j * 2, none⟩ = some (.int .i64 x0) := fun m os => cell_later (hGw m os).below p0
   have k1 : ∀ m os, (Go.Sort.grow (wr.drewN m) os).cell? ⟨b1, o1 + j * 2 + 1, none⟩ = some (.int .i64 x1) := fun m os => cell_later (hGw m os).below p1
   have k2 : ∀ m os, (Go.Sort.grow (wr.drewN m) os).cell? ⟨w.heap.size, 0, none⟩ = some (.slice h.a1 G.terms.length h.c1) := fun m os => cell_later (hGw m os).below O.out.bx.box.x0
   have k3 : ∀ m os, (Go.Sort.grow (wr.drewN m) os).cell? ⟨w.heap.size, 1, none⟩ = some (.slice h.a2 G.nons.length h.c2) := fun m os => cell_later (hGw m os).below O.out.bx.box.x1
   have k4 : ∀ m os, (Go.Sort.grow (wr.drewN m) os).cell? ⟨w.heap.size, 2, none⟩ = some (.slice h.a3 G.rules.length h.c3) := fun m os => cell_later (hGw m os).below O.out.bx.box.x2
   have k5 : ∀ m os, (Go.Sort.grow (wr.drewN m) os).cell? ⟨w.heap.size, 3, none⟩ = some (.int .i64 G.start) := fun m os => cell_later (hGw m os).below O.out.bx.box.x3
   have CB := zPB (fun m os => BR.out (x0, x1) (Go.Sort.grow (wr.drewN m) os) (Gr.step O.out.bx.below (hGw m os).below))
   unfold iv at CB
   dsimp only at CB
   have HS : Rq G (x0, x1) ↔ zAD G (x0, x1) = true := Iff.rfl
   generalize Rq G (x0, x1) = hs at HS HIT MISS
   generalize zAD G (x0, x1) = rr at CB HS
   go_wp2
   refine wp_region_quiet_grown (by assumption) (by kernel_rfl) ?_
   repeat (first | go_big_quiet_skip | (go_big_quiet_want; go_big_quiet_op; first | go_big_quiet_on | go_big_quiet_call (first | (go_at_call 56; refine Calls.grown_of (CB.out _ _)))) | quiet_step (first | (go_at_call 56; refine Calls.grown_of (CB.out _ _))))
   refine wpQuiet_nil ?_
   intro _ hw'
   obtain ⟨⟨nq, osq⟩, hw''⟩ := hw'
   subst hw''
   have O2 := zPB (O.out.went (hGw nq osq).below)
   have hb2 := (hGw nq osq).below
   have p0 := k0 nq osq
   have p1 := k1 nq osq
   generalize Go.Sort.grow (wr.drewN nq) osq = w2 at O2 hb2 p0 p1 ⊢
   clear k0 k1 k2 k3 k4 k5 CB hGw
   cases rr with
   | false =>
    have O3 := zPB (MISS.out fun q => Bool.noConfusion (HS.1 q))
    clear HIT MISS HS
    have O4 := zPB (O3.out.went hb2)
    clear O2 O3 O
    go_wp2
    go_roundw
    case rel => exact ⟨j + 1, Y, ao, co, by go_num, by omega, rfl, O4.out, NN.out⟩
    case measure => simp [intOf]; omega
   | true =>
    have HI := zPB (HIT.out (HS.2 rfl))
    clear HIT MISS HS
    have hl : Y.length <= 100000 := by have := O2.out.len; omega
    have CP := zPB (PU.out Y ao co (x0, x1) w2 O2.out.at_ O2.out.cap hl)
    unfold iv at CP
    go_wp2_with (go_at_call 57; refine CP.out.mono ?_; rintro e w3 ⟨a3, c3, rfl, h1, h2, hb, hnw⟩; have O3 := zPB (HI.out a3 c3 _ (Gr.step hb2 hb) h1 h2); have N3 := zPB (NN.out.step O2.out.bx.below.size hnw); clear h1 h2 hb hnw)
    go_roundw
    case rel => exact ⟨j + 1, _, a3, c3, by go_num, by omega, rfl, O3.out, N3.out⟩
    case measure => simp [intOf]; omega
  ·have hE : j = L.length := by omega
   subst hE
   have R0 := zPB (O.out.rc NN.out)
   clear O KL hL hlt hj
   go_wp2
   go_loopw [5, 7, 8, 9, 10, 11, 12, 13] (fun v n _ _ _ _ _ _ wx => ∃ (nn : Int) (Z : List Itm) (az : Option Addr) (cz : Nat), n = .int .i64 nn /\ v = .slice az Z.length cz /\ Rc w h G L Z az cz wx /\ (nn = (Z.length : Int) -> Shut G Z)) (fun v n _ _ _ _ _ _ _ => zMa 2709 v n)
   case atStart => exact ⟨-1, Y, ao, co, rfl, rfl, R0.out, fun q => by omega⟩
   case round =>
    obtain ⟨nn, Z, az, cz, rfl, rfl, hR, hS⟩ := hrel
    have R := zPB hR
    have S := zPB hS
    clear hR hS R0
    by_cases he : nn = (Z.length : Int)
    ·have F := zPB (R.out.done (S.out he))
     subst he
     go_wp2
     go_ret
     exact F.out
    ·have hz := R.out.len hv
     have hne : (nn != (Z.length : Int)) = true := by simpa using he
     clear S
     go_wp2
     go_loopw [5, 8, 9, 10, 11, 12, 13] (fun v i _ _ _ _ _ wx => ∃ j : Nat, v = .slice az Z.length cz /\ i = .int .i64 j /\ j <= Z.length /\ Rc w h G L Z az cz wx /\ zFB G Z j) (fun _ i _ _ _ _ _ _ => Z.length - (intOf i).toNat)
     case atStart => exact ⟨0, rfl, rfl, Nat.zero_le _, R.out, zKQ G Z⟩
     case round =>
      obtain ⟨j, rfl, rfl, hj, hR, hS⟩ := hrel
      clear R
      have R := zPB hR
      have S := zPB hS
      clear hR hS
      by_cases hlt : j < Z.length
      ·obtain ⟨b1, o1, ea, p0, p1⟩ := R.out.at_.at j hlt
       have NX := zPB (zKP S.out hlt)
       have CY := zPB (R.out.mid.sub _ (List.getElem_mem hlt))
       clear S
       have e1 : ((Z[j].1, Z[j].2) : Itm) = Z[j] := rfl
       generalize Z[j] = x at p0 p1 e1 NX CY
       obtain ⟨x0, x1⟩ := x
       dsimp only at p0 p1
       clear e1
       subst ea
       have hGw : ∀ m os, Gw wr (Go.Sort.grow (wr.drewN m) os) := fun m os => ⟨m, os, rfl⟩
       have k0 : ∀ m os, (Go.Sort.grow (wr.drewN m) os).cell? ⟨b1, o1 + j * 2, none⟩ = some (.int .i64 x0) := fun m os => cell_later (hGw m os).below p0
       have k1 : ∀ m os, (Go.Sort.grow (wr.drewN m) os).cell? ⟨b1, o1 + j * 2 + 1, none⟩ = some (.int .i64 x1) := fun m os => cell_later (hGw m os).below p1
       have k2 : ∀ m os, (Go.Sort.grow (wr.drewN m) os).cell? ⟨w.heap.size, 0, none⟩ = some (.slice h.a1 G.terms.length h.c1) := fun m os => cell_later (hGw m os).below R.out.bx.box.x0
       have k3 : ∀ m os, (Go.Sort.grow (wr.drewN m) os).cell? ⟨w.heap.size, 1, none⟩ = some (.slice h.a2 G.nons.length h.c2) := fun m os => cell_later (hGw m os).below R.out.bx.box.x1
       have k4 : ∀ m os, (Go.Sort.grow (wr.drewN m) os).cell? ⟨w.heap.size, 2, none⟩ = some (.slice h.a3 G.rules.length h.c3) := fun m os => cell_later (hGw m os).below R.out.bx.box.x2
       have k5 : ∀ m os, (Go.Sort.grow (wr.drewN m) os).cell? ⟨w.heap.size, 3, none⟩ = some (.int .i64 G.start) := fun m os => cell_later (hGw m os).below R.out.bx.box.x3
       have CB := zPB (fun m os => BH.out (x0, x1) (Go.Sort.grow (wr.drewN m) os) (Gr.step R.out.bx.below (hGw m os).below))
       unfold iv at CB
       dsimp only at CB
       have hbh := zPB (show behB G (x0, x1) = true -> behB G (x0, x1) = true from id)
       generalize eb : behB G (x0, x1) = bb at CB NX
       generalize ev : behV G (x0, x1) = bv at CB NX
       clear hbh
       go_wp2
       refine wp_region_quiet_grown (by assumption) (by kernel_rfl) ?_
       repeat (first | go_big_quiet_skip | (go_big_quiet_want; go_big_quiet_op; first | go_big_quiet_on | go_big_quiet_call (first | (go_at_call 58; refine Calls.grown_of (CB.out _ _)))) | quiet_step (first | (go_at_call 58; refine Calls.grown_of (CB.out _ _))))
       refine wpQuiet_nil ?_
       intro _ hw'
       obtain ⟨⟨nq, osq⟩, hw''⟩ := hw'
       subst hw''
       have R2 := zPB (R.out.went (hGw nq osq).below)
       generalize Go.Sort.grow (wr.drewN nq) osq = w2 at R2 ⊢
       clear k0 k1 k2 k3 k4 k5 CB hGw p0 p1 R
       cases bb with
       | false =>
        have S2 := zPB (NX.out fun q => Bool.noConfusion q)
        clear NX
        go_wp2
        go_roundw
        case rel => exact ⟨j + 1, rfl, by go_num, by omega, R2.out, S2.out⟩
        case measure => simp [intOf]; omega
       | true =>
        have NX2 := zPB (fun q => NX.out (fun _ => q))
        have CO := zPB (OF.out bv w2 R2.out.bx.below)
        clear NX
        obtain ⟨g0, g1, g2, g3⟩ := R2.out.bx.box
        go_wp2_with (first
         | (go_at_call 55; refine CO.out.mono ?_; rintro e w3 ⟨a3, c3, rfl, h1, h2, hb⟩; have R3 := zPB (R2.out.went hb); have RD := zPB h1; clear h1 h2 hb)
         | fail)
        have hm := R3.out.mid
        obtain ⟨rs, hrs⟩ : ∃ rs, rs = ofN G bv := ⟨_, rfl⟩
        have hln : (ofL G bv).length = rs.length := by rw [Gr.zA8, hrs]
        rw [← hrs] at NX2
        have MO := zPB (fun (kk : Nat) (am a' : Option Addr) (cm c' : Nat) (wm w' : World) (q : Rc w h G L (adds Z (rs.take kk)) am cm wm) (hk : kk < rs.length) hbl h1 h2 hn => q.more (a' := a') (c' := c') (w' := w') hk CY.out eb hm (by rw [ev]; exact hrs) hbl h1 h2 hn)
        have RA := zPB (fun (wm : World) (q : Sep.Reads a3 (Gr.ivs (ofL G bv)) wm) (kk : Nat) (hk : kk < rs.length) => zO7 q hrs hk)
        have srt := hm.srt
        have hrn : rs.length <= 65536 := by
         rw [hrs]
         exact Nat.le_trans (Gr.zJu _ _ _) hrl
        rw [hln]
        clear CO g0 g1 g2 g3 R2 CY hm eb ev hln hrs
        go_loopw [12, 13] (fun m kx wx => ∃ (kk : Nat) (am : Option Addr) (cm : Nat), m = .slice am (adds Z (rs.take kk)).length cm /\ kx = .int .i64 kk /\ kk <= rs.length /\ Rc w h G L (adds Z (rs.take kk)) am cm wx /\ Rc w h G L Z (some ⟨b1, o1, none⟩) cz wx /\ Sep.Reads a3 (Gr.ivs (ofL G bv)) wx) (fun _ kx _ => rs.length - (intOf kx).toNat)
        case atStart => exact ⟨0, _, _, rfl, rfl, Nat.zero_le _, R3.out, R3.out, RD.out⟩
        case round =>
         obtain ⟨kk, am, cm, rfl, rfl, hk, hM, hZ, hD⟩ := hrel
         have M := zPB hM
         have ZZ := zPB hZ
         have D := zPB hD
         clear hM hZ hD R3 RD
         have hml := M.out.len hv
         by_cases hkl : kk < rs.length
         ·obtain ⟨b2, o2, ea, q0⟩ := RA.out wr D.out kk hkl
          have CP := zPB (PU.out (adds Z (rs.take kk)) am cm ((rs[kk] : Nat), 0) wr M.out.at_ M.out.cap (by omega))
          have MM := zPB (fun (a' : Option Addr) (c' : Nat) (w' : World) hbl h1 h2 hn => MO.out kk am a' cm c' wr w' M.out hkl hbl h1 h2 hn)
          have el := congrArg List.length (zFD (Y := Z) hkl)
          unfold iv at CP
          generalize putI (adds Z (rs.take kk)) ((rs[kk] : Nat), 0) = PP at CP MM el
          have EL := zPB (fun (a' : Option Addr) (c' : Nat) => congrArg (fun n => Value.slice a' n c') el)
          clear el
          generalize ((rs[kk] : Nat) : Int) = rv at CP q0
          subst ea
          go_wp2_with (go_at_call 57; refine CP.out.mono ?_; rintro e w5 ⟨a5, c5, rfl, h1, h2, hb, hnw⟩; have M5 := zPB (MM.out a5 c5 _ hb h1 h2 hnw); clear hnw; have Z5 := zPB (ZZ.out.went hb); have D5 := zPB (D.out.below hb (Nat.le_refl _)); clear h1 h2 hb)
          go_roundw
          case rel => exact ⟨kk + 1, a5, c5, EL.out a5 c5, by go_num, by omega, M5.out, Z5.out, D5.out⟩
          case measure => simp [intOf]; omega
         ·have hE : kk = rs.length := by omega
          subst hE
          have M2 := M.out
          rw [List.take_length] at M2 hml
          rw [List.take_length]
          have M3 := zPB M2
          have AS := zPB (fun hl => zIa (rs := rs) srt hl)
          have ge := zMk (rs := rs) srt
          clear M2 M MO RA PU
          generalize adds Z rs = Z2 at M3 AS ge hml ⊢
          by_cases hl : Z2.length = Z.length
          ·have S2 := zPB (NX2.out (AS.out hl).1)
           have hnl : ((Z2.length : Int) != (Z.length : Int)) = false := by rw [hl]; exact bne_self_eq_false _
           clear NX2 AS hl ge
           go_wp2
           go_roundw
           case rel => exact ⟨j + 1, rfl, by go_num, by omega, ZZ.out, S2.out⟩
           case measure => simp [intOf]; omega
          ·have hnl : ((Z2.length : Int) != (Z.length : Int)) = true := by simp only [bne_iff_ne, ne_eq]; omega
           clear NX2 AS
           go_wp2
           go_roundw
           case rel => exact ⟨Z.length, Z2, am, cm, rfl, rfl, M3.out, fun q => by omega⟩
           case measure => rw [zCT, zCT, if_neg (by omega), if_neg he]; omega
      ·have hE : j = Z.length := by omega
       subst hE
       have S2 := zPB (zMA S.out)
       clear S
       go_wp2
       go_roundw
       case rel => exact ⟨Z.length, Z, az, cz, rfl, rfl, R.out, fun _ => S2.out⟩
       case measure => rw [zCT, zCT, if_pos rfl, if_neg he]; omega
