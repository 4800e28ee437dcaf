/- A part of the proof. -/
import Derived.Test.YtnfbjlainpenaaaGreatPk38
set_option maxHeartbeats 4000000
set_option maxRecDepth 100000
set_option linter.unusedVariables false
namespace Go.Proofs.YtnfbjlainpenaaaGreat
namespace Im
open Go.RowKit Go.Maps
open Gr (Gram Sh gv GAt Bx drawn checkN cell_later)
def Nw (w : World) (a : Option Addr) : Prop := ∀ b o, a = some ⟨b, o, none⟩ -> w.heap.size <= b
theorem Nw.step {w : World} {a a' : Option Addr} {n : Nat} (h : Nw w a) (hn : w.heap.size <= n) (k : ∀ b o, a' = some ⟨b, o, none⟩ -> a' = a \/ n <= b) : Nw w a' := fun b o e => by
 rcases k b o e with q | q
 ·exact h b o (q ▸ e)
 ·omega
def zJh (P : Itm -> Prop) (w : World) (e : Ending) (w' : World) : Prop := ∃ (Y : List Itm) (a : Option Addr) (c : Nat), e = .returned (.slice a Y.length c) /\ Y.length <= c /\ Is Y P /\ ItsA a Y w' /\ Below w.heap.size w w' /\ Nw w a
def zNE (L : List Itm) (F : Itm -> Itm) (Q : Itm -> Prop) (j : Nat) (x : Itm) : Prop := ∃ q, ∃ h : q < L.length, q < j /\ x = F L[q] /\ Q L[q]
structure Out (W : World) (h : Sh) (G : Gram) (L : List Itm) (F : Itm -> Itm) (Q : Itm -> Prop) (j : Nat) (Y : List Itm) (a : Option Addr) (c : Nat) (w : World) : Prop where
 bx : Bx W h G w
 its : Is Y (zNE L F Q j)
 at_ : ItsA a Y w
 cap : Y.length <= c
 len : Y.length <= j
theorem Out.went {W : World} {h : Sh} {G : Gram} {L : List Itm} {F : Itm -> Itm} {Q : Itm -> Prop} {j : Nat} {Y : List Itm} {a : Option Addr} {c : Nat} {w w' : World} (k : Out W h G L F Q j Y a c w) (hb : Below w.heap.size w w') : Out W h G L F Q j Y a c w' := ⟨k.bx.went hb, k.its, k.at_.went hb, k.cap, k.len⟩
theorem Out.miss {W : World} {h : Sh} {G : Gram} {L : List Itm} {F : Itm -> Itm} {Q : Itm -> Prop} {j : Nat} {Y : List Itm} {a : Option Addr} {c : Nat} {w : World} (k : Out W h G L F Q j Y a c w) (hj : j < L.length) (hq : ¬ Q L[j]) : Out W h G L F Q (j + 1) Y a c w := ⟨k.bx, zJW k.its hj hq, k.at_, k.cap, Nat.le_succ_of_le k.len⟩
theorem Out.hit {W : World} {h : Sh} {G : Gram} {L : List Itm} {F : Itm -> Itm} {Q : Itm -> Prop} {j : Nat} {Y : List Itm} {a a' : Option Addr} {c c' : Nat} {w w' : World} (k : Out W h G L F Q j Y a c w) (hj : j < L.length) (hq : Q L[j]) {x : Itm} (hx : x = F L[j]) (hb : Below w.heap.size w w') (h1 : (putI Y x).length <= c') (h2 : ItsA a' (putI Y x) w') : Out W h G L F Q (j + 1) (putI Y x) a' c' w' := by
 subst hx
 refine ⟨k.bx.went hb, zK2 k.its hj hq, h2, h1, ?_⟩
 rw [zDb k.its.1]
 have := k.len
 split <;> omega
theorem zJN {G : Gram} {L : List Itm} {s : Int} (x : Itm) : (∃ y ∈ L, x = nx y /\ Hs G s y) ↔ zEO G L s x :=
 ⟨fun ⟨y, h1, h2, h3, h4⟩ => ⟨y, h1, h3, h4, h2⟩, fun ⟨y, h1, h3, h4, h2⟩ => ⟨y, h1, h2, h3, h4⟩⟩
theorem zJD (h : Sh) (G : Gram) (hv : checkN G = 0) (L : List Itm) (a : Option Addr) (c : Nat) (s : Int) (w : World) (k : GAt h G w) (kl : ItsA a L w) (hL : L.length <= 10000) :
  Calls Tryz.prog 34 #[gv h G, .slice a L.length c, .int .i64 s] w (zJh (zEO G L s) w) := by
 have X0 := zNR (Bx.start h G w 25)
 have BH := zNR (fun (x : Itm) w1 (b : Below w.heap.size w w1) => zDc h G x w1 (k.went b))
 have KL := zNR (fun w1 (b : Below w.heap.size w w1) => kl.went b)
 have PU := zNR (fun (Y : List Itm) (ay : Option Addr) (cy : Nat) (x : Itm) w1 (hY : ItsA ay Y w1) (hc : Y.length <= cy) (hl : Y.length <= 100000) => zGO Y ay cy x w1 hY hc hl)
 have mixed : Tryz.prog.follows .mixedOrders = true := by kernel_rfl
 clear k kl
 have O0 := zNR (show Out w h G L nx (Hs G s) 0 [] none 0 _ from ⟨X0.out, Is.nil fun x ⟨_, _, q, _⟩ => by omega, .nil _ _, Nat.le_refl _, Nat.le_refl _⟩)
 unfold gv at *
 go_enter Tryz.func34, Tryz.ntmps34
 go_wp2
 go_loopw [7, 8, 9, 10] (fun v i _ _ wr => ∃ (j : Nat) (Y : List Itm) (ao : Option Addr) (co : Nat), i = .int .i64 j /\ j <= L.length /\ v = .slice ao Y.length co /\ Out w h G L nx (Hs G s) j Y ao co wr /\ Nw w ao) (fun _ i _ _ _ => L.length - (intOf i).toNat)
 case atStart => exact ⟨0, [], none, 0, rfl, Nat.zero_le _, rfl, O0.out, fun b o e => by cases e⟩
 case round =>
  obtain ⟨j, Y, ao, co, rfl, hj, rfl, hO, hN⟩ := hrel
  have NN := zNR hN
  clear hN
  have O := zNR hO
  clear hO O0
  by_cases hlt : j < L.length
  ·obtain ⟨b1, o1, ea, p0, p1⟩ := (KL.out wr O.out.bx.below).at j hlt
   have HIT := zNR (fun hq (a' : Option Addr) (c' : Nat) (w' : World) hb h1 h2 => O.out.hit (a' := a') (c' := c') (w' := w') hlt hq rfl hb h1 h2)
   have MISS := zNR (fun hq => O.out.miss hlt hq)
   have e1 : ((L[j].1, L[j].2) : Itm) = L[j] := rfl
   generalize L[j] = x at p0 p1 e1 HIT MISS
   obtain ⟨x0, x1⟩ := x
   dsimp only at p0 p1
   clear e1
   subst ea
   have hGw : ∀ m os, Gw wr (Go.Sort.grow (wr.drewN m) os) := fun m os => ⟨m, os, rfl⟩
   have k0 : ∀ m os, (Go.Sort.grow (wr.drewN m) os).cell? ⟨b1, o1 + j * 2, none⟩ = some (.int .i64 x0) := fun m os => cell_later (hGw m os).below p0
   have k1 : ∀ m os, (Go.Sort.grow (wr.drewN m) os).cell? ⟨b1, o1 + j * 2 + 1, none⟩ = some (.int .i64 x1) := fun m os => cell_later (hGw m os).below p1
   have k2 : ∀ m os, (Go.Sort.grow (wr.drewN m) os).cell? ⟨w.heap.size, 0, none⟩ = some (.slice h.a1 G.terms.length h.c1) := fun m os => cell_later (hGw m os).below O.out.bx.box.x0
   have k3 : ∀ m os, (Go.Sort.grow (wr.drewN m) os).cell? ⟨w.heap.size, 1, none⟩ = some (.slice h.a2 G.nons.length h.c2) := fun m os => cell_later (hGw m os).below O.out.bx.box.x1
   have k4 : ∀ m os, (Go.Sort.grow (wr.drewN m) os).cell? ⟨w.heap.size, 2, none⟩ = some (.slice h.a3 G.rules.length h.c3) := fun m os => cell_later (hGw m os).below O.out.bx.box.x2
   have k5 : ∀ m os, (Go.Sort.grow (wr.drewN m) os).cell? ⟨w.heap.size, 3, none⟩ = some (.int .i64 G.start) := fun m os => cell_later (hGw m os).below O.out.bx.box.x3
   have CB := zNR (fun m os => BH.out (x0, x1) (Go.Sort.grow (wr.drewN m) os) (Gr.step O.out.bx.below (hGw m os).below))
   unfold iv at CB
   dsimp only at CB
   have HS : Hs G s (x0, x1) ↔ behB G (x0, x1) = true /\ behV G (x0, x1) = s := Iff.rfl
   have HR := zNR (fun (q : behB G (x0, x1) = true) => zBQ hv (zBW.1 q).1)
   generalize Hs G s (x0, x1) = hs at HS HIT MISS
   generalize behB G (x0, x1) = bb at CB HS HR
   generalize behV G (x0, x1) = bv at CB HS
   go_wp2
   go_quiet_grown (first | (go_at_call 58; refine Calls.grown_of (CB.out _ _)))
   have O2 := zNR (O.out.went (hGw nq osq).below)
   have hb2 := (hGw nq osq).below
   have p0 := k0 nq osq
   have p1 := k1 nq osq
   generalize Go.Sort.grow (wr.drewN nq) osq = w2 at O2 hb2 p0 p1 ⊢
   clear k0 k1 k2 k3 k4 k5 CB hGw
   by_cases hh : bb = true /\ bv = s
   ·obtain ⟨rfl, rfl⟩ := hh
    obtain ⟨_, _, b3, b4⟩ := HR.out rfl
    try dsimp only at b3 b4
    have HI := zNR (HIT.out (HS.2 ⟨rfl, rfl⟩))
    clear HIT MISS HS HR
    go_wp2
    have hl : Y.length <= 100000 := by have := O2.out.len; omega
    have CP := zNR (fun w1 (b : Below w2.heap.size w2 w1) => PU.out Y ao co (x0, x1 + 1) w1 (O2.out.at_.went b) O2.out.cap hl)
    unfold iv at CP
    have HQ := zNR (fun w' (b : Below w2.heap.size w2 w') => (show w'.cell? ⟨b1, o1 + j * 2, none⟩ = some (.int .i64 x0) /\ w'.cell? ⟨b1, o1 + j * 2 + 1, none⟩ = some (.int .i64 x1) from ⟨cell_later b p0, cell_later b p1⟩))
    have kA := drawn w2
    have hwr : IntKind.i64.wrap (x1 + 1) = x1 + 1 := by
     simp [IntKind.wrap, IntKind.bits, IntKind.signed]
     omega
    go_region_held3 (fun w' => w'.cell? ⟨b1, o1 + j * 2, none⟩ = some (.int .i64 x0) /\ w'.cell? ⟨b1, o1 + j * 2 + 1, none⟩ = some (.int .i64 x1))
     (exact HQ.out _ (by assumption))
     (first
      | (go_at_call 57; refine (CP.out _ kA).mono ?_; rintro e w3 ⟨a3, c3, rfl, h1, h2, hb, hnw⟩; have k3 : Below w2.heap.size w2 w3 := Gr.step kA hb; have O3 := zNR (HI.out a3 c3 _ (Gr.step hb2 k3) h1 h2); have N3 := zNR (NN.out.step O2.out.bx.below.size hnw); clear h1 h2 hb hnw)
      | fail)
    go_wp2
    go_roundw
    case rel => exact ⟨j + 1, _, a3, c3, by go_num, by omega, rfl, O3.out, N3.out⟩
    case measure => simp [intOf]; omega
   ·have O3 := zNR (MISS.out fun q => hh (HS.1 q))
    have O4 := zNR (O3.out.went hb2)
    clear HIT MISS HS O2 O3 O HR
    have hh' : bb = false \/ (bb = true /\ (bv == s) = false) := by
     cases bb with
     | false => exact .inl rfl
     | true => exact .inr ⟨rfl, by simpa using fun q => hh ⟨rfl, q⟩⟩
    clear hh
    rcases hh' with rfl | ⟨rfl, hne⟩
    ·go_wp2
     go_roundw
     case rel => exact ⟨j + 1, Y, ao, co, by go_num, by omega, rfl, O4.out, NN.out⟩
     case measure => simp [intOf]; omega
    ·go_wp2
     go_roundw
     case rel => exact ⟨j + 1, Y, ao, co, by go_num, by omega, rfl, O4.out, NN.out⟩
     case measure => simp [intOf]; omega
  ·have hE : j = L.length := by omega
   subst hE
   have F := zNR (show zJh (zEO G L s) w (.returned (.slice ao Y.length co)) wr from ⟨Y, ao, co, rfl, O.out.cap, O.out.its.iff fun x => (zCe x).trans (zJN x), O.out.at_, O.out.bx.below, NN.out⟩)
   go_wp2
   go_ret
   exact F.out
