/- A part of the proof. -/
import Derived.Test.YtkcaedinfnajaaaGreatDoorRows
import Derived.WalkKit
import Derived.ProofKit
import Derived.Below
import Derived.Deep.Light
import Derived.Outline
import Derived.Test.YtkcaedinfnajaaaGreatDoorPk01
set_option maxHeartbeats 2000000
set_option maxRecDepth 100000
set_option linter.unusedVariables false
namespace Go.Proofs.YtkcaedinfnajaaaGreatDoor
namespace Ch
open Go.RowKit
theorem zAc{x r:Int}(h:x=r):Ending.returned (.int .i64 r)=.returned (.int .i64 x):=by rw[h]
theorem zAF{x r:Bool}(h:x=r):Ending.returned (.bool r)=.returned (.bool x):=by rw[h]
theorem zHF(x:Int)(w:World)(h0:0<=x)(h1:x<=255):
  Calls Tryz.prog 181 #[.int .u8 x] w fun e w'=>e=.returned (.int .i64 (cls x))/\w=w':=by
 go_enter Tryz.func181,Tryz.ntmps181;go_wp2
 all_goals
  go_ret;refine⟨zAc ?_,rfl⟩;go_light;simp only[beq_iff_eq,beq_eq_false_iff_ne,ne_eq]at*;unfold cls
  repeat' split
  all_goals omega
theorem zFv(k:Int)(w:World):
  Calls Tryz.prog 180 #[.int .i64 k] w fun e w'=>e=.returned (.bool (inN k))/\w=w':=by
 go_enter Tryz.func180,Tryz.ntmps180;go_wp2
 all_goals
  go_ret;exact⟨zAF (by simp_all [inN]),rfl⟩
theorem zEb(r:Int)(w:World)(h0:0<=r)(h1:r<=2147483647):
  Calls Tryz.prog 201 #[.int .i32 r] w fun e w'=>e=.returned (.int .i64 (clsR r))/\w=w':=by
 by_cases h:127<r
 ·go_enter Tryz.func201,Tryz.ntmps201;go_wp2;go_ret;exact⟨zAc (by unfold clsR;rw[if_pos h]),rfl⟩
 ·go_enter Tryz.func201,Tryz.ntmps201;go_wp2_with (go_at_call 181;refine(zHF _ _ ?_ ?_).mono ?_;exact h0;omega;rintro e w' ⟨rfl,rfl⟩);go_ret;exact⟨zAc (by unfold clsR;rw[if_neg (by omega)]),rfl⟩
end Ch
namespace Ch
open Go.RowKit
theorem zFw(w w':World)(s:ByteArray)(pos:Nat)(h:w'=w.iter s pos):Below w.heap.size w w':=by
 subst h;exact(Below.refl _ _).alloc (Nat.le_refl _) _
def zJE(b:Bool)(w:World)(e:Ending)(w':World):Prop:=e=.returned (.bool b)/\Below w.heap.size w w'
theorem zHP(s:ByteArray)(w:World):
  Calls Tryz.prog 179 #[.string s,.func (.func 180) #[] #[]] w (zJE (zBl inN s.data.toList) w):=by
 go_enter Tryz.func179,Tryz.ntmps179;go_wp2;go_loopw [] (fun w'=>∃(pos:Nat),w'=w.iter s pos/\Upto inN s.data.toList pos) (fun w'=>s.size-w'.iterPos w.heap.size)
 case atStart=>exact⟨0,rfl,zOS _ _⟩
 case round=>
  obtain⟨pos,rfl,hu⟩:=hrel;have HU:Hid (Upto inN s.data.toList pos):=hu;clear hu
  by_cases hp:pos<s.size
  ·have hnx:∀ty,(Instr.next (.pointer (some ⟨w.heap.size,0,none⟩)) true ty).run Tryz.prog (w.iter s pos)= _:=fun ty=>run_next_any w s pos ty hp
   have hle:((Utf8.decode s pos).1:Int)<=2147483647:=by have:=decode_le s pos;omega
   have hge:(0:Int)<=((Utf8.decode s pos).1:Int):=by omega
   by_cases hq:inN (clsR ((Utf8.decode s pos).1:Int))=true
   ·go_wp2_with (first|(go_at_call 201;refine(zEb _ _ ?_ ?_).mono ?_;exact hge;exact hle;rintro e w' ⟨rfl,rfl⟩)|(go_at_call 180;refine(zFv _ _).mono ?_;rintro e w' ⟨rfl,rfl⟩));have hwd:=zD6 s pos hp;go_roundw
    case rel=>exact⟨pos+(Utf8.decode s pos).2,rfl,zKp inN s pos hp HU.out hq⟩
    case measure=>
     simp;omega
   ·have hq':inN (clsR ((Utf8.decode s pos).1:Int))=false:=by simpa using hq
    clear hq;go_wp2_with (first|(go_at_call 201;refine(zEb _ _ ?_ ?_).mono ?_;exact hge;exact hle;rintro e w' ⟨rfl,rfl⟩)|(go_at_call 180;refine(zFv _ _).mono ?_;rintro e w' ⟨rfl,rfl⟩));go_ret;exact⟨zAF (zKo inN s pos hp hq'),zFw _ _ _ _ rfl⟩
  ·have hnx:∀ty,(Instr.next (.pointer (some ⟨w.heap.size,0,none⟩)) true ty).run Tryz.prog (w.iter s pos)= _:=fun ty=>run_next_end w s pos ty hp
   have hee:zBl inN s.data.toList= !s.toList.isEmpty:=by rw[ByteArray.toList_eq];exact zMR inN s pos hp HU.out
   have HE:Hid (zBl inN s.data.toList= !s.toList.isEmpty):=hee;clear HU hee;go_wp2;go_ret;exact⟨zAF HE.out,zFw _ _ _ _ rfl⟩
theorem zMS(p:Int->Bool)(s:ByteArray)(h:zBl p s.data.toList=true):0<s.size:=by
 rcases s with⟨⟨l⟩⟩
 cases l with
 |nil=>simp[zBl]at h
 |cons b r=>simp[ByteArray.size]
theorem zMh(s:ByteArray)(h:0<s.size):∃b r,s.data.toList=b::r/\s[0]=b:=by
 rcases s with⟨⟨l⟩⟩
 cases l with
 |nil=>simp[ByteArray.size]at h
 |cons b r=>exact⟨b,r,rfl,rfl⟩
theorem zLA(s:ByteArray)(h:zBl inN s.data.toList=false):namB s.data.toList=false:=by rw[zFo,h,Bool.false_and]
theorem zNQ(s:ByteArray)(h:zBl inN s.data.toList=true)(hp:0<s.size):namB s.data.toList=(cls ((s[0]'hp).toNat:Int)==4):=by
 obtain⟨b,r,he,hb⟩:=zMh s hp;rw[zFo,h,Bool.true_and,hb,he]
 rfl
theorem zRr(b:UInt8):((b.toNat:Int))<=255:=by have:=b.toNat_lt;omega
theorem zOK(s:ByteArray)(k:Nat):(s.extract 0 k).data.toList=s.data.toList.take k:=by
 simp[ByteArray.data_extract]
theorem zGf(s:ByteArray)(w:World):
  Calls Tryz.prog 146 #[.string s] w (zJE (namB s.data.toList) w):=by
 by_cases h:zBl inN s.data.toList=true
 ·have hp:=zMS _ s h;have hb:=zRr (s[0]'hp);go_enter Tryz.func146,Tryz.ntmps146;go_wp2_with (first|(go_at_call 179;refine(zHP _ _).mono ?_;rintro e w1 ⟨rfl,hbel⟩)|(go_at_call 181;refine(zHF _ _ ?_ ?_).mono ?_;omega;exact hb;rintro e w2 ⟨rfl,rfl⟩));go_ret;exact⟨zAF (zNQ s h hp),hbel⟩
 ·have h':zBl inN s.data.toList=false:=by simpa using h
  clear h;go_enter Tryz.func146,Tryz.ntmps146;go_wp2_with (go_at_call 179;refine(zHP _ _).mono ?_;rintro e w1 ⟨rfl,hbel⟩);go_ret;exact⟨zAF (zLA s h'),hbel⟩
