/- Proof. -/
import Derived.Laws.RangeAny
set_option linter.unusedVariables false
namespace Go.Proofs.YtegeamggbglneaaGreatDoor
namespace Ch
def cls(x:Int):Int:=
 if x=0 then 0
 else if x=32\/x=9 then 1
 else if x=10 then 2
 else if 48<=x/\x<=57 then 3
 else if(97<=x/\x<=122)\/(65<=x/\x<=90)\/x=95 then 4
 else if x=38\/x=124\/x=59\/x=60\/x=62\/x=40\/x=41 then 5
 else if x=39\/x=34\/x=92\/x=96 then 6
 else if x=36 then 7
 else 8
theorem zPu(x)(h:128<=x):cls x=8:=by
 unfold cls
 repeat' split
 all_goals first|rfl|omega
def kj(k:Int):Bool:=k==4||k==3
def cb(b:UInt8):Int:=cls (b.toNat:Int)
def nO(p:Int->Bool)(l:List UInt8):Bool:= !l.isEmpty&&l.all fun b=>p (cb b)
def nt:List UInt8->Bool
 |[]=>false
 |b::r=>cb b==4&&r.all fun c=>kj (cb c)
theorem Uj(l:List UInt8):nt l=(nO kj l&&(match l with|[]=>false|b::_=>cb b==4)):=by
 cases l with
 |nil=>rfl
 |cons b r=>
  simp only[nt,nO,List.isEmpty_cons,Bool.not_false,Bool.true_and,List.all_cons];cases h:(cb b==4)
  ·simp
  ·have:kj (cb b)=true:=by simp[kj,h]
   simp[this]
theorem zQF(s:ByteArray)(i)(h:i<s.size):s.get! i=s[i]'h:=by
 have:=get_at s i h
 simpa using this
theorem zH4(s)(pos)(h)(ha:128<=(s[pos]'h).toNat):
  ∀j,j<(Utf8.decode s pos).2->pos+j<s.size/\128<=(s.get! (pos+j)).toNat:=by
 have hn:¬(s[pos]'h).toNat<128:=by omega
 have h0:pos+0<s.size/\128<=(s.get! (pos+0)).toNat:=by rw[get_at s pos h];exact⟨h,ha⟩
 simp only[Utf8.decode,get_at s pos h,hn,if_false]
 have cont:∀k,(decide (pos+k<s.size)&&(s.get! (pos+k)).toNat / 64==2)=true->pos+k<s.size/\128<=(s.get! (pos+k)).toNat:=by
  intro k hk;simp only[Bool.and_eq_true,decide_eq_true_eq,beq_iff_eq]at hk;exact⟨hk.1,by omega⟩
 intro j hj;split at hj
 ·rename_i hc;simp only[Bool.and_eq_true]at hc;split at hj
  ·simp only at hj;rcases j with _|_|j
   ·exact h0
   ·exact cont 1 (by simpa using hc.2)
   ·omega
  ·simp only at hj;rcases j with _|j
   ·exact h0
   ·omega
 ·split at hj
  ·rename_i hc;simp only[Bool.and_eq_true]at hc;split at hj
   ·simp only at hj;rcases j with _|_|_|j
    ·exact h0
    ·exact cont 1 (by simpa using hc.1.2)
    ·exact cont 2 (by simpa using hc.2)
    ·omega
   ·simp only at hj;rcases j with _|j
    ·exact h0
    ·omega
  ·split at hj
   ·rename_i hc;simp only[Bool.and_eq_true]at hc;split at hj
    ·simp only at hj;rcases j with _|_|_|_|j
     ·exact h0
     ·exact cont 1 (by simpa using hc.1.1.2)
     ·exact cont 2 (by simpa using hc.1.2)
     ·exact cont 3 (by simpa using hc.2)
     ·omega
    ·simp only at hj;rcases j with _|j
     ·exact h0
     ·omega
   ·simp only at hj;rcases j with _|j
    ·exact h0
    ·omega
def jB(r:Int):Int:=if 127<r then 8 else cls r
theorem Tu(s)(pos)(h:pos<s.size):1<=(Utf8.decode s pos).2:=by
 by_cases ha:(s[pos]'h).toNat<128
 ·rw[decode_ascii s pos h ha];exact Nat.le_refl _
 ·exact(decode_high s pos h (by omega)).2
theorem Tt(s)(pos)(h:pos<s.size)(j)(h1:pos<=j)(h2:j<pos+(Utf8.decode s pos).2):
  ∃hj:j<s.size,cb (s[j]'hj)=jB ((Utf8.decode s pos).1:Int):=by
 by_cases ha:(s[pos]'h).toNat<128
 ·rw[decode_ascii s pos h ha]at h2⊢;simp only at h2;obtain rfl:j=pos:=by omega
  refine⟨h,?_⟩;unfold jB cb;rw[if_neg (by simp only;omega)]
 ·have hh:=decode_high s pos h (by omega);have hc:=zH4 s pos h (by omega) (j-pos) (by omega);rw[show pos+(j-pos)=j by omega]at hc;refine⟨hc.1,?_⟩;unfold jB cb;rw[if_pos (by omega),←zQF s j hc.1];exact zPu _ (by omega)
def bz(p:Int->Bool)(l:List UInt8)(k:Nat):Prop:=∀j,(h:j<l.length)->j<k->p (cb l[j])=true
theorem zPO(p)(l):bz p l 0:=fun _ _ h=>by omega
theorem zR4(p)(l)(k)(hk:l.length<=k)(h:bz p l k):(l.all fun b=>p (cb b))=true:=by
 rw[List.all_eq_true];intro x hx;obtain⟨i,hi,rfl⟩:=List.mem_iff_getElem.mp hx;exact h i hi (by omega)
theorem zR5(p:Int->Bool)(l:List UInt8)(j)(hj:j<l.length)(h:p (cb l[j])=false):(l.all fun b=>p (cb b))=false:=by
 rw[Bool.eq_false_iff];intro hall;rw[List.all_eq_true]at hall;rw[hall _ (List.getElem_mem hj)]at h;cases h
theorem zM5(p)(s:ByteArray)(k)(hk:¬k<s.size)(h:bz p s.data.toList k):nO p s.data.toList= !s.data.toList.isEmpty:=by
 unfold nO;rw[zR4 p _ k (by simpa using hk) h,Bool.and_true]
theorem zLT(p)(s)(pos)(hp:pos<s.size)(h:bz p s.data.toList pos)(hr:p (jB ((Utf8.decode s pos).1:Int))=true):
  bz p s.data.toList (pos+(Utf8.decode s pos).2):=by
 intro j hj hlt
 by_cases hb:j<pos
 ·exact h j hj hb
 ·obtain⟨h1,h2⟩:=Tt s pos hp j (by omega) hlt;have:s.data.toList[j]=s[j]'h1:=rfl;rw[this,h2];exact hr
theorem zLS(p)(s)(pos)(hp:pos<s.size)(hr:p (jB ((Utf8.decode s pos).1:Int))=false):nO p s.data.toList=false:=by
 have hw:=Tu s pos hp;obtain⟨h1,h2⟩:=Tt s pos hp pos (by omega) (by omega);unfold nO
 have:(s.data.toList.all fun b=>p (cb b))=false:=zR5 p _ pos (by simpa using hp) (by
  have e:s.data.toList[pos]'(by simpa using hp)=s[pos]'h1:=rfl;rw[e,h2]
  exact hr)
 rw[this,Bool.and_false]
