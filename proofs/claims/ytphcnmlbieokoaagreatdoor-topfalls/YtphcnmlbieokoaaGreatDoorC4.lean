import Derived.Test.YtphcnmlbieokoaaGreatDoorC1
import Derived.Lib.Bytealg
import Derived.Maps.AppendAt
import Derived.Deep.Draws
import Derived.Shelf.Spec.SlicesInsert
import Derived.Lib.AppendZerosOnto
import Derived.Lib.Overlaps
import Derived.Laws.Externs
import Derived.Lib.SliceRun
import Derived.Shelf.RegionOpenPlain
import Derived.Deep.RegionLaw
set_option maxRecDepth 100000
set_option maxHeartbeats 16000000
set_option linter.unusedVariables false
set_option linter.unusedSimpArgs false
namespace Go.Proofs.YtphcnmlbieokoaaGreatDoor.T
open Go.Lib List
theorem vQ:∀a b:List UInt8,compareBytes b a = - compareBytes a b
 |[],[]=>rfl
 |[],_::_=>rfl
 |_::_,[]=>rfl
 |x::a,y::b=>by
  unfold compareBytes
  by_cases h1:x<y
  ·have h2:¬y<x:=by rw[UInt8.lt_iff_toNat_lt]at *;omega
   rw[if_neg h2,if_pos h1,if_pos h1];decide
  ·by_cases h2:y<x
   ·rw[if_pos h2,if_neg h1,if_pos h2]
   ·rw[if_neg h2,if_neg h1,if_neg h1,if_neg h2];exact vQ a b
theorem so:∀a b:List UInt8,compareBytes a b=0↔a=b
 |[],[]=>by simp[compareBytes]
 |[],_::_=>by simp[compareBytes]
 |_::_,[]=>by simp[compareBytes]
 |x::a,y::b=>by
  unfold compareBytes
  by_cases h1:x<y
  ·rw[if_pos h1];simp only[List.cons.injEq]
   constructor
   ·intro h;omega
   ·rintro⟨rfl,_⟩;rw[UInt8.lt_iff_toNat_lt]at h1;omega
  ·rw[if_neg h1]
   by_cases h2:y<x
   ·rw[if_pos h2];simp only[List.cons.injEq]
    constructor
    ·intro h;omega
    ·rintro⟨rfl,_⟩;rw[UInt8.lt_iff_toNat_lt]at h2;omega
   ·rw[if_neg h2,so a b]
    have e:x=y:=by rw[UInt8.lt_iff_toNat_lt]at h1 h2;exact UInt8.toNat_inj.1 (by omega)
    simp[e]
theorem pK:∀a b c:List UInt8,compareBytes a b<0->compareBytes b c<0->compareBytes a c<0
 |[],[],_,h,_=>by simp[compareBytes]at h
 |_::_,[],_,h,_=>by simp[compareBytes]at h
 |_,_::_,[],_,h=>by simp[compareBytes]at h
 |[],_::_,_::_,_,_=>by simp[compareBytes]
 |x::a,y::b,z::c,h1,h2=>by
  unfold compareBytes at h1 h2 ⊢;simp only[UInt8.lt_iff_toNat_lt]at h1 h2 ⊢;have ih:=pK a b c
  repeat' split at h1
  all_goals repeat' split at h2
  all_goals repeat' split
  all_goals first|omega|(exact ih h1 h2)
def jP (a b:ByteArray):Int:=compareBytes a.data.toList b.data.toList
def dR (a b:ByteArray):Prop:=jP a b<0
theorem pM (a b:ByteArray):jP b a = - jP a b:=vQ _ _
theorem gd (a b:ByteArray):jP a b=0↔a=b:=by
 unfold jP;rw[so]
 constructor
 ·intro h
  cases a;cases b
  simp only at h
  congr 1
  exact Array.toList_inj.1 h
 ·rintro rfl;rfl
theorem eZ {a b c:ByteArray} (h:dR a b) (k:dR b c):dR a c:=pK _ _ _ h k
theorem eH (a:ByteArray):¬dR a a:=by
 unfold dR;rw[(gd a a).2 rfl];decide
theorem jC {a b:ByteArray} (h:dR a b):¬dR b a:=fun k=>eH a (eZ h k)
theorem fL {a b:ByteArray} (h:dR a b):a≠b:=fun e=>eH a (by rw[<-e]at h;exact h)
theorem mH (a b:ByteArray):dR a b∨a=b∨dR b a:=by
 unfold dR;rw[pM a b,<-gd a b];omega
instance (a b:ByteArray):Decidable (dR a b):=inferInstanceAs (Decidable (jP a b<0))
structure aG where
 az:ByteArray
 name:ByteArray
 aN:Int
def bf (l:List aG):Prop:=l.Pairwise fun a b=>dR a.az b.az
def inter:List aG->List (List aG)->List aG
 |aQ,[]=>aQ
 |[],l::_=>l
 |i::aQ,l::ls=>l++i::inter aQ ls
def pre:List aG->List (List aG)->List aG
 |i::aQ,l::ls=>l++i::pre aQ ls
 |_,_=>[]
def post:List aG->List (List aG)->List aG
 |i::aQ,l::ls=>i::(l++post aQ ls)
 |_,_=>[]
theorem cJ (aQ:List aG):inter aQ []=aQ:=by cases aQ<;>rfl
theorem qw:∀(aQ:List aG) (l:List aG) (ls:List (List aG)),aQ.length=ls.length->inter aQ (l::ls)=l++post aQ ls
 |[],l,[],_=>by simp[inter,post]
 |i::aQ,l,m::ls,h=>by simp only[inter,post];rw[qw aQ m ls (by simpa using h)]
theorem dj:∀(a:List aG) (x:List (List aG)) (c:List aG) (l:List aG) (y:List (List aG)),a.length=x.length->c.length=y.length->
 inter (a++c) (x++l::y)=pre a x++l++post c y
 |[],[],c,l,y,_,h=>by simpa[pre]using qw c l y h
 |i::a,m::x,c,l,y,h1,h2=>by simp only[cons_append,inter,pre,append_assoc];rw[dj a x c l y (by simpa using h1) h2];simp
theorem wZ:∀(a:List aG) (x:List (List aG)) (m:aG) (c:List aG) (y:List (List aG)),x.length=a.length+1->y.length=c.length+1->
 inter (a++m::c) (x++y)=inter a x++m::inter c y
 |[],[l],m,c,y,_,h2=>by simp[inter]
 |i::a,l::x,m,c,y,h1,h2=>by simp only[cons_append,inter,append_assoc];rw[wZ a x m c y (by simpa using h1) h2]
theorem G5:∀(a:List aG) (x:List (List aG)),a.length=x.length->a≠[]->∃p i,i∈a/\pre a x=p++[i]
 |[i],[l],_,_=>⟨l,i,by simp,by simp[pre]⟩
 |i::j::a,l::x,h,_=>by obtain⟨p,q,hq,e⟩:=G5 (j::a) x (by simpa using h) (by simp);exact⟨l++i::p,q,mem_cons_of_mem _ hq,by simp[pre,e]⟩
 |[],_,_,h=>absurd rfl h
theorem Kl:∀(c:List aG) (y:List (List aG)),c.length=y.length->∀i c',c=i::c'->∃p,post c y=i::p
 |_,l::y,h,i,c',e=>by subst e;exact⟨_,rfl⟩
 |_,[],h,i,c',e=>by subst e;simp at h
theorem bf.V8 {a b c:List aG} (h:bf (a++b++c)):bf b:=
 (pairwise_append.1 (pairwise_append.1 h).1).2.1
theorem zt {a:List aG} {x:List (List aG)} {t:List aG} {az:ByteArray} (hl:a.length=x.length) (hs:bf (pre a x++t)) (h:∀i∈a,dR i.az az):∀i∈pre a x,dR i.az az:=by
 by_cases ha:a=[]
 ·subst ha;intro i hi
  cases x<;>simp[pre]at hi
 ·obtain⟨p,q,hq,e⟩:=G5 a x hl ha;rw[e]at hs ⊢;intro i hi
  rcases mem_append.1 hi with h1|h1
  ·have:=(pairwise_append.1 (pairwise_append.1 hs).1).2.2 i h1 q (by simp);exact eZ this (h q hq)
  ·simp at h1;subst h1;exact h i hq
theorem wP {c:List aG} {y:List (List aG)} {t:List aG} {az:ByteArray} (hl:c.length=y.length) (hs:bf (t++post c y)) (h:∀i∈c,dR az i.az):∀i∈post c y,dR az i.az:=by
 cases c with
 |nil=>intro i hi;cases y<;>simp[post]at hi
 |cons q c'=>
  obtain⟨p,e⟩:=Kl (q::c') y hl q c' rfl;rw[e]at hs ⊢;intro i hi
  rcases mem_cons.1 hi with h1|h1
  ·subst h1;exact h i (by simp)
  ·have:=(List.pairwise_cons.1 (pairwise_append.1 hs).2.1).1 i h1;exact eZ (h q (by simp)) this
theorem xa:∀(aQ:List aG) (ls:List (List aG)),ls=[]∨ls.length=aQ.length+1->aQ.Sublist (inter aQ ls)
 |aQ,[],_=>by rw[cJ];exact List.Sublist.refl _
 |[],l::_,_=>by simp
 |i::aQ,l::ls,h=>by
  have h':ls.length=aQ.length+1:=by rcases h with h|h<;>simp at h;exact h
  simp only[inter];exact List.Sublist.trans (List.Sublist.cons_cons i (xa aQ ls (.inr h'))) (sublist_append_right _ _)
theorem bf.items {aQ:List aG} {ls:List (List aG)} (h:bf (inter aQ ls)) (hl:ls=[]∨ls.length=aQ.length+1):bf aQ:=
 List.Pairwise.sublist (xa aQ ls hl) h
def da:List aG->aG->List aG
 |[],it=>[it]
 |x::xs,it=>if dR it.az x.az then it::x::xs else if x.az=it.az then it::xs else x::da xs it
theorem kM {it:aG}:∀(a m:List aG),(∀i∈a,dR i.az it.az)->da (a++m) it=a++da m it
 |[],_,_=>rfl
 |x::a,m,h=>by have h1:=h x (by simp);simp only[cons_append,da];rw[if_neg (jC h1),if_neg (fL h1),kM a m (fun i hi=>h i (by simp[hi]))]
theorem mQ {it:aG}:∀(m c:List aG),(∀i∈c,dR it.az i.az)->da (m++c) it=da m it++c
 |[],[],_=>rfl
 |[],y::c,h=>by simp only[nil_append,da];rw[if_pos (h y (by simp))];rfl
 |x::m,c,h=>by
  simp only[cons_append,da]
  split
  ·rfl
  ·split
   ·rfl
   ·rw[mQ m c h];rfl
theorem zr {it:aG} (a c:List aG) (ha:∀i∈a,dR i.az it.az) (hc:∀i∈c,dR it.az i.az):da (a++c) it=a++it::c:=by
 rw[kM a c ha,show c=[]++c from rfl,mQ [] c hc];rfl
theorem sL {it x:aG} (a c:List aG) (ha:∀i∈a,dR i.az it.az) (hx:x.az=it.az):da (a++x::c) it=a++it::c:=by
 rw[kM a _ ha];simp only[da];rw[if_neg (by rw[hx];exact eH _),if_pos hx]
theorem rF {it y:aG}:∀(l:List aG),y∈da l it->y=it∨y∈l
 |[],h=>by simp[da]at h;exact .inl h
 |x::l,h=>by
  simp only[da]at h
  split at h
  ·exact mem_cons.1 h
  ·split at h
   ·exact(mem_cons.1 h).imp id (mem_cons_of_mem _)
   ·rcases mem_cons.1 h with h1|h1
    ·right;simp[h1]
    ·rcases rF l h1 with h2|h2
     ·exact .inl h2
     ·right;simp[h2]
theorem gk {it:aG}:∀{l:List aG},bf l->bf (da l it)
 |[],_=>by simp[da,bf]
 |x::l,h=>by
  have h0:=List.pairwise_cons.1 h;simp only[da]
  split
  ·rename_i h1
   refine List.pairwise_cons.2 ⟨fun y hy=>?_,h⟩
   rcases mem_cons.1 hy with h2|h2
   ·subst h2;exact h1
   ·exact eZ h1 (h0.1 y h2)
  ·split
   ·rename_i h1 h2
    exact List.pairwise_cons.2 ⟨fun y hy=>by rw[<-h2];exact h0.1 y hy,h0.2⟩
   ·rename_i h1 h2
    refine List.pairwise_cons.2 ⟨fun y hy=>?_,gk h0.2⟩
    rcases rF l hy with h3|h3
    ·subst h3
     rcases mH x.az y.az with h4|h4|h4
     ·exact h4
     ·exact absurd h4 h2
     ·exact absurd h4 h1
    ·exact h0.1 y h3
def cF (l:List aG) (az:ByteArray):Option aG:=l.find? fun x=>decide (x.az=az)
def dv (l:List aG) (az:ByteArray):List aG:=l.filter fun x=>!decide (x.az=az)
def bC (l:List aG) (az:ByteArray):List aG:=l.filter fun x=>decide (dR az x.az)
open Go.RowKit
structure Kept (S:Nat->Prop) (w w':World):Prop where
 os:w'.os=w.os
 tape:w'.tape=w.tape
 output:w'.output=w.output
 size:w.heap.size<=w'.heap.size
 block:∀k,k<w.heap.size->¬S k->w'.heap[k]? = w.heap[k]?
theorem Kept.refl (S:Nat->Prop) (w:World):Kept S w w:=⟨rfl,rfl,rfl,Nat.le_refl _,fun _ _ _=>rfl⟩
theorem Kept.trans {S T:Nat->Prop} {a b c:World} (h:Kept S a b) (k:Kept T b c) (hT:∀x,x<a.heap.size->T x->S x):Kept S a c:=
 ⟨k.os.trans h.os,k.tape.trans h.tape,k.output.trans h.output,Nat.le_trans h.size k.size,
  fun i hi hs=>(k.block i (Nat.lt_of_lt_of_le hi h.size) (fun ht=>hs (hT i hi ht))).trans (h.block i hi hs)⟩
theorem Kept.drew {S:Nat->Prop} {a w:World} (h:Kept S a w):Kept S a w.drew:=⟨h.os,h.tape,h.output,h.size,h.block⟩
theorem Kept.drewN {S:Nat->Prop} {a w:World} (n:Nat) (h:Kept S a w):Kept S a (w.drewN n):=⟨h.os,h.tape,h.output,h.size,h.block⟩
theorem Kept.alloc {S:Nat->Prop} {a w:World} (h:Kept S a w) (o:Obj):Kept S a (w.alloc o):=
 ⟨h.os,h.tape,h.output,Nat.le_trans h.size (by simp),fun k hk hs=>(Below.heap_alloc _ _ _ (Nat.lt_of_lt_of_le hk h.size)).trans (h.block k hk hs)⟩
theorem Kept.setCell {S:Nat->Prop} {a w:World} (h:Kept S a w) {p:Addr} (hp:p.block<a.heap.size->S p.block) (u:Value):Kept S a (w.setCell p u):=
 ⟨h.os,h.tape,h.output,Nat.le_trans h.size (by simp[World.setCell]),fun k hk hs=>(Below.heap_setCell _ _ _ _ (fun e=>hs (by subst e;exact hp hk))).trans (h.block k hk hs)⟩
theorem Kept.grown {S:Nat->Prop} {a w w':World} {row:Option Nat} (h:Kept S a w) (hg:w.grownBy w' row) (hr:∀k,row=some k->k<a.heap.size->S k):Kept S a w':=
 ⟨hg.os.trans h.os,hg.tape.trans h.tape,hg.output.trans h.output,Nat.le_trans h.size hg.size,
  fun k hk hs=>(hg.block k (Nat.lt_of_lt_of_le hk h.size) (fun e=>hs (hr k e.symm hk))).trans (h.block k hk hs)⟩
theorem Kept.iH {S:Nat->Prop} {w w':World} (h:Below w.heap.size w w'):Kept S w w':=⟨h.os,h.tape,h.output,h.size,fun k hk _=>h.block k hk⟩
theorem Kept.below {S:Nat->Prop} {B:Nat} {w w':World} (h:Kept S w w') (hB:B<=w.heap.size) (hS:∀x,S x->B<=x):Below B w w':=
 ⟨h.os,h.tape,h.output,h.size,fun k hk=>h.block k (by omega) (fun hs=>by have:=hS k hs;omega)⟩
theorem Kept.cell {S:Nat->Prop} {w w':World} (h:Kept S w w') {p:Addr} (hp:p.block<w.heap.size) (hs:¬S p.block):w'.cell? p=w.cell? p:=
 World.cell?_of_block (w:=w) (h.block p.block hp hs)
theorem Kept.row {S:Nat->Prop} {w w':World} (h:Kept S w w') {au:Nat} {e:TypeId} {size:Nat} {v:Value} {n:Nat} {xs:List Value} (ho:w.ownsRow au e size v n xs) (hs:∀k,v.ownBlock=some k->¬S k):w'.ownsRow au e size v n xs:=by
 refine⟨ho.1,?_⟩
 rcases ho.2 with hn|⟨g,aU,cur,rfl,hb,sV,rest⟩
 ·exact .inl hn
 ·refine .inr ⟨g,aU,cur,rfl,hb,?_,rest⟩;rw[h.block g (Array.getElem?_eq_some_iff.1 sV).1 (hs g rfl)];exact sV
def cellsOf (it:aG):List Value:=[.string it.az,.string it.name,.int .i64 it.aN]
def flat (l:List aG):List Value:=l.flatMap cellsOf
theorem fF (x:aG) (l:List aG):flat (x::l)=.string x.az::.string x.name::.int .i64 x.aN::flat l:=rfl
theorem eW (a b:List aG):flat (a++b)=flat a++flat b:=by simp[flat]
theorem dU (l:List aG):(flat l).length=l.length*3:=by
 induction l with
 |nil=>rfl
 |cons x l ih=>rw[fF];simp[ih];omega
theorem mT (l:List aG) (n:Nat):(flat l).take (n*3)=flat (l.take n):=by
 induction l generalizing n with
 |nil=>simp[flat]
 |cons x l ih=>
  cases n with
  |zero=>simp[flat]
  |succ n=>rw[show(n+1)*3=n*3+1+1+1 by omega];simp only[fF,take_succ_cons,ih]
theorem mU (l:List aG) (n:Nat):(flat l).drop (n*3)=flat (l.drop n):=by
 induction l generalizing n with
 |nil=>simp[flat]
 |cons x l ih=>
  cases n with
  |zero=>simp[flat]
  |succ n=>rw[show(n+1)*3=n*3+1+1+1 by omega];simp only[fF,drop_succ_cons,ih]
theorem flat_get (l:List aG) (i:Nat) (h:i<l.length):(flat l)[i*3]? = some (.string (l[i]).az)/\(flat l)[i*3+1]? = some (.string (l[i]).name)/\(flat l)[i*3+2]? = some (.int .i64 (l[i]).aN):=by
 induction l generalizing i with
 |nil=>simp at h
 |cons x l ih=>
  cases i with
  |zero=>simp[fF]
  |succ i=>have:=ih i (by simpa using h);rw[show(i+1)*3=i*3+1+1+1 by omega];simp only[fF,getElem_cons_succ];simpa using this
theorem fM (l:List aG):∀u∈flat l,u.oneCell'=true:=by
 intro u hu;obtain⟨x,_,hx⟩:=List.mem_flatMap.1 hu;simp[cellsOf]at hx
 rcases hx with rfl|rfl|rfl<;>rfl
theorem Sn (l:List aG) (i:Nat) (x:aG) (h:i<l.length):(((flat l).set (i*3) (.string x.az)).set (i*3+1) (.string x.name)).set (i*3+2) (.int .i64 x.aN)=flat (l.set i x):=by
 induction l generalizing i with
 |nil=>simp at h
 |cons y l ih=>
  cases i with
  |zero=>simp[fF]
  |succ i=>have:=ih i (by simpa using h);rw[show(i+1)*3=i*3+1+1+1 by omega];simp only[fF,set_cons_succ,<-this]
def bK (b:Nat):Value:=.pointer (some ⟨b,0,none⟩)
structure bQ where
 b:Nat
 c:Nat
 L:List aG
 own:Nat->Nat
def one (b x:Nat):Nat:=if x=b then 1 else 0
def eR (v:Value) (x:Nat):Nat:=if v.ownBlock=some x then 1 else 0
def owns (aM:List bQ) (x:Nat):Nat:=(aM.map fun y=>y.own x).sum
theorem pg (x:Nat):owns [] x=0:=rfl
theorem iQ (k:bQ) (l:List bQ) (x:Nat):owns (k::l) x=k.own x+owns l x:=by simp[owns]
theorem jr (a b:List bQ) (x:Nat):owns (a++b) x=owns a x+owns b x:=by simp[owns]
theorem G8 {l:List bQ} {k:bQ} (h:k∈l) (x:Nat):k.own x<=owns l x:=by
 induction l with
 |nil=>simp at h
 |cons a l ih=>
  rw[iQ]
  rcases mem_cons.1 h with h|h
  ·subst h;omega
  ·have:=ih h;omega
theorem wR {x:Nat}:∀{l:List bQ},0<owns l x->∃y∈l,0<y.own x
 |[],h=>by simp[pg]at h
 |a::l,h=>by
  rw[iQ]at h
  by_cases h5:0<a.own x
  ·exact⟨a,by simp,h5⟩
  ·obtain⟨y,hy,h6⟩:=wR (l:=l) (x:=x) (by omega);exact⟨y,by simp[hy],h6⟩
structure lQ (au:Nat) (w:World) (k:bQ) (aQ:List aG) (aM:List bQ) (v0 v1:Value):Prop where
 cell:w.heap[k.b]? = some (.cells #[v0,v1] 241 (0,0))
 low:au<=k.b
 items:w.ownsRow au 238 3 v0 aQ.length (flat aQ)
 below:w.ownsRow au 190 1 v1 aM.length (aM.map fun y=>bK y.b)
 c:k.c=aQ.length
 L:k.L=inter aQ (aM.map bQ.L)
 own:∀x,k.own x=one k.b x+eR v0 x+eR v1 x+owns aM x
 uniq:∀x,k.own x<=1
def Sub (au:Nat) (w:World):Nat->bQ->Prop
 | 0,k=>∃aQ v0 v1,lQ au w k aQ [] v0 v1
 |h+1,k=>∃aQ aM v0 v1,lQ au w k aQ aM v0 v1/\aM.length=aQ.length+1/\∀x∈aM,1<=x.c/\x.c<=3/\Sub au w h x
def Kids (au:Nat) (w:World):Nat->List aG->List bQ->Prop
 | 0,_,aM=>aM=[]
 |h+1,aQ,aM=>aM.length=aQ.length+1/\∀x∈aM,Sub au w h x
def Fit (k:bQ):Prop:=1<=k.c/\k.c<=3
theorem Sub.open {au:Nat} {w:World} {h:Nat} {k:bQ} (hs:Sub au w h k):∃aQ aM v0 v1,lQ au w k aQ aM v0 v1/\Kids au w h aQ aM/\∀x∈aM,Fit x:=by
 cases h with
 |zero=>obtain⟨aQ,v0,v1,hn⟩:=hs;exact⟨aQ,[],v0,v1,hn,rfl,by simp⟩
 |succ h=>obtain⟨aQ,aM,v0,v1,hn,hl,hk⟩:=hs;exact⟨aQ,aM,v0,v1,hn,⟨hl,fun x hx=>(hk x hx).2.2⟩,fun x hx=>⟨(hk x hx).1,(hk x hx).2.1⟩⟩
theorem Sub.shut {au:Nat} {w:World} {h:Nat} {k:bQ} {aQ:List aG} {aM:List bQ} {v0 v1:Value} (hn:lQ au w k aQ aM v0 v1) (hk:Kids au w h aQ aM) (hf:∀x∈aM,Fit x):Sub au w h k:=by
 cases h with
 |zero=>obtain rfl:aM=[]:=hk;exact⟨aQ,v0,v1,hn⟩
 |succ h=>exact⟨aQ,aM,v0,v1,hn,hk.1,fun x hx=>⟨(hf x hx).1,(hf x hx).2,hk.2 x hx⟩⟩
theorem lQ.lt {au:Nat} {w:World} {k:bQ} {aQ:List aG} {aM:List bQ} {v0 v1:Value} (h:lQ au w k aQ aM v0 v1):k.b<w.heap.size:=(Array.getElem?_eq_some_iff.1 h.cell).1
theorem dV {v:Value} {x:Nat}:0<eR v x↔v.ownBlock=some x:=by unfold eR;split<;>simp_all
theorem one_pos {b x:Nat}:0<one b x↔x=b:=by unfold one;split<;>simp_all
theorem bx (b:Nat):one b b=1:=by simp[one]
theorem iX {v:Value} {x:Nat} (h:v.ownBlock=some x):eR v x=1:=by simp[eR,h]
theorem Sub.range {au:Nat} {w:World}:∀{h:Nat} {k:bQ},Sub au w h k->∀x,0<k.own x->au<=x/\x<w.heap.size
 |h,k,hs,x,hx=>by
  obtain⟨aQ,aM,v0,v1,hn,hk,_⟩:=hs.open;rw[hn.own]at hx
  by_cases h1:0<one k.b x
  ·obtain rfl:=one_pos.1 h1;exact⟨hn.low,hn.lt⟩
  ·by_cases h2:0<eR v0 x
   ·exact hn.items.lt x (dV.1 h2)
   ·by_cases h3:0<eR v1 x
    ·exact hn.below.lt x (dV.1 h3)
    ·have h4:0<owns aM x:=by omega
     obtain⟨y,hy,h5⟩:=wR h4
     cases h with
     |zero=>obtain rfl:aM=[]:=hk;simp at hy
     |succ h=>exact Sub.range (hk.2 y hy) x h5
theorem lQ.kept {au:Nat} {w w':World} {k:bQ} {aQ:List aG} {aM:List bQ} {v0 v1:Value} {S:Nat->Prop} (h:lQ au w k aQ aM v0 v1) (hk:Kept S w w') (h0:¬S k.b) (h1:∀x,v0.ownBlock=some x->¬S x) (h2:∀x,v1.ownBlock=some x->¬S x):lQ au w' k aQ aM v0 v1:=
 ⟨(hk.block k.b h.lt h0).trans h.cell,h.low,hk.row h.items h1,hk.row h.below h2,h.c,h.L,h.own,h.uniq⟩
theorem Sub.kept {au:Nat} {w w':World} {S:Nat->Prop} (hk:Kept S w w'):∀{h:Nat} {k:bQ},Sub au w h k->(∀x,0<k.own x->¬S x)->Sub au w' h k
 | 0,k,hs,hn=>by
  obtain⟨aQ,v0,v1,h⟩:=hs;refine⟨aQ,v0,v1,h.kept hk (hn _ ?_) (fun x hx=>hn x ?_) (fun x hx=>hn x ?_)⟩
  ·have:=h.own k.b;rw[bx]at this;omega
  ·have:=h.own x;rw[iX hx]at this;omega
  ·have:=h.own x;rw[iX hx]at this;omega
 |h+1,k,hs,hn=>by
  obtain⟨aQ,aM,v0,v1,h,hl,hx⟩:=hs;refine⟨aQ,aM,v0,v1,h.kept hk (hn _ ?_) (fun x hx=>hn x ?_) (fun x hx=>hn x ?_),hl,fun y hy=>⟨(hx y hy).1,(hx y hy).2.1,Sub.kept hk (hx y hy).2.2 fun x hp=>hn x ?_⟩⟩
  ·have:=h.own k.b;rw[bx]at this;omega
  ·have:=h.own x;rw[iX hx]at this;omega
  ·have:=h.own x;rw[iX hx]at this;omega
  ·have:=h.own x;have:=G8 hy x;omega
theorem Sub.uniq {au:Nat} {w:World} {h:Nat} {k:bQ} (hs:Sub au w h k):∀x,k.own x<=1:=by
 obtain⟨_,_,_,_,hn,_⟩:=hs.open;exact hn.uniq
theorem vw:∀(aQ:List aG) (ls:List (List aG)),ls.length=aQ.length+1->(inter aQ ls).length=aQ.length+(ls.map List.length).sum
 |[],[l],_=>by simp[inter]
 |i::aQ,l::ls,h=>by have:=vw aQ ls (by simpa using h);simp only[inter,length_append,length_cons,this,map_cons,sum_cons];omega
theorem Xo (l:List Nat) (m:Nat) (h:∀x∈l,m<=x):l.length*m<=l.sum:=by
 induction l with
 |nil=>simp
 |cons a l ih=>
  have h1:=h a (by simp);have h2:=ih fun x hx=>h x (by simp[hx])
  simp only[length_cons,sum_cons,Nat.succ_mul];omega
theorem Sub.aF {au:Nat} {w:World}:∀{h:Nat} {k:bQ},Sub au w h k->1<=k.c->2^(h+1)<=k.L.length+1
 | 0,k,hs,hc=>by obtain⟨aQ,v0,v1,hn⟩:=hs;have h1:=hn.c;have h2:=hn.L;simp only[map_nil,cJ]at h2;rw[h2];simp;omega
 |h+1,k,hs,hc=>by
  obtain⟨aQ,aM,v0,v1,hn,hl,hk⟩:=hs;have h1:=hn.c;have h2:=hn.L;rw[h2,vw aQ _ (by simpa using hl)]
  have h3:=Xo ((aM.map bQ.L).map List.length) (2^(h+1)-1) (by
   intro x hx;obtain⟨z,hz,rfl⟩:=mem_map.1 hx;obtain⟨y,hy,rfl⟩:=mem_map.1 hz;have:=Sub.aF (hk y hy).2.2 (hk y hy).1;omega)
  simp only[length_map,hl]at h3;have h4:2*(2^(h+1)-1)<=(aQ.length+1)*(2^(h+1)-1):=Nat.mul_le_mul_right _ (by omega);have h5:0<2^(h+1):=Nat.pow_pos (by decide);rw[Nat.pow_succ 2 (h+1)];omega
inductive aI where
 |cell (b:Nat) (t:TypeId) (vs:List Value)
 |row (v:Value) (e:TypeId) (k n:Nat) (xs:List Value)
 |sub (h:Nat) (k:bQ)
 |subs (h:Nat) (aM:List bQ)
 |obj (b:Nat) (p:Obj->Prop)
def aI.eI:aI->Nat->Nat
 |.cell b _ _,x=>one b x
 |.row v _ _ _ _,x=>eR v x
 |.sub _ k,x=>k.own x
 |.subs _ aM,x=>owns aM x
 |.obj b _,x=>one b x
def aI.Sat (au:Nat) (w:World):aI->Prop
 |.cell b t vs=>au<=b/\w.heap[b]? = some (.cells vs.toArray t (0,0))
 |.row v e k n xs=>w.ownsRow au e k v n xs
 |.sub h k=>Sub au w h k
 |.subs h aM=>∀x∈aM,Sub au w h x
 |.obj b p=>au<=b/\∃o,w.heap[b]? = some o/\p o
def total (rs:List aI) (x:Nat):Nat:=(rs.map fun r=>r.eI x).sum
theorem fx (x:Nat):total [] x=0:=rfl
theorem ax (r:aI) (rs:List aI) (x:Nat):total (r::rs) x=r.eI x+total rs x:=by simp[total]
theorem ay (a b:List aI) (x:Nat):total (a++b) x=total a x+total b x:=by simp[total]
theorem gH {r:aI} {rs:List aI} (h:r∈rs) (x:Nat):r.eI x<=total rs x:=by
 induction rs with
 |nil=>simp at h
 |cons a l ih=>
  rw[ax]
  rcases mem_cons.1 h with h|h
  ·subst h;omega
  ·have:=ih h;omega
structure aw (au:Nat) (w0:World) (K0:Nat->Nat) (w:World) (rs:List aI):Prop where
 sat:∀r∈rs,r.Sat au w
 uniq:∀x,total rs x<=1
 old:∀x,x<w0.heap.size->total rs x<=K0 x
 kept:Kept (fun x=>0<K0 x) w0 w
theorem aI.Sat.range {au:Nat} {w:World} {r:aI} (h:r.Sat au w) (x:Nat) (hx:0<r.eI x):au<=x/\x<w.heap.size:=by
 cases r with
 |cell b t vs=>obtain rfl:=one_pos.1 hx;exact⟨h.1,(Array.getElem?_eq_some_iff.1 h.2).1⟩
 |row v e k n xs=>exact World.ownsRow.lt h x (dV.1 hx)
 |sub n k=>exact Sub.range h x hx
 |subs n aM=>obtain⟨y,hy,h5⟩:=wR hx;exact Sub.range (h y hy) x h5
 |obj b p=>obtain rfl:=one_pos.1 hx;obtain⟨h1,o,h2,_⟩:=h;exact⟨h1,(Array.getElem?_eq_some_iff.1 h2).1⟩
theorem aI.Sat.kept {au:Nat} {w w':World} {S:Nat->Prop} {r:aI} (h:r.Sat au w) (hk:Kept S w w') (hs:∀x,0<r.eI x->¬S x):r.Sat au w':=by
 cases r with
 |cell b t vs=>exact⟨h.1,(hk.block b (Array.getElem?_eq_some_iff.1 h.2).1 (hs b (by show 0<one b b;rw[bx];decide))).trans h.2⟩
 |row v e k n xs=>exact hk.row h fun x hx=>hs x (dV.2 hx)
 |sub n k=>exact Sub.kept hk h hs
 |subs n aM=>exact fun y hy=>Sub.kept hk (h y hy) fun x hx=>hs x (Nat.lt_of_lt_of_le hx (G8 hy x))
 |obj b p=>obtain⟨h1,o,h2,h3⟩:=h;exact⟨h1,o,(hk.block b (Array.getElem?_eq_some_iff.1 h2).1 (hs b (by show 0<one b b;rw[bx];decide))).trans h2,h3⟩
theorem aw.size {au:Nat} {w0 w:World} {K0:Nat->Nat} {rs:List aI} (h:aw au w0 K0 w rs):w0.heap.size<=w.heap.size:=h.kept.size
theorem aw.beyond {au:Nat} {w0 w:World} {K0:Nat->Nat} {rs:List aI} (h:aw au w0 K0 w rs) {x:Nat} (hx:w.heap.size<=x):total rs x=0:=by
 have az:∀l:List aI,(∀r∈l,r.Sat au w)->total l x=0:=by
  intro l
  induction l with
  |nil=>intro _;rfl
  |cons a l ih=>intro hl;rw[ax,ih fun r hr=>hl r (by simp[hr])];have:=(hl a (by simp)).range x;omega
 exact az rs h.sat
theorem aw.conv {au:Nat} {w0 w:World} {K0:Nat->Nat} {rs rs':List aI} (h:aw au w0 K0 w rs) (ht:∀x,total rs' x<=total rs x) (hs:∀r∈rs',r.Sat au w):aw au w0 K0 w rs':=
 ⟨hs,fun x=>Nat.le_trans (ht x) (h.uniq x),fun x hx=>Nat.le_trans (ht x) (h.old x hx),h.kept⟩
theorem aw.put {au:Nat} {w0 w w':World} {K0:Nat->Nat} (l1:List aI) {r r':aI} {l2:List aI} (h:aw au w0 K0 w (l1++r::l2)) (hk:Kept (fun x=>0<r.eI x) w w') (hs:r'.Sat au w') (hf:∀x,x<w.heap.size->r'.eI x<=r.eI x) (h1:∀x,r'.eI x<=1):aw au w0 K0 w' (l1++r'::l2):=by
 have gP:=h.size
 have az:∀x,x<w.heap.size->total (l1++r'::l2) x<=total (l1++r::l2) x:=fun x hx=>by have:=hf x hx;simp only[ay,ax];omega
 refine⟨fun q hq=>?_,fun x=>?_,fun x hx=>Nat.le_trans (az x (by omega)) (h.old x hx),h.kept.trans hk fun x hx h2=>?_⟩
 ·have other:∀q,(q∈l1∨q∈l2)->q.Sat au w':=fun q hq=>by
   refine(h.sat q (by rcases hq with h|h<;>simp[h])).kept hk fun x hx h2=>?_
   have h3:=h.uniq x;simp only[ay,ax]at h3
   rcases hq with hq|hq
   ·have:=gH hq x;omega
   ·have:=gH hq x;omega
  rcases mem_append.1 hq with hq|hq
  ·exact other q (.inl hq)
  ·rcases mem_cons.1 hq with hq|hq
   ·subst hq;exact hs
   ·exact other q (.inr hq)
 ·rcases Nat.lt_or_ge x w.heap.size with hx|hx
  ·exact Nat.le_trans (az x hx) (h.uniq x)
  ·have h3:=h.beyond hx;simp only[ay,ax]at h3 ⊢;have:=h1 x;omega
 ·have h3:=h.old x hx;simp only[ay,ax]at h3;omega
theorem aw.keep {au:Nat} {w0 w w':World} {K0:Nat->Nat} {rs:List aI} (h:aw au w0 K0 w rs) (hk:Kept (fun _=>False) w w'):aw au w0 K0 w' rs:=
 ⟨fun q hq=>(h.sat q hq).kept hk fun _ _ h=>h,h.uniq,h.old,h.kept.trans hk fun _ _ h=>h.elim⟩
theorem aw.below {au:Nat} {w0 w w':World} {K0:Nat->Nat} {rs:List aI} (h:aw au w0 K0 w rs) (hk:Below w.heap.size w w'):aw au w0 K0 w' rs:=h.keep (Kept.iH hk)
theorem aw.drew {au:Nat} {w0 w:World} {K0:Nat->Nat} {rs:List aI} (h:aw au w0 K0 w rs):aw au w0 K0 w.drew rs:=h.keep (Kept.refl _ w).drew
theorem aw.drewN {au:Nat} {w0 w:World} {K0:Nat->Nat} {rs:List aI} (h:aw au w0 K0 w rs) (n:Nat):aw au w0 K0 (w.drewN n) rs:=h.keep ((Kept.refl _ w).drewN n)
theorem aw.alloc {au:Nat} {w0 w:World} {K0:Nat->Nat} {rs:List aI} (h:aw au w0 K0 w rs) (o:Obj):aw au w0 K0 (w.alloc o) rs:=h.keep ((Kept.refl _ w).alloc o)
theorem aw.new {au:Nat} {w0 w w':World} {K0:Nat->Nat} {rs:List aI} (h:aw au w0 K0 w rs) {r:aI} (hk:Kept (fun _=>False) w w') (hs:r.Sat au w') (hf:∀x,0<r.eI x->w.heap.size<=x) (h1:∀x,r.eI x<=1):aw au w0 K0 w' (r::rs):=by
 have h':=h.keep hk;have gP:=h.size;refine⟨fun q hq=>?_,fun x=>?_,fun x hx=>?_,h'.kept⟩
 ·rcases mem_cons.1 hq with hq|hq
  ·subst hq;exact hs
  ·exact h'.sat q hq
 ·rw[ax]
  rcases Nat.lt_or_ge x w.heap.size with hx|hx
  ·have:=hf x;have:=h.uniq x;omega
  ·have:=h.beyond hx;have:=h1 x;omega
 ·rw[ax];have:=hf x;have:=h.old x hx;omega
theorem aw.aY {au:Nat} {w0 w:World} {K0:Nat->Nat} {rs:List aI} (h:aw au w0 K0 w rs) (hb:au<=w.heap.size) (t:TypeId) (vs:List Value):aw au w0 K0 (w.alloc (.cells vs.toArray t)) (.cell w.heap.size t vs::rs):=
 h.new ((Kept.refl _ w).alloc _) ⟨hb,heap_alloc_new w _⟩ (fun x hx=>by obtain rfl:=one_pos.1 hx;exact Nat.le_refl _) (fun x=>by show one _ _<=1;unfold one;split<;>omega)
theorem aw.aD {au:Nat} {w0 w:World} {K0:Nat->Nat} (l1:List aI) {r:aI} {l2:List aI} (h:aw au w0 K0 w (l1++r::l2)):aw au w0 K0 w (l1++l2):=
 h.conv (fun x=>by simp only[ay,ax];omega) (fun q hq=>h.sat q (by simp only[mem_append,mem_cons]at hq ⊢;rcases hq with h|h<;>simp[h]))
theorem bM (b:Nat) (t:TypeId) (vs:List Value) (x:Nat):(aI.cell b t vs).eI x=one b x:=rfl
theorem dD (v:Value) (e:TypeId) (k n:Nat) (xs:List Value) (x:Nat):(aI.row v e k n xs).eI x=eR v x:=rfl
theorem eV (h:Nat) (k:bQ) (x:Nat):(aI.sub h k).eI x=k.own x:=rfl
theorem dI (h:Nat) (aM:List bQ) (x:Nat):(aI.subs h aM).eI x=owns aM x:=rfl
theorem vJ (b:Nat) (p:Obj->Prop) (x:Nat):(aI.obj b p).eI x=one b x:=rfl
theorem one_le (b x:Nat):one b x<=1:=by unfold one;split<;>omega
theorem qI (v:Value) (x:Nat):eR v x<=1:=by unfold eR;split<;>omega
theorem aw.cellAt {au:Nat} {w0 w:World} {K0:Nat->Nat} {rs:List aI} (h:aw au w0 K0 w rs) {b:Nat} {t:TypeId} {vs:List Value} (hm:aI.cell b t vs∈rs) {j:Nat} {v:Value} (hv:vs[j]? = some v):w.cell? ⟨b,j,none⟩=some v:=by
 have:=(h.sat _ hm).2;rw[cell_of_row w b j _ t (0,0) this]
 simpa using hv
theorem aw.frozenAt {au:Nat} {w0 w:World} {K0:Nat->Nat} {rs:List aI} (h:aw au w0 K0 w rs) {b:Nat} {t:TypeId} {vs:List Value} (hm:aI.cell b t vs∈rs) (j:Nat):w.frozen? ⟨b,j,none⟩=false:=
 frozen_of_row w b j _ t (h.sat _ hm).2
theorem aw.rowAt {au:Nat} {w0 w:World} {K0:Nat->Nat} {rs:List aI} (h:aw au w0 K0 w rs) {v:Value} {e:TypeId} {k n:Nat} {xs:List Value} (hm:aI.row v e k n xs∈rs):w.ownsRow au e k v n xs:=h.sat _ hm
theorem aw.ZH {au:Nat} {w0 w:World} {K0:Nat->Nat} {rs:List aI} (h:aw au w0 K0 w rs) {n:Nat} {k:bQ} (hm:aI.sub n k∈rs):Sub au w n k:=h.sat _ hm
theorem aw.store {au:Nat} {w0 w:World} {K0:Nat->Nat} (l1:List aI) {b:Nat} {t:TypeId} {vs:List Value} {l2:List aI} (h:aw au w0 K0 w (l1++.cell b t vs::l2)) (j:Nat) (u:Value) (Nj:List Value) (he:vs.set j u=Nj):aw au w0 K0 (w.setCell ⟨b,j,none⟩ u) (l1++.cell b t Nj::l2):=by
 have hc:=h.sat (.cell b t vs) (by simp);refine h.put l1 (Kept.setCell (Kept.refl _ w) (fun _=>by show 0<one b b;rw[bx];decide) u) ⟨hc.1,?_⟩ (fun x _=>Nat.le_refl _) (one_le b);rw[heap_setCell_same w b j _ t u hc.2,<-he];simp
theorem aw.grow {au:Nat} {w0 w w':World} {K0:Nat->Nat} (l1:List aI) {v v':Value} {e:TypeId} {k n n':Nat} {xs ys:List Value} {l2:List aI} (h:aw au w0 K0 w (l1++.row v e k n xs::l2)) (hg:w.grownBy w' v.ownBlock) (hr:w'.ownsRow au e k v' n' ys) (ha:v'.ownBlock=v.ownBlock∨∃x,v'.ownBlock=some x/\w.heap.size<=x):aw au w0 K0 w' (l1++.row v' e k n' ys::l2):=by
 refine h.put l1 ((Kept.refl _ w).grown hg fun x hx _=>dV.2 hx) hr (fun x hx=>?_) (qI v')
 show eR v' x<=eR v x;unfold eR
 rcases ha with ha|⟨y,ha,hy⟩
 ·rw[ha];exact Nat.le_refl _
 ·rw[ha]
  split
  ·rename_i e;have:=Option.some.inj e;omega
  ·omega
theorem aw.newRow {au:Nat} {w0 w w':World} {K0:Nat->Nat} {rs:List aI} (h:aw au w0 K0 w rs) {v:Value} {e:TypeId} {k n:Nat} {xs:List Value} (hk:Below w.heap.size w w') (hr:w'.ownsRow au e k v n xs) (ha:∃x,v.ownBlock=some x/\w.heap.size<=x):aw au w0 K0 w' (.row v e k n xs::rs):=
 h.new (Kept.iH hk) hr (fun x hx=>by obtain⟨y,h1,h2⟩:=ha;have h3:=dV.1 hx;rw[h1]at h3;cases h3;exact h2) (qI v)
theorem aw.fJ {au:Nat} {w0 w:World} {K0:Nat->Nat} {rs:List aI} (h:aw au w0 K0 w rs) (e:TypeId) (k:Nat):aw au w0 K0 w (.row (.slice none 0 0) e k 0 []::rs):=
 h.new (Kept.refl _ w) (World.ownsRow_nil w au e k) (fun x hx=>by have:=dV.1 hx;simp[Value.ownBlock]at this) (qI _)
def Shape (h:Nat) (aQ:List aG) (aM:List bQ):Prop:=(h=0/\aM=[])∨(0<h/\aM.length=aQ.length+1)
def aO (v:Value) (aQ:List aG):aI:=.row v 238 3 aQ.length (flat aQ)
def bg (v:Value) (aM:List bQ):aI:=.row v 190 1 aM.length (aM.map fun y=>bK y.b)
def aK (b:Nat) (v0 v1:Value):aI:=.cell b 241 [v0,v1]
theorem aw.open {au:Nat} {w0 w:World} {K0:Nat->Nat} (l1:List aI) {h:Nat} {k:bQ} {l2:List aI} (H:aw au w0 K0 w (l1++.sub h k::l2)):
 ∃aQ aM v0 v1,k.c=aQ.length/\k.L=inter aQ (aM.map bQ.L)/\Shape h aQ aM/\(∀x∈aM,Fit x)/\aw au w0 K0 w (l1++aK k.b v0 v1::aO v0 aQ::bg v1 aM::.subs (h-1) aM::l2):=by
 have hs:Sub au w h k:=H.sat (.sub h k) (by simp);obtain⟨aQ,aM,v0,v1,hn,hk,hf⟩:=hs.open
 have gX:Shape h aQ aM/\∀x∈aM,Sub au w (h-1) x:=by
  cases h with
  |zero=>obtain rfl:aM=[]:=hk;exact⟨.inl ⟨rfl,rfl⟩,by simp⟩
  |succ h=>exact⟨.inr ⟨by omega,hk.1⟩,hk.2⟩
 refine⟨aQ,aM,v0,v1,hn.c,hn.L,gX.1,hf,H.conv (fun x=>?_) (fun r hr=>?_)⟩
 ·simp only[ay,ax,aK,aO,bg,bM,dD,eV,dI];rw[hn.own x];omega
 ·simp only[mem_append,mem_cons]at hr
  rcases hr with hr|rfl|rfl|rfl|rfl|hr
  ·exact H.sat r (by simp[hr])
  ·exact⟨hn.low,hn.cell⟩
  ·exact hn.items
  ·exact hn.below
  ·exact gX.2
  ·exact H.sat r (by simp[hr])
theorem aw.shut {au:Nat} {w0 w:World} {K0:Nat->Nat} (l1:List aI) {h b:Nat} {aQ:List aG} {aM:List bQ} {v0 v1:Value} {l2:List aI} (H:aw au w0 K0 w (l1++aK b v0 v1::aO v0 aQ::bg v1 aM::.subs (h-1) aM::l2)) (gX:Shape h aQ aM) (hf:∀x∈aM,Fit x):
 ∃k:bQ,k.b=b/\k.c=aQ.length/\k.L=inter aQ (aM.map bQ.L)/\aw au w0 K0 w (l1++.sub h k::l2):=by
 have hu:∀x,one b x+eR v0 x+eR v1 x+owns aM x<=1:=fun x=>by have:=H.uniq x;simp only[ay,ax,aK,aO,bg,bM,dD,eV,dI]at this;omega
 have hn:lQ au w ⟨b,aQ.length,inter aQ (aM.map bQ.L),fun x=>one b x+eR v0 x+eR v1 x+owns aM x⟩ aQ aM v0 v1:=
  ⟨(H.sat (aK b v0 v1) (by simp)).2,(H.sat (aK b v0 v1) (by simp)).1,H.sat (aO v0 aQ) (by simp),H.sat (bg v1 aM) (by simp),rfl,rfl,fun _=>rfl,hu⟩
 have hk:∀x∈aM,Sub au w (h-1) x:=H.sat (.subs (h-1) aM) (by simp);refine⟨⟨b,aQ.length,inter aQ (aM.map bQ.L),fun x=>one b x+eR v0 x+eR v1 x+owns aM x⟩,rfl,rfl,rfl,H.conv (fun x=>?_) (fun r hr=>?_)⟩
 ·simp only[ay,ax,aK,aO,bg,bM,dD,eV,dI];omega
 ·simp only[mem_append,mem_cons]at hr
  rcases hr with hr|rfl|hr
  ·exact H.sat r (by simp[hr])
  ·refine Sub.shut hn ?_ hf
   rcases gX with⟨rfl,rfl⟩|⟨hp,hl⟩
   ·rfl
   ·obtain⟨h',rfl⟩:∃h',h=h'+1:=⟨h-1,by omega⟩;exact⟨hl,hk⟩
  ·exact H.sat r (by simp[hr])
theorem aw.take {au:Nat} {w0 w:World} {K0:Nat->Nat} (l1:List aI) {h:Nat} {a:List bQ} {k:bQ} {d:List bQ} {l2:List aI} (H:aw au w0 K0 w (l1++.subs h (a++k::d)::l2)):aw au w0 K0 w (l1++.sub h k::.subs h (a++d)::l2):=by
 have hk:∀x∈a++k::d,Sub au w h x:=H.sat (.subs h (a++k::d)) (by simp);refine H.conv (fun x=>?_) (fun r hr=>?_)
 ·simp only[ay,ax,eV,dI,jr,iQ];omega
 ·simp only[mem_append,mem_cons]at hr
  rcases hr with hr|rfl|rfl|hr
  ·exact H.sat r (by simp[hr])
  ·exact hk k (by simp)
  ·exact fun x hx=>hk x (by simp at hx ⊢;rcases hx with h|h<;>simp[h])
  ·exact H.sat r (by simp[hr])
theorem aw.OP {au:Nat} {w0 w:World} {K0:Nat->Nat} (l1:List aI) {h:Nat} (a:List bQ) {k:bQ} (d:List bQ) {l2:List aI} (H:aw au w0 K0 w (l1++.sub h k::.subs h (a++d)::l2)):aw au w0 K0 w (l1++.subs h (a++k::d)::l2):=by
 have hk:∀x∈a++d,Sub au w h x:=H.sat (.subs h (a++d)) (by simp);have ll:Sub au w h k:=H.sat (.sub h k) (by simp);refine H.conv (fun x=>?_) (fun r hr=>?_)
 ·simp only[ay,ax,eV,dI,jr,iQ];omega
 ·simp only[mem_append,mem_cons]at hr
  rcases hr with hr|rfl|hr
  ·exact H.sat r (by simp[hr])
  ·intro x hx;simp at hx
   rcases hx with h1|rfl|h1
   ·exact hk x (by simp[h1])
   ·exact ll
   ·exact hk x (by simp[h1])
  ·exact H.sat r (by simp[hr])
theorem aw.front {au:Nat} {w0 w:World} {K0:Nat->Nat} (l1:List aI) {r:aI} {l2:List aI} (H:aw au w0 K0 w (l1++r::l2)):aw au w0 K0 w (r::(l1++l2)):=
 H.conv (fun x=>by simp only[ay,ax];omega) (fun q hq=>H.sat q (by
  simp only[mem_append,mem_cons]at hq ⊢
  rcases hq with h|h|h
  ·exact .inr (.inl h)
  ·exact .inl h
  ·exact .inr (.inr h)))
theorem aw.part {au:Nat} {w0 w:World} {K0:Nat->Nat} (l1:List aI) {h:Nat} {a d:List bQ} {l2:List aI} (H:aw au w0 K0 w (l1++.subs h (a++d)::l2)):aw au w0 K0 w (l1++.subs h a::.subs h d::l2):=by
 have hk:∀x∈a++d,Sub au w h x:=H.sat (.subs h (a++d)) (by simp);refine H.conv (fun x=>?_) (fun r hr=>?_)
 ·simp only[ay,ax,eV,dI,jr,iQ];omega
 ·simp only[mem_append,mem_cons]at hr
  rcases hr with hr|rfl|rfl|hr
  ·exact H.sat r (by simp[hr])
  ·exact fun x hx=>hk x (by simp[hx])
  ·exact fun x hx=>hk x (by simp[hx])
  ·exact H.sat r (by simp[hr])
theorem mX {v:Value} {a b:List bQ} (h:a.map bQ.b=b.map bQ.b):bg v a=bg v b:=by
 have e:∀l:List bQ,(l.map fun y=>bK y.b)=(l.map bQ.b).map bK:=fun l=>by rw[map_map];rfl
 have hl:a.length=b.length:=by have:=congrArg List.length h;simpa using this
 unfold bg;rw[e,e,h,hl]
open Go.Shelf Go.Proofs.Tryz
theorem aq {p:Prop} (h:p):Hid p:=h
theorem an {p:Prop} (h:Hid p):p:=h
def Lp:Go.Shelf.Ren:=⟨fun | 106=>50 | 213=>94 | 265=>148|n=>n,fun | 9=>9 | 3=>3|n=>n,fun|n=>n⟩
theorem FG:Go.Proofs.Lays.n106 prog Lp:={
 mixed:=by kernel_rfl
 f106:=ad func50
 f213:=ad func94
 f265:=ad func148
 t3:=underlying3
 a3:=isAgg3
 z3:=sizeOf3
 v3:=zeroValue3
 t9:=underlying9
 a9:=isAgg9
 z9:=sizeOf9
 v9:=zeroValue9}
theorem lY (a b:ByteArray) (w:World):
 Calls prog 50 #[.string a,.string b] w fun e w'=>e=.returned (.int .i64 (jP a b))/\w'=w:=Any.strings_Compare FG a b w
theorem jQ (k n:ByteArray) (x:Int) (az:ByteArray) (w:World):
 Calls prog 224 #[.agg #[.string k,.string n,.int .i64 x],.string az] w fun e w'=>e=.returned (.int .i64 (jP k az))/\w'=w.alloc (.cells #[.string k,.string n,.int .i64 x] 238):=by
 have h1:=fun wx=>lY k az wx
 go_enter func224,ntmps224
 go_wp2_with (go_at_call 50;refine(h1 _).mono ?_;rintro e wx ⟨rfl,rfl⟩)
 go_ret;exact⟨rfl,rfl⟩
theorem VL (n m:Nat):((n:Int)==(m:Int))=decide (n=m):=by
 by_cases h:n=m
 ·simp[h]
 ·rw[beq_eq_false_iff_ne.2 (by omega)];simp[h]
theorem fj (b:Nat) (v0 v1:Value) (n:Nat) (w:World) (h1:w.cell? ⟨b,1,none⟩=some v1) (au:Nat) (xs:List Value) (ho:w.ownsRow au 190 1 v1 n xs) (hn:n<=100):
 Calls prog 174 #[.pointer (some ⟨b,0,none⟩)] w fun e w'=>e=.returned (.bool (decide (n=0)))/\w'=w:=by
 rcases ho.2 with⟨rfl,rfl⟩|⟨g,aU,cur,rfl,_⟩
 ·clear ho;go_enter func174,ntmps174
  go_wp2
  go_ret;exact⟨by simp,rfl⟩
 ·clear ho;go_enter func174,ntmps174
  go_wp2
  go_ret;refine⟨?_,rfl⟩
  show Ending.returned (Value.bool ((n:Int)==0))=_;have:=VL n 0;simp only[Int.natCast_zero]at this;rw[show((n:Int)==0)=decide (n=0)from this]
theorem ui (b:Nat) (v0:Value) (n:Nat) (w:World) (h1:w.cell? ⟨b,0,none⟩=some v0) (au:Nat) (xs:List Value) (ho:w.ownsRow au 238 3 v0 n xs) (hn:n<=100):
 Calls prog 170 #[.pointer (some ⟨b,0,none⟩)] w fun e w'=>e=.returned (.bool (decide (3<n)))/\w'=w:=by
 rcases ho.2 with⟨rfl,rfl⟩|⟨g,aU,cur,rfl,_⟩
 ·clear ho;go_enter func170,ntmps170
  go_wp2
  go_ret;exact⟨by simp,rfl⟩
 ·clear ho;go_enter func170,ntmps170
  go_wp2
  go_ret;refine⟨?_,rfl⟩;simp
  try omega
def Found (aQ:List aG) (az:ByteArray) (at':Nat) (qv:Bool):Prop:=
 at'<=aQ.length/\(∀x∈aQ.take at',dR x.az az)/\((qv=true/\∃x,aQ[at']? = some x/\x.az=az)∨(qv=false/\∀x∈aQ.drop at',dR az x.az))
def zK (aQ:List aG) (az:ByteArray) (w:World) (e:Ending) (w':World):Prop:=∃(at':Nat) (qv:Bool),e=.returned (.tuple #[.int .i64 at',.bool qv])/\Found aQ az at' qv/\Below w.heap.size w w'
theorem qh (au:Nat) (v:Value) (aQ:List aG) (az:ByteArray) (w:World) (ho:w.ownsRow au 238 3 v aQ.length (flat aQ)) (hs:bf aQ) (hn:aQ.length<=100):
 Calls prog 223 #[v,.string az,.func (.func 224) #[] #[]] w fun e w'=>zK aQ az w e w':=by
 obtain⟨N,hN⟩:=aa aQ.length;rw[hN]at hn ho
 rcases ho.2 with⟨rfl,rfl⟩|⟨g,aU,cur,rfl,hr⟩
 ·have HN:=aq hN;clear ho hN;have HS:=aq hs;clear hs;go_enter func223,ntmps223;go_wp2_with fail
  go_loopg [9,10] 1 (fun k i j wr=>i=.int .i64 0/\j=.int .i64 0/\wr=w)
  case atStart=>exact⟨rfl,rfl,rfl⟩
  case round=>obtain⟨rfl,rfl,rfl⟩:=hrel;go_wp2_with fail;go_ret2;exact⟨0,false,rfl,⟨by omega,by simp,.inr ⟨rfl,by have:=an HN;rw[List.length_eq_zero_iff.1 this];simp⟩⟩,Below.refl _ _⟩
 ·have hc:∀j,j<N->∃k n x,aQ[j]? = some ⟨k,n,x⟩/\w.cell? ⟨g,j*3,none⟩=some (.string k)/\w.cell? ⟨g,j*3+1,none⟩=some (.string n)/\w.cell? ⟨g,j*3+2,none⟩=some (.int .i64 x):=by
   intro j hj;have h1:=flat_get aQ j (by omega);refine⟨(aQ[j]'(by omega)).az,(aQ[j]'(by omega)).name,(aQ[j]'(by omega)).aN,getElem?_eq_getElem (by omega),?_,?_,?_⟩
   ·rw[ho.cellAt (j*3) (by omega)];exact h1.1
   ·rw[ho.cellAt (j*3+1) (by omega)];exact h1.2.1
   ·rw[ho.cellAt (j*3+2) (by omega)];exact h1.2.2
  have hg:g<w.heap.size:=(Array.getElem?_eq_some_iff.1 hr.2.1).1;have HN:=aq hN;have HC:=aq hc;have HS:=aq hs;have HO:=aq ho;clear ho hN hs hc hr;go_enter func223,ntmps223;go_wp2_with fail
  go_loopg [9,10] (N+1) (fun k vi vj wr=>∃i j:Nat,j-i<=k/\i<=j/\j<=N/\vi=.int .i64 i/\vj=.int .i64 j/\Hid ((∀t x,t<i->aQ[t]? = some x->dR x.az az)/\(∀t x,j<=t->aQ[t]? = some x->¬dR x.az az))/\Hid (Below w.heap.size w wr))
  case atStart=>exact⟨0,N,by omega,by omega,by omega,rfl,rfl,⟨fun t x ht=>by omega,fun t x ht hx=>by have:=an HN;have:=(List.getElem?_eq_some_iff.1 hx).1;omega⟩,Below.refl _ _⟩
  case round=>
   obtain⟨i,j,hk,hij,hjN,rfl,rfl,HF,HB⟩:=hrel
   by_cases eO:i<j
   ·have RF:(i:Int)<(j:Int):=by omega
    obtain⟨c,hc⟩:∃c,c=(i+j) / 2:=⟨_,rfl⟩;have kE:i<=c:=by omega
    have OG:c<j:=by omega
    have zc:((i:Int)+(j:Int)) / 2=(c:Int):=by omega
    have hcN:(c:Int)<(N:Int):=by omega
    obtain⟨kk,nn,xx,hx,q1,q2,q3⟩:=an HC c (by omega);have bw:=an HB;have c1:=(bw.cell (p:=⟨g,c*3,none⟩) hg).trans q1;have c2:=(bw.cell (p:=⟨g,c*3+1,none⟩) hg).trans q2;have c3:=(bw.cell (p:=⟨g,c*3+2,none⟩) hg).trans q3;have tL:=fun wx=>jQ kk nn xx az wx
    have Hx:=aq hx;clear hx hc q1 q2 q3 bw;have Hd:Hid (∀z,z=jP kk az->(z<0->dR kk az)/\(¬z<0->¬dR kk az)):=by rintro z rfl;exact⟨fun h=>h,fun h=>h⟩
    obtain⟨z,hz⟩:∃z,z=jP kk az:=⟨_,rfl⟩;rw[<-hz]at tL;have Hz:=aq hz;clear hz
    by_cases lv:z<0
    ·have hd0:decide (z<0)=true:=decide_eq_true lv
     go_wp2_with (go_at_call 224;refine(tL _).mono ?_;rintro e wx ⟨rfl,rfl⟩)
     go_roundg (j-(c+1))
     case measure=>omega
     case rel=>exact⟨c+1,j,by omega,by omega,by omega,by simp,rfl,⟨fun t x ht hx=>by
      have hF:=an HF;have hS:=an HS;have h1:dR kk az:=(an Hd z (an Hz)).1 lv
      rcases Nat.lt_or_ge t c with h2|h2
      ·have KY:=an Hx;obtain⟨XN,rfl⟩:=List.getElem?_eq_some_iff.1 hx;obtain⟨KX,hc2'⟩:=List.getElem?_eq_some_iff.1 KY;have:=pairwise_iff_getElem.1 hS t c XN KX h2;rw[hc2']at this;exact eZ this h1
      ·obtain rfl:t=c:=by omega
       rw[an Hx]at hx;simp at hx;subst hx;exact h1,(an HF).2⟩,(an HB).alloc (an HB).size _⟩
    ·have hd0:decide (z<0)=false:=decide_eq_false lv
     go_wp2_with (go_at_call 224;refine(tL _).mono ?_;rintro e wx ⟨rfl,rfl⟩)
     go_roundg (c-i)
     case measure=>omega
     case rel=>exact⟨i,c,by omega,by omega,by omega,rfl,rfl,⟨(an HF).1,fun t x ht hx KM=>by
      have hS:=an HS;have h1:¬dR kk az:=(an Hd z (an Hz)).2 lv
      rcases Nat.lt_or_ge c t with h2|h2
      ·have KY:=an Hx;obtain⟨XN,rfl⟩:=List.getElem?_eq_some_iff.1 hx;obtain⟨KX,hc2'⟩:=List.getElem?_eq_some_iff.1 KY;have:=pairwise_iff_getElem.1 hS c t KX XN h2;rw[hc2']at this;exact h1 (eZ this KM)
      ·obtain rfl:t=c:=by omega
       rw[an Hx]at hx;simp at hx;subst hx;exact h1 KM⟩,(an HB).alloc (an HB).size _⟩
   ·have RF:¬(i:Int)<(j:Int):=by omega
    obtain rfl:i=j:=by omega
    have A7:∀qv,(qv=true/\∃x,aQ[i]? = some x/\x.az=az)∨(qv=false/\∀x,aQ[i]? = some x->x.az≠az)->Found aQ az i qv:=by
     intro qv h;refine⟨by have:=an HN;omega,fun x hx=>?_,?_⟩
     ·obtain⟨t,ht,rfl⟩:=List.mem_iff_getElem.1 hx;rw[length_take]at ht;exact(an HF).1 t _ (by omega) (by rw[getElem?_eq_getElem (by omega),getElem_take])
     ·rcases h with h|⟨h1,h2⟩
      ·exact .inl h
      ·refine .inr ⟨h1,fun x hx=>?_⟩;obtain⟨t,ht,rfl⟩:=List.mem_iff_getElem.1 hx;rw[length_drop]at ht;rw[getElem_drop];have h3:=(an HF).2 (i+t) _ (by omega) (getElem?_eq_getElem (by omega))
       rcases mH (aQ[i+t]'(by omega)).az az with h4|h4|h4
       ·exact absurd h4 h3
       ·exfalso
        rcases Nat.eq_zero_or_pos t with h5|h5
        ·subst h5;exact h2 _ (getElem?_eq_getElem (by omega)) h4
        ·have h6:=pairwise_iff_getElem.1 (an HS) i (i+t) (by omega) (by omega) (by omega);rw[h4]at h6;exact(an HF).2 i _ (by omega) (getElem?_eq_getElem (by omega)) h6
       ·exact h4
    have HFo:=aq A7;clear A7
    by_cases hiN:i<N
    ·have mI:(i:Int)<(N:Int):=by omega
     obtain⟨kk,nn,xx,hx,q1,q2,q3⟩:=an HC i (by omega);have bw:=an HB;have c1:=(bw.cell (p:=⟨g,i*3,none⟩) hg).trans q1;have c2:=(bw.cell (p:=⟨g,i*3+1,none⟩) hg).trans q2;have c3:=(bw.cell (p:=⟨g,i*3+2,none⟩) hg).trans q3;have tL:=fun wx=>jQ kk nn xx az wx
     have Hx:=aq hx;clear hx q1 q2 q3 bw;obtain⟨z,hz⟩:∃z,z=jP kk az:=⟨_,rfl⟩;rw[<-hz]at tL;have Hz:=aq hz;clear hz
     go_wp2_with (go_at_call 224;refine(tL _).mono ?_;rintro e wx ⟨rfl,rfl⟩)
     go_ret2;refine⟨i,z==0,rfl,an HFo _ ?_,(an HB).alloc (an HB).size _⟩;have hz:=an Hz
     by_cases hz0:z=0
     ·left;refine⟨by simp[hz0],_,an Hx,?_⟩;exact(gd _ _).1 (by rw[<-hz,hz0])
     ·right;refine⟨by simp[hz0],fun x sS he=>?_⟩;rw[an Hx]at sS;simp at sS;subst sS;exact hz0 (by rw[hz];exact(gd _ _).2 he)
    ·have mI:¬(i:Int)<(N:Int):=by omega
     go_wp2_with fail
     go_ret2;refine⟨i,false,rfl,an HFo _ (.inr ⟨rfl,fun x sS=>?_⟩),an HB⟩;have:=(List.getElem?_eq_some_iff.1 sS).1;have:=an HN;omega
theorem jw (b:Nat) (v0:Value) (aQ:List aG) (az:ByteArray) (w:World) (h1:w.cell? ⟨b,0,none⟩=some v0) (au:Nat) (ho:w.ownsRow au 238 3 v0 aQ.length (flat aQ)) (hs:bf aQ) (hn:aQ.length<=100):
 Calls prog 173 #[.pointer (some ⟨b,0,none⟩),.string az] w fun e w'=>zK aQ az w e w':=by
 have hc:=qh au v0 aQ az w ho hs hn;have HO:=ho.2
 rcases HO with⟨rfl,h0⟩|⟨g,aU,cur,rfl,_⟩
 ·clear ho;have Hc:=aq hc;have H0:=aq h0;clear hc h0;go_enter func173,ntmps173
  go_wp2_with (go_at_call 223;refine(an Hc).mono ?_;rintro e wx ⟨at',qv,rfl,hF,hB⟩;have HF:=aq hF;have HB:=aq hB;clear hF hB)
  go_ret2;exact⟨at',qv,rfl,HF,HB⟩
 ·clear ho;have Hc:=aq hc;clear hc;go_enter func173,ntmps173
  go_wp2_with (go_at_call 223;refine(an Hc).mono ?_;rintro e wx ⟨at',qv,rfl,hF,hB⟩;have HF:=aq hF;have HB:=aq hB;clear hF hB)
  go_ret2;exact⟨at',qv,rfl,HF,HB⟩
theorem cW {P:Program} (w:World) (dT sT ty elem:TypeId) (g o xz Lm:Nat) (a:Addr) (Ai Kg:Nat) (cur:Array Value) (t:TypeId) (cs:List Value) (k m:Nat)
 (hu:P.underlying dT=some (.slice elem)) (hs:∀w,(Go.sizeOf elem).run P w=.ok k w)
 (hg:w.heap[g]? = some (.cells cur t (0,0))) (hm:Nat.min Ai xz=m) (hn:cs.length=m*k)
 (vz:∀j v,cs[j]? = some v->w.cell? (a.add j)=some v) (fQ:o+cs.length<=cur.size) (h1:∀v∈cs,v.oneCell'=true):
 (Builtin.copy_ #[dT,sT] ty #[.slice (some ⟨g,o,none⟩) xz Lm,.slice (some a) Ai Kg]).run P w =
  .ok (goInt m) (w.setRow g (cur.toList.take o++cs++cur.toList.drop (o+cs.length)).toArray):=by
 have hl:=run_firstCells_some (P:=P) w k m a Ai Kg cs hn vz;have gz:=run_storeCells_at P g o t cs 0 cur w hg (by simpa using fQ) h1;simp[Builtin.copy_,run_underlying hu,Builtin.lenOf,hs,hm,hl,gz]
theorem kK {P:Program} (w:World) (t e ty:TypeId) (z:Value) (ht:P.underlying t=some (.slice e)) (hv:∀w,(zeroValue e).run P w=.ok z w) (g o n c:Nat) (cur:Array Value) (te:TypeId) (cs:List Value) (gZ:(Builtin.zeroCells z.cells n).toList=cs) (hn:0<n)
 (hg:w.heap[g]? = some (.cells cur te (0,0))) (fQ:o+cs.length<=cur.size) (h1:∀v∈cs,v.oneCell'=true):
 (Builtin.clear_ #[t] ty #[.slice (some ⟨g,o,none⟩) n c]).run P w=.ok (.tuple #[]) (w.setRow g (cur.toList.take o++cs++cur.toList.drop (o+cs.length)).toArray):=by
 have gz:=run_storeCells_at P g o te cs 0 cur w hg (by simpa using fQ) h1;obtain⟨n',rfl⟩:∃n',n=n'+1:=⟨n-1,by omega⟩;simp[Builtin.clear_,run_underlying ht,hv,gZ,gz]
theorem dB {w:World} {g:Nat} {cur:Array Value} {t:TypeId} (hg:w.heap[g]? = some (.cells cur t (0,0))) {xs:List Value} {n:Nat} (hx:cur.toList.take n=xs) {j:Nat} {u:Value} (h:xs[j]? = some u):w.cell? ⟨g,j,none⟩=some u:=by
 rw[cell_of_row w g j cur t (0,0) hg];rw[<-hx,getElem?_take]at h
 split at h
 ·simpa using h
 ·cases h
def df (cur xs:List Value) (a b:Nat):List Value:=cur.take b++xs.drop a++cur.drop (b+(xs.drop a).length)
def dM (r aV:List Value) (a:Nat):List Value:=r.take a++aV++r.drop (a+aV.length)
theorem sG (cur xs aV:List Value) (a N k:Nat) (hx:cur.take N=xs) (ha:a<=N) (hl:aV.length=k) (hc:N+k<=cur.length):
 (df cur xs a (a+k)).length=cur.length/\(dM (df cur xs a (a+k)) aV a).length=cur.length/\(dM (df cur xs a (a+k)) aV a).take (N+k)=xs.take a++aV++xs.drop a:=by
 have jL:xs.length=N:=by rw[<-hx,length_take];omega
 have hd:(xs.drop a).length=N-a:=by rw[length_drop,jL]
 have l1:(df cur xs a (a+k)).length=cur.length:=by unfold df;simp only[length_append,length_take,length_drop,jL];omega
 have l2:(dM (df cur xs a (a+k)) aV a).length=cur.length:=by unfold dM;simp only[length_append,length_take,length_drop,l1,hl];omega
 refine⟨l1,l2,?_⟩
 have e1:(df cur xs a (a+k)).take a=xs.take a:=by unfold df;rw[append_assoc,take_append_of_le_length (by rw[length_take];omega),take_take,<-hx,take_take];congr 1;omega
 have e2:(df cur xs a (a+k)).drop (a+k)=xs.drop a++cur.drop (N+k):=by unfold df;rw[append_assoc,drop_append_of_le_length (by rw[length_take];omega),drop_eq_nil_of_le (by rw[length_take];omega),nil_append,hd];congr 2;omega
 unfold dM;rw[e1,hl,e2,<-append_assoc,take_append_of_le_length (by simp only[length_append,length_take,hd,hl,jL];omega),take_of_length_le (by simp only[length_append,length_take,hd,hl,jL];omega)]
theorem vI (R xs aV tail:List Value) (a N k:Nat) (jL:xs.length=N) (ha:a<=N) (hl:aV.length=k) (hR:R.length=N+k-a+tail.length):
 (dM (xs.take a++R) aV a).length=N+k+tail.length/\(df (dM (xs.take a++R) aV a) xs a (a+k)).length=N+k+tail.length/\
  (df (dM (xs.take a++R) aV a) xs a (a+k)).take (N+k)=xs.take a++aV++xs.drop a:=by
 have h0:(xs.take a).length=a:=by rw[length_take];omega
 have hd:(xs.drop a).length=N-a:=by rw[length_drop,jL]
 have e0:(xs.take a++R).take a=xs.take a:=by rw[take_append_of_le_length (by omega),take_take];congr 1;omega
 have l1:(dM (xs.take a++R) aV a).length=N+k+tail.length:=by unfold dM;simp only[length_append,length_take,length_drop,hl,hR,jL];omega
 have e1:(dM (xs.take a++R) aV a).take (a+k)=xs.take a++aV:=by unfold dM;rw[e0,take_append_of_le_length (by rw[length_append,h0,hl];omega),take_of_length_le (by rw[length_append,h0,hl];omega)]
 refine⟨l1,?_,?_⟩
 ·unfold df;simp only[length_append,length_take,length_drop,l1,jL];omega
 ·unfold df;rw[e1,take_append_of_le_length (by simp only[length_append,h0,hd,hl];omega),take_of_length_le (by simp only[length_append,h0,hd,hl];omega)]
theorem oG:prog.follows Departure.mixedOrders=true:=by kernel_rfl
theorem xc:(prog.info? 238).map (fun i=>(i.zero,i.size,i.bytes))=some (some (.agg #[.string ⟨#[]⟩,.string ⟨#[]⟩,.int .i64 0]),3,40):=by kernel_rfl
theorem xe:(prog.info? 190).map (fun i=>(i.zero,i.size,i.bytes))=some (some (.pointer none),1,8):=by kernel_rfl
def de (au:Nat) (e:TypeId) (k:Nat) (v:Value) (n:Nat) (ys:List Value) (w:World) (en:Ending) (w':World):Prop:=
 ∃v',en=.returned v'/\w'.ownsRow au e k v' n ys/\w.grownBy w' v.ownBlock/\(v'.ownBlock=v.ownBlock∨∃x,v'.ownBlock=some x/\w.heap.size<=x)
def wk (au:Nat) (e:TypeId) (k n:Nat) (ys:List Value) (w:World) (en:Ending) (w':World):Prop:=
 ∃v',en=.returned v'/\w'.ownsRow au e k v' n ys/\(∃x,v'.ownBlock=some x/\w.heap.size<=x)/\Below w.heap.size w w'
theorem gp {w:World} {au Ju:Nat} {e:TypeId} {k:Nat} {v:Value} {n:Nat} {xs:List Value} (h:w.ownsRow au e k v n xs) (hb:Ju<=au):w.ownsRow Ju e k v n xs:=by
 refine⟨h.1,?_⟩
 rcases h.2 with h2|⟨g,aU,cur,hv,hg,r⟩
 ·exact .inl h2
 ·exact .inr ⟨g,aU,cur,hv,Nat.le_trans hb hg,r⟩
theorem cH {P:Program} {ops:Array Oper} {o:Oper} {a:Act} {w:World} {K:Act->World->Prop} {Q:Exit->Act->World->Prop} {E:Prop}
 (hg:o.guard=none) (d x:Operand) (dT sT:TypeId) (JX:o.op=Op.call {callee:=Callee.builtin Builtin.append,args:=#[d,x],argTypes:=#[dT,sT]})
 (v u:Value) (hd:a.eval d=v) (hx:a.eval x=u) {v':Value} {w':World} (hr:(Builtin.append_ #[dT,sT] o.type #[v,u]).run P w=.ok v' w') (hK:K (a.put o.dst v') w'):
 if Region.wanted o (yielded ops a.tmps)=true then Oper.wp P o a w K Q else E:=by
 have hw:Region.wanted o (yielded ops a.tmps)=true:=by simp[Region.wanted,hg]
 rw[if_pos hw];unfold Oper.wp;simp[execOp,JX,resolve,invoke,builtin,hd,hx,hr,Result.andThen];exact hK
theorem rR (au:Nat) (v:Value) (n:Nat) (xs aV:List Value) (vb vc:Nat) (w:World) (ho:w.ownsRow au 238 3 v n xs) (hn:n<=100) (hb:au<=w.heap.size)
 (hv:w.heap[vb]? = some (.cells aV.toArray 238 (0,0))) (hl:aV.length=1*3) (h1:∀u∈aV,u.oneCell'=true):
 Calls prog 219 #[v,.int .i64 n,.slice (some ⟨vb,0,none⟩) 1 vc] w fun e w'=>de au 238 3 v (n+1) (xs++aV) w e w':=by
 obtain⟨i0,hi,hz0,fE,fD⟩:=info_parts xc
 have hc:∀j u,aV[j]? = some u->w.cell? ((⟨vb,0,none⟩:Addr).add j)=some u:=fun j u hj=>by rw[Addr.add_lit,Nat.zero_add];exact dB hv (n:=aV.length) (by simp) hj
 have HO:=aq ho;have HC:=aq hc;have HL:=aq hl;have H1:=aq h1;have HB:=aq hb
 rcases ho.2 with⟨rfl,rfl⟩|⟨g,aU,cur,rfl,_,_,uC,lJ,_⟩
 ·clear ho hc hl h1 hv hb;go_enter func219,ntmps219
  go_wp2_with (at_builtin;refine wpList_append_own_at _ rfl _ _ 235 rfl au 238 i0 (.agg #[.string ⟨#[]⟩,.string ⟨#[]⟩,.int .i64 0]) 3 40 underlying235 hi hz0 fE fD rfl (by decide) _ _ _ rfl (an HO) ⟨vb,0,none⟩ 1 vc aV rfl (an HL) (an HC) (an H1) (by unfold maxLen;omega) (by omega) (an HB) ?_;intro v4 w4 dS cr ig gQ)
  have Ho:=aq dS;have Hg:=aq cr;have Ha:=aq gQ;clear dS cr ig gQ;go_wp2_with fail;go_ret;exact⟨v4,rfl,an Ho,an Hg,by rcases an Ha with h|h;exact .inl h;exact .inr ⟨_,h,Nat.le_refl _⟩⟩
 ·unfold maxLen at lJ;clear ho hc hl h1 hv hb;go_enter func219,ntmps219
  go_wp2_with (at_builtin;refine wpList_append_own_at _ rfl _ _ 235 rfl au 238 i0 (.agg #[.string ⟨#[]⟩,.string ⟨#[]⟩,.int .i64 0]) 3 40 underlying235 hi hz0 fE fD rfl (by decide) _ _ _ rfl (an HO) ⟨vb,0,none⟩ 1 vc aV rfl (an HL) (an HC) (an H1) (by unfold maxLen;omega) (by omega) (an HB) ?_;intro v4 w4 dS cr ig gQ)
  all_goals
   have Ho:=aq dS;have Hg:=aq cr;have Ha:=aq gQ;clear dS cr ig gQ;go_wp2_with fail;go_ret;exact⟨v4,rfl,an Ho,an Hg,by rcases an Ha with h|h;exact .inl h;exact .inr ⟨_,h,Nat.le_refl _⟩⟩
theorem oJ (au:Nat) (g aU:Nat) (cur:Array Value) (n i:Nat) (xs aV:List Value) (vb vc:Nat) (w:World) (hi:i<n) (hn:n<=100) (hg:w.heap[g]? = some (.cells cur 238 (0,0))) (vH:au<=g) (kT:n+1<=aU) (lJ:aU<=maxLen) (gZ:cur.size=aU*3) (hx:cur.toList.take (n*3)=xs) (me:∀u∈xs,u.oneCell'=true)
 (hv:w.heap[vb]? = some (.cells aV.toArray 238 (0,0))) (hl:aV.length=1*3) (h1:∀u∈aV,u.oneCell'=true) (dr:vb≠g):
 Calls prog 219 #[.slice (some ⟨g,0,none⟩) n aU,.int .i64 i,.slice (some ⟨vb,0,none⟩) 1 vc] w fun e w'=>de au 238 3 (.slice (some ⟨g,0,none⟩) n aU) (n+1) (xs.take (i*3)++aV++xs.drop (i*3)) w e w':=by
 have gX:∀lb cb,(callFunc 256 #[.slice (some ⟨vb,0,none⟩) 1 vc,.slice (some ⟨g,(i+1)*3,none⟩) lb cb]).run prog w=.ok (.value (.bool false)) w:=fun lb cb=>by
  rw[run_callFunc_extern func256 (by kernel_rfl) (by kernel_rfl) (by kernel_rfl) (e:=Extern.SlicesOverlaps.overlaps #[235,235] #[4]) (by kernel_rfl),
   Lib.run_overlaps_apart w 235 4 238 underlying235 3 sizeOf238 ⟨vb,0,none⟩ ⟨g,(i+1)*3,none⟩ 1 vc lb cb dr 238 238 aV.toArray.size cur.size (by simp[World.shape?,hv]) (by simp[World.shape?,hg]) (by omega) (by simp[World.frozen?,hv]) (by simp[World.frozen?,hv])]
  rfl
 have jL:xs.length=n*3:=by rw[<-hx,length_take,Array.length_toList];omega
 have mS:(xs.drop (i*3)).length=(n-i)*3:=by rw[length_drop,jL];try omega
 obtain⟨r1,lu⟩:∃r1,r1=df cur.toList xs (i*3) ((i+1)*3):=⟨_,rfl⟩;obtain⟨r2,kC⟩:∃r2,r2=dM r1 aV (i*3):=⟨_,rfl⟩;have IG:=sG cur.toList xs aV (i*3) (n*3) 3 hx (by omega) (by omega) (by rw[Array.length_toList];omega);rw[show i*3+3=(i+1)*3 by omega,<-lu,<-kC]at IG;obtain⟨q1,q2,q3⟩:=IG
 have CD:∀ty dc sc,(Builtin.copy_ #[235,235] ty #[.slice (some ⟨g,(i+1)*3,none⟩) (n+1-(i+1)) dc,.slice (some ⟨g,i*3,none⟩) (n+1-i) sc]).run prog w.drew=.ok (goInt ↑(n-i)) (w.drew.setRow g r1.toArray):=fun ty dc sc=>by
  rw[cW w.drew 235 235 ty 238 g ((i+1)*3) (n+1-(i+1)) dc ⟨g,i*3,none⟩ (n+1-i) sc cur 238 (xs.drop (i*3)) 3 (n-i) underlying235 sizeOf238 hg (by simp only[Nat.min_def];split<;>omega) (by omega)
   (fun j u hj=>by rw[Addr.add_lit];exact dB (w:=w.drew) hg hx (by rwa [getElem?_drop]at hj)) (by rw[mS,gZ];omega) (fun u hu=>me u (mem_of_mem_drop hu)),lu]
  rfl
 have oP:(w.drew.setRow g r1.toArray).heap[g]? = some (.cells r1.toArray 238 (0,0)):=setRow_heap w.drew g cur _ 238 _ hg;have mv:(w.drew.setRow g r1.toArray).heap[vb]? = some (.cells aV.toArray 238 (0,0)):=(setRow_other w.drew g vb _ dr).trans hv
 have IZ:∀ty dc,(Builtin.copy_ #[235,235] ty #[.slice (some ⟨g,i*3,none⟩) (n+1-i) dc,.slice (some ⟨vb,0,none⟩) 1 vc]).run prog (w.drew.setRow g r1.toArray)=.ok (goInt ↑(1:Nat)) (w.drew.setRow g r2.toArray):=fun ty dc=>by
  rw[cW (w.drew.setRow g r1.toArray) 235 235 ty 238 g (i*3) (n+1-i) dc ⟨vb,0,none⟩ 1 vc r1.toArray 238 aV 3 1 underlying235 sizeOf238 oP (by simp only[Nat.min_def];split<;>omega) (by omega)
   (fun j u hj=>by rw[Addr.add_lit,Nat.zero_add];exact dB mv (n:=aV.length) (by simp) hj) (by simp only[size_toArray,q1,Array.length_toList];omega) h1,setRow_setRow,kC]
  rfl
 obtain⟨W1,tu⟩:∃W1,W1=w.drew.setRow g r1.toArray:=⟨_,rfl⟩;obtain⟨W2,hW2⟩:∃W2,W2=w.drew.setRow g r2.toArray:=⟨_,rfl⟩;rw[<-tu]at CD;rw[<-tu,<-hW2]at IZ
 have j9:∀v',v'=.slice (some ⟨g,0,none⟩) (n+1) aU->de au 238 3 (.slice (some ⟨g,0,none⟩) n aU) (n+1) (xs.take (i*3)++aV++xs.drop (i*3)) w (.returned v') W2:=by rintro v' rfl;refine⟨_,rfl,⟨by rw[<-q3,length_take,q2,Array.length_toList];omega,.inr ⟨g,aU,r2.toArray,rfl,vH,by rw[hW2];exact setRow_heap w.drew g cur _ 238 _ hg,kT,lJ,by simp[q2,gZ],by rw[show(n+1)*3=n*3+3 by omega];exact q3⟩⟩,⟨by rw[hW2];rfl,by rw[hW2];rfl,by rw[hW2];rfl,by rw[hW2];simp,fun x hx pF=>by rw[hW2];exact setRow_other w.drew g x _ (fun e=>pF (by rw[e];rfl))⟩,.inl rfl⟩
 have Hf:=aq j9;have RY:aU<=9223372036854775807:=by unfold maxLen at lJ;omega
 have fE:¬((i:Int)=(n:Int)):=by omega
 have gY:i<=n:=by omega
 have cC:¬(aU=i+1):=by omega
 have iU:¬(aU=i):=by omega
 have hQ:(i:Int)<=(n:Int)+1:=by omega
 have iD:IntKind.i64.wrap ((i:Int)+1)=(i:Int)+1:=by rw[IntKind.wrap_i64];omega
 have dJ:(0:Int)<=(i:Int)+1:=by omega
 have UO:((i:Int)+1).toNat=i+1:=by omega
 clear j9 q1 q2 q3 lu kC tu hW2 oP mv hg hv hl h1 hx me gZ jL mS lJ;go_enter func219,ntmps219
 go_wp2_with (simp only[gX])
 have mixed:=oG
 go_region_law_o (refine step_copy_runI rfl _ _ 235 235 rfl (.slice (some ⟨g,(i+1)*3,none⟩) (n+1-(i+1)) (aU-(i+1))) (.slice (some ⟨g,i*3,none⟩) (n+1-i) (aU-i)) (by simp[Act.eval,Act.put]) (by simp[Act.eval,Act.put]) (CD _ _ _) ?_)
 go_wp2_with (at_builtin;refine wpList_copy_runI _ rfl _ _ 235 235 rfl _ _ rfl rfl (IZ _ _) ?_)
 go_ret;exact an Hf _ rfl
theorem qx (au:Nat) (g aU:Nat) (cur:Array Value) (n i:Nat) (xs aV:List Value) (vb vc:Nat) (w:World) (hi:i<n) (hn:n<=100) (hb:au<=w.heap.size) (hg:w.heap[g]? = some (.cells cur 238 (0,0))) (uC:n<=aU) (kT:aU<n+1) (hx:cur.toList.take (n*3)=xs) (jL:xs.length=n*3) (me:∀u∈xs,u.oneCell'=true)
 (hv:w.heap[vb]? = some (.cells aV.toArray 238 (0,0))) (hl:aV.length=1*3) (h1:∀u∈aV,u.oneCell'=true):
 Calls prog 219 #[.slice (some ⟨g,0,none⟩) n aU,.int .i64 i,.slice (some ⟨vb,0,none⟩) 1 vc] w fun e w'=>de au 238 3 (.slice (some ⟨g,0,none⟩) n aU) (n+1) (xs.take (i*3)++aV++xs.drop (i*3)) w e w':=by
 obtain⟨i0,Dv,hz0,fE,fD⟩:=info_parts xc;have WC:g<w.heap.size:=(Array.getElem?_eq_some_iff.1 hg).1;have Gq:vb<w.heap.size:=(Array.getElem?_eq_some_iff.1 hv).1;have nS:(n:Int)+1-(i:Int)=((n+1-i:Nat):Int):=by omega
 have Dt:i+(n+1-i)=n+1:=by omega
 have hold:(Builtin.firstCells i0.size i (.slice (some ⟨g,0,none⟩) i aU)).run prog w.drew=.ok (xs.take (i*3)).toArray w.drew:=by
  rw[fE]
  exact run_firstCells_some w.drew 3 i ⟨g,0,none⟩ i aU (xs.take (i*3)) (by rw[length_take];omega) (fun j u hj=>by
   rw[Addr.add_lit,Nat.zero_add];rw[getElem?_take]at hj
   split at hj
   ·exact dB (w:=w.drew) hg hx hj
   ·cases hj)
 obtain⟨G,hG⟩:∃G,G=grownCap w (n+1) aU 238:=⟨_,rfl⟩;have Sb:n+1<=G:=by rw[hG];exact grownCap_ge w _ _ _
 have Be:G<=maxLen:=by rw[hG];exact grownCap_le_maxLen w (n+1) aU 238 (by unfold maxLen;omega)
 obtain⟨R,hR⟩:∃R:List Value,R=(Builtin.zeroCells (Value.cells (.agg #[.string ⟨#[]⟩,.string ⟨#[]⟩,.int .i64 0])) (n+1-i)++Builtin.zeroCells (Value.cells (.agg #[.string ⟨#[]⟩,.string ⟨#[]⟩,.int .i64 0])) (G-(n+1))).toList:=⟨_,rfl⟩
 have J2:R.length=n*3+3-i*3+(G-(n+1))*3:=by
  rw[hR];simp[size_zeroCells,Value.cells]
  try omega
 have UQ:∀ty,(Builtin.append_ #[235,3] ty #[.slice (some ⟨g,0,none⟩) i aU,.int .i64 ((n:Int)+1-(i:Int))]).run prog w =
  .ok (.slice (some ⟨w.heap.size,0,none⟩) (n+1) G) (w.drew.alloc (.cells (xs.take (i*3)++R).toArray 238)):=fun ty=>by
  have h:=Lib.run_append_grow_zeros w 235 3 ty 238 i0 _ .i64 .i64 underlying235 underlying3 Dv hz0 (some ⟨g,0,none⟩) i aU (xs.take (i*3)) hold (n+1-i) (by omega) (by omega) (by omega) (by omega) (by rw[fD];omega) (by rw[fD,Dt];exact growslice_fits kT (by omega));rw[Dt,<-hG]at h;rw[nS,h,hR]
  congr 3
  apply Array.toList_inj.1;simp
 obtain⟨r1,lu⟩:∃r1,r1=dM (xs.take (i*3)++R) aV (i*3):=⟨_,rfl⟩;obtain⟨r2,kC⟩:∃r2,r2=df r1 xs (i*3) ((i+1)*3):=⟨_,rfl⟩;have IG:=vI R xs aV (List.replicate ((G-(n+1))*3) default) (i*3) (n*3) 3 jL (by omega) (by omega) (by rw[length_replicate];omega);rw[show i*3+3=(i+1)*3 by omega,<-lu,<-kC,length_replicate]at IG;obtain⟨q1,q2,q3⟩:=IG;have mS:(xs.drop (i*3)).length=(n-i)*3:=by rw[length_drop,jL];try omega
 obtain⟨WA,hWA⟩:∃WA,WA=w.drew.alloc (.cells (xs.take (i*3)++R).toArray 238):=⟨_,rfl⟩;have MJ:WA.heap[w.heap.size]? = some (.cells (xs.take (i*3)++R).toArray 238 (0,0)):=by rw[hWA];exact heap_alloc_new w.drew _
 have MK:∀x,x<w.heap.size->WA.heap[x]? = w.heap[x]?:=fun x hx=>by rw[hWA];exact Below.heap_alloc w.drew _ x hx
 have IY:∀(W:World),W.heap=WA.heap->∀ty dc,(Builtin.copy_ #[235,235] ty #[.slice (some ⟨w.heap.size,i*3,none⟩) (n+1-i) dc,.slice (some ⟨vb,0,none⟩) 1 vc]).run prog W=.ok (goInt ↑(1:Nat)) (W.setRow w.heap.size r1.toArray):=fun W hW ty dc=>by
  rw[cW W 235 235 ty 238 w.heap.size (i*3) (n+1-i) dc ⟨vb,0,none⟩ 1 vc _ 238 aV 3 1 underlying235 sizeOf238 (by rw[hW];exact MJ) (by simp only[Nat.min_def];split<;>omega) (by omega)
   (fun j u hj=>by rw[Addr.add_lit,Nat.zero_add];exact dB (by rw[hW,MK vb Gq];exact hv) (n:=aV.length) (by simp) hj) (by simp only[size_toArray,length_append,length_take,jL,J2];omega) h1,lu]
  rfl
 have IX:∀(W:World),W.heap=(WA.setRow w.heap.size r1.toArray).heap->∀ty dc sc,(Builtin.copy_ #[235,235] ty #[.slice (some ⟨w.heap.size,(i+1)*3,none⟩) (n+1-(i+1)) dc,.slice (some ⟨g,i*3,none⟩) (n-i) sc]).run prog W=.ok (goInt ↑(n-i)) (W.setRow w.heap.size r2.toArray):=fun W hW ty dc sc=>by
  rw[cW W 235 235 ty 238 w.heap.size ((i+1)*3) (n+1-(i+1)) dc ⟨g,i*3,none⟩ (n-i) sc r1.toArray 238 (xs.drop (i*3)) 3 (n-i) underlying235 sizeOf238 (by rw[hW];exact setRow_heap WA _ _ _ 238 _ MJ) (by simp only[Nat.min_def];split<;>omega) (by omega)
   (fun j u hj=>by
    rw[Addr.add_lit];exact dB (by rw[hW,setRow_other _ _ g _ (by omega),MK g WC];exact hg) hx (by rwa [getElem?_drop]at hj))
   (by simp only[size_toArray,q1,mS];omega) (fun u hu=>me u (mem_of_mem_drop hu)),kC]
  rfl
 have j9:∀v' W',W'.heap=((WA.setRow w.heap.size r1.toArray).setRow w.heap.size r2.toArray).heap->W'.os=w.os->W'.tape=w.tape->W'.output=w.output->v'=.slice (some ⟨w.heap.size,0,none⟩) (n+1) G->de au 238 3 (.slice (some ⟨g,0,none⟩) n aU) (n+1) (xs.take (i*3)++aV++xs.drop (i*3)) w (.returned v') W':=by
  rintro v' W' hW h2 h3 h4 rfl;have gP:W'.heap.size=w.heap.size+1:=by rw[hW,hWA];simp
  refine⟨_,rfl,⟨by rw[<-q3,length_take,q2];omega,.inr ⟨w.heap.size,G,r2.toArray,rfl,hb,by rw[hW,setRow_setRow];exact setRow_heap WA _ _ _ 238 _ MJ,Sb,Be,by simp[q2];omega,by rw[show(n+1)*3=n*3+3 by omega];exact q3⟩⟩,⟨h2,h3,h4,by omega,fun x hx pF=>by rw[hW,setRow_setRow,setRow_other _ _ x _ (by omega),MK x hx]⟩,.inr ⟨_,rfl,Nat.le_refl _⟩⟩
 have Hf:=aq j9;have WQ:G<=9223372036854775807:=by unfold maxLen at Be;omega
 have aaj:¬((i:Int)=(n:Int)):=by omega
 have Rj:(aU:Int)<(n:Int)+1:=by omega
 have gY:i<=n:=by omega
 have hGi:¬(G=i):=by omega
 have abo:¬(G=i+1):=by omega
 have hci:¬(aU=i):=by omega
 have hQ:(i:Int)<=(n:Int):=by omega
 have iD:IntKind.i64.wrap ((i:Int)+1)=(i:Int)+1:=by rw[IntKind.wrap_i64];omega
 have dJ:(0:Int)<=(i:Int)+1:=by omega
 have UO:((i:Int)+1).toNat=i+1:=by omega
 obtain⟨BU,hROW⟩:∃BU,BU=(xs.take (i*3)++R).toArray:=⟨_,rfl⟩;rw[<-hROW]at UQ;have HW:Hid (WA=w.drew.alloc (.cells BU 238)):=by rw[hROW];exact hWA
 have hA:∀ty dc,(Builtin.copy_ #[235,235] ty #[.slice (some ⟨w.heap.size,i*3,none⟩) (n+1-i) dc,.slice (some ⟨vb,0,none⟩) 1 vc]).run prog (w.alloc (.cells BU 238)).drew=.ok (goInt ↑(1:Nat)) ((w.alloc (.cells BU 238)).drew.setRow w.heap.size r1.toArray):=IY _ (by rw[an HW];rfl);have hB:∀ty dc sc,(Builtin.copy_ #[235,235] ty #[.slice (some ⟨w.heap.size,(i+1)*3,none⟩) (n+1-(i+1)) dc,.slice (some ⟨g,i*3,none⟩) (n-i) sc]).run prog ((w.alloc (.cells BU 238)).drew.setRow w.heap.size r1.toArray).drew=.ok (goInt ↑(n-i)) (((w.alloc (.cells BU 238)).drew.setRow w.heap.size r1.toArray).drew.setRow w.heap.size r2.toArray):=IX _ (by rw[an HW];rfl)
 clear j9 q1 q2 q3 lu kC hg hv hl h1 hx me jL mS nS Dt hold hR J2 hG Be MJ MK IY IX hROW hWA;go_enter func219,ntmps219
 go_wp2_with (first
  |(at_builtin;refine Lib.wpList_append_run _ rfl _ _ _ _ rfl _ _ rfl rfl _ _ (UQ _) ?_)
  |(at_builtin;refine wpList_copy_runI _ rfl _ _ 235 235 rfl _ _ rfl rfl (hA _ _) ?_))
 have mixed:=oG
 go_region_law_o (refine step_copy_runI rfl _ _ 235 235 rfl (.slice (some ⟨w.heap.size,(i+1)*3,none⟩) (n+1-(i+1)) (G-(i+1))) (.slice (some ⟨g,i*3,none⟩) (n-i) (aU-i)) (by simp[Act.eval,Act.put]) (by simp[Act.eval,Act.put]) (hB 3 (G-(i+1)) (aU-i)) ?_)
 go_wp2
 go_ret;exact an Hf _ _ (by rw[an HW];rfl) rfl rfl rfl rfl
theorem oK (au:Nat) (v:Value) (n i:Nat) (xs aV:List Value) (vb vc:Nat) (w:World) (ho:w.ownsRow au 238 3 v n xs) (hi:i<=n) (hn:n<=100) (hb:au<=w.heap.size) (me:∀u∈xs,u.oneCell'=true)
 (hv:w.heap[vb]? = some (.cells aV.toArray 238 (0,0))) (hl:aV.length=1*3) (h1:∀u∈aV,u.oneCell'=true) (dr:v.ownBlock≠some vb):
 Calls prog 219 #[v,.int .i64 i,.slice (some ⟨vb,0,none⟩) 1 vc] w fun e w'=>de au 238 3 v (n+1) (xs.take (i*3)++aV++xs.drop (i*3)) w e w':=by
 have jL:xs.length=n*3:=by have:=ho.1;omega
 rcases Nat.lt_or_ge i n with h|h
 ·rcases ho.2 with⟨rfl,rfl⟩|⟨g,aU,cur,rfl,vH,hg,uC,lJ,gZ,hx⟩
  ·omega
  ·have pF:vb≠g:=fun e=>dr (by rw[e];rfl)
   have RX:cur.size=aU*3:=by omega
   have sS:cur.toList.take (n*3)=xs:=by rw[<-hx,show n*3=n*3 by omega]
   rcases Nat.lt_or_ge aU (n+1)with h2|h2
   ·exact qx au g aU cur n i xs aV vb vc w h hn hb hg uC h2 sS jL me hv hl h1
   ·exact oJ au g aU cur n i xs aV vb vc w h hn hg vH h2 lJ RX sS me hv hl h1 pF
 ·obtain rfl:i=n:=by omega
  have:=rR au v i xs aV vb vc w ho hn hb hv hl h1;rw[take_of_length_le (by omega),drop_eq_nil_of_le (by omega),append_nil];exact this
theorem Iy (au:Nat) (v:Value) (n:Nat) (xs aV:List Value) (vb vc:Nat) (w:World) (ho:w.ownsRow au 190 1 v n xs) (hn:n<=100) (hb:au<=w.heap.size)
 (hv:w.heap[vb]? = some (.cells aV.toArray 190 (0,0))) (hl:aV.length=1*1) (h1:∀u∈aV,u.oneCell'=true):
 Calls prog 220 #[v,.int .i64 n,.slice (some ⟨vb,0,none⟩) 1 vc] w fun e w'=>de au 190 1 v (n+1) (xs++aV) w e w':=by
 obtain⟨i0,hi,hz0,fE,fD⟩:=info_parts xe
 have hc:∀j u,aV[j]? = some u->w.cell? ((⟨vb,0,none⟩:Addr).add j)=some u:=fun j u hj=>by rw[Addr.add_lit,Nat.zero_add];exact dB hv (n:=aV.length) (by simp) hj
 have HO:=aq ho;have HC:=aq hc;have HL:=aq hl;have H1:=aq h1;have HB:=aq hb
 rcases ho.2 with⟨rfl,rfl⟩|⟨g,aU,cur,rfl,_,_,uC,lJ,_⟩
 ·clear ho hc hl h1 hv hb;go_enter func220,ntmps220
  go_wp2_with (at_builtin;refine wpList_append_own_at _ rfl _ _ 239 rfl au 190 i0 (.pointer none) 1 8 underlying239 hi hz0 fE fD rfl (by decide) _ _ _ rfl (an HO) ⟨vb,0,none⟩ 1 vc aV rfl (an HL) (an HC) (an H1) (by unfold maxLen;omega) (by omega) (an HB) ?_;intro v4 w4 dS cr ig gQ)
  have Ho:=aq dS;have Hg:=aq cr;have Ha:=aq gQ;clear dS cr ig gQ;go_wp2_with fail;go_ret;exact⟨v4,rfl,an Ho,an Hg,by rcases an Ha with h|h;exact .inl h;exact .inr ⟨_,h,Nat.le_refl _⟩⟩
 ·unfold maxLen at lJ;clear ho hc hl h1 hv hb;go_enter func220,ntmps220
  go_wp2_with (at_builtin;refine wpList_append_own_at _ rfl _ _ 239 rfl au 190 i0 (.pointer none) 1 8 underlying239 hi hz0 fE fD rfl (by decide) _ _ _ rfl (an HO) ⟨vb,0,none⟩ 1 vc aV rfl (an HL) (an HC) (an H1) (by unfold maxLen;omega) (by omega) (an HB) ?_;intro v4 w4 dS cr ig gQ)
  all_goals
   have Ho:=aq dS;have Hg:=aq cr;have Ha:=aq gQ;clear dS cr ig gQ;go_wp2_with fail;go_ret;exact⟨v4,rfl,an Ho,an Hg,by rcases an Ha with h|h;exact .inl h;exact .inr ⟨_,h,Nat.le_refl _⟩⟩
theorem Cv (au:Nat) (g aU:Nat) (cur:Array Value) (n i:Nat) (xs aV:List Value) (vb vc:Nat) (w:World) (hi:i<n) (hn:n<=100) (hg:w.heap[g]? = some (.cells cur 190 (0,0))) (vH:au<=g) (kT:n+1<=aU) (lJ:aU<=maxLen) (gZ:cur.size=aU) (hx:cur.toList.take (n)=xs) (me:∀u∈xs,u.oneCell'=true)
 (hv:w.heap[vb]? = some (.cells aV.toArray 190 (0,0))) (hl:aV.length=1*1) (h1:∀u∈aV,u.oneCell'=true) (dr:vb≠g):
 Calls prog 220 #[.slice (some ⟨g,0,none⟩) n aU,.int .i64 i,.slice (some ⟨vb,0,none⟩) 1 vc] w fun e w'=>de au 190 1 (.slice (some ⟨g,0,none⟩) n aU) (n+1) (xs.take (i)++aV++xs.drop (i)) w e w':=by
 have gX:∀lb cb,(callFunc 258 #[.slice (some ⟨vb,0,none⟩) 1 vc,.slice (some ⟨g,(i+1),none⟩) lb cb]).run prog w=.ok (.value (.bool false)) w:=fun lb cb=>by
  rw[run_callFunc_extern func258 (by kernel_rfl) (by kernel_rfl) (by kernel_rfl) (e:=Extern.SlicesOverlaps.overlaps #[239,239] #[4]) (by kernel_rfl),
   Lib.run_overlaps_apart w 239 4 190 underlying239 1 sizeOf190 ⟨vb,0,none⟩ ⟨g,(i+1),none⟩ 1 vc lb cb dr 190 190 aV.toArray.size cur.size (by simp[World.shape?,hv]) (by simp[World.shape?,hg]) (by omega) (by simp[World.frozen?,hv]) (by simp[World.frozen?,hv])]
  rfl
 have jL:xs.length=n:=by rw[<-hx,length_take,Array.length_toList];omega
 have mS:(xs.drop (i)).length=(n-i):=by rw[length_drop,jL];try omega
 obtain⟨r1,lu⟩:∃r1,r1=df cur.toList xs (i) (i+1):=⟨_,rfl⟩;obtain⟨r2,kC⟩:∃r2,r2=dM r1 aV (i):=⟨_,rfl⟩;have IG:=sG cur.toList xs aV (i) (n) 1 hx (by omega) (by omega) (by rw[Array.length_toList];omega);rw[show i+1=(i+1)by omega,<-lu,<-kC]at IG;obtain⟨q1,q2,q3⟩:=IG
 have CD:∀ty dc sc,(Builtin.copy_ #[239,239] ty #[.slice (some ⟨g,(i+1),none⟩) (n+1-(i+1)) dc,.slice (some ⟨g,i,none⟩) (n+1-i) sc]).run prog w.drew=.ok (goInt ↑(n-i)) (w.drew.setRow g r1.toArray):=fun ty dc sc=>by
  rw[cW w.drew 239 239 ty 190 g (i+1) (n+1-(i+1)) dc ⟨g,i,none⟩ (n+1-i) sc cur 190 (xs.drop (i)) 1 (n-i) underlying239 sizeOf190 hg (by simp only[Nat.min_def];split<;>omega) (by omega)
   (fun j u hj=>by rw[Addr.add_lit];exact dB (w:=w.drew) hg hx (by rwa [getElem?_drop]at hj)) (by rw[mS,gZ];omega) (fun u hu=>me u (mem_of_mem_drop hu)),lu]
  rfl
 have oP:(w.drew.setRow g r1.toArray).heap[g]? = some (.cells r1.toArray 190 (0,0)):=setRow_heap w.drew g cur _ 190 _ hg;have mv:(w.drew.setRow g r1.toArray).heap[vb]? = some (.cells aV.toArray 190 (0,0)):=(setRow_other w.drew g vb _ dr).trans hv
 have IZ:∀ty dc,(Builtin.copy_ #[239,239] ty #[.slice (some ⟨g,i,none⟩) (n+1-i) dc,.slice (some ⟨vb,0,none⟩) 1 vc]).run prog (w.drew.setRow g r1.toArray)=.ok (goInt ↑(1:Nat)) (w.drew.setRow g r2.toArray):=fun ty dc=>by
  rw[cW (w.drew.setRow g r1.toArray) 239 239 ty 190 g (i) (n+1-i) dc ⟨vb,0,none⟩ 1 vc r1.toArray 190 aV 1 1 underlying239 sizeOf190 oP (by simp only[Nat.min_def];split<;>omega) (by omega)
   (fun j u hj=>by rw[Addr.add_lit,Nat.zero_add];exact dB mv (n:=aV.length) (by simp) hj) (by simp only[size_toArray,q1,Array.length_toList];omega) h1,setRow_setRow,kC]
  rfl
 obtain⟨W1,tu⟩:∃W1,W1=w.drew.setRow g r1.toArray:=⟨_,rfl⟩;obtain⟨W2,hW2⟩:∃W2,W2=w.drew.setRow g r2.toArray:=⟨_,rfl⟩;rw[<-tu]at CD;rw[<-tu,<-hW2]at IZ
 have j9:∀v',v'=.slice (some ⟨g,0,none⟩) (n+1) aU->de au 190 1 (.slice (some ⟨g,0,none⟩) n aU) (n+1) (xs.take (i)++aV++xs.drop (i)) w (.returned v') W2:=by rintro v' rfl;refine⟨_,rfl,⟨by rw[<-q3,length_take,q2,Array.length_toList];omega,.inr ⟨g,aU,r2.toArray,rfl,vH,by rw[hW2];exact setRow_heap w.drew g cur _ 190 _ hg,kT,lJ,by simp[q2,gZ],by rw[show(n+1)*1=n+1 by omega];exact q3⟩⟩,⟨by rw[hW2];rfl,by rw[hW2];rfl,by rw[hW2];rfl,by rw[hW2];simp,fun x hx pF=>by rw[hW2];exact setRow_other w.drew g x _ (fun e=>pF (by rw[e];rfl))⟩,.inl rfl⟩
 have Hf:=aq j9;have RY:aU<=9223372036854775807:=by unfold maxLen at lJ;omega
 have fE:¬((i:Int)=(n:Int)):=by omega
 have gY:i<=n:=by omega
 have cC:¬(aU=i+1):=by omega
 have iU:¬(aU=i):=by omega
 have hQ:(i:Int)<=(n:Int)+1:=by omega
 have iD:IntKind.i64.wrap ((i:Int)+1)=(i:Int)+1:=by rw[IntKind.wrap_i64];omega
 have dJ:(0:Int)<=(i:Int)+1:=by omega
 have UO:((i:Int)+1).toNat=i+1:=by omega
 clear j9 q1 q2 q3 lu kC tu hW2 oP mv hg hv hl h1 hx me gZ jL mS lJ;go_enter func220,ntmps220
 go_wp2_with (simp only[gX])
 have mixed:=oG
 go_region_law_o (refine step_copy_runI rfl _ _ 239 239 rfl (.slice (some ⟨g,(i+1),none⟩) (n+1-(i+1)) (aU-(i+1))) (.slice (some ⟨g,i,none⟩) (n+1-i) (aU-i)) (by simp[Act.eval,Act.put]) (by simp[Act.eval,Act.put]) (CD _ _ _) ?_)
 go_wp2_with (at_builtin;refine wpList_copy_runI _ rfl _ _ 239 239 rfl _ _ rfl rfl (IZ _ _) ?_)
 go_ret;exact an Hf _ rfl
theorem EE (au:Nat) (g aU:Nat) (cur:Array Value) (n i:Nat) (xs aV:List Value) (vb vc:Nat) (w:World) (hi:i<n) (hn:n<=100) (hb:au<=w.heap.size) (hg:w.heap[g]? = some (.cells cur 190 (0,0))) (uC:n<=aU) (kT:aU<n+1) (hx:cur.toList.take (n)=xs) (jL:xs.length=n) (me:∀u∈xs,u.oneCell'=true)
 (hv:w.heap[vb]? = some (.cells aV.toArray 190 (0,0))) (hl:aV.length=1*1) (h1:∀u∈aV,u.oneCell'=true):
 Calls prog 220 #[.slice (some ⟨g,0,none⟩) n aU,.int .i64 i,.slice (some ⟨vb,0,none⟩) 1 vc] w fun e w'=>de au 190 1 (.slice (some ⟨g,0,none⟩) n aU) (n+1) (xs.take (i)++aV++xs.drop (i)) w e w':=by
 obtain⟨i0,Dv,hz0,fE,fD⟩:=info_parts xe;have WC:g<w.heap.size:=(Array.getElem?_eq_some_iff.1 hg).1;have Gq:vb<w.heap.size:=(Array.getElem?_eq_some_iff.1 hv).1;have nS:(n:Int)+1-(i:Int)=((n+1-i:Nat):Int):=by omega
 have Dt:i+(n+1-i)=n+1:=by omega
 have hold:(Builtin.firstCells i0.size i (.slice (some ⟨g,0,none⟩) i aU)).run prog w.drew=.ok (xs.take (i)).toArray w.drew:=by
  rw[fE]
  exact run_firstCells_some w.drew 1 i ⟨g,0,none⟩ i aU (xs.take (i)) (by rw[length_take];omega) (fun j u hj=>by
   rw[Addr.add_lit,Nat.zero_add];rw[getElem?_take]at hj
   split at hj
   ·exact dB (w:=w.drew) hg hx hj
   ·cases hj)
 obtain⟨G,hG⟩:∃G,G=grownCap w (n+1) aU 190:=⟨_,rfl⟩;have Sb:n+1<=G:=by rw[hG];exact grownCap_ge w _ _ _
 have Be:G<=maxLen:=by rw[hG];exact grownCap_le_maxLen w (n+1) aU 190 (by unfold maxLen;omega)
 obtain⟨R,hR⟩:∃R:List Value,R=(Builtin.zeroCells (Value.cells (.pointer none)) (n+1-i)++Builtin.zeroCells (Value.cells (.pointer none)) (G-(n+1))).toList:=⟨_,rfl⟩
 have J2:R.length=n+1-i+(G-(n+1)):=by
  rw[hR];simp[size_zeroCells,Value.cells]
  try omega
 have UQ:∀ty,(Builtin.append_ #[239,3] ty #[.slice (some ⟨g,0,none⟩) i aU,.int .i64 ((n:Int)+1-(i:Int))]).run prog w =
  .ok (.slice (some ⟨w.heap.size,0,none⟩) (n+1) G) (w.drew.alloc (.cells (xs.take (i)++R).toArray 190)):=fun ty=>by
  have h:=Lib.run_append_grow_zeros w 239 3 ty 190 i0 _ .i64 .i64 underlying239 underlying3 Dv hz0 (some ⟨g,0,none⟩) i aU (xs.take (i)) hold (n+1-i) (by omega) (by omega) (by omega) (by omega) (by rw[fD];omega) (by rw[fD,Dt];exact growslice_fits kT (by omega));rw[Dt,<-hG]at h;rw[nS,h,hR]
  congr 3
  apply Array.toList_inj.1;simp
 obtain⟨r1,lu⟩:∃r1,r1=dM (xs.take (i)++R) aV (i):=⟨_,rfl⟩;obtain⟨r2,kC⟩:∃r2,r2=df r1 xs (i) (i+1):=⟨_,rfl⟩;have IG:=vI R xs aV (List.replicate ((G-(n+1))) default) (i) (n) 1 jL (by omega) (by omega) (by rw[length_replicate];omega);rw[show i+1=(i+1)by omega,<-lu,<-kC,length_replicate]at IG;obtain⟨q1,q2,q3⟩:=IG;have mS:(xs.drop (i)).length=(n-i):=by rw[length_drop,jL];try omega
 obtain⟨WA,hWA⟩:∃WA,WA=w.drew.alloc (.cells (xs.take (i)++R).toArray 190):=⟨_,rfl⟩;have MJ:WA.heap[w.heap.size]? = some (.cells (xs.take (i)++R).toArray 190 (0,0)):=by rw[hWA];exact heap_alloc_new w.drew _
 have MK:∀x,x<w.heap.size->WA.heap[x]? = w.heap[x]?:=fun x hx=>by rw[hWA];exact Below.heap_alloc w.drew _ x hx
 have IY:∀(W:World),W.heap=WA.heap->∀ty dc,(Builtin.copy_ #[239,239] ty #[.slice (some ⟨w.heap.size,i,none⟩) (n+1-i) dc,.slice (some ⟨vb,0,none⟩) 1 vc]).run prog W=.ok (goInt ↑(1:Nat)) (W.setRow w.heap.size r1.toArray):=fun W hW ty dc=>by
  rw[cW W 239 239 ty 190 w.heap.size (i) (n+1-i) dc ⟨vb,0,none⟩ 1 vc _ 190 aV 1 1 underlying239 sizeOf190 (by rw[hW];exact MJ) (by simp only[Nat.min_def];split<;>omega) (by omega)
   (fun j u hj=>by rw[Addr.add_lit,Nat.zero_add];exact dB (by rw[hW,MK vb Gq];exact hv) (n:=aV.length) (by simp) hj) (by simp only[size_toArray,length_append,length_take,jL,J2];omega) h1,lu]
  rfl
 have IX:∀(W:World),W.heap=(WA.setRow w.heap.size r1.toArray).heap->∀ty dc sc,(Builtin.copy_ #[239,239] ty #[.slice (some ⟨w.heap.size,(i+1),none⟩) (n+1-(i+1)) dc,.slice (some ⟨g,i,none⟩) (n-i) sc]).run prog W=.ok (goInt ↑(n-i)) (W.setRow w.heap.size r2.toArray):=fun W hW ty dc sc=>by
  rw[cW W 239 239 ty 190 w.heap.size (i+1) (n+1-(i+1)) dc ⟨g,i,none⟩ (n-i) sc r1.toArray 190 (xs.drop (i)) 1 (n-i) underlying239 sizeOf190 (by rw[hW];exact setRow_heap WA _ _ _ 190 _ MJ) (by simp only[Nat.min_def];split<;>omega) (by omega)
   (fun j u hj=>by
    rw[Addr.add_lit];exact dB (by rw[hW,setRow_other _ _ g _ (by omega),MK g WC];exact hg) hx (by rwa [getElem?_drop]at hj))
   (by simp only[size_toArray,q1,mS];omega) (fun u hu=>me u (mem_of_mem_drop hu)),kC]
  rfl
 have j9:∀v' W',W'.heap=((WA.setRow w.heap.size r1.toArray).setRow w.heap.size r2.toArray).heap->W'.os=w.os->W'.tape=w.tape->W'.output=w.output->v'=.slice (some ⟨w.heap.size,0,none⟩) (n+1) G->de au 190 1 (.slice (some ⟨g,0,none⟩) n aU) (n+1) (xs.take (i)++aV++xs.drop (i)) w (.returned v') W':=by
  rintro v' W' hW h2 h3 h4 rfl;have gP:W'.heap.size=w.heap.size+1:=by rw[hW,hWA];simp
  refine⟨_,rfl,⟨by rw[<-q3,length_take,q2];omega,.inr ⟨w.heap.size,G,r2.toArray,rfl,hb,by rw[hW,setRow_setRow];exact setRow_heap WA _ _ _ 190 _ MJ,Sb,Be,by simp[q2];omega,by rw[show(n+1)*1=n+1 by omega];exact q3⟩⟩,⟨h2,h3,h4,by omega,fun x hx pF=>by rw[hW,setRow_setRow,setRow_other _ _ x _ (by omega),MK x hx]⟩,.inr ⟨_,rfl,Nat.le_refl _⟩⟩
 have Hf:=aq j9;have WQ:G<=9223372036854775807:=by unfold maxLen at Be;omega
 have aaj:¬((i:Int)=(n:Int)):=by omega
 have Rj:(aU:Int)<(n:Int)+1:=by omega
 have gY:i<=n:=by omega
 have hGi:¬(G=i):=by omega
 have abo:¬(G=i+1):=by omega
 have hci:¬(aU=i):=by omega
 have hQ:(i:Int)<=(n:Int):=by omega
 have iD:IntKind.i64.wrap ((i:Int)+1)=(i:Int)+1:=by rw[IntKind.wrap_i64];omega
 have dJ:(0:Int)<=(i:Int)+1:=by omega
 have UO:((i:Int)+1).toNat=i+1:=by omega
 obtain⟨BU,hROW⟩:∃BU,BU=(xs.take (i)++R).toArray:=⟨_,rfl⟩;rw[<-hROW]at UQ;have HW:Hid (WA=w.drew.alloc (.cells BU 190)):=by rw[hROW];exact hWA
 have hA:∀ty dc,(Builtin.copy_ #[239,239] ty #[.slice (some ⟨w.heap.size,i,none⟩) (n+1-i) dc,.slice (some ⟨vb,0,none⟩) 1 vc]).run prog (w.alloc (.cells BU 190)).drew=.ok (goInt ↑(1:Nat)) ((w.alloc (.cells BU 190)).drew.setRow w.heap.size r1.toArray):=IY _ (by rw[an HW];rfl);have hB:∀ty dc sc,(Builtin.copy_ #[239,239] ty #[.slice (some ⟨w.heap.size,(i+1),none⟩) (n+1-(i+1)) dc,.slice (some ⟨g,i,none⟩) (n-i) sc]).run prog ((w.alloc (.cells BU 190)).drew.setRow w.heap.size r1.toArray).drew=.ok (goInt ↑(n-i)) (((w.alloc (.cells BU 190)).drew.setRow w.heap.size r1.toArray).drew.setRow w.heap.size r2.toArray):=IX _ (by rw[an HW];rfl)
 clear j9 q1 q2 q3 lu kC hg hv hl h1 hx me jL mS nS Dt hold hR J2 hG Be MJ MK IY IX hROW hWA;go_enter func220,ntmps220
 go_wp2_with (first
  |(at_builtin;refine Lib.wpList_append_run _ rfl _ _ _ _ rfl _ _ rfl rfl _ _ (UQ _) ?_)
  |(at_builtin;refine wpList_copy_runI _ rfl _ _ 239 239 rfl _ _ rfl rfl (hA _ _) ?_))
 have mixed:=oG
 go_region_law_o (refine step_copy_runI rfl _ _ 239 239 rfl (.slice (some ⟨w.heap.size,(i+1),none⟩) (n+1-(i+1)) (G-(i+1))) (.slice (some ⟨g,i,none⟩) (n-i) (aU-i)) (by simp[Act.eval,Act.put]) (by simp[Act.eval,Act.put]) (hB 3 (G-(i+1)) (aU-i)) ?_)
 go_wp2
 go_ret;exact an Hf _ _ (by rw[an HW];rfl) rfl rfl rfl rfl
theorem Cw (au:Nat) (v:Value) (n i:Nat) (xs aV:List Value) (vb vc:Nat) (w:World) (ho:w.ownsRow au 190 1 v n xs) (hi:i<=n) (hn:n<=100) (hb:au<=w.heap.size) (me:∀u∈xs,u.oneCell'=true)
 (hv:w.heap[vb]? = some (.cells aV.toArray 190 (0,0))) (hl:aV.length=1*1) (h1:∀u∈aV,u.oneCell'=true) (dr:v.ownBlock≠some vb):
 Calls prog 220 #[v,.int .i64 i,.slice (some ⟨vb,0,none⟩) 1 vc] w fun e w'=>de au 190 1 v (n+1) (xs.take (i)++aV++xs.drop (i)) w e w':=by
 have jL:xs.length=n:=by have:=ho.1;omega
 rcases Nat.lt_or_ge i n with h|h
 ·rcases ho.2 with⟨rfl,rfl⟩|⟨g,aU,cur,rfl,vH,hg,uC,lJ,gZ,hx⟩
  ·omega
  ·have pF:vb≠g:=fun e=>dr (by rw[e];rfl)
   have RX:cur.size=aU:=by omega
   have sS:cur.toList.take (n)=xs:=by rw[<-hx,show n*1=n by omega]
   rcases Nat.lt_or_ge aU (n+1)with h2|h2
   ·exact EE au g aU cur n i xs aV vb vc w h hn hb hg uC h2 sS jL me hv hl h1
   ·exact Cv au g aU cur n i xs aV vb vc w h hn hg vH h2 lJ RX sS me hv hl h1 pF
 ·obtain rfl:i=n:=by omega
  have:=Iy au v i xs aV vb vc w ho hn hb hv hl h1;rw[take_of_length_le (by omega),drop_eq_nil_of_le (by omega),append_nil];exact this
theorem vR (au b off n c:Nat) (aV:List Value) (w:World) (hl:aV.length=n*3) (hn:n<=100) (hb:au<=w.heap.size)
 (hc:∀j u,aV[j]? = some u->w.cell? ⟨b,off+j,none⟩=some u) (h1:∀u∈aV,u.oneCell'=true):
 Calls prog 165 #[.slice (some ⟨b,off,none⟩) n c] w fun e w'=>wk au 238 3 n aV w e w':=by
 obtain⟨i0,hi,hz0,fE,fD⟩:=info_parts xc;have q22:∀(w:World) (a:Option Addr) (n c n' c':Nat),(binOp .eql 235 (.slice a n c) (.slice none n' c')).run prog w=.ok (.bool a.isNone) w:=fun w a n c n' c'=>Lib.run_eql_slice_nil w _ _ a n c n' c' underlying235
 have HC:=aq hc;have HL:=aq hl;have H1:=aq h1;have HB:=aq hb;clear hc hl h1 hb;go_enter func165,ntmps165
 go_wp2_with (at_builtin;refine wpList_append_own_at _ rfl _ _ 235 rfl w.heap.size 238 i0 (.agg #[.string ⟨#[]⟩,.string ⟨#[]⟩,.int .i64 0]) 3 40 underlying235 hi hz0 fE fD rfl (by decide) _ _ _ rfl (World.ownsRow_made w #[] 0 (Nat.le_refl _) (Nat.zero_le _) (by simp)) ⟨b,off,none⟩ n c aV rfl (an HL) (fun j u hj=>by rw[Addr.add_lit];exact Lib.cell?_alloc_some _ (an HC j u hj)) (an H1) (by unfold maxLen;omega) (by omega) (by simp) ?_;intro v4 w4 dS cr ig gQ)
 have Ho:=aq dS;have Hg:=aq cr;have Ha:=aq gQ;clear dS cr ig gQ;go_wp2_with fail;go_ret;have ft:=an Ho;have qQ:=an Hg;have iV:=an Ha;rw[Nat.zero_add,nil_append]at ft;refine⟨v4,rfl,gp ft (an HB),?_,((Below.refl _ w).alloc (Nat.le_refl _) _).grown qQ (by simp) (fun k hk=>Nat.le_of_eq (Option.some.inj hk))⟩
 rcases iV with h|h
 ·exact⟨_,h,Nat.le_refl _⟩
 ·exact⟨_,h,by simp⟩
theorem uN (w:World):Calls prog 165 #[.slice none 0 0] w fun e w'=>e=.returned (.slice none 0 0)/\w'=w:=by
 have q22:∀(w:World) (a:Option Addr) (n c n' c':Nat),(binOp .eql 235 (.slice a n c) (.slice none n' c')).run prog w=.ok (.bool a.isNone) w:=fun w a n c n' c'=>Lib.run_eql_slice_nil w _ _ a n c n' c' underlying235
 go_enter func165,ntmps165
 go_wp2
 go_ret;exact⟨rfl,rfl⟩
end Go.Proofs.YtphcnmlbieokoaaGreatDoor.T
