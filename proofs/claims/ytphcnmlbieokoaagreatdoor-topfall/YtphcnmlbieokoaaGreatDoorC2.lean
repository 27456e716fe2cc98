import Derived.Test.YtphcnmlbieokoaaGreatDoorC1
import Derived.WalkMore
import Derived.BigQuiet
import Derived.Lib.Replace
import Derived.Lib.CountLaws
import Derived.Maps.AppendAt
import Derived.Laws.IdiomStrings
set_option maxRecDepth 100000
set_option maxHeartbeats 16000000
set_option linter.unusedVariables false
set_option linter.unusedSimpArgs false
namespace Go.Proofs.YtphcnmlbieokoaaGreatDoor
open Go.RowKit List Go.Proofs.Tryz
def fp:ByteArray:=⟨#[32,45,46,95,48,49,50,51,52,53,54,55,56,57,97,98,99,67,100,101,102,103,104,105,106,107,108,109,110,111,112,113,114,115,116,117,118,119,120,121,122,207,131]⟩
theorem l9:fp.size=43:=rfl
def eG:ByteArray:=⟨#[46,95,48,49,50,51,52,53,54,55,56,57,97,98,99,67,100,101,102,103,104,105,106,107,108,109,110,111,112,113,114,115,116,117,118,119,120,121,122,207,131]⟩
theorem vV (c:Int) (m:ByteArray) (b:Int) (h0:(0:Int)<=c) (h1:¬c<128) (h2:(c==65533)=false) (hV:∀wx,Calls prog 250 #[.int .i32 c] wx fun e w'=>e=.returned (.bool true)/\w'=wx) (U6:Utf8.encode c=m) (UU:m.size=2)
 (UY:∀wx,(Instr.index 9 (.string m) (.int .i64 1)).run prog wx=.ok (.int .u8 b) wx) (hb:b<256) (Vi:∀wx,Calls prog 249 #[.string eG,.int .u8 b] wx fun e w'=>e=.returned (.int .i64 (-1))/\w'=wx) (h45:(45==b)=false) (w:World):
 Calls prog 201 #[.string fp,.int .i32 c] w fun e w'=>e=.returned (.int .i64 (-1))/\Below w.heap.size w w':=by
 have hix:∀wx,(Instr.index 9 (.string fp) (.int .i64 1)).run prog wx=.ok (.int .u8 45) wx:=fun wx=>by kernel_rfl
 have uz:∀wx,(Instr.slice 9 (.string fp) (some (.int .i64 2)) none none).run prog wx=.ok (.string eG) wx:=fun wx=>by kernel_rfl
 have gP:=l9;go_enter func201,ntmps201;go_wp2_with fail;refine(hV w).mono ?_;rintro e wx ⟨rfl,dE⟩;have dE:=dE.symm;subst dE;go_wp2_with fail
 go_step3
 go_wp2_with fail
 refine wp_loop_rounds 1 ?_;rw[rounds_succ];go_wp2_with fail
 go_step3
 go_wp2_with fail
 go_quiet (fail)
 have Vc:=below_drewN (Below.refl w.heap.size w) nq;go_wp2_with fail;generalize w.drewN nq=wq at *
 go_quiet ((go_at_call 249;refine Calls.quiet_of_same (Vi _)))
 go_wp2
 rw[Exit.noGoto_ret]
 go_wp2
 rw[Exit.noGoto_ret]
 go_wp2
 go_ret;exact⟨rfl,below_drewN Vc nq⟩
theorem Ot (w:World):
 Calls prog 201 #[.string fp,.int .i32 768] w fun e w'=>e=.returned (.int .i64 (-1))/\Below w.heap.size w w':=
 vV 768 ⟨#[204,128]⟩ 128 (by decide) (by decide) (by decide) (fun wx=>Tryz.utf8_ValidRune 768 wx) (by decide +kernel) rfl (fun wx=>by kernel_rfl) (by decide) (fun wx=>Tryz.strings_IndexByte eG 128 wx) (by decide) w
theorem Oq (w:World):
 Calls prog 201 #[.string fp,.int .i32 769] w fun e w'=>e=.returned (.int .i64 (-1))/\Below w.heap.size w w':=
 vV 769 ⟨#[204,129]⟩ 129 (by decide) (by decide) (by decide) (fun wx=>Tryz.utf8_ValidRune 769 wx) (by decide +kernel) rfl (fun wx=>by kernel_rfl) (by decide) (fun wx=>Tryz.strings_IndexByte eG 129 wx) (by decide) w
theorem Oo (w:World):
 Calls prog 201 #[.string fp,.int .i32 776] w fun e w'=>e=.returned (.int .i64 (-1))/\Below w.heap.size w w':=
 vV 776 ⟨#[204,136]⟩ 136 (by decide) (by decide) (by decide) (fun wx=>Tryz.utf8_ValidRune 776 wx) (by decide +kernel) rfl (fun wx=>by kernel_rfl) (by decide) (fun wx=>Tryz.strings_IndexByte eG 136 wx) (by decide) w
theorem Om (w:World):
 Calls prog 201 #[.string fp,.int .i32 807] w fun e w'=>e=.returned (.int .i64 (-1))/\Below w.heap.size w w':=
 vV 807 ⟨#[204,167]⟩ 167 (by decide) (by decide) (by decide) (fun wx=>Tryz.utf8_ValidRune 807 wx) (by decide +kernel) rfl (fun wx=>by kernel_rfl) (by decide) (fun wx=>Tryz.strings_IndexByte eG 167 wx) (by decide) w
def Eh:ByteArray:=⟨#[207,131]⟩
theorem Ol (w:World):
 Calls prog 201 #[.string fp,.int .i32 963] w fun e w'=>e=.returned (.int .i64 41)/\Below w.heap.size w w':=by
 have hV:∀wx,Calls prog 250 #[.int .i32 963] wx fun e w'=>e=.returned (.bool true)/\w'=wx:=fun wx=>Tryz.utf8_ValidRune 963 wx
 have hix:∀wx,(Instr.index 9 (.string fp) (.int .i64 1)).run prog wx=.ok (.int .u8 45) wx:=fun wx=>by kernel_rfl
 have hix3:∀wx,(Instr.index 9 (.string fp) (.int .i64 41)).run prog wx=.ok (.int .u8 207) wx:=fun wx=>by kernel_rfl
 have uz:∀wx,(Instr.slice 9 (.string fp) (some (.int .i64 2)) none none).run prog wx=.ok (.string eG) wx:=fun wx=>by kernel_rfl
 have gP:=l9;have U6:Utf8.encode 963=Eh:=by decide +kernel
 have UU:Eh.size=2:=rfl;have UY:∀wx,(Instr.index 9 (.string Eh) (.int .i64 1)).run prog wx=.ok (.int .u8 131) wx:=fun wx=>by kernel_rfl
 have hix0:∀wx,(Instr.index 9 (.string Eh) (.int .i64 0)).run prog wx=.ok (.int .u8 207) wx:=fun wx=>by kernel_rfl
 have Vi:∀wx,Calls prog 249 #[.string eG,.int .u8 131] wx fun e w'=>e=.returned (.int .i64 40)/\w'=wx:=fun wx=>Tryz.strings_IndexByte eG 131 wx
 go_enter func201,ntmps201;go_wp2_with fail;refine(hV w).mono ?_;rintro e wx ⟨rfl,dE⟩;have dE:=dE.symm;subst dE;go_wp2_with fail
 go_step3
 go_wp2_with fail
 refine wp_loop_rounds 1 ?_;rw[rounds_succ];go_wp2_with fail
 go_step3
 go_wp2_with fail
 go_quiet (fail)
 have Vc:=below_drewN (Below.refl w.heap.size w) nq;go_wp2_with fail;generalize w.drewN nq=wq at *
 go_quiet ((go_at_call 249;refine Calls.quiet_of_same (Vi _)))
 have aeJ:=below_drewN Vc nq;go_wp2_with fail;generalize wq.drewN nq=wq2 at *;refine wp_loop_rounds 2 ?_;rw[rounds_succ];go_wp2_with fail
 go_quiet (fail)
 have aeI:=below_drewN aeJ nq;go_wp2_with fail;generalize wq2.drewN nq=wq3 at *;rw[rounds_succ]
 go_wp2
 rw[Exit.noGoto_ret]
 go_wp2
 rw[Exit.noGoto_ret]
 go_wp2
 go_ret;exact⟨rfl,aeI⟩
def EK (r:Int):Int:=if r=963 then 41 else if r<128 then Lib.indexByte fp.data.toList r.toNat.toUInt8 else -1
def im (r:Int):Int:=if EK r<0 then 0 else 2+EK r
def jU (r:Int):Int:=if r=807 then 2 else if r=768 then 3 else if r=769 then 4 else if r=776 then 5 else 0
def JQ (r:Int):Prop:=(0<=r/\r<128)∨r=963∨Mark r
theorem NY {r:Int} (h:Mark r):r=768∨r=769∨r=776∨r=807:=by
 unfold Mark bu at h
 by_cases h1:r=768∨r=769∨r=776
 ·omega
 ·rw[if_neg h1]at h
  by_cases h2:r=807
  ·omega
  ·rw[if_neg h2]at h;omega
theorem yU (r:Int) (h:JQ r) (w:World):
 Calls prog 201 #[.string fp,.int .i32 r] w fun e w'=>e=.returned (.int .i64 (EK r))/\Below w.heap.size w w':=by
 rcases h with⟨h0,h1⟩|rfl|hm
 ·have e:EK r=Lib.indexByte fp.data.toList r.toNat.toUInt8:=by
   unfold EK;rw[if_neg (by omega),if_pos h1]
  rw[e];exact(Tryz.strings_IndexRune_ascii fp r w h0 h1).mono fun e w' ⟨he,hw⟩=>⟨he,by rw[hw];exact Below.refl _ _⟩
 ·exact Ol w
 ·rcases NY hm with rfl|rfl|rfl|rfl
  ·exact Ot w
  ·exact Oq w
  ·exact Oo w
  ·exact Om w
theorem vx (c:UInt8):∀l:List UInt8,Lib.indexByte l c<l.length
 |[]=>by simp[Lib.indexByte]
 |b::l=>by
  have h1:=vx c l;have h2:=Lib.indexByte_ge l c;unfold Lib.indexByte;simp only[length_cons]
  repeat' split
  all_goals omega
theorem AU (r:Int):-1<=EK r/\EK r<=42:=by
 unfold EK
 split
 ·omega
 ·split
  ·have h1:=vx r.toNat.toUInt8 fp.data.toList;have h2:=Lib.indexByte_ge fp.data.toList r.toNat.toUInt8;have h3:fp.data.toList.length=43:=rfl;omega
  ·omega
theorem tv (r:Int) (h:JQ r) (w:World):
 Calls prog 136 #[.int .i32 r] w fun e w'=>e=.returned (.int .u8 (im r))/\Below w.heap.size w w':=by
 have hI:=yU r h w;have hr:=AU r;unfold im;generalize EK r=i at *
 by_cases hi:i<0
 ·rw[if_pos hi];go_enter func136,ntmps136;go_wp2_with fail;refine hI.mono ?_;rintro e w1 ⟨rfl,dJ⟩
  go_wp2
  go_ret;exact⟨rfl,dJ⟩
 ·rw[if_neg hi];have Dv:0<=i:=by omega
  have Cd:i<=42:=hr.2;go_enter func136,ntmps136;go_wp2_with fail;refine hI.mono ?_;rintro e w1 ⟨rfl,dJ⟩
  go_wp2
  go_ret;exact⟨rfl,dJ⟩
theorem wV (r:Int) (w:World):Calls prog 137 #[.int .i32 r] w fun e w'=>e=.returned (.int .u8 (jU r))/\w'=w:=by
 go_enter func137,ntmps137
 go_wp2
 all_goals go_ret
 all_goals (refine⟨?_,rfl⟩;simp_all [jU])
end Go.Proofs.YtphcnmlbieokoaaGreatDoor
namespace Go.Proofs.YtphcnmlbieokoaaGreatDoor
open Go.Lib
def fA:List Int->List Int
 |[]=>[]
 |[r]=>[r]
 |r::q::t=>if r=99/\q=104 then 67::fA t else r::fA (q::t)
 termination_by l=>l.length
def zh:List UInt8:=[99,104]
def qL (s:List UInt8):List UInt8:=replaceK zh [67] (count s zh) s
theorem NI (s:List UInt8):replaceAll s [99,104] [67]=qL s:=by
 unfold replaceAll replace replaceNum qL zh;rw[if_neg (by decide),if_pos (.inl (by decide))]
theorem NH (t:List UInt8):qL (99::104::t)=67::qL t:=by
 have h:index (99::104::t) zh=((0:Nat):Int):=by unfold index zh;rw[if_pos (by simp)];rfl
 unfold qL;rw[count_hit (by decide) h];have e:List.drop (0+zh.length) (99::104::t)=t:=rfl;rw[e,Nat.add_comm,replaceK_hit _ _ _ _ 0 h,e];rfl
theorem uc (b:UInt8) (t:List UInt8) (hn:zh.isPrefixOf (b::t)=false):qL (b::t)=b::qL t:=by
 have hi:index (b::t) zh=if index t zh == -1 then -1 else index t zh+1:=by rw[index.eq_2,hn];simp
 unfold qL
 by_cases hm:index t zh = -1
 ·have h2:index (b::t) zh = -1:=by rw[hi,hm];rfl
  rw[count_miss hm,count_miss h2];rfl
 ·obtain⟨i,h1⟩:∃i:Nat,index t zh=i:=⟨(index t zh).toNat,by have:=index_ge t zh;omega⟩
  have h2:index (b::t) zh=((i+1:Nat):Int):=by rw[hi,if_neg (by simpa using hm),h1];simp
  rw[count_hit (by decide) h1,count_hit (by decide) h2]
  have e:List.drop (i+1+zh.length) (b::t)=List.drop (i+zh.length) t:=by rw[show i+1+zh.length=(i+zh.length)+1 by omega,List.drop_succ_cons]
  rw[e,Nat.add_comm 1,replaceK_hit _ _ _ _ _ h2,replaceK_hit _ _ _ _ _ h1,e];rfl
theorem CZ:qL []=[]:=by decide
theorem xm (b:UInt8) (t:List UInt8) (h:b.toNat≠99∨∀c t',t=c::t'->c.toNat≠104):zh.isPrefixOf (b::t)=false:=by
 unfold zh
 cases t with
 |nil=>simp[List.isPrefixOf]
 |cons c t=>
  simp only[List.isPrefixOf,Bool.and_eq_false_iff,beq_eq_false_iff_ne]
  rcases h with h|h
  ·left;intro e;apply h;rw[<-e];rfl
  ·right
   left;intro e;apply h c t rfl;rw[<-e];rfl
theorem Sx {r:Int} (h:bA r) (dr:r≠104) (t:List Int):∀c t',bI (r::t)=c::t'->c.toNat≠104:=by
 intro c t' e;have h2:=h.2;have h0:=h.1;rw[cK]at e
 rcases Int.lt_or_le r 128 with h1|h1
 ·rw[oj h.1 h1]at e;simp only[List.singleton_append,List.cons.injEq]at e;rw[<-e.1,u8 _ (by omega)];omega
 ·rw[s6 h1 h.2]at e;simp only[List.cons_append,List.nil_append,List.cons.injEq]at e;rw[<-e.1,u8 _ (by omega)];omega
theorem CY {r:Int} (h:bA r) (t:List Int) (hk:r≠99∨∀c t',bI t=c::t'->c.toNat≠104):qL (bI (r::t))=Lib.encodeRune r++qL (bI t):=by
 have h2:=h.2;have h0:=h.1;rw[cK]
 rcases Int.lt_or_le r 128 with h1|h1
 ·rw[oj h.1 h1];simp only[List.singleton_append];refine uc _ _ (xm _ _ ?_)
  rcases hk with hk|hk
  ·left;rw[u8 _ (by omega)];omega
  ·exact .inr hk
 ·rw[s6 h1 h.2];simp only[List.cons_append,List.nil_append];rw[uc _ _ (xm _ _ (.inl (by rw[u8 _ (by omega)];omega))),uc _ _ (xm _ _ (.inl (by rw[u8 _ (by omega)];omega)))]
theorem Ap:∀(n:Nat) (ts:List Int),ts.length<=n->(∀r∈ts,bA r)->qL (bI ts)=bI (fA ts)
 |_,[],_,_=>by rw[mo,CZ,fA,mo]
 | 0,_::_,hn,_=>by simp at hn
 |n+1,[r],_,h=>by rw[CY (h r (by simp)) [] (.inr (fun c t' e=>by cases e)),mo,CZ,fA,cK,mo]
 |n+1,r::q::t,hn,h=>by
  have hr:=h r (by simp);have hq:=h q (by simp);rw[fA]
  by_cases hc:r=99/\q=104
  ·rw[if_pos hc];obtain⟨rfl,rfl⟩:=hc
   have e:bI (99::104::t)=99::104::bI t:=by rw[cK,cK,oj (by decide) (by decide),oj (by decide) (by decide)];rfl
   have e2:bI (67::fA t)=67::bI (fA t):=by rw[cK,oj (by decide) (by decide)];rfl
   rw[e,NH,Ap n t (by simp at hn;omega) (fun x hx=>h x (by simp[hx])),e2]
  ·rw[if_neg hc,CY hr (q::t) ?_,Ap n (q::t) (by simpa using hn) (fun x hx=>h x (by simp at hx ⊢;exact .inr hx)),cK]
   by_cases h99:r=99
   ·exact .inr (Sx hq (fun e=>hc ⟨h99,e⟩) t)
   ·exact .inl h99
theorem Ki {ts:List Int} (h:∀r∈ts,bA r):∀r∈fA ts,bA r:=by
 induction ts using fA.induct with
 |case1=>simp[fA]
 |case2 r=>simpa[fA]using h
 |case3 r q t hc ih=>
  rw[fA,if_pos hc];intro x hx
  rcases List.mem_cons.1 hx with rfl|hx
  ·exact⟨by decide,by decide⟩
  ·exact ih (fun y hy=>h y (by simp[hy])) x hx
 |case4 r q t hc ih=>
  rw[fA,if_neg hc];intro x hx
  rcases List.mem_cons.1 hx with rfl|hx
  ·exact h x (by simp)
  ·exact ih (fun y hy=>h y (by simp at hy ⊢;exact .inr hy)) x hx
theorem GV (ts:List Int):(fA ts).length<=ts.length:=by
 induction ts using fA.induct with
 |case1=>simp[fA]
 |case2 r=>simp[fA]
 |case3 r q t hc ih=>rw[fA,if_pos hc];simp only[List.length_cons];omega
 |case4 r q t hc ih=>rw[fA,if_neg hc];simp only[List.length_cons]at ih ⊢;omega
end Go.Proofs.YtphcnmlbieokoaaGreatDoor
namespace Go.Proofs.YtphcnmlbieokoaaGreatDoor
open Go.RowKit List Go.Proofs.Tryz
def xQ (st:List Int×List Int) (r:Int):List Int×List Int:=
 if im r≠0 then(st.1++[im r],if st.1=[]then st.2 else st.2++[1])else if jU r≠0 then(st.1,st.2++[jU r])else st
def runK (ts:List Int):List Int×List Int:=ts.foldl xQ ([],[])
def Ra (ts:List Int):List Int:=((runK ts).1++[1])++((runK ts).2++[1])
def toB (l:List Int):ByteArray:=⟨(l.map fun z=>z.toNat.toUInt8).toArray⟩
def Rb (ts:List Int):ByteArray:=toB (Ra ts)
theorem CX (ts:List Int) (r:Int):runK (ts++[r])=xQ (runK ts) r:=by simp[runK]
theorem tC (r:Int):0<=im r/\im r<=44/\im r≠1:=by
 have:=AU r;unfold im
 split<;>omega
theorem tB (r:Int):0<=jU r/\jU r<=5/\jU r≠1:=by
 unfold jU
 repeat' split
 all_goals omega
theorem Al (ts:List Int):(runK ts).1.length<=ts.length/\(runK ts).2.length<=ts.length/\(∀x∈(runK ts).1,2<=x/\x<=44)/\(∀x∈(runK ts).2,1<=x/\x<=44):=by
 suffices h:∀(l:List Int),l.reverse=ts->_ from h ts.reverse (by simp)
 intro l
 induction l generalizing ts with
 |nil=>intro h;simp at h;subst h;simp[runK]
 |cons p l ih=>
  intro h;have hp:ts=l.reverse++[p]:=by rw[<-h];simp
  obtain⟨h1,h2,h3,h4⟩:=ih l.reverse rfl;have hw:=tC p;have hm:=tB p;rw[hp,CX];generalize runK l.reverse=st at *;unfold xQ
  by_cases hc:im p≠0
  ·rw[if_pos hc];refine⟨?_,?_,?_,?_⟩
   ·simp only[length_append,length_cons,length_nil];omega
   ·simp only[length_append,length_cons,length_nil]
    split
    ·omega
    ·simp only[length_append,length_cons,length_nil];omega
   ·intro x hx
    rcases mem_append.1 hx with hx|hx
    ·exact h3 x hx
    ·simp at hx;subst hx;omega
   ·intro x hx
    split at hx
    ·exact h4 x hx
    ·rcases mem_append.1 hx with hx|hx
     ·exact h4 x hx
     ·simp at hx;subst hx;omega
  ·rw[if_neg hc]
   by_cases hd:jU p≠0
   ·rw[if_pos hd];refine⟨?_,?_,h3,?_⟩
    ·simp only[length_append,length_cons,length_nil];omega
    ·simp only[length_append,length_cons,length_nil];omega
    ·intro x hx
     rcases mem_append.1 hx with hx|hx
     ·exact h4 x hx
     ·simp at hx;subst hx;omega
   ·rw[if_neg hd];simp only[length_append,length_cons,length_nil];exact⟨by omega,by omega,h3,h4⟩
structure fm (w:World) (s:ByteArray) (B:Nat) (wr:World) (pos:Nat) (v u:Value) (st:List Int×List Int):Prop where
 it:wr.heap[B]? = some (.stringIter s pos)
 bel:Below B w wr
 tk:wr.ownsRow B 5 1 v st.1.length (st.1.map (Value.int .u8))
 own2:wr.ownsRow B 5 1 u st.2.length (st.2.map (Value.int .u8))
 apart:∀g,v.ownBlock=some g->u.ownBlock≠some g
theorem fm.later {w wr w1:World} {s:ByteArray} {B pos:Nat} {v u:Value} {st:List Int×List Int} (h:fm w s B wr pos v u st) (hb:Below wr.heap.size wr w1):fm w s B w1 pos v u st where
 it:=(hb.block _ (Array.getElem?_eq_some_iff.1 h.it).1).trans h.it
 bel:=h.bel.trans (hb.mono (by have:=(Array.getElem?_eq_some_iff.1 h.it).1;omega))
 tk:=h.tk.kept (kV hb none) (by cases hv:v.ownBlock<;>simp)
 own2:=h.own2.kept (kV hb none) (by cases hv:u.ownBlock<;>simp)
 apart:=h.apart
theorem C9 {w:World} {au:Nat} {e:TypeId} {v:Value} {n:Nat} {xs:List Value} (h:w.ownsRow au e 1 v n xs) {k:Nat} {s:ByteArray} {pos:Nat} (hk:w.heap[k]? = some (.stringIter s pos)) (p:Nat):(w.iterAt k s p).ownsRow au e 1 v n xs:=by
 obtain⟨h1,h2⟩:=h;refine⟨h1,?_⟩
 rcases h2 with h2|⟨g,aU,cur,a,b,c,d⟩
 ·exact .inl h2
 ·refine .inr ⟨g,aU,cur,a,b,?_,d⟩
  have dr:g≠k:=by intro e;rw[e,hk]at c;cases c
  rw[Lib.iterAt_other _ _ _ _ _ dr];exact c
theorem fm.ar {w wr:World} {s:ByteArray} {B pos:Nat} {v u:Value} {st:List Int×List Int} (h:fm w s B wr pos v u st) (pos':Nat):fm w s B (wr.iterAt B s pos') pos' v u st where
 it:=Lib.iterAt_heap _ _ _ _ _ h.it
 bel:=Lib.below_iterAt h.bel (Nat.le_refl _) _ _
 tk:=C9 h.tk h.it pos'
 own2:=C9 h.own2 h.it pos'
 apart:=h.apart
theorem yj {wr:World} {B pos:Nat} {s:ByteArray} {au:Nat} {v:Value} {n:Nat} {xs:List Value} (h:wr.ownsRow au 5 1 v n xs) (hit:wr.heap[B]? = some (.stringIter s pos)):some B≠v.ownBlock:=by
 intro e;obtain⟨c,hc⟩:=ph h B e.symm;rw[hit]at hc
 cases hc
theorem fm.NS {w wr w3:World} {s:ByteArray} {B pos:Nat} {v u:Value} {st:List Int×List Int} (h:fm w s B wr pos v u st) (hg:wr.grownBy w3 u.ownBlock):w3.ownsRow B 5 1 v st.1.length (st.1.map (Value.int .u8)):=
 h.tk.kept hg (by
  cases hv:v.ownBlock with
  |none=>exact .inl rfl
  |some g=>exact .inr (fun e=>h.apart g hv e.symm))
theorem fm.NR {w wr:World} {s:ByteArray} {B pos:Nat} {v u:Value} {a b:List Int} (h:fm w s B wr pos v u (a,b)):wr.ownsRow B 5 1 v a.length (a.map (Value.int .u8)):=h.tk
theorem fm.Yx {w wr:World} {s:ByteArray} {B pos:Nat} {v:Value} {g n c:Nat} {a b:List Int} (h:fm w s B wr pos v (.slice (some ⟨g,0,none⟩) n c) (a,b)):∀j u,(b.map (Value.int .u8))[j]? = some u->wr.cell? ((⟨g,0,none⟩:Addr).add j)=some u:=h.own2.cells (g:=g) rfl
theorem aZ {w:World} {B:Nat} {e:TypeId} {v:Value} {n:Nat} {xs:List Value} (h:w.ownsRow B e 1 v n xs) (hn:0<n):∃g c,v=.slice (some ⟨g,0,none⟩) n c:=by
 rcases h.2 with⟨_,h0⟩|⟨g,c,cur,h1,_⟩
 ·omega
 ·exact⟨g,c,h1⟩
theorem Oi {w6:World} {B:Nat} {v:Value} {a b:List Int} (h:w6.ownsRow B 5 1 v (a.length+1+(b.length+1)) ((a.map (Value.int .u8)++[Value.int .u8 1])++(b++[1]).map (Value.int .u8))):
 w6.ownsRow B 5 1 v ((a++[1])++(b++[1])).length (((a++[1])++(b++[1])).map (Value.int .u8)):=by
 have e:((a++[1])++(b++[1])).length=a.length+1+(b.length+1):=by simp only[length_append,length_cons,length_nil]
 rw[e,map_append,map_append];exact h
theorem fm.Yy {w wr:World} {s:ByteArray} {B pos:Nat} {u:Value} {g n c:Nat} {a b:List Int} (h:fm w s B wr pos (.slice (some ⟨g,0,none⟩) n c) u (a,b)):∀j x,(a.map (Value.int .u8))[j]? = some x->wr.cell? ((⟨g,0,none⟩:Addr).add j)=some x:=h.tk.cells (g:=g) rfl
theorem Jn (w:World) (g c n:Nat) (ks:List Int) (hn:ks.length=n) (hr:∀x∈ks,0<=x/\x<256) (hc:∀j u,(ks.map (Value.int .u8))[j]? = some u->w.cell? ((⟨g,0,none⟩:Addr).add j)=some u):
 (convert 178 9 (.slice (some ⟨g,0,none⟩) n c)).run prog w=.ok (.string (toB ks)) w:=by
 have h:=run_convert_bytes_back (P:=prog) w 178 9 5 ⟨g,0,none⟩ c (ks.map fun z=>z.toNat.toUInt8) underlying178 underlying5 underlying9 (fun j hj=>by
  have PY:j<ks.length:=by simpa using hj
  have h1:=hr ks[j] (getElem_mem _);have h2:=hc j (.int .u8 ks[j]) (by rw[getElem?_map,getElem?_eq_getElem PY];rfl);rw[h2,getElem_map,u8 _ (by omega),Int.toNat_of_nonneg h1.1])
 rw[length_map,hn]at h;exact h
theorem fm.VM {w wr w3:World} {s:ByteArray} {B pos:Nat} {v v' u:Value} {a b a':List Int} (h:fm w s B wr pos v u (a,b)) (hg:wr.grownBy w3 v.ownBlock) (ho:w3.ownsRow B 5 1 v' a'.length (a'.map (Value.int .u8)))
 (iV:v'.ownBlock=v.ownBlock∨v'.ownBlock=some wr.heap.size):fm w s B w3 pos v' u (a',b) where
 it:=by rw[hg.block B (Array.getElem?_eq_some_iff.1 h.it).1 (yj h.tk h.it)];exact h.it
 bel:=h.bel.trans (below_grown hg (by have:=(Array.getElem?_eq_some_iff.1 h.it).1;omega) (fun g sV=>(h.tk.lt g sV).1))
 tk:=ho
 own2:=h.own2.kept hg (by
  cases hu:u.ownBlock with
  |none=>exact .inl rfl
  |some g=>exact .inr (fun e=>h.apart g e.symm hu))
 apart:=fun g sV hu=>by
  rcases iV with e|e
  ·exact h.apart g (by rw[<-e];exact sV) hu
  ·rw[e]at sV;have:=(h.own2.lt g hu).2;have:=Option.some.inj sV;omega
theorem fm.YD {w wr w3:World} {s:ByteArray} {B pos:Nat} {v u u':Value} {a b b':List Int} (h:fm w s B wr pos v u (a,b)) (hg:wr.grownBy w3 u.ownBlock) (ho:w3.ownsRow B 5 1 u' b'.length (b'.map (Value.int .u8)))
 (iV:u'.ownBlock=u.ownBlock∨u'.ownBlock=some wr.heap.size):fm w s B w3 pos v u' (a,b') where
 it:=by rw[hg.block B (Array.getElem?_eq_some_iff.1 h.it).1 (yj h.own2 h.it)];exact h.it
 bel:=h.bel.trans (below_grown hg (by have:=(Array.getElem?_eq_some_iff.1 h.it).1;omega) (fun g sV=>(h.own2.lt g sV).1))
 tk:=h.tk.kept hg (by
  cases hv:v.ownBlock with
  |none=>exact .inl rfl
  |some g=>exact .inr (fun e=>h.apart g hv e.symm))
 own2:=ho
 apart:=fun g sV hu=>by
  rcases iV with e|e
  ·exact h.apart g sV (by rw[<-e];exact hu)
  ·rw[e]at hu;have:=(h.tk.lt g sV).2;have:=Option.some.inj hu;omega
theorem Rg:(prog.info? 5).map (fun i=>(i.zero,i.size,i.bytes))=some (some (.int .u8 0),1,1):=by kernel_rfl
def chB:ByteArray:=⟨#[99,104]⟩
def YA:ByteArray:=⟨#[67]⟩
theorem vO (sub:List UInt8):∀(f:Nat) (s:List UInt8),Lib.countFrom sub f s<=f
 | 0,_=>Nat.le_refl _
 |f+1,s=>by
  unfold Lib.countFrom
  split
  ·omega
  ·have:=vO sub f (s.drop ((Lib.index s sub).toNat+sub.length));omega
theorem Cp (ts:List Int) (w:World) (hR:bF w) (hs:∀r∈ts,bA r) (hl:ts.length<=2000):
 Calls prog 134 #[.string (bL ts),.string ⟨#[99,104]⟩,.string ⟨#[67]⟩] w fun e w'=>e=.returned (.string (bL (fA ts)))/\Below w.heap.size w w':=by
 obtain⟨m,hm⟩:=hR.mx;have gP:(bL ts).size<=4000:=by rw[ej];have:=(gV ts hs).2;omega
 have h1:=Tryz.strings_ReplaceAll (bL ts) chB YA m w (by omega) hm (by decide) (by
  have h2:Lib.countB (bL ts) chB<=(bL ts).data.toList.length+1:=vO _ _ _;have h4:(bL ts).data.toList.length=(bL ts).size:=Array.length_toList;have h3:YA.size=1:=rfl;rw[h3];omega)
 have e:(bL ts).data.toList=bI ts:=by simp[bL]
 have e2:Lib.replaceAll (bI ts) chB.data.toList YA.data.toList=bI (fA ts):=by rw[<-Ap ts.length ts (Nat.le_refl _) hs,<-NI];rfl
 rw[e,e2]at h1;exact h1
theorem AE (rs:List Int) (w:World) (hR:bF w) (hs:∀r∈rs,bA r) (hl:rs.length<=400) (hm:marks (bT rs)<20) (hE:∀r∈fA (gT rs),JQ r) (dr:(runK (fA (gT rs))).1≠[]):
 Calls prog 91 #[.string (bL rs)] w fun e w'=>e=.returned (.string (Rb (fA (gT rs))))/\Below w.heap.size w w':=by
 obtain⟨i0,hi,hz0,fE,fD⟩:=info_parts Rg;have hF:=yR rs w hR hs (by omega) hm;have IV:(gT rs).length<=800:=by rw[Fo];have:=mZ rs;omega
 have hRp:=fun wx (hx:bF wx)=>Cp (gT rs) wx hx (yu hs) (by omega)
 have Ro:=Ki (yu hs);have uw:(fA (gT rs)).length<=800:=Nat.le_trans (GV _) IV;generalize fA (gT rs)=ts at *;generalize bL (gT rs)=fl at *;clear hs hl hm IV;have HE:=aq hE;have HN:=aq dr;have HT:=aq Ro;clear hE dr Ro;go_enter func91,ntmps91;go_wp2_with fail;refine hF.mono ?_;rintro e w1 ⟨rfl,dJ⟩;have yq:=hR.later dJ;go_wp2_with fail;refine(hRp w1 yq).mono ?_;rintro e w2 ⟨rfl,cC⟩;have J3:=yq.later cC;have abb:Below w.heap.size w w2:=dJ.trans (cC.mono dJ.size);clear hF hRp dJ cC yq hR;go_wp2_with fail
 go_loopg [3,4] (ts.length+1) (fun k v u wr=>∃(done rest:List Int),k=rest.length+1/\Hid (ts=done++rest)/\fm w2 (bL ts) w2.heap.size wr (bI done).length v u (runK done))
 case atStart=>refine⟨[],ts,rfl,rfl,⟨?_,(Below.refl _ w2).alloc (Nat.le_refl _) _,World.ownsRow_nil _ _ _ _,World.ownsRow_nil _ _ _ _,fun g hg=>by cases hg⟩⟩;have:=World.iter_heap w2 (bL ts) 0;simpa[bI]using this
 case round=>
  obtain⟨done,rest,hk,HRs,gz⟩:=hrel;have hBs:w2.heap.size<wr.heap.size:=(Array.getElem?_eq_some_iff.1 gz.it).1;have hf:=Al done
  have mS:done.length<=800:=by
   have:done.length<=ts.length:=by rw[an HRs];simp
   omega
  cases rest with
  |nil=>
   have Mq:ts=done:=by have:=an HRs;simpa using this
   have AZ:¬(bI done).length<(bL ts).size:=by rw[ej,Mq];omega
   have sU:∀ty,(Instr.next (.pointer (some ⟨w2.heap.size,0,none⟩)) true ty).run prog wr=_:=fun ty=>Lib.run_next_end_at wr w2.heap.size (bL ts) (bI done).length ty gz.it AZ
   have oN:(runK done).1≠[]:=by have:=an HN;rw[Mq]at this;exact this
   have sW:0<(runK done).1.length:=List.length_pos_iff.2 oN
   have LO:Hid (Ra ts=((runK done).1++[1])++((runK done).2++[1])):=by show _=_;rw[Mq];rfl
   have hul:∃p aU,u3=.slice p (runK done).1.length aU:=by
    rcases gz.tk.2 with⟨h1,h2⟩|⟨g,aU,cur,h1,_⟩
    ·exact⟨none,0,by rw[h1,h2]⟩
    ·exact⟨_,aU,h1⟩
   obtain⟨p,aU,hu3⟩:=hul;rw[hu3]at gz ⊢;have aeo:(runK done).1.length<=800:=by omega
   have hle2:(runK done).2.length<=800:=by omega
   have mW:Hid (fm w2 (bL ts) w2.heap.size wr (bI done).length (.slice p (runK done).1.length aU) u4 ((runK done).1,(runK done).2)):=gz;have Hr:=aq hf;clear hu3 gz hf oN Mq AZ mS hk;generalize (runK done).1=a at *;generalize (runK done).2=b at *;have halz:(0:Int)<(a.length:Int):=by omega
   have Ho2:Hid (wr.ownsRow w2.heap.size 5 1 u4 b.length (b.map (Value.int .u8))):=(an mW).own2
   have YS:Hid (∀x∈(a++[1])++(b++[1]),0<=x/\x<256):=by
    intro x hx;have h3:=(an Hr).2.2.1;have h4:=(an Hr).2.2.2;simp only[mem_append,mem_singleton]at hx
    rcases hx with(hx|hx)|(hx|hx)
    ·have:=h3 x hx;omega
    ·omega
    ·have:=h4 x hx;omega
    ·omega
   have Qo:True:=trivial;have ZG:True:=trivial
   go_wp2_with (first|(at_builtin;have _t:=Qo;refine wpList_append_own_at _ rfl _ _ 178 rfl w2.heap.size 5 i0 (.int .u8 0) 1 1 underlying178 hi hz0 fE fD rfl (by decide) _ _ _ rfl ((an Ho2).alloc _) ⟨wr.heap.size,0,none⟩ 1 1 [.int .u8 1] rfl rfl (cell_one_new _ _ _) (fun y hy=>by simp at hy;subst hy;rfl) (by unfold maxLen;omega) (by omega) (by simp;omega) ?_;intro v4 w4 dS cr ig gQ;obtain⟨g4,c4,hv4⟩:=aZ dS (by omega);rw[hv4]at dS gQ ⊢;clear hv4 ig;have Dk:=cr.size;simp only[World.size_alloc]at Dk;have abP:Hid (fm w2 (bL ts) w2.heap.size w4 (bI done).length (.slice p a.length aU) (.slice (some ⟨g4,0,none⟩) (b.length+1) c4) (a,b++[1])):=((an mW).later ((Below.refl _ wr).alloc (Nat.le_refl _) (.cells #[Value.int .u8 1] 5))).YD cr (by simpa using dS) gQ;clear Qo)|(at_builtin;have _t:=ZG;refine wpList_append_own_at _ rfl _ _ 178 rfl w2.heap.size 5 i0 (.int .u8 0) 1 1 underlying178 hi hz0 fE fD rfl (by decide) _ _ _ rfl ((fm.NR (an abP)).alloc _) ⟨w4.heap.size,0,none⟩ 1 1 [.int .u8 1] rfl rfl (cell_one_new _ _ _) (fun y hy=>by simp at hy;subst hy;rfl) (by unfold maxLen;omega) (by omega) (by simp;omega) ?_;intro v5 w5 Mt uE aaE Ye;have Zf:=uE.size;simp only[World.size_alloc]at Zf;have abO:Hid (fm w2 (bL ts) w2.heap.size w5 (bI done).length v5 (.slice (some ⟨g4,0,none⟩) (b.length+1) c4) (a++[1],b++[1])):=((an abP).later ((Below.refl _ w4).alloc (Nat.le_refl _) (.cells #[Value.int .u8 1] 5))).VM uE (by simpa using Mt) Ye;clear ZG)|(at_builtin;refine wpList_append_own_at _ rfl _ _ 178 rfl w2.heap.size 5 i0 (.int .u8 0) 1 1 underlying178 hi hz0 fE fD rfl (by decide) _ _ _ rfl Mt ⟨g4,0,none⟩ (b.length+1) c4 ((b++[1]).map (Value.int .u8)) rfl (by simp) (fm.Yx (an abO)) (fun y hy=>by simp at hy;rcases hy with⟨z,_,rfl⟩|rfl<;>rfl) (by unfold maxLen;omega) (by omega) (by omega) ?_;intro v6 w6 Dn X5 aaD Ve;obtain⟨g6,c6,hv6⟩:=aZ Dn (by omega);rw[hv6]at Dn Ve ⊢;clear hv6 aaD;have abN:Hid (fm w2 (bL ts) w2.heap.size w6 (bI done).length (.slice (some ⟨g6,0,none⟩) (a.length+1+(b.length+1)) c6) (.slice (some ⟨g4,0,none⟩) (b.length+1) c4) ((a++[1])++(b++[1]),b++[1])):=(an abO).VM X5 (Oi Dn) Ve;have RV:=Jn w6 g6 c6 (a.length+1+(b.length+1)) ((a++[1])++(b++[1])) (by simp only[length_append,length_cons,length_nil]) (an YS) (fm.Yy (an abN))))
   go_ret;refine⟨?_,abb.trans ((an abN).bel.mono abb.size)⟩;unfold Rb;rw[an LO,append_assoc,singleton_append];rfl
  |cons r rest=>
   simp only[length_cons]at hk;have pV:bA r:=an HT r (by rw[an HRs];simp);have hel:JQ r:=an HE r (by rw[an HRs];simp)
   have RU:Utf8.decode (bL ts) (bI done).length=(r.toNat,(Lib.encodeRune r).length):=by rw[an HRs];exact decode_at done r rest pV
   have hp:(bI done).length<(bL ts).size:=by rw[ej,an HRs,dq,cK,length_append,length_append];have:=qG pV;omega
   have sU:∀ty,(Instr.next (.pointer (some ⟨w2.heap.size,0,none⟩)) true ty).run prog wr=.ok (.tuple #[.bool true,.int .i64 (bI done).length,.int .i32 r]) (wr.iterAt w2.heap.size (bL ts) (bI (done++[r])).length):=fun ty=>by have h1:=Lib.run_next_any_at (P:=prog) wr w2.heap.size (bL ts) (bI done).length ty gz.it hp;rw[RU]at h1;rw[h1,dq,nD,length_append,Int.toNat_of_nonneg pV.1]
   have rU:=gz.ar (bI (done++[r])).length;have XP:(wr.iterAt w2.heap.size (bL ts) (bI (done++[r])).length).heap.size=wr.heap.size:=Lib.iterAt_size _ _ _ _;have hEw:=tv r hel (wr.iterAt w2.heap.size (bL ts) (bI (done++[r])).length);have hMw:=fun wx=>wV r wx
   have J6:Hid (ts=(done++[r])++rest):=by show _=_;rw[an HRs];simp
   have tT:Hid (runK (done++[r])=xQ (runK done) r):=CX done r;have Di:=tC r;have hmr:=tB r;have M4:Hid (xQ (runK done) r=if im r≠0 then((runK done).1++[im r],if (runK done).1=[]then(runK done).2 else(runK done).2++[1])else if jU r≠0 then((runK done).1,(runK done).2++[jU r])else runK done):=rfl;clear gz RU hp hel;generalize wr.iterAt w2.heap.size (bL ts) (bI (done++[r])).length=w0 at *;obtain⟨pos',Hpos⟩:∃pos',Hid ((bI (done++[r])).length=pos'):=⟨_,rfl⟩;rw[an Hpos]at rU
   generalize im r=we at *;generalize jU r=wm at *
   by_cases hwe:we=0
   ·subst hwe
    by_cases hwm:wm=0
    ·subst hwm;go_wp2_with fail;refine hEw.mono ?_;rintro e w3 ⟨rfl,hQ⟩;have xh:=rU.later hQ;go_wp2_with fail;refine(hMw w3).mono ?_;rintro e wx ⟨rfl,dE⟩;have dE:=dE.symm;subst dE
     go_wp2
     go_roundg (rest.length+1)
     case measure=>omega
     case rel=>refine⟨done++[r],rest,rfl,J6,?_⟩;rw[an tT,an M4,an Hpos];exact xh
    ·have hwm0:(wm==0)=false:=by simpa using hwm
     have hwm1:(wm != 0)=true:=by simpa using hwm
     go_wp2_with fail
     refine hEw.mono ?_;rintro e w3 ⟨rfl,hQ⟩;have xh:=rU.later hQ;have nI:=aq xh.own2;have Px:=aq xh;have Wn:=hQ.size;clear xh rU;go_wp2_with fail;refine(hMw w3).mono ?_;rintro e wx ⟨rfl,dE⟩;have dE:=dE.symm;subst dE
     go_wp2_with (at_builtin;refine wpList_append_own_at _ rfl _ _ 178 rfl w2.heap.size 5 i0 (.int .u8 0) 1 1 underlying178 hi hz0 fE fD rfl (by decide) _ _ _ rfl ((an nI).alloc _) ⟨w3.heap.size,0,none⟩ 1 1 [.int .u8 wm] rfl rfl (cell_one_new _ _ _) (fun y hy=>by simp at hy;subst hy;rfl) (by unfold maxLen;omega) (by omega) (by simp;omega) ?_;intro v' w4 yn cr ig gQ)
     go_roundg (rest.length+1)
     case measure=>omega
     case rel=>refine⟨done++[r],rest,rfl,J6,?_⟩;rw[an tT,an M4,an Hpos];have h5:fm w2 (bL ts) w2.heap.size (w3.alloc (.cells #[Value.int .u8 wm] 5)) pos' u3 u4 ((runK done).1,(runK done).2):=(an Px).later ((Below.refl _ w3).alloc (Nat.le_refl _) _);rw[if_neg (by simp),if_pos hwm];exact h5.YD cr (by simpa using yn) gQ
   ·have hwe0:(we==0)=false:=by simpa using hwe
    have hwe1:(we != 0)=true:=by simpa using hwe
    have hul:∃p aU,u3=.slice p (runK done).1.length aU:=by
     rcases rU.tk.2 with⟨h1,h2⟩|⟨g,aU,cur,h1,_⟩
     ·exact⟨none,0,by rw[h1,h2]⟩
     ·exact⟨_,aU,h1⟩
    obtain⟨p,aU,hu3⟩:=hul;rw[hu3]at rU ⊢;clear hu3
    by_cases ha:(runK done).1=[]
    ·have sW:(runK done).1.length=0:=by rw[ha];rfl
     have W8:=aq sW;have Ha:=aq ha;rw[sW]at rU ⊢;clear ha sW;go_wp2_with fail;refine hEw.mono ?_;rintro e w3 ⟨rfl,hQ⟩;have xh:=rU.later hQ;have RB:=xh.tk;rw[an W8]at RB;have nI:=aq RB;have Px:=aq xh;have Wn:=hQ.size;clear xh rU RB
     go_wp2_with (at_builtin;refine wpList_append_own_at _ rfl _ _ 178 rfl w2.heap.size 5 i0 (.int .u8 0) 1 1 underlying178 hi hz0 fE fD rfl (by decide) _ _ _ rfl ((an nI).alloc _) ⟨w3.heap.size,0,none⟩ 1 1 [.int .u8 we] rfl rfl (cell_one_new _ _ _) (fun y hy=>by simp at hy;subst hy;rfl) (by unfold maxLen;omega) (by omega) (by simp;omega) ?_;intro v4 w4 dS cr ig gQ)
     go_roundg (rest.length+1)
     case measure=>omega
     case rel=>refine⟨done++[r],rest,rfl,J6,?_⟩;rw[an tT,an M4,an Hpos,if_pos hwe,if_pos (an Ha)];have h5:fm w2 (bL ts) w2.heap.size (w3.alloc (.cells #[Value.int .u8 we] 5)) pos' (.slice p 0 aU) u4 ((runK done).1,(runK done).2):=(an Px).later ((Below.refl _ w3).alloc (Nat.le_refl _) _);refine h5.VM cr ?_ gQ;rw[length_append,an W8];simpa using dS
    ·have sW:0<(runK done).1.length:=List.length_pos_iff.2 ha;have Ha:=aq ha;clear ha;have aeo:(runK done).1.length<=800:=by omega
     obtain⟨n1,Hn1⟩:∃n1,Hid ((runK done).1.length=n1):=⟨_,rfl⟩;rw[an Hn1]at rU sW hf ⊢;have hn1z:(0:Int)<(n1:Int):=by omega
     go_wp2_with fail
     refine hEw.mono ?_;rintro e w3 ⟨rfl,hQ⟩;have xh:=rU.later hQ;have nI:=aq xh.own2;have Px:=aq xh;have Wn:=hQ.size;clear xh rU;have Qo:True:=trivial
     go_wp2_with (first|(at_builtin;have _t:=Qo;refine wpList_append_own_at _ rfl _ _ 178 rfl w2.heap.size 5 i0 (.int .u8 0) 1 1 underlying178 hi hz0 fE fD rfl (by decide) _ _ _ rfl ((an nI).alloc _) ⟨w3.heap.size,0,none⟩ 1 1 [.int .u8 1] rfl rfl (cell_one_new _ _ _) (fun y hy=>by simp at hy;subst hy;rfl) (by unfold maxLen;omega) (by omega) (by simp;omega) ?_;intro v4 w4 dS cr ig gQ;have Dk:=cr.size;simp only[World.size_alloc]at Dk;clear Qo)|(at_builtin;refine wpList_append_own_at _ rfl _ _ 178 rfl w2.heap.size 5 i0 (.int .u8 0) 1 1 underlying178 hi hz0 fE fD rfl (by decide) _ _ _ rfl ((fm.NS ((an Px).later ((Below.refl _ w3).alloc (Nat.le_refl _) _)) cr).alloc _) ⟨w4.heap.size,0,none⟩ 1 1 [.int .u8 we] rfl rfl (cell_one_new _ _ _) (fun y hy=>by simp at hy;subst hy;rfl) (by unfold maxLen;omega) (by omega) (by simp;omega) ?_;intro v5 w5 Mt uE aaE Ye))
     go_roundg (rest.length+1)
     case measure=>omega
     case rel=>refine⟨done++[r],rest,rfl,J6,?_⟩;rw[an tT,an M4,an Hpos,if_pos hwe,if_neg (an Ha)];have h5:fm w2 (bL ts) w2.heap.size (w3.alloc (.cells #[Value.int .u8 1] 5)) pos' (.slice p n1 aU) u4 ((runK done).1,(runK done).2):=(an Px).later ((Below.refl _ w3).alloc (Nat.le_refl _) _);have h6:fm w2 (bL ts) w2.heap.size w4 pos' (.slice p n1 aU) v4 ((runK done).1,(runK done).2++[1]):=h5.YD cr (by simpa using dS) gQ;have h7:=h6.later ((Below.refl _ w4).alloc (Nat.le_refl _) (.cells #[Value.int .u8 we] 5));exact h7.VM uE (by simpa using Mt) Ye
open Go.Lib
def pU (r:Int):Prop:=r=32∨r=45∨r=46∨r=95∨r=963∨(97<=r/\r<=122)∨(48<=r/\r<=57)
theorem D7:∀n:Fin 128,(n.val=32∨n.val=45∨n.val=46∨n.val=95∨(97<=n.val/\n.val<=122)∨(48<=n.val/\n.val<=57)∨n.val=67)->2<=im (n.val:Int):=by decide +kernel
theorem xN {r:Int} (h:pU r∨r=67):2<=im r:=by
 rcases h with(h|h|h|h|h|h|h)|h
 all_goals first
  |(have:=D7 ⟨r.toNat,by omega⟩ (by simp only;omega);simpa[Int.toNat_of_nonneg (show 0<=r by omega)]using this)
  |(subst h;decide +kernel)
theorem AA {r:Int} (h:Gb r=true):∀p∈cQ r,qU p=true∨Mark p:=by
 intro p hp;unfold cQ at hp
 cases hB:ik r with
 |true=>
  rw[hB]at hp;obtain⟨hm,_⟩:=mO r hB;have hf:=sF _ hm;simp at hp
  rcases hp with rfl|rfl
  ·exact .inl hf.2.2.1
  ·exact .inr (jK (by have:=hf.2.2.2.1;omega))
 |false=>
  rw[hB]at hp;simp at hp;subst hp;unfold Gb at h;rw[hB]at h;simp only[Bool.false_or,Bool.or_eq_true,bne_iff_ne]at h
  rcases h with h|h
  ·exact .inl h
  ·exact .inr (jK h)
theorem DB {p:Int} (h:qU p=true):pU (kW p):=by
 have h:=of_decide_eq_true h;unfold kW pU
 split
 ·omega
 ·split<;>omega
theorem OW {p:Int} (h:Mark p):kW p=p:=by
 have:=qq h;unfold kW;rw[if_neg (by omega),if_neg (by omega)]
theorem OX {rs:List Int} (h:∀r∈rs,Gb r=true):∀q∈gT rs,pU q∨Mark q:=by
 intro q hq;obtain⟨p,hp,rfl⟩:=mem_map.1 hq;obtain⟨r,hr,Zg⟩:=List.mem_flatMap.1 (ub p hp)
 rcases AA (h r hr) p Zg with hb|hm
 ·exact .inl (DB hb)
 ·rw[OW hm];exact .inr hm
theorem NF {ts:List Int} (h:∀q∈ts,pU q∨Mark q):∀q∈fA ts,(pU q∨q=67)∨Mark q:=by
 induction ts using fA.induct with
 |case1=>simp[fA]
 |case2 r=>
  intro q hq;simp[fA]at hq;subst hq
  rcases h q (by simp)with h1|h1
  ·exact .inl (.inl h1)
  ·exact .inr h1
 |case3 r q t hc ih=>
  rw[fA,if_pos hc];intro x hx
  rcases mem_cons.1 hx with rfl|hx
  ·exact .inl (.inr rfl)
  ·exact ih (fun y hy=>h y (by simp[hy])) x hx
 |case4 r q t hc ih=>
  rw[fA,if_neg hc];intro x hx
  rcases mem_cons.1 hx with rfl|hx
  ·rcases h x (by simp)with h1|h1
   ·exact .inl (.inl h1)
   ·exact .inr h1
  ·exact ih (fun y hy=>h y (by simp at hy ⊢;exact .inr hy)) x hx
theorem Oh {q:Int} (h:(pU q∨q=67)∨Mark q):JQ q:=by
 unfold JQ
 rcases h with(h|h)|h
 ·unfold pU at h;omega
 ·omega
 ·exact .inr (.inr h)
theorem Name.elem {rs:List Int} (h:Name rs):∀r∈fA (gT rs),JQ r:=fun r hr=>Oh (NF (OX h.signs) r hr)
theorem NB (p:Int) (ps:List Int) (h:bu p=0):∃t,(fV (p::ps)).1=p::t:=by
 suffices hh:∀(l:List Int) (st:List Int×List Int),(∃t,st.1=p::t)->∃t,(l.foldl rv st).1=p::t by unfold fV;rw[foldl_cons];refine hh ps _ ⟨[],?_⟩;unfold rv;rw[if_pos h];rfl
 intro l
 induction l with
 |nil=>exact fun st h=>h
 |cons x l ih=>
  intro st ⟨t,ht⟩;rw[foldl_cons];refine ih _ ?_;unfold rv
  split
  ·exact⟨t++dt st.2++[x],by simp[ht]⟩
  ·exact⟨t,ht⟩
theorem Ld {r:Int} (h:Gb r=true) (hc:bu r=0):∃p t,cQ r=p::t/\bu p=0/\qU p=true:=by
 unfold cQ
 cases hB:ik r with
 |true=>obtain⟨hm,_⟩:=mO r hB;have hf:=sF _ hm;exact⟨_,_,rfl,uO _ hf.2.2.1,hf.2.2.1⟩
 |false=>refine⟨r,[],rfl,hc,?_⟩;unfold Gb at h;rw[hB,hc]at h;simpa using h
theorem Name.OY {rs:List Int} (h:Name rs):∃q t,gT rs=q::t/\pU q:=by
 obtain⟨r,t,rfl⟩:∃r t,rs=r::t:=by
  cases Mq:rs with
  |nil=>exact absurd Mq h.ne
  |cons r t=>exact⟨r,t,rfl⟩
 obtain⟨p,t2,hp,hc,hb⟩:=Ld (h.signs r (by simp)) (h.first r t rfl)
 have e:bT (r::t)=p::(t2++bT t):=by show cQ r++bT t=_;rw[hp];rfl
 obtain⟨t3,h3⟩:=NB p (t2++bT t) hc;refine⟨kW p,(t3++dt (fV (bT (r::t))).2).map kW,?_,DB hb⟩;unfold gT ff;rw[e]at *;rw[h3];simp
theorem NG {q:Int} {t:List Int} (h:pU q):∃q' t',fA (q::t)=q'::t'/\(pU q'∨q'=67):=by
 cases t with
 |nil=>exact⟨q,[],by rw[fA],.inl h⟩
 |cons x t=>
  rw[fA]
  split
  ·exact⟨_,_,rfl,.inr rfl⟩
  ·exact⟨_,_,rfl,.inl h⟩
theorem L8 {q:Int} {t:List Int} (h:im q≠0):(runK (q::t)).1≠[]:=by
 suffices hh:∀(l:List Int) (st:List Int×List Int),st.1≠[]->(l.foldl xQ st).1≠[]by unfold runK;rw[foldl_cons];refine hh t _ ?_;unfold xQ;rw[if_pos h];simp
 intro l
 induction l with
 |nil=>exact fun st h=>h
 |cons x l ih=>
  intro st hs;rw[foldl_cons];refine ih _ ?_;unfold xQ
  split
  ·simp
  ·split
   ·exact hs
   ·exact hs
theorem Name.XB {rs:List Int} (h:Name rs):(runK (fA (gT rs))).1≠[]:=by
 obtain⟨q,t,e,hb⟩:=h.OY;obtain⟨q',t',e',MI⟩:=NG (t:=t) hb;rw[e,e'];exact L8 (by have:=xN MI;omega)
end Go.Proofs.YtphcnmlbieokoaaGreatDoor
