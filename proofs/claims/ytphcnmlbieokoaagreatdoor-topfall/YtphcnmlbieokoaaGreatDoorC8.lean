import Derived.Test.YtphcnmlbieokoaaGreatDoorC4
import Derived.Laws.CopyOwn
import Derived.Laws.MakeOwn
import Derived.Deep.QuietTactic
import Derived.Laws.BytesArg
import Derived.Great.BuildSlice
import Derived.Deep.WholeRow
import Derived.Deep.RegionHeldLaw
import Derived.BigQuiet
import Derived.BigRegion
import Derived.Deep.CutRange
set_option maxRecDepth 100000
set_option maxHeartbeats 16000000
set_option linter.unusedVariables false
set_option linter.unusedSimpArgs false
namespace Go.Proofs.YtphcnmlbieokoaaGreatDoor.S
open Go.RowKit List
section
theorem aq {p:Prop} (h:p):Hid p:=h
theorem an {p:Prop} (h:Hid p):p:=h
structure Kept (S:Nat->Prop) (w w':World):Prop where
 os:w'.os=w.os
 tape:w'.tape=w.tape
 output:w'.output=w.output
 size:w.heap.size<=w'.heap.size
 block:∀k,k<w.heap.size->¬S k->w'.heap[k]? = w.heap[k]?
theorem Kept.refl (S:Nat->Prop) (w:World):Kept S w w:=⟨rfl,rfl,rfl,Nat.le_refl _,fun _ _ _=>rfl⟩
theorem Kept.drew {S:Nat->Prop} {a w:World} (h:Kept S a w):Kept S a w.drew:=⟨h.os,h.tape,h.output,h.size,h.block⟩
theorem Kept.drewN {S:Nat->Prop} {a w:World} (n:Nat) (h:Kept S a w):Kept S a (w.drewN n):=⟨h.os,h.tape,h.output,h.size,h.block⟩
theorem Kept.alloc {S:Nat->Prop} {a w:World} (h:Kept S a w) (o:Obj):Kept S a (w.alloc o):=
 ⟨h.os,h.tape,h.output,Nat.le_trans h.size (by simp),fun k hk hs=>(Below.heap_alloc _ _ _ (Nat.lt_of_lt_of_le hk h.size)).trans (h.block k hk hs)⟩
theorem Kept.setCell {S:Nat->Prop} {a w:World} (h:Kept S a w) {p:Addr} (hp:p.block<a.heap.size->S p.block) (u:Value):Kept S a (w.setCell p u):=
 ⟨h.os,h.tape,h.output,Nat.le_trans h.size (by simp[World.setCell]),fun k hk hs=>(Below.heap_setCell _ _ _ _ (fun e=>hs (by subst e;exact hp hk))).trans (h.block k hk hs)⟩
theorem Kept.grown {S:Nat->Prop} {a w w':World} {row:Option Nat} (h:Kept S a w) (hg:w.grownBy w' row) (hr:∀k,row=some k->k<a.heap.size->S k):Kept S a w':=
 ⟨hg.os.trans h.os,hg.tape.trans h.tape,hg.output.trans h.output,Nat.le_trans h.size hg.size,
  fun k hk hs=>(hg.block k (Nat.lt_of_lt_of_le hk h.size) (fun e=>hs (hr k e.symm hk))).trans (h.block k hk hs)⟩
theorem Kept.iH {S:Nat->Prop} {w w':World} (h:Below w.heap.size w w'):Kept S w w':=⟨h.os,h.tape,h.output,h.size,fun k hk _=>h.block k hk⟩
theorem Kept.below {S:Nat->Prop} {B:Nat} {w w':World} (h:Kept S w w') (hB:B<=w.heap.size) (hS:∀x,S x->B<=x):Below B w w':=
 ⟨h.os,h.tape,h.output,h.size,fun k hk=>h.block k (by omega) (fun hs=>by have:=hS k hs;omega)⟩
theorem Kept.cell {S:Nat->Prop} {w w':World} (h:Kept S w w') {p:Addr} (hp:p.block<w.heap.size) (hs:¬S p.block):w'.cell? p=w.cell? p:=
 World.cell?_of_block (w:=w) (h.block p.block hp hs)
theorem Kept.row {S:Nat->Prop} {w w':World} (h:Kept S w w') {au:Nat} {e:TypeId} {size:Nat} {v:Value} {n:Nat} {xs:List Value} (ho:w.ownsRow au e size v n xs) (hs:∀k,v.ownBlock=some k->¬S k):w'.ownsRow au e size v n xs:=by
 refine⟨ho.1,?_⟩
 rcases ho.2 with hn|⟨g,aU,cur,rfl,hb,sV,rest⟩
 ·exact .inl hn
 ·refine .inr ⟨g,aU,cur,rfl,hb,?_,rest⟩;rw[h.block g (Array.getElem?_eq_some_iff.1 sV).1 (hs g rfl)];exact sV
def one (b x:Nat):Nat:=if x=b then 1 else 0
def eR (v:Value) (x:Nat):Nat:=if v.ownBlock=some x then 1 else 0
theorem dV {v:Value} {x:Nat}:0<eR v x↔v.ownBlock=some x:=by unfold eR;split<;>simp_all
theorem one_pos {b x:Nat}:0<one b x↔x=b:=by unfold one;split<;>simp_all
theorem bx (b:Nat):one b b=1:=by simp[one]
theorem iX {v:Value} {x:Nat} (h:v.ownBlock=some x):eR v x=1:=by simp[eR,h]
theorem one_le (b x:Nat):one b x<=1:=by unfold one;split<;>omega
theorem qI (v:Value) (x:Nat):eR v x<=1:=by unfold eR;split<;>omega
inductive aI where
 |cell (b:Nat) (t:TypeId) (vs:List Value)
 |row (v:Value) (e:TypeId) (k n:Nat) (xs:List Value)
 |obj (b:Nat) (o:Obj)
 |fs (r:T.aI)
def aI.eI:aI->Nat->Nat
 |.cell b _ _,x=>one b x
 |.row v _ _ _ _,x=>eR v x
 |.obj b _,x=>one b x
 |.fs r,x=>min 1 (r.eI x)
theorem MN (r:aI) (x:Nat):r.eI x<=1:=by cases r;exact one_le _ _;exact qI _ _;exact one_le _ _;exact Nat.min_le_left _ _
def aI.Sat (au:Nat) (w:World):aI->Prop
 |.cell b t vs=>au<=b/\w.heap[b]? = some (.cells vs.toArray t (0,0))
 |.row v e k n xs=>w.ownsRow au e k v n xs
 |.obj b o=>au<=b/\w.heap[b]? = some o
 |.fs r=>r.Sat au w/\∀x,r.eI x<=1
def total (rs:List aI) (x:Nat):Nat:=(rs.map fun r=>r.eI x).sum
theorem fx (x:Nat):total [] x=0:=rfl
theorem ax (r:aI) (rs:List aI) (x:Nat):total (r::rs) x=r.eI x+total rs x:=by simp[total]
theorem ay (a b:List aI) (x:Nat):total (a++b) x=total a x+total b x:=by simp[total]
theorem gH {r:aI} {rs:List aI} (h:r∈rs) (x:Nat):r.eI x<=total rs x:=by
 induction rs with
 |nil=>simp at h
 |cons a l ih=>
  rw[ax]
  rcases mem_cons.1 h with h|h
  ·subst h;omega
  ·have:=ih h;omega
structure aw (w0 w:World) (rs:List aI):Prop where
 sat:∀r∈rs,r.Sat w0.heap.size w
 uniq:∀x,total rs x<=1
 below:Below w0.heap.size w0 w
theorem aI.Sat.range {au:Nat} {w:World} {r:aI} (h:r.Sat au w) (x:Nat) (hx:0<r.eI x):au<=x/\x<w.heap.size:=by
 cases r with
 |cell b t vs=>obtain rfl:=one_pos.1 hx;exact⟨h.1,(Array.getElem?_eq_some_iff.1 h.2).1⟩
 |row v e k n xs=>exact World.ownsRow.lt h x (dV.1 hx)
 |obj b o=>obtain rfl:=one_pos.1 hx;exact⟨h.1,(Array.getElem?_eq_some_iff.1 h.2).1⟩
 |fs r=>exact T.aI.Sat.range h.1 x (Nat.lt_of_lt_of_le hx (Nat.min_le_right _ _))
theorem aI.Sat.kept {au:Nat} {w w':World} {S:Nat->Prop} {r:aI} (h:r.Sat au w) (hk:Kept S w w') (hs:∀x,0<r.eI x->¬S x):r.Sat au w':=by
 cases r with
 |cell b t vs=>exact⟨h.1,(hk.block b (Array.getElem?_eq_some_iff.1 h.2).1 (hs b (by show 0<one b b;rw[bx];decide))).trans h.2⟩
 |row v e k n xs=>exact hk.row h fun x hx=>hs x (dV.2 hx)
 |obj b o=>exact⟨h.1,(hk.block b (Array.getElem?_eq_some_iff.1 h.2).1 (hs b (by show 0<one b b;rw[bx];decide))).trans h.2⟩
 |fs r=>exact⟨h.1.kept (S:=S) ⟨hk.os,hk.tape,hk.output,hk.size,hk.block⟩ fun x hx=>hs x (by show 0<min 1 (r.eI x);omega),h.2⟩
section
variable {w0 w:World}
theorem aw.init (W:World):aw W W []:=⟨fun r hr=>by simp at hr,fun x=>by rw[fx];omega,Below.refl _ _⟩
theorem aw.size {rs:List aI} (h:aw w0 w rs):w0.heap.size<=w.heap.size:=h.below.size
theorem aw.beyond {rs:List aI} (h:aw w0 w rs) {x:Nat} (hx:w.heap.size<=x):total rs x=0:=by
 have az:∀l:List aI,(∀r∈l,r.Sat w0.heap.size w)->total l x=0:=by
  intro l
  induction l with
  |nil=>intro _;rfl
  |cons a l ih=>intro hl;rw[ax,ih fun r hr=>hl r (by simp[hr])];have:=(hl a (by simp)).range x;omega
 exact az rs h.sat
theorem aw.conv {rs rs':List aI} (h:aw w0 w rs) (ht:∀x,total rs' x<=total rs x) (hs:∀r∈rs',r.Sat w0.heap.size w):aw w0 w rs':=
 ⟨hs,fun x=>Nat.le_trans (ht x) (h.uniq x),h.below⟩
theorem aw.M1 {rs:List aI} (h:aw w0 w rs) {r:aI} (hr:r∈rs) {x:Nat} (hx:0<r.eI x):w0.heap.size<=x:=((h.sat r hr).range x hx).1
theorem aw.put {w':World} (l1:List aI) {r r':aI} {l2:List aI} (h:aw w0 w (l1++r::l2)) (hk:Kept (fun x=>0<r.eI x) w w') (hs:r'.Sat w0.heap.size w') (hf:∀x,x<w.heap.size->r'.eI x<=r.eI x):aw w0 w' (l1++r'::l2):=by
 have gP:=h.size
 have az:∀x,x<w.heap.size->total (l1++r'::l2) x<=total (l1++r::l2) x:=fun x hx=>by have:=hf x hx;simp only[ay,ax];omega
 refine⟨fun q hq=>?_,fun x=>?_,h.below.trans (hk.below gP fun x hx=>h.M1 (r:=r) (by simp) hx)⟩
 ·have other:∀q,(q∈l1∨q∈l2)->q.Sat w0.heap.size w':=fun q hq=>by
   refine(h.sat q (by rcases hq with h|h<;>simp[h])).kept hk fun x hx h2=>?_
   have h3:=h.uniq x;simp only[ay,ax]at h3
   rcases hq with hq|hq
   ·have:=gH hq x;omega
   ·have:=gH hq x;omega
  rcases mem_append.1 hq with hq|hq
  ·exact other q (.inl hq)
  ·rcases mem_cons.1 hq with hq|hq
   ·subst hq;exact hs
   ·exact other q (.inr hq)
 ·rcases Nat.lt_or_ge x w.heap.size with hx|hx
  ·exact Nat.le_trans (az x hx) (h.uniq x)
  ·have h3:=h.beyond hx;simp only[ay,ax]at h3 ⊢;have:=MN r' x;omega
theorem aw.keep {w':World} {rs:List aI} (h:aw w0 w rs) (hk:Kept (fun _=>False) w w'):aw w0 w' rs:=
 ⟨fun q hq=>(h.sat q hq).kept hk fun _ _ h=>h,h.uniq,h.below.trans (hk.below h.size fun _ hx=>hx.elim)⟩
theorem aw.over {w':World} {rs:List aI} (h:aw w0 w rs) (hk:Below w.heap.size w w'):aw w0 w' rs:=h.keep (Kept.iH hk)
theorem aw.drew {rs:List aI} (h:aw w0 w rs):aw w0 w.drew rs:=h.keep (Kept.refl _ w).drew
theorem aw.drewN {rs:List aI} (h:aw w0 w rs) (n:Nat):aw w0 (w.drewN n) rs:=h.keep ((Kept.refl _ w).drewN n)
theorem aw.alloc {rs:List aI} (h:aw w0 w rs) (o:Obj):aw w0 (w.alloc o) rs:=h.keep ((Kept.refl _ w).alloc o)
theorem aw.new {w':World} {rs:List aI} (h:aw w0 w rs) {r:aI} (hk:Kept (fun _=>False) w w') (hs:r.Sat w0.heap.size w') (hf:∀x,0<r.eI x->w.heap.size<=x):aw w0 w' (r::rs):=by
 have h':=h.keep hk;have gP:=h.size;refine⟨fun q hq=>?_,fun x=>?_,h'.below⟩
 ·rcases mem_cons.1 hq with hq|hq
  ·subst hq;exact hs
  ·exact h'.sat q hq
 ·rw[ax]
  rcases Nat.lt_or_ge x w.heap.size with hx|hx
  ·have:=hf x;have:=h.uniq x;omega
  ·have:=h.beyond hx;have:=MN r x;omega
theorem aw.aY {rs:List aI} (h:aw w0 w rs) (t:TypeId) (vs:List Value):aw w0 (w.alloc (.cells vs.toArray t)) (.cell w.heap.size t vs::rs):=
 h.new ((Kept.refl _ w).alloc _) ⟨h.size,heap_alloc_new w _⟩ (fun x hx=>by obtain rfl:=one_pos.1 hx;exact Nat.le_refl _)
theorem aw.lit {rs:List aI} (h:aw w0 w rs) (e:TypeId) (k n:Nat) (xs:List Value) (hl:xs.length=n*k) (hn:n<=1000):aw w0 (w.alloc (.cells xs.toArray e)) (.row (.slice (some ⟨w.heap.size,0,none⟩) n n) e k n xs::rs):=
 h.new ((Kept.refl _ w).alloc _) ⟨hl,.inr ⟨w.heap.size,n,xs.toArray,rfl,h.size,heap_alloc_new w _,Nat.le_refl _,by unfold maxLen;omega,by simpa using hl,by show xs.take (n*k)=xs;rw[<-hl];exact take_length⟩⟩ (fun x hx=>by have:=dV.1 hx;rw[show(Value.slice (some ⟨w.heap.size,0,none⟩) n n).ownBlock=some w.heap.size from rfl]at this;have:=Option.some.inj this;omega)
theorem aw.aD (l1:List aI) {r:aI} {l2:List aI} (h:aw w0 w (l1++r::l2)):aw w0 w (l1++l2):=
 h.conv (fun x=>by simp only[ay,ax];omega) (fun q hq=>h.sat q (by simp only[mem_append,mem_cons]at hq ⊢;rcases hq with h|h<;>simp[h]))
theorem aw.perm {rs rs':List aI} (h:aw w0 w rs) (hp:rs'.Perm rs):aw w0 w rs':=
 h.conv (fun x=>by unfold total;rw[(hp.map _).sum_nat];omega) (fun r hr=>h.sat r (hp.mem_iff.1 hr))
theorem aw.front (l1:List aI) {r:aI} {l2:List aI} (H:aw w0 w (l1++r::l2)):aw w0 w (r::(l1++l2)):=
 H.perm (perm_middle.symm)
theorem aw.back (l1:List aI) {r:aI} {l2:List aI} (H:aw w0 w (r::(l1++l2))):aw w0 w (l1++r::l2):=
 H.perm perm_middle
theorem bM (b:Nat) (t:TypeId) (vs:List Value) (x:Nat):(aI.cell b t vs).eI x=one b x:=rfl
theorem dD (v:Value) (e:TypeId) (k n:Nat) (xs:List Value) (x:Nat):(aI.row v e k n xs).eI x=eR v x:=rfl
theorem aw.cw {rs:List aI} (h:aw w0 w rs) {b:Nat} {t:TypeId} {vs:List Value} (hm:aI.cell b t vs∈rs):w.heap[b]? = some (.cells vs.toArray t (0,0)):=(h.sat _ hm).2
theorem aw.cellAt {rs:List aI} (h:aw w0 w rs) {b:Nat} {t:TypeId} {vs:List Value} (hm:aI.cell b t vs∈rs) {j:Nat} {v:Value} (hv:vs[j]? = some v):w.cell? ⟨b,j,none⟩=some v:=by
 rw[cell_of_row w b j _ t (0,0) (h.sat _ hm).2]
 simpa using hv
theorem aw.frozenAt {rs:List aI} (h:aw w0 w rs) {b:Nat} {t:TypeId} {vs:List Value} (hm:aI.cell b t vs∈rs) (j:Nat):w.frozen? ⟨b,j,none⟩=false:=
 frozen_of_row w b j _ t (h.sat _ hm).2
theorem aw.UD {rs:List aI} (h:aw w0 w rs) {b:Nat} {t:TypeId} {vs:List Value} (hm:aI.cell b t vs∈rs):b<w.heap.size:=(Array.getElem?_eq_some_iff.1 (h.sat _ hm).2).1
theorem aw.rowAt {rs:List aI} (h:aw w0 w rs) {v:Value} {e:TypeId} {k n:Nat} {xs:List Value} (hm:aI.row v e k n xs∈rs):w.ownsRow w0.heap.size e k v n xs:=h.sat _ hm
theorem aw.store (l1:List aI) {b:Nat} {t:TypeId} {vs:List Value} {l2:List aI} (h:aw w0 w (l1++.cell b t vs::l2)) (j:Nat) (u:Value) (Nj:List Value) (he:vs.set j u=Nj):aw w0 (w.setCell ⟨b,j,none⟩ u) (l1++.cell b t Nj::l2):=by
 have hc:=h.sat (.cell b t vs) (by simp);refine h.put l1 (Kept.setCell (Kept.refl _ w) (fun _=>by show 0<one b b;rw[bx];decide) u) ⟨hc.1,?_⟩ (fun x _=>Nat.le_refl _);rw[heap_setCell_same w b j _ t u hc.2,<-he];simp
theorem aw.grow {w':World} (l1:List aI) {v v':Value} {e:TypeId} {k n n':Nat} {xs ys:List Value} {l2:List aI} (h:aw w0 w (l1++.row v e k n xs::l2)) (hg:w.grownBy w' v.ownBlock) (hr:w'.ownsRow w0.heap.size e k v' n' ys) (ha:v'.ownBlock=v.ownBlock∨∃x,v'.ownBlock=some x/\w.heap.size<=x):aw w0 w' (l1++.row v' e k n' ys::l2):=by
 refine h.put l1 ((Kept.refl _ w).grown hg fun x hx _=>dV.2 hx) hr (fun x hx=>?_)
 show eR v' x<=eR v x;unfold eR
 rcases ha with ha|⟨y,ha,hy⟩
 ·rw[ha];exact Nat.le_refl _
 ·rw[ha]
  split
  ·rename_i e;have:=Option.some.inj e;omega
  ·omega
theorem aw.newRow {w':World} {rs:List aI} (h:aw w0 w rs) {v:Value} {e:TypeId} {k n:Nat} {xs:List Value} (hk:Below w.heap.size w w') (hr:w'.ownsRow w0.heap.size e k v n xs) (ha:∀x,v.ownBlock=some x->w.heap.size<=x):aw w0 w' (.row v e k n xs::rs):=
 h.new (Kept.iH hk) hr (fun x hx=>ha x (dV.1 hx))
theorem aw.fJ {rs:List aI} (h:aw w0 w rs) (e:TypeId) (k:Nat):aw w0 w (.row (.slice none 0 0) e k 0 []::rs):=
 h.new (Kept.refl _ w) (World.ownsRow_nil w _ e k) (fun x hx=>by have:=dV.1 hx;simp[Value.ownBlock]at this)
theorem aw.lay (l1:List aI) {g n aU:Nat} {e:TypeId} {k:Nat} {xs:List Value} {l2:List aI} (h:aw w0 w (l1++.row (.slice (some ⟨g,0,none⟩) n aU) e k n xs::l2)) (off:Nat) (cs:List Value) (fQ:off+cs.length<=xs.length) (h1:∀v∈cs,v.oneCell'=true):
 ∃w',(∀P:Program,(storeCells ⟨g,off,none⟩ cs 0).run P w=.ok () w')/\aw w0 w' (l1++.row (.slice (some ⟨g,0,none⟩) n aU) e k n (Go.splice xs off cs)::l2)/\w.grownBy w' (some g):=by
 have hr:w.ownsRow w0.heap.size e k (.slice (some ⟨g,0,none⟩) n aU) n xs:=h.rowAt (by simp)
 rcases hr.2 with⟨h3,_⟩|⟨g',cap',cur,hv,hb,hg,uC,lJ,gZ,ht⟩
 ·cases h3
 ·cases hv
  have hlen:=hr.1;have hle:n*k<=aU*k:=Nat.mul_le_mul_right _ uC;have Ov:=fun P:Program=>run_storeCells_at P g off e cs 0 cur w hg (by omega) h1
  refine⟨_,fun P=>by rw[Ov P],?_⟩;have IT:w.grownBy (w.setRow g (cur.toList.take (off+0)++cs++cur.toList.drop (off+0+cs.length)).toArray) (some g):=⟨rfl,rfl,rfl,by simp,fun j _ hj=>setRow_other w g j _ (fun e=>hj (by rw[e]))⟩
  have tm:(cur.toList.take off++cs++cur.toList.drop (off+cs.length)).length=cur.size:=by simp only[length_append,length_take,length_drop,Array.length_toList];omega
  refine⟨h.grow l1 IT ⟨by rw[length_splice _ _ _ fQ];exact hlen,.inr ⟨g,aU,_,rfl,hb,setRow_heap w g cur _ e _ hg,uC,lJ,by simpa using tm.trans gZ,?_⟩⟩ (.inl rfl),IT⟩
  show(cur.toList.take (off+0)++cs++cur.toList.drop (off+0+cs.length)).take (n*k)=Go.splice xs off cs;unfold Go.splice;rw[<-ht]at fQ ⊢;rw[Nat.add_zero,append_assoc,take_append,take_append]
  have RQ:off+cs.length<=n*k:=by rw[length_take]at fQ;omega
  have e1:((cur.toList.take off).take (n*k))=(cur.toList.take (n*k)).take off:=by rw[take_take,take_take,Nat.min_comm]
  have e2:cs.take (n*k-(cur.toList.take off).length)=cs:=take_of_length_le (by rw[length_take];omega)
  have e3:(cur.toList.drop (off+cs.length)).take (n*k-(cur.toList.take off).length-cs.length)=(cur.toList.take (n*k)).drop (off+cs.length):=by rw[drop_take];congr 1;rw[length_take,Array.length_toList];omega
  rw[e1,e2,e3]
theorem aw.jb {rs:List aI} (h:aw w0 w rs) {g n aU:Nat} {e:TypeId} {k:Nat} {xs:List Value} (hm:aI.row (.slice (some ⟨g,0,none⟩) n aU) e k n xs∈rs) {j:Nat} {v:Value} (hv:xs[j]? = some v):w.cell? ⟨g,j,none⟩=some v:=by
 have:=(h.rowAt hm).cells (g:=g) rfl j v hv
 rwa [show(⟨g,0,none⟩:Addr).add j=⟨g,j,none⟩by unfold Addr.add;split<;>simp_all]at this
theorem aw.wL {rs:List aI} (h:aw w0 w rs) {g n aU:Nat} {e:TypeId} {k:Nat} {xs:List Value} (hm:aI.row (.slice (some ⟨g,0,none⟩) n aU) e k n xs∈rs) (j:Nat):w.frozen? ⟨g,j,none⟩=false:=by
 rcases(h.rowAt hm).2 with⟨h3,_⟩|⟨g',cap',cur,hv,hb,hg,_⟩
 ·cases h3
 ·cases hv
  exact frozen_of_row w g j _ e hg
theorem aZ {au:Nat} {e:TypeId} {k:Nat} {v:Value} {n:Nat} {xs:List Value} (h:w.ownsRow au e k v n xs) (hn:0<n):∃g aU,v=.slice (some ⟨g,0,none⟩) n aU/\n<=aU/\aU<=9223372036854775807:=by
 rcases h.2 with⟨_,rfl⟩|⟨g,aU,cur,rfl,_,_,hc,hm,_⟩
 ·omega
 ·exact⟨g,aU,rfl,hc,by unfold maxLen at hm;omega⟩
theorem cI {au:Nat} {e:TypeId} {k:Nat} {v:Value} {n:Nat} {xs:List Value} (h:w.ownsRow au e k v n xs):∃p aU,v=.slice p n aU/\n<=aU/\aU<=9223372036854775807:=by
 rcases h.2 with⟨rfl,rfl⟩|⟨g,aU,cur,rfl,_,_,hc,hm,_⟩
 ·exact⟨_,_,rfl,by omega,by omega⟩
 ·exact⟨_,aU,rfl,hc,by unfold maxLen at hm;omega⟩
end
section
variable {α:Type} {k:Nat}
theorem DR {L:List (List α)} (h:∀x∈L,x.length=k):L.flatten.length=L.length*k:=by
 induction L with
 |nil=>simp
 |cons a l ih=>rw[flatten_cons,length_append,ih fun x hx=>h x (by simp[hx]),h a (by simp),length_cons,Nat.succ_mul,Nat.add_comm]
theorem BH {L:List (List α)} (h:∀x∈L,x.length=k) (i:Nat):L.flatten.drop (i*k)=(L.drop i).flatten:=by
 induction L generalizing i with
 |nil=>simp
 |cons a l ih=>
  cases i with
  |zero=>simp
  |succ i=>have ha:=h a (by simp);rw[flatten_cons,Nat.succ_mul,drop_append,drop_eq_nil_of_le (by omega),nil_append,ha,Nat.add_sub_cancel,ih (fun x hx=>h x (by simp[hx]))];rfl
theorem Lr {L:List (List α)} (h:∀x∈L,x.length=k) (i:Nat):L.flatten.take (i*k)=(L.take i).flatten:=by
 induction L generalizing i with
 |nil=>simp
 |cons a l ih=>
  cases i with
  |zero=>simp
  |succ i=>have ha:=h a (by simp);rw[flatten_cons,Nat.succ_mul,take_append,take_of_length_le (by omega),ha,Nat.add_sub_cancel,ih (fun x hx=>h x (by simp[hx]))];rfl
theorem DS {L:List (List α)} (h:∀x∈L,x.length=k) {i:Nat} {c:List α} (hc:L[i]? = some c) {j:Nat} {v:α} (hv:c[j]? = some v):L.flatten[i*k+j]? = some v:=by
 rw[<-getElem?_drop,BH h];obtain⟨hi,rfl⟩:=List.getElem?_eq_some_iff.1 hc;rw[drop_eq_getElem_cons hi,flatten_cons,getElem?_append_left (List.getElem?_eq_some_iff.1 hv).1];exact hv
theorem FK {L:List (List α)} (h:∀x∈L,x.length=k) {i:Nat} (hi:i<L.length) {c:List α} (hc:c.length=k):Go.splice L.flatten (i*k) c=(L.set i c).flatten:=by
 unfold Go.splice;rw[hc,<-Nat.succ_mul,Lr h,BH h,set_eq_take_append_cons_drop,if_pos hi];simp
end
end
def ez (s:List UInt8):List Value:=s.map fun b=>.int .u8 (b.toNat:Int)
theorem ey (s:List UInt8):(ez s).length=s.length:=by simp[ez]
theorem u7 (s:List UInt8):∀v∈ez s,v.oneCell'=true:=by
 intro v hv;obtain⟨b,_,rfl⟩:=mem_map.1 hv;rfl
def eF (s:List UInt8):List UInt8:=s++List.replicate (140-s.length) 0
theorem rJ {s:List UInt8} (h:s.length<=140):(eF s).length=140:=by simp[eF];omega
def iK (l:List (List UInt8)):List Value:=(l.map ez).flatten
def TM (x:Nat×List UInt8):List Value:=.int .i64 (x.1:Int)::ez x.2
def tO (l:List (Nat×List UInt8)):List Value:=(l.map TM).flatten
def pQ (l:List (List UInt8)):Prop:=∀s∈l,s.length=140
theorem pQ.chunk {l:List (List UInt8)} (h:pQ l):∀x∈l.map ez,x.length=140:=by
 intro x hx;obtain⟨s,hs,rfl⟩:=mem_map.1 hx;rw[ey,h s hs]
theorem jE {l:List (List UInt8)} (h:pQ l):(iK l).length=l.length*140:=by
 have:=DR h.chunk
 rwa [length_map]at this
theorem O1 {l:List (List UInt8)} (h:pQ l) {i:Nat} {s:List UInt8} (hs:l[i]? = some s) {j:Nat} {v:Value} (hv:(ez s)[j]? = some v):(iK l)[i*140+j]? = some v:=
 DS h.chunk (c:=ez s) (by rw[getElem?_map,hs];rfl) hv
theorem vL {l:List (List UInt8)} (h:pQ l) {i:Nat} (hi:i<l.length) {s:List UInt8} (hs:s.length=140):Go.splice (iK l) (i*140) (ez s)=iK (l.set i s):=by
 have:=FK h.chunk (i:=i) (by simpa using hi) (c:=ez s) (by rw[ey,hs]);unfold iK;rw[this,<-map_set]
theorem pQ.set {l:List (List UInt8)} (h:pQ l) (i:Nat) {s:List UInt8} (hs:s.length=140):pQ (l.set i s):=fun x hx=>by
 rcases mem_or_eq_of_mem_set hx with h1|h1
 ·exact h x h1
 ·rw[h1,hs]
theorem O0 (l:List (List UInt8)):∀v∈iK l,v.oneCell'=true:=by
 intro v hv;obtain⟨c,hc,hv⟩:=List.mem_flatten.1 hv;obtain⟨s,_,rfl⟩:=mem_map.1 hc;exact u7 s v hv
structure DK where
 kept:List (List UInt8)
 aW:List (List UInt8)
 wr:List (Nat×List UInt8)
 down:Bool
 left:Int
structure DK.Ok (d:DK):Prop where
 kept:pQ d.kept
 aW:pQ d.aW
 same:d.kept.length=d.aW.length
 ix:d.aW.length<=130
 pos:0<d.aW.length
 wr:∀x∈d.wr,x.2.length=140/\x.1<d.aW.length
 left:-9223372036854775808<=d.left/\d.left<=9223372036854775807
def fg:List UInt8:=List.replicate 140 0
theorem tH:fg.length=140:=by unfold fg;rw[length_replicate]
def js (n:Nat):DK:=⟨List.replicate n fg,List.replicate n fg,[],false,-1⟩
theorem Mh {n:Nat} (h1:0<n) (h2:n<=130):(js n).Ok:=by
 have hs:pQ (List.replicate n fg):=fun s hs=>by rw[(List.mem_replicate.1 hs).2,tH]
 exact⟨hs,hs,rfl,by simp[js];omega,by simp[js];omega,fun x hx=>by simp[js]at hx,by simp[js]⟩
def DK.oT (d:DK):Bool:=d.down||(d.left==0)
def DK.bD (d:DK):DK:=if d.oT then {d with down:=true} else if 0<d.left then {d with left:=d.left-1} else d
theorem DK.Ok.bD {d:DK} (h:d.Ok):d.bD.Ok:=by
 unfold DK.bD
 split
 ·exact⟨h.kept,h.aW,h.same,h.ix,h.pos,h.wr,h.left⟩
 split
 ·exact⟨h.kept,h.aW,h.same,h.ix,h.pos,h.wr,by have:=h.left;simp only;omega⟩
 ·exact h
theorem gi (d:DK):d.bD.aW=d.aW:=by unfold DK.bD;repeat (first|rfl|split)
theorem mD (d:DK):d.bD.kept=d.kept:=by unfold DK.bD;repeat (first|rfl|split)
theorem jn (d:DK):d.bD.wr=d.wr:=by unfold DK.bD;repeat (first|rfl|split)
def DK.has (d:DK) (i:Int):Bool:=decide (0<=i)&&decide (i<(d.aW.length:Int))
def DK.kH (d:DK) (i:Int) (s:List UInt8):Option Int:=if !d.has i||decide (140<s.length)then some 1 else if d.oT then some 10 else none
def DK.laid (d:DK) (i:Nat) (s:List UInt8):DK:={d with aW:=d.aW.set i s,wr:=d.wr++[(i,s)]}
def DK.written (d:DK) (i:Int) (s:List UInt8):DK:=if !d.has i||decide (140<s.length)then d else if d.oT then d.bD else d.bD.laid i.toNat (eF s)
theorem DK.Ok.laid {d:DK} (h:d.Ok) {i:Nat} (hi:i<d.aW.length) {s:List UInt8} (hs:s.length=140):(d.laid i s).Ok:=
 ⟨h.kept,h.aW.set i hs,by simp[DK.laid,h.same],by simp[DK.laid,h.ix],by simp[DK.laid,h.pos],fun x hx=>by
  simp only[DK.laid,mem_append,mem_singleton,length_set]at hx ⊢
  rcases hx with hx|rfl
  ·exact h.wr x hx
  ·exact⟨hs,hi⟩,h.left⟩
def DK.fu (d:DK):Option Int:=if d.oT then some 10 else none
def DK.xr (d:DK):DK:={d with kept:=d.aW,wr:=[]}
def DK.fP (d:DK):DK:=if d.oT then d.bD else d.bD.xr
theorem DK.Ok.xr {d:DK} (h:d.Ok):d.xr.Ok:=⟨h.aW,h.aW,rfl,h.ix,h.pos,fun x hx=>by simp[DK.xr]at hx,h.left⟩
def DK.ot (d:DK) (n:Int):DK:={d with left:=n}
theorem DK.Ok.ot {d:DK} (h:d.Ok) {n:Int} (hn:-9223372036854775808<=n/\n<=9223372036854775807):(d.ot n).Ok:=⟨h.kept,h.aW,h.same,h.ix,h.pos,h.wr,hn⟩
def dC (k:Nat):Nat->List (Nat×List UInt8)->List (List UInt8)->List (List UInt8)
 |_,[],l=>l
 |i,x::r,l=>dC k (i+1) r (if k.testBit (i%64)then l.set x.1 x.2 else l)
def DK.again (d:DK) (k:Nat):DK:=⟨dC k 0 d.wr d.kept,dC k 0 d.wr d.kept,[],false,-1⟩
theorem kr (k:Nat):∀(r:List (Nat×List UInt8)) (i:Nat) (l:List (List UInt8)),(dC k i r l).length=l.length
 |[],_,_=>rfl
 |x::r,i,l=>by rw[dC,kr k r];split<;>simp
theorem uu (k:Nat):∀(r:List (Nat×List UInt8)) (i:Nat) (l:List (List UInt8)),(∀x∈r,x.2.length=140)->pQ l->pQ (dC k i r l)
 |[],_,_,_,h=>h
 |x::r,i,l,hr,h=>by
  rw[dC];refine uu k r _ _ (fun y hy=>hr y (by simp[hy])) ?_
  split
  ·exact h.set _ (hr x (by simp))
  ·exact h
theorem vv (k:Nat):∀(a b:List (Nat×List UInt8)) (i:Nat) (l:List (List UInt8)),dC k i (a++b) l=dC k (i+a.length) b (dC k i a l)
 |[],b,i,l=>rfl
 |x::a,b,i,l=>by rw[cons_append,dC,dC,vv k a b,length_cons,show i+1+a.length=i+(a.length+1)by omega]
theorem DK.Ok.again {d:DK} (h:d.Ok) (k:Nat):(d.again k).Ok:=by
 have hs:=uu k d.wr 0 d.kept (fun x hx=>(h.wr x hx).1) h.kept;have hl:=kr k d.wr 0 d.kept;have h1:=h.same;exact⟨hs,hs,rfl,by simp only[DK.again];rw[hl,h1];exact h.ix,by simp only[DK.again];rw[hl,h1];exact h.pos,fun x hx=>by simp[DK.again]at hx,by simp[DK.again]⟩
def DK.xX (d:DK) (i:Int):Option Int:=if d.down then some 10 else if !d.has i then some 1 else none
def DK.xY (d:DK) (i:Int):List UInt8:=if d.down || !d.has i then []else d.aW.getD i.toNat []
theorem Qi {l:List (Nat×List UInt8)} (h:∀x∈l,x.2.length=140):∀x∈l.map TM,x.length=141:=by
 intro x hx;obtain⟨s,hs,rfl⟩:=mem_map.1 hx;simp[TM,ey,h s hs]
theorem OZ {l:List (Nat×List UInt8)} (h:∀x∈l,x.2.length=140) {i:Nat} {x:Nat×List UInt8} (hs:l[i]? = some x) {j:Nat} {v:Value} (hv:(TM x)[j]? = some v):(tO l)[i*141+j]? = some v:=
 DS (Qi h) (c:=TM x) (by rw[getElem?_map,hs];rfl) hv
theorem La (l:List (Nat×List UInt8)) (x:Nat×List UInt8):tO (l++[x])=tO l++TM x:=by simp[tO]
def l7 (v:Value) (l:List (List UInt8)):aI:=.row v 74 140 l.length (iK l)
def QC (v:Value) (l:List (Nat×List UInt8)):aI:=.row v 76 141 l.length (tO l)
def SF (db:Nat) (v0 v1 v2:Value) (dn:Bool) (lf:Int):aI:=.cell db 72 [v0,v1,v2,.bool dn,.int .i64 lf]
structure aE (w0 w:World) (db:Nat) (d:DK) (l2:List aI):Prop where
 ok:d.Ok
 mem:∃g0 c0 g1 c1 v2,d.aW.length<=c0/\c0<=9223372036854775807/\d.aW.length<=c1/\c1<=9223372036854775807/\aw w0 w (SF db (.slice (some ⟨g0,0,none⟩) d.aW.length c0) (.slice (some ⟨g1,0,none⟩) d.aW.length c1) v2 d.down d.left::l7 (.slice (some ⟨g0,0,none⟩) d.aW.length c0) d.kept::l7 (.slice (some ⟨g1,0,none⟩) d.aW.length c1) d.aW::QC v2 d.wr::l2)
def bH:Option Int->Value
 |none=>.nilIface
 |some k=>.iface 88 (.int .i64 k)
open Go.Proofs.Tryz
section
variable (w0 w:World) (db:Nat) (d:DK) (l2:List aI)
theorem Dz (h:aE w0 w db d l2) (i:Int):
 Calls prog 158 #[.pointer (some ⟨db,0,none⟩),.int .i64 i] w fun e w'=>e=.returned (.bool (d.has i))/\w'=w:=by
 obtain⟨g0,c0,g1,c1,v2,lv,hc01,kE,hc11,H⟩:=h.mem;have q1:w.cell? ⟨db,1,none⟩=some (.slice (some ⟨g1,0,none⟩) d.aW.length c1):=H.cellAt ae rfl;obtain⟨n,hn⟩:=aa d.aW.length;unfold DK.has;rw[hn]at q1 ⊢;clear H h lv hc01 kE hc11
 by_cases h0:0<=i
 ·rw[decide_eq_true h0];go_enter func158,ntmps158;go_wp2_with fail;go_ret;exact⟨by simp,rfl⟩
 ·rw[decide_eq_false h0];go_enter func158,ntmps158;go_wp2_with fail;go_ret;exact⟨rfl,rfl⟩
theorem jJ (h:aE w0 w db d l2):
 Calls prog 100 #[.pointer (some ⟨db,0,none⟩)] w fun e w'=>e=.returned (.int .i64 d.aW.length)/\w'=w:=by
 obtain⟨g0,c0,g1,c1,v2,lv,hc01,kE,hc11,H⟩:=h.mem;have q1:w.cell? ⟨db,1,none⟩=some (.slice (some ⟨g1,0,none⟩) d.aW.length c1):=H.cellAt ae rfl;obtain⟨n,hn⟩:=aa d.aW.length;rw[hn]at q1 ⊢;clear H h lv hc01 kE hc11;go_enter func100,ntmps100;go_wp2_with fail;go_ret;exact⟨rfl,rfl⟩
theorem Po (h:aE w0 w db d l2) (n:Int) (hn:-9223372036854775808<=n/\n<=9223372036854775807):
 Calls prog 15 #[.pointer (some ⟨db,0,none⟩),.int .i64 n] w fun e w'=>e=.returned (.tuple #[])/\aE w0 w' db (d.ot n) l2:=by
 obtain⟨g0,c0,g1,c1,v2,lv,hc01,kE,hc11,H⟩:=h.mem;have q4:w.cell? ⟨db,4,none⟩=some (.int .i64 d.left):=H.cellAt ae rfl;have f4:w.frozen? ⟨db,4,none⟩=false:=H.frozenAt ae 4;have hf:aE w0 (w.setCell ⟨db,4,none⟩ (.int .i64 n)) db (d.ot n) l2:=⟨h.ok.ot hn,g0,c0,g1,c1,v2,lv,hc01,kE,hc11,H.store [] 4 _ _ rfl⟩;have HF:=aq hf;clear H h lv hc01 kE hc11 hf;go_enter func15,ntmps15;go_wp2_with fail
 go_end0
 exact⟨rfl,an HF⟩
def cZ (e:Ending) (w':World):Prop:=e=.returned (bH d.fu)/\aE w0 w' db d.bD l2
theorem qd (h:aE w0 w db d l2):
 Calls prog 211 #[.pointer (some ⟨db,0,none⟩)] w fun e w'=>cZ w0 db d l2 e w':=by
 obtain⟨g0,c0,g1,c1,v2,lv,hc01,kE,hc11,H⟩:=h.mem;have og:=h.ok.bD;have hlf:=h.ok.left;have q4:w.cell? ⟨db,4,none⟩=some (.int .i64 d.left):=H.cellAt ae rfl;have f4:w.frozen? ⟨db,4,none⟩=false:=H.frozenAt ae 4;have q3:w.cell? ⟨db,3,none⟩=some (.bool d.down):=H.cellAt ae rfl;have f3:w.frozen? ⟨db,3,none⟩=false:=H.frozenAt ae 3;obtain⟨kept,aW,wr,down,left⟩:=d;simp only at *;have HH:=aq H;have Ch:=aq og;have Hc:Hid (aW.length<=c0/\c0<=9223372036854775807/\aW.length<=c1/\c1<=9223372036854775807):=⟨lv,hc01,kE,hc11⟩
 clear H h lv hc01 kE hc11 og;unfold cZ
 by_cases h0:left=0
 ·subst h0;go_enter func211,ntmps211;go_wp2_with fail;go_ret;obtain⟨a1,a2,a3,a4⟩:=an Hc;refine⟨by simp[DK.fu,DK.oT,bH],an Ch,g0,c0,g1,c1,v2,?_⟩;simp only[DK.bD,DK.oT,beq_self_eq_true,Bool.or_true,if_true];exact⟨a1,a2,a3,a4,(an HH).store [] 3 _ _ rfl⟩
 ·cases down with
  |true=>
   go_enter func211,ntmps211;go_wp2_with fail;go_ret;obtain⟨a1,a2,a3,a4⟩:=an Hc;refine⟨by simp[DK.fu,DK.oT,bH],an Ch,g0,c0,g1,c1,v2,?_⟩;simp only[DK.bD,DK.oT,Bool.true_or,if_true];exact⟨a1,a2,a3,a4,an HH⟩
  |false=>
   have IV:DK.oT ⟨kept,aW,wr,false,left⟩=false:=by simp[DK.oT,h0]
   have wG:DK.fu ⟨kept,aW,wr,false,left⟩=none:=by simp[DK.fu,IV]
   rw[wG]
   by_cases hp:0<left
   ·have gz:DK.bD ⟨kept,aW,wr,false,left⟩=⟨kept,aW,wr,false,left-1⟩:=by simp[DK.bD,IV,hp]
    rw[gz]at Ch ⊢;clear gz IV wG;go_enter func211,ntmps211;go_wp2_with fail;go_ret;obtain⟨a1,a2,a3,a4⟩:=an Hc;exact⟨rfl,an Ch,g0,c0,g1,c1,v2,a1,a2,a3,a4,(an HH).store [] 4 _ _ rfl⟩
   ·have gz:DK.bD ⟨kept,aW,wr,false,left⟩=⟨kept,aW,wr,false,left⟩:=by simp[DK.bD,IV,hp]
    rw[gz]at Ch ⊢;clear gz IV wG;go_enter func211,ntmps211;go_wp2_with fail;go_ret;obtain⟨a1,a2,a3,a4⟩:=an Hc;exact⟨rfl,an Ch,g0,c0,g1,c1,v2,a1,a2,a3,a4,an HH⟩
end
section
theorem BF (w:World) (b off:Nat) (S:List UInt8) (n aU:Nat) (hn:S.length=n) (hc:∀j v,(ez S)[j]? = some v->w.cell? ⟨b,off+j,none⟩=some v):
 (convert 178 9 (.slice (some ⟨b,off,none⟩) n aU)).run prog w=.ok (.string ⟨S.toArray⟩) w:=by
 have:=run_convert_bytes_arg (P:=prog) w 178 5 underlying178 underlying5 b off n aU (S.map fun b=>(b.toNat:Int)) (by simpa using hn) (fun i hi=>by
  have Zk:i<S.length:=by omega
  rw[hc i (.int .u8 (S[i].toNat:Int)) (by simp[ez,getElem?_map,getElem?_eq_getElem Zk])];simp[List.getD,getElem?_map,getElem?_eq_getElem Zk]) 9 underlying9
 rw[this]
 congr 2
 have e:strOfNums (S.map fun b=>(b.toNat:Int))=⟨((S.map fun b=>(b.toNat:Int)).map fun n=>UInt8.ofNat n.toNat).toArray⟩:=rfl;rw[e]
 congr 2
 rw[map_map]
 have:((fun n:Int=>UInt8.ofNat n.toNat) ∘ fun b:UInt8=>(b.toNat:Int))=id:=by funext b;simp
 rw[this,map_id]
theorem Nz {w0 w:World} {rs:List aI} (H:aw w0 w rs) {g n aU:Nat} {l:List (List UInt8)} (hn:l.length=n) (hm:l7 (.slice (some ⟨g,0,none⟩) n aU) l∈rs) (hs:pQ l) {i:Nat} {s:List UInt8} (hi:l[i]? = some s):∀j v,(ez s)[j]? = some v->w.cell? ⟨g,i*140+j,none⟩=some v:=fun j v hv=>by
 subst hn;exact H.jb hm (O1 hs hi hv)
variable (w0 w:World) (db:Nat) (d:DK) (l2:List aI)
def vX (i:Int) (e:Ending) (w':World):Prop:=e=.returned (.tuple #[.string ⟨(d.xY i).toArray⟩,bH (d.xX i)])/\w'=w
theorem ue (h:aE w0 w db d l2) (i:Int):
 Calls prog 99 #[.pointer (some ⟨db,0,none⟩),.int .i64 i] w fun e w'=>vX w d i e w':=by
 have e1:=Dz w0 w db d l2 h i;obtain⟨g0,c0,g1,c1,v2,lv,hc01,kE,hc11,H⟩:=h.mem;have q1:w.cell? ⟨db,1,none⟩=some (.slice (some ⟨g1,0,none⟩) d.aW.length c1):=H.cellAt ae rfl;have q3:w.cell? ⟨db,3,none⟩=some (.bool d.down):=H.cellAt ae rfl;unfold vX DK.xX DK.xY
 cases ju:d.down with
 |true=>rw[ju]at q3;clear e1 q1 H h lv hc01 kE hc11;go_enter func99,ntmps99;go_wp2_with fail;go_ret2;exact⟨rfl,rfl⟩
 |false=>
  rw[ju]at q3
  cases hh:d.has i with
  |false=>rw[hh]at e1;have E1:=aq e1;clear e1 H h lv hc01 kE hc11 ju hh;go_enter func99,ntmps99;go_wp2_with fail;refine(an E1).mono ?_;rintro e w1 ⟨rfl,rfl⟩;go_wp2_with fail;go_ret2;exact⟨rfl,rfl⟩
  |true=>
   rw[hh]at e1;have hi:0<=i/\i<(d.aW.length:Int):=by simpa[DK.has]using hh
   obtain⟨k,rfl⟩:∃k:Nat,i=k:=⟨i.toNat,by omega⟩;have hk:k<d.aW.length:=by omega
   have TX:(k:Int)<(d.aW.length:Int):=by omega
   obtain⟨s,hs⟩:∃s,d.aW[k]? = some s:=⟨_,getElem?_eq_getElem hk⟩;have uz:s.length=140:=h.ok.aW s (mem_of_getElem? hs);have RV:=fun aU=>BF w g1 (k*140) s 140 aU uz (Nz H rfl ag h.ok.aW hs)
   have Ca:d.aW.getD (k:Int).toNat []=s:=by simp[List.getD,hs]
   simp only[Bool.not_true,Bool.or_self,Bool.false_eq_true,if_false];rw[Ca];obtain⟨n,hn⟩:=aa d.aW.length;rw[hn]at q1 hk TX;have E1:=aq e1;clear e1 H h lv hc01 kE hc11 ju hh hs uz Ca hi hn;go_enter func99,ntmps99;go_wp2_with fail;refine(an E1).mono ?_;rintro e w1 ⟨rfl,rfl⟩;go_wp2_with fail;go_ret2;exact⟨rfl,rfl⟩
end
section
def fB:Array Value:=(List.replicate 140 (Value.int .u8 0)).toArray
theorem Ut:fB.size=140:=by unfold fB;rw[size_toArray,length_replicate]
theorem NT (j:Nat) (h:j<fB.size):fB[j]=.int .u8 0:=by
 have h1:fB[j]∈fB.toList:=Array.getElem_mem_toList h;exact(List.mem_replicate.1 (show fB[j]∈List.replicate 140 (Value.int .u8 0)from h1)).2
theorem Mk:∃i z,prog.info? 74=some i/\i.zero=some z/\i.size=140/\i.bytes=140/\z.cells=fB:=by
 have h:(prog.info? 74).map (fun i=>(i.zero.map Value.cells,i.size,i.bytes))=some (some fB,140,140):=by kernel_rfl
 cases hq:prog.info? 74 with
 |none=>rw[hq]at h;cases h
 |some i=>
  rw[hq]at h;simp only[Option.map_some,Option.some.injEq,Prod.mk.injEq]at h;obtain⟨h1,h2,h3⟩:=h
  cases hz:i.zero with
  |none=>rw[hz]at h1;cases h1
  |some z=>rw[hz]at h1;exact⟨i,z,rfl,hz,h2,h3,Option.some.inj h1⟩
theorem qF (n:Nat):iK (List.replicate n fg)=List.replicate (n*140) (.int .u8 0):=by
 unfold iK;rw[map_replicate];apply List.eq_replicate_iff.2;refine⟨by rw[DR (k:=140) (fun x hx=>by rw[(List.mem_replicate.1 hx).2,ey,tH]),length_replicate],fun b hb=>?_⟩;obtain⟨c,hc,hb⟩:=List.mem_flatten.1 hb;rw[(List.mem_replicate.1 hc).2]at hb;obtain⟨x,hx,rfl⟩:=mem_map.1 hb;rw[(List.mem_replicate.1 hx).2];rfl
theorem Ew (n:Nat):madeCells fB (n*140)=(iK (List.replicate n fg)).toArray:=by
 rw[qF];unfold madeCells;apply Array.ext
 ·rw[Array.size_map,Array.size_range,size_toArray,length_replicate]
 ·intro i h1 h2;have hi:i%fB.size<fB.size:=Nat.mod_lt _ (by rw[Ut];omega);simp only[Array.getElem_map,Array.getElem_range,getElem_toArray,getElem_replicate];rw[getElem!_pos fB _ hi];exact NT _ hi
theorem Q0 (n:Nat) (hn:n<=130) (w:World):(Instr.makeSlice 69 (.int .i64 n) (.int .i64 n)).run prog w=.ok (.slice (some ⟨w.heap.size,0,none⟩) n n) (w.alloc (.cells (iK (List.replicate n fg)).toArray 74)):=by
 obtain⟨i,z,h1,h2,h3,h4,h5⟩:=Mk;have:=run_make (P:=prog) w 69 74 i z underlying69 h1 h2 .i64 .i64 n n (by omega) (Int.le_refl _) (by rw[h4];omega) (by omega);rw[h3,h5,Int.toNat_natCast,Ew]at this;exact this
variable (w0 w:World) (l2:List aI)
def YI (m:Nat) (e:Ending) (w':World):Prop:=∃db,e=.returned (.tuple #[.pointer (some ⟨db,0,none⟩),.nilIface])/\aE w0 w' db (js m) l2
theorem wU (h:aw w0 w l2) (m:Nat) (h1:0<m) (h2:m<=130):
 Calls prog 36 #[.int .i64 m] w fun e w'=>YI w0 l2 m e w':=by
 have Mx:=Q0 m (by omega);obtain⟨Z,hZ⟩:=aa (iK (List.replicate m fg));rw[hZ]at Mx;have HH:=aq h;have HZ:=aq hZ;have z1:¬(m:Int)<1:=by omega
 have z2:¬130<(m:Int):=by omega
 clear hZ h;go_enter func36,ntmps36;go_wp2_with fail;have h3:=((an HH).fJ 76 141).lit 74 140 m Z (by rw[<-an HZ,qF,length_replicate]) (by omega);have h4:=h3.lit 74 140 m Z (by rw[<-an HZ,qF,length_replicate]) (by omega);rw[World.size_alloc]at h4;have h5:=h4.aY 72 [.slice (some ⟨w.heap.size,0,none⟩) m m,.slice (some ⟨w.heap.size+1,0,none⟩) m m,.slice none 0 0,.bool false,.int .i64 (-1)];have h6:=h4.aY 72 [.slice (some ⟨w.heap.size+1,0,none⟩) m m,.slice (some ⟨w.heap.size,0,none⟩) m m,.slice none 0 0,.bool false,.int .i64 (-1)]
 rw[World.size_alloc,World.size_alloc]at h5 h6;have H5:=aq h5;have H6:=aq h6;have hlen:(js m).aW.length=m:=by simp[js]
 have dW:∀v,l7 v (List.replicate m fg)=.row v 74 140 m Z:=fun v=>by unfold l7;rw[an HZ,length_replicate]
 have Hl:=aq hlen;have zl:=aq dW;clear h3 h4 h5 h6 hlen dW
 go_region
 ·go_wp2_with fail
  go_ret2;refine⟨_,rfl,Mh h1 h2,w.heap.size,m,w.heap.size+1,m,.slice none 0 0,?_⟩;rw[an Hl];refine⟨Nat.le_refl _,by omega,Nat.le_refl _,by omega,?_⟩;have h7:=(((an H5).front [_,_]).front [_]).drew
  show aw w0 _ (_::l7 _ (List.replicate m fg)::l7 _ (List.replicate m fg)::_);rw[an zl,an zl];exact h7
 ·go_wp2_with fail
  go_ret2;refine⟨_,rfl,Mh h1 h2,w.heap.size+1,m,w.heap.size,m,.slice none 0 0,?_⟩;rw[an Hl];refine⟨Nat.le_refl _,by omega,Nat.le_refl _,by omega,?_⟩;have h7:=(an H6).drew
  show aw w0 _ (_::l7 _ (List.replicate m fg)::l7 _ (List.replicate m fg)::_);rw[an zl,an zl];exact h7
end
theorem add_plain (b o j:Nat):(⟨b,o,none⟩:Addr).add j=⟨b,o+j,none⟩:=by unfold Addr.add;split<;>simp_all
theorem EJ:∃i z,prog.info? 76=some i/\i.zero=some z/\i.size=141/\i.bytes=152/\z.cells=(Value.int .i64 0::List.replicate 140 (Value.int .u8 0)).toArray:=by
 have h:(prog.info? 76).map (fun i=>(i.zero.map Value.cells,i.size,i.bytes))=some (some (Value.int .i64 0::List.replicate 140 (Value.int .u8 0)).toArray,141,152):=by kernel_rfl
 cases hq:prog.info? 76 with
 |none=>rw[hq]at h;cases h
 |some i=>
  rw[hq]at h;simp only[Option.map_some,Option.some.injEq,Prod.mk.injEq]at h;obtain⟨h1,h2,h3⟩:=h
  cases hz:i.zero with
  |none=>rw[hz]at h1;cases h1
  |some z=>rw[hz]at h1;exact⟨i,z,rfl,hz,h2,h3,Option.some.inj h1⟩
theorem Eg:(prog.info? 74).map (·.size)=some 140:=by obtain⟨i,z,h,_,h2,_⟩:=Mk;rw[h];simp[h2]
theorem Ef:(prog.info? 76).map (·.size)=some 141:=by obtain⟨i,z,h,_,h2,_⟩:=EJ;rw[h];simp[h2]
theorem SN {P:Program} (w w':World) (dT sT ty elem:TypeId) (k:Nat) (g o xz Lm:Nat) (b off:Nat) (Ai Kg:Nat) (cs:List Value)
 (hu:P.underlying dT=some (.slice elem)) (hs:(P.info? elem).map (·.size)=some k) (hn:cs.length=Nat.min Ai xz*k)
 (vz:∀j v,cs[j]? = some v->w.cell? ⟨b,off+j,none⟩=some v) (gz:(storeCells ⟨g,o,none⟩ cs 0).run P w=.ok () w'):
 (Builtin.copy_ #[dT,sT] ty #[.slice (some ⟨g,o,none⟩) xz Lm,.slice (some ⟨b,off,none⟩) Ai Kg]).run P w=.ok (goInt (Nat.min Ai xz:Nat)) w':=by
 have hl:=run_loadCells_list (P:=P) w ⟨b,off,none⟩ cs (fun j v hv=>by rw[add_plain];exact vz j v hv);rw[hn]at hl
 cases hq:P.info? elem with
 |none=>rw[hq]at hs;cases hs
 |some i=>
  have hi:i.size=k:=by simpa[hq]using hs
  subst hi;simp[Builtin.copy_,run_underlying hu,Builtin.lenOf,Builtin.firstCells,sizeOf,typeInfo,hq,hl,gz]
theorem Jm {P:Program} (w w':World) (dT sT ty elem:TypeId) (g o xz Lm:Nat) (s:ByteArray)
 (hu:P.underlying dT=some (.slice elem)) (hs:(P.info? elem).map (·.size)=some 1) (hle:s.size<=xz) (gz:(storeCells ⟨g,o,none⟩ (ez s.data.toList) 0).run P w=.ok () w'):
 (Builtin.copy_ #[dT,sT] ty #[.slice (some ⟨g,o,none⟩) xz Lm,.string s]).run P w=.ok (goInt s.size) w':=by
 have vD:Nat.min s.size xz=s.size:=Nat.min_eq_left hle
 have Mn:List.take s.size (List.map (fun b:UInt8=>Value.int IntKind.u8 (b.toNat:Int)) s.data.toList)=ez s.data.toList:=by rw[take_of_length_le (by rw[length_map];exact Nat.le_refl _)];rfl
 cases hq:P.info? elem with
 |none=>rw[hq]at hs;cases hs
 |some i=>simp[Builtin.copy_,run_underlying hu,Builtin.lenOf,Builtin.firstCells,sizeOf,typeInfo,hq,vD];rw[Mn,gz];simp[Result.andThen]
theorem foldl_set:∀(l:List Value) (k:Nat) (cs:Array Value),k+l.length<=cs.size->((l.zipIdx k).foldl (fun(cs:Array Value) (x:Value×Nat)=>cs.setIfInBounds x.2 x.1) cs).toList=cs.toList.take k++l++cs.toList.drop (k+l.length)
 |[],k,cs,_=>by simp
 |v::l,k,cs,h=>by rw[zipIdx_cons,foldl_cons,foldl_set l (k+1) _ (by simp at h ⊢;omega),Array.toList_setIfInBounds];have:=list_seg_step cs.toList k v l (by simp at h ⊢;omega);simpa[Nat.add_assoc,Nat.add_comm 1]using this
theorem fill_whole (cs v:Array Value) (n:Nat) (h1:cs.size=n) (h2:v.size=n):Instr.fill (fun i=>some (i*n,n)) cs [(0,.agg v)]=some v:=by
 have h3:(Value.agg v).cells=v:=rfl;simp only[Instr.fill,h3,h1,h2,ne_eq,not_true_eq_false,decide_false,Nat.zero_mul,Nat.zero_add,gt_iff_lt,Nat.lt_irrefl,Bool.or_self,Bool.false_eq_true,if_false]
 congr 1
 apply Array.toList_inj.1;have h4:=foldl_set v.toList 0 cs (by simp;omega);rw[<-Array.foldl_toList,Array.toList_zipIdx];refine h4.trans ?_;rw[take_zero,nil_append,drop_eq_nil_of_le (by simp;omega),append_nil]
theorem UA (w:World) (cs:List Value) (hl:cs.length=141):(Instr.buildSlice 70 1 #[(0,.agg cs.toArray)]).run prog w=.ok (.slice (some ⟨w.heap.size,0,none⟩) 1 1) (w.alloc (.cells cs.toArray 76)):=by
 obtain⟨i,z,h1,h2,h3,h4,h5⟩:=EJ;refine run_buildSlice w 70 76 1 _ _ i z underlying70 h1 h2 (by rw[h3];omega) (by rw[h3];omega) ?_;rw[h3];exact fill_whole _ _ 141 (by simp) (by simpa using hl)
theorem SY (k:Int) (w:World):(Instr.build 76 #[(0,.int .i64 k)]).run prog w=.ok (.agg (Value.int .i64 k::List.replicate 140 (Value.int .u8 0)).toArray) w:=
 run_build w 76 _ _ (by kernel_rfl)
theorem LY (w:World):(zeroValue 76).run prog w=.ok (.agg (Value.int .i64 0::List.replicate 140 (Value.int .u8 0)).toArray) w:=
 (zero_of_info (P:=prog) (t:=76) (n:=141) (by kernel_rfl)).1 w
theorem cH {P:Program} {ops:Array Oper} {o:Oper} {a:Act} {w:World} {K:Act->World->Prop} {Q:Exit->Act->World->Prop} {E:Prop}
 (hg:o.guard=none) (d x:Operand) (dT sT:TypeId) (JX:o.op=Op.call {callee:=Callee.builtin Builtin.append,args:=#[d,x],argTypes:=#[dT,sT]})
 (v u:Value) (hd:a.eval d=v) (hx:a.eval x=u) {v':Value} {w':World} (hr:(Builtin.append_ #[dT,sT] o.type #[v,u]).run P w=.ok v' w') (hK:K (a.put o.dst v') w'):
 if Region.wanted o (yielded ops a.tmps)=true then Oper.wp P o a w K Q else E:=by
 have hw:Region.wanted o (yielded ops a.tmps)=true:=by simp[Region.wanted,hg]
 rw[if_pos hw];unfold Oper.wp;simp[execOp,JX,resolve,invoke,builtin,hd,hx,hr,Result.andThen];exact hK
theorem Qj {o:Oper} {a:Act} {w:World} {K:Act->World->Prop} {Q:Exit->Act->World->Prop} (x:Operand) (ho:o.op=.buildSlice 70 1 #[(0,x)]) (cs:List Value) (hx:a.eval x=.agg cs.toArray) (hl:cs.length=141)
 (h:K (a.put o.dst (.slice (some ⟨w.heap.size,0,none⟩) 1 1)) (w.alloc (.cells cs.toArray 76))):o.wp prog a w K Q:=by
 unfold Oper.wp execOp;simp only[ho,map_toArray,map_cons,map_nil,hx,Sem.run_bind,UA w cs hl,Result.andThen_ok];exact h
section
def sw (w0:World) (db:Nat) (d:DK) (l2:List aI) (i:Int) (s:ByteArray) (e:Ending) (w':World):Prop:=e=.returned (bH (d.kH i s.data.toList))/\aE w0 w' db (d.written i s.data.toList) l2
theorem Oc (w:World) (k:Nat) (s:ByteArray) (hs:s.size<=140):
 (Builtin.copy_ #[178,9] 3 #[.slice (some ⟨w.heap.size,1,none⟩) 140 140,.string s]).run prog (w.alloc (.cells (Value.int .i64 (k:Int)::List.replicate 140 (Value.int .u8 0)).toArray 76))=.ok (goInt s.size) (w.alloc (.cells (TM (k,eF s.data.toList)).toArray 76)):=by
 have hl:s.data.toList.length=s.size:=rfl;refine Jm _ _ 178 9 3 5 w.heap.size 1 140 140 s underlying178 (by kernel_rfl) hs ?_;rw[run_storeCells_at prog w.heap.size 1 76 (ez s.data.toList) 0 _ _ (heap_alloc_new w _) (by rw[ey,hl];simp;omega) (u7 _),World.setRow_alloc_new]
 congr 3
 simp only[Nat.add_zero,ey,hl];have e1:(Value.int IntKind.i64 (k:Int)::List.replicate 140 (Value.int IntKind.u8 0)).take 1=[.int .i64 (k:Int)]:=rfl
 have e2:(Value.int IntKind.i64 (k:Int)::List.replicate 140 (Value.int IntKind.u8 0)).drop (1+s.size)=List.replicate (140-s.size) (.int .u8 0):=by rw[Nat.add_comm,drop_succ_cons,drop_replicate]
 rw[e1,e2];unfold TM eF ez;rw[map_append,map_replicate,hl];rfl
theorem zM (d:DK) (i:Int) (s:List UInt8) (h:(!d.has i||decide (140<s.length))=true):d.kH i s=some 1/\d.written i s=d:=by
 unfold DK.kH DK.written;rw[h];exact⟨rfl,rfl⟩
theorem xM (d:DK) (i:Int) (s:List UInt8) (h:(!d.has i||decide (140<s.length))=false):d.kH i s=d.fu/\d.written i s=if d.oT then d.bD else d.bD.laid i.toNat (eF s):=by
 unfold DK.kH DK.written DK.fu;rw[h];exact⟨rfl,rfl⟩
variable (w0 w:World) (db:Nat) (d:DK) (l2:List aI)
theorem l5 (h:aE w0 w db d l2) (hm:d.wr.length<=100000) (i:Int) (s:ByteArray):
 Calls prog 155 #[.pointer (some ⟨db,0,none⟩),.int .i64 i,.string s] w fun e w'=>sw w0 db d l2 i s e w':=by
 have e1:=Dz w0 w db d l2 h i;have e2:=qd w0 w db d l2 h;unfold sw;have hl:s.data.toList.length=s.size:=rfl
 cases hh:d.has i with
 |false=>obtain⟨b1,b2⟩:=zM d i s.data.toList (by rw[hh];rfl);rw[b1,b2];rw[hh]at e1;have E1:=aq e1;have HD:=aq h;clear e1 e2 h b1 b2 hh hm hl;go_enter func155,ntmps155;go_wp2_with fail;refine(an E1).mono ?_;rintro e w1 ⟨rfl,rfl⟩;go_wp2_with fail;go_ret;exact⟨rfl,an HD⟩
 |true=>
 rw[hh]at e1
 by_cases hbig:140<s.size
 ·obtain⟨b1,b2⟩:=zM d i s.data.toList (by rw[hh,hl,decide_eq_true hbig];rfl);rw[b1,b2];have hbz:(140:Int)<(s.size:Int):=by omega
  have E1:=aq e1;have HD:=aq h;clear e1 e2 h b1 b2 hh hm hl;go_enter func155,ntmps155;go_wp2_with fail;refine(an E1).mono ?_;rintro e w1 ⟨rfl,rfl⟩;go_wp2_with fail;go_ret;exact⟨rfl,an HD⟩
 obtain⟨b1,b2⟩:=xM d i s.data.toList (by rw[hh,hl,decide_eq_false hbig];rfl);rw[b1,b2];have hbz:¬(140:Int)<(s.size:Int):=by omega
 have hi:0<=i/\i<(d.aW.length:Int):=by simpa[DK.has]using hh
 obtain⟨k,rfl⟩:∃k:Nat,i=k:=⟨i.toNat,by omega⟩;have hk:k<d.aW.length:=by omega
 have TX:(k:Int)<(d.aW.length:Int):=by omega
 rw[Int.toNat_natCast];have vy:d.bD.wr.length<=100000:=by rw[jn];exact hm
 have ll:k<d.bD.aW.length:=by rw[gi];exact hk
 cases hf:d.oT with
 |true=>
  have wG:d.fu=some 10:=by unfold DK.fu;rw[hf];rfl
  unfold cZ at e2;rw[wG]at e2 ⊢;simp only[bH]at e2 ⊢;have E1:=aq e1;have E2:=aq e2;clear e1 e2 h b1 b2 hh hm hl hi hk TX hf wG;go_enter func155,ntmps155;go_wp2_with fail;refine(an E1).mono ?_;rintro e w1 ⟨rfl,rfl⟩;go_wp2_with fail;refine(an E2).mono ?_;rintro e w2 ⟨rfl,hD⟩;have HD:=aq hD;clear hD E2;go_wp2_with fail;go_ret;exact⟨rfl,an HD⟩
 |false=>
  have wG:d.fu=none:=by unfold DK.fu;rw[hf];rfl
  unfold cZ at e2;rw[wG]at e2 ⊢;simp only[bH,Bool.false_eq_true,if_false]at e2 ⊢;have E1:=aq e1;have E2:=aq e2;clear e1 e2 h b1 b2 hh hm hl hi hk TX hf wG;generalize d.bD=d2 at *;obtain⟨Z,hZ⟩:∃Z:List Value,(Value.int .i64 0::List.replicate 140 (Value.int .u8 0))=Z:=⟨_,rfl⟩;obtain⟨Y,hY⟩:∃Y:List Value,(Value.int .i64 (k:Int)::List.replicate 140 (Value.int .u8 0))=Y:=⟨_,rfl⟩;obtain⟨X,hX⟩:∃X:List Value,TM (k,eF s.data.toList)=X:=⟨_,rfl⟩;have hb:=SY (k:Int);have hz:=LY;rw[hZ]at hz;rw[hY]at hb;have HZ:=aq hZ
  have HY:=aq hY;have HX:=aq hX;clear hZ hY hX;go_enter func155,ntmps155;go_wp2_with fail;refine(an E1).mono ?_;rintro e w1 ⟨rfl,rfl⟩;go_wp2_with fail;refine(an E2).mono ?_;rintro e w2 ⟨rfl,hD⟩;have HD:=aq hD;clear hD E2 E1;have T5:=Oc w2 k s (by omega);rw[an HY,an HX]at T5
  have gz:(storeCells ⟨w2.heap.size,0,none⟩ Y 0).run prog (w2.alloc (.cells Z.toArray 76))=.ok () (w2.alloc (.cells Y.toArray 76)):=by rw[run_storeCells_at prog w2.heap.size 0 76 Y 0 Z.toArray _ (heap_alloc_new w2 _) (by rw[<-an HY,<-an HZ];simp) (by rw[<-an HY];simp[Value.oneCell']),World.setRow_alloc_new];congr 3;rw[<-an HY,<-an HZ];simp
  have fE:¬Z=[]:=by rw[<-an HZ];simp
  have fD:Z.length=141:=by rw[<-an HZ];simp
  have Rj:Z.set 0 (.int .i64 (k:Int))=Y:=by rw[<-an HZ,<-an HY];rfl
  have hy2:Y.length=141:=by rw[<-an HY];simp
  go_wp2_with fail
  clear T5 gz fE fD Rj hy2 hb hz HZ HY;obtain⟨B,hB⟩:=aa w2.heap.size;have og:=(an HD).ok;obtain⟨g0,c0,g1,c1,v2,lv,hc01,kE,hc11,H⟩:=(an HD).mem;have H3:=H.aY 76 X;rw[hB]at H3 ⊢;generalize w2.alloc (.cells X.toArray 76)=w3 at H3 ⊢;clear hB H HD;obtain⟨V,hV⟩:=aa (ez (eF s.data.toList));have OI:X=.int .i64 (k:Int)::V:=by rw[<-an HX,<-hV];rfl
  have CA:(eF s.data.toList).length=140:=rJ (by show s.size<=140;omega);have Yg:V.length=140:=by rw[<-hV,ey,CA]
  have Yh:∀v∈V,v.oneCell'=true:=by rw[<-hV];exact u7 _
  have q1:w3.cell? ⟨db,1,none⟩=some (.slice (some ⟨g1,0,none⟩) d2.aW.length c1):=H3.cellAt af rfl;obtain⟨w4,Dk,H4,hg4⟩:=(H3.drew.front [_,_,_]).lay [] (k*140) V (by rw[jE og.aW,Yg];omega) Yh;have TV:∀wx l,aw w0 wx l->aI.cell B 76 X∈l->wx.rangeAt B 1 V:=fun wx l hx hm j v hv=>hx.cellAt hm (by rw[OI,Nat.add_comm];exact hv)
  have XM:∀wx l L,aw w0 wx l->l7 (.slice (some ⟨g1,0,none⟩) d2.aW.length c1) L∈l->L.length=d2.aW.length->pQ L->wx.there g1 (k*140) 140:=fun wx l L hx hm hL hS j hj=>by
   have eO:k*140+j<(iK L).length:=by rw[jE hS];omega
   have y9:aI.row (.slice (some ⟨g1,0,none⟩) d2.aW.length c1) 74 140 d2.aW.length (iK L)∈l:=by rw[<-hL]at hm ⊢;exact hm
   exact⟨by rw[hx.jb y9 (getElem?_eq_getElem eO)];rfl,hx.wL y9 _⟩
  have EM:=XM _ _ _ H3.drew ah rfl og.aW
  have qy:w4=w3.drew.setCells g1 (k*140) V:=by have h1:=run_storeCells_cells (P:=prog) g1 (k*140) V 0 w3.drew (fun j hj=>by rw[Nat.add_zero];exact(EM j (by omega)).1) (fun j hj=>by rw[Nat.add_zero];exact(EM j (by omega)).2) Yh;have h2:=Dk prog;rw[h1]at h2;injection h2 with _ h2;exact h2.symm
  rw[<-hV,vL og.aW ll CA]at H4;have Rq:=XM w4 _ (d2.aW.set k (eF s.data.toList)) H4 (by unfold l7;rw[length_set];exact .head _) (by simp) (og.aW.set k CA);have Rx:=TV _ _ H3.drew ae;have Ru:=TV _ _ H4 af;have hq4:w4.cell? ⟨db,1,none⟩=some (.slice (some ⟨g1,0,none⟩) d2.aW.length c1):=H4.cellAt ag rfl;obtain⟨n,hn⟩:=aa d2.aW.length;rw[hn]at q1 hq4;have D3:Hid (w3.drew.cell? ⟨db,1,none⟩=some (.slice (some ⟨g1,0,none⟩) n c1)/\w3.drew.rangeAt B 1 V/\w3.drew.there g1 (k*140) 140):=⟨q1,Rx,EM⟩
  have YY:Hid (w4.cell? ⟨db,1,none⟩=some (.slice (some ⟨g1,0,none⟩) n c1)/\w4.rangeAt B 1 V/\w4.there g1 (k*140) 140):=⟨hq4,Ru,Rq⟩;rw[qy]at YY;have Hw4:=aq qy;have J0:k<n:=by omega
  have TX:(k:Int)<(n:Int):=by omega
  have ZA:=aq H4;have Xn:=underlying74;have i102:(prog.info? 74).map (·.size)=some V.length:=by rw[Yg];exact Eg
  have Uf:=aq ll;have Ch:=aq og;have abI:=aq vy;have Hc:Hid (d2.aW.length<=c0/\c0<=9223372036854775807/\d2.aW.length<=c1/\c1<=9223372036854775807):=⟨lv,hc01,kE,hc11⟩;have xI:=aq CA;have HXV:=aq OI;have HV:=aq hV;clear H3 OI CA Dk H4 hg4 J0 og lv hc01 kE hc11 hV ll vy qy TV XM EM Rq Rx Ru hq4
  go_region_held (fun w'=>w'.cell? ⟨db,1,none⟩=some (.slice (some ⟨g1,0,none⟩) n c1)/\w'.rangeAt B 1 V/\w'.there g1 (k*140) 140) (first|exact an D3|exact an YY) (fail)
  rw[<-an Hw4];clear Hw4 D3 YY q1 i102 Xn;have h4:=an ZA;clear ZA;go_wp2_with fail;have h5:=h4.drew.aY 76 X;obtain⟨C,hC⟩:=aa w4.heap.size;have gP:w4.drew.heap.size=C:=hC;rw[gP]at h5
  have hX1:∀v∈X,v.oneCell'=true:=by
   rw[an HXV];intro v hv;rcases mem_cons.1 hv with rfl|hv
   ·rfl
   ·exact Yh v hv
  have Vg:X.length=141:=by rw[an HXV];simp[Yg]
  have hwl:∀x∈d2.wr,x.2.length=140:=fun x hx=>((an Ch).wr x hx).1
  have ft:(w4.drew.alloc (.cells X.toArray 76)).ownsRow w0.heap.size 76 141 v2 d2.wr.length (tO d2.wr):=h5.rowAt aj;obtain⟨i0,z0,Dv,hz0,XP,hby0,hzc⟩:=EJ;obtain⟨v',w6,lX,Dn,hg6,_,Ve⟩:=run_append_own_at (P:=prog) (w4.drew.alloc (.cells X.toArray 76)) w0.heap.size 70 70 76 i0 z0 141 152 underlying70 Dv hz0 XP hby0 (by rw[hzc];simp) (by decide) v2 d2.wr.length (tO d2.wr) ft ⟨C,0,none⟩ 1 1 X (by rw[Vg]) (fun j u hj=>by rw[add_plain,Nat.zero_add];exact h5.cellAt ae hj) hX1 (by unfold maxLen;have:=an abI;omega) (by have:=an abI;omega) h5.size
  have h6:=(h5.aD []).grow [_,_,_,_] hg6 Dn (Ve.imp id fun h=>⟨_,h,Nat.le_refl _⟩);have q2:w4.cell? ⟨db,2,none⟩=some v2:=h4.cellAt ag rfl;have q2b:(w4.drew.alloc (.cells X.toArray 76)).cell? ⟨db,2,none⟩=some v2:=h5.cellAt ah rfl;have q6:w6.cell? ⟨db,2,none⟩=some v2:=h6.cellAt ag rfl;have f6:w6.frozen? ⟨db,2,none⟩=false:=h6.frozenAt ag 2;have r4:w4.drew.rangeAt B 0 X:=fun j v hv=>by rw[Nat.zero_add];exact h4.drew.cellAt af hv
  have r5:(w4.drew.alloc (.cells X.toArray 76)).rangeAt B 0 X:=World.rangeAt_alloc r4 _;have r6:w6.rangeAt B 0 X:=fun j v hv=>by rw[Nat.zero_add];exact h6.cellAt af hv
  have h7:=h6.store [_,_] 2 v' _ rfl;have q2c:(w4.alloc (.cells X.toArray 76)).cell? ⟨db,2,none⟩=some v2:=q2b;obtain⟨p',c',IC⟩:∃p' c',v'=.slice p' (d2.wr.length+1) c':=by obtain⟨p,c,h,_⟩:=cI Dn;exact⟨p,c,h⟩
  subst IC
  have HF:Hid (aE w0 (w6.setCell ⟨db,2,none⟩ (.slice p' (d2.wr.length+1) c')) db (d2.laid k (eF s.data.toList)) l2):=by
   obtain⟨a1,a2,a3,a4⟩:=an Hc;refine⟨(an Ch).laid (an Uf) (an xI),g0,c0,g1,c1,.slice p' (d2.wr.length+1) c',?_⟩;have rY:(d2.laid k (eF s.data.toList)).aW.length=d2.aW.length:=by simp[DK.laid]
   have tm:(d2.laid k (eF s.data.toList)).wr.length=d2.wr.length+1:=by simp[DK.laid]
   have e1:QC (.slice p' (d2.wr.length+1) c') (d2.laid k (eF s.data.toList)).wr=.row (.slice p' (d2.wr.length+1) c') 76 141 (d2.wr.length+1) (tO d2.wr++X):=by unfold QC;rw[tm];show aI.row _ _ _ _ (tO (d2.wr++[(k,eF s.data.toList)]))=_;rw[La,an HX]
   have e2:∀v,l7 v (d2.laid k (eF s.data.toList)).aW=.row v 74 140 d2.aW.length (iK (d2.aW.set k (eF s.data.toList))):=fun v=>by unfold l7;rw[rY];rfl
   rw[rY,e1,e2];exact⟨a1,a2,a3,a4,(h7.aD [_]).back [_,_]⟩
  have r7:(w6.setCell ⟨db,2,none⟩ (.slice p' (d2.wr.length+1) c')).rangeAt B 0 X:=fun j v hv=>by rw[Nat.zero_add];exact h7.cellAt af hv
  refine wp_region_held_drew (S:=fun w'=>w'.rangeAt B 0 X) (by kernel_rfl) r4 (fun hHeld=>?_);refine wpAnyH_take (i:=0) (v:=.pointer (some ⟨db,0,none⟩)) rfl (by kernel_rfl) (by kernel_rfl) (by kernel_rfl) (fun _ _ _ h=>h) (Or.inl ⟨by rfl,fun w hS=>by go_simp⟩) hHeld ?_;simp only[getElem_toArray,getElem_cons_zero,getElem_cons_succ,Act.put,setIfInBounds_toArray,set_cons_zero,set_cons_succ];refine wpAnyH_take (i:=1) (v:=.pointer (some ⟨db,0,none⟩)) rfl (by kernel_rfl) (by kernel_rfl) (by kernel_rfl) (fun _ _ _ h=>h) (Or.inl ⟨by rfl,fun w hS=>by go_simp⟩) hHeld ?_
  simp only[getElem_toArray,getElem_cons_zero,getElem_cons_succ,Act.put,setIfInBounds_toArray,set_cons_zero,set_cons_succ];refine wpAnyH_take (i:=2) (v:=.pointer (some ⟨db,0,none⟩)) rfl (by kernel_rfl) (by kernel_rfl) (by kernel_rfl) (fun _ _ _ h=>h) (Or.inl ⟨by rfl,fun w hS=>by go_simp⟩) hHeld ?_;simp only[getElem_toArray,getElem_cons_zero,getElem_cons_succ,Act.put,setIfInBounds_toArray,set_cons_zero,set_cons_succ];refine wpAnyH_take (i:=3) (v:=.pointer (some ⟨db,2,none⟩)) rfl (by kernel_rfl) (by kernel_rfl) (by kernel_rfl) (fun _ _ _ h=>h) (Or.inl ⟨by rfl,fun w hS=>by go_simp⟩) hHeld ?_
  simp only[getElem_toArray,getElem_cons_zero,getElem_cons_succ,Act.put,setIfInBounds_toArray,set_cons_zero,set_cons_succ];refine wpAnyH_take (i:=5) rfl (by kernel_rfl) (by kernel_rfl) (by kernel_rfl) (fun _ _ _ h=>h) (yieldsIf_load_mid (by rfl) _ _ rfl B 0 rfl X _ (fun w h=>h) underlying76 rfl (by rw[Vg];exact Ef)) hHeld ?_;simp only[getElem_toArray,getElem_cons_zero,getElem_cons_succ,Act.put,setIfInBounds_toArray,set_cons_zero,set_cons_succ];have oM:∀cs:List Value,cs.length=141->cs=X->True:=fun _ _ _=>trivial
  refine wpAnyH_ready (rs:=[4,6]) (by kernel_rfl) (by simp) ?_;refine AllReadyH.cons rfl (fun K hK=>?_) (AllReadyH.cons rfl (fun K hK=>?_) AllReadyH.nil)
  ·go_simp
   refine hK.out _ _ r4 (fun hHeld=>?_);clear hK K;refine wpAnyH_ready (rs:=[6]) (by kernel_rfl) (by simp) ?_;refine AllReadyH.cons rfl (fun K hK=>?_) AllReadyH.nil;rw[if_pos (by rfl)];refine Qj _ rfl X rfl Vg ?_;refine hK.out _ _ r5 (fun hHeld=>?_);clear hK K;simp only[getElem_toArray,getElem_cons_zero,getElem_cons_succ,Act.put,setIfInBounds_toArray,set_cons_zero,set_cons_succ];refine wpAnyH_ready (rs:=[7]) (by kernel_rfl) (by simp) ?_;refine AllReadyH.cons rfl (fun K hK=>?_) AllReadyH.nil;refine cH rfl _ _ 70 70 rfl v2 (.slice (some ⟨C,0,none⟩) 1 1) rfl (by first|rfl|(rw[<-hC];rfl)) lX ?_
   refine hK.out _ _ r6 (fun hHeld=>?_);clear hK K;simp only[getElem_toArray,getElem_cons_zero,getElem_cons_succ,Act.put,setIfInBounds_toArray,set_cons_zero,set_cons_succ];refine wpAnyH_take (i:=8) (v:=.pointer (some ⟨db,0,none⟩)) rfl (by kernel_rfl) (by kernel_rfl) (by kernel_rfl) (fun _ _ _ h=>h) (Or.inl ⟨by rfl,fun w hS=>by go_simp⟩) hHeld ?_;simp only[getElem_toArray,getElem_cons_zero,getElem_cons_succ,Act.put,setIfInBounds_toArray,set_cons_zero,set_cons_succ];refine wpAnyH_take (i:=9) (v:=.pointer (some ⟨db,2,none⟩)) rfl (by kernel_rfl) (by kernel_rfl) (by kernel_rfl) (fun _ _ _ h=>h) (Or.inl ⟨by rfl,fun w hS=>by go_simp⟩) hHeld ?_
   simp only[getElem_toArray,getElem_cons_zero,getElem_cons_succ,Act.put,setIfInBounds_toArray,set_cons_zero,set_cons_succ];refine wpAnyH_ready (rs:=[10]) (by kernel_rfl) (by simp) ?_;refine AllReadyH.cons rfl (fun K hK=>?_) AllReadyH.nil
   go_simp
   refine hK.out _ _ r7 (fun hHeld=>?_);clear hK K;refine wpAnyH_done (by kernel_rfl) ?_ _;go_wp2_with fail;go_ret;exact⟨rfl,an HF⟩
  ·rw[if_pos (by rfl)];refine Qj _ rfl X rfl Vg ?_;refine hK.out _ _ r5 (fun hHeld=>?_);clear hK K;simp only[getElem_toArray,getElem_cons_zero,getElem_cons_succ,Act.put,setIfInBounds_toArray,set_cons_zero,set_cons_succ];refine wpAnyH_ready (rs:=[4]) (by kernel_rfl) (by simp) ?_;refine AllReadyH.cons rfl (fun K hK=>?_) AllReadyH.nil
   go_simp
   refine hK.out _ _ r5 (fun hHeld=>?_);clear hK K;refine wpAnyH_ready (rs:=[7]) (by kernel_rfl) (by simp) ?_;refine AllReadyH.cons rfl (fun K hK=>?_) AllReadyH.nil;refine cH rfl _ _ 70 70 rfl v2 (.slice (some ⟨C,0,none⟩) 1 1) rfl (by first|rfl|(rw[<-hC];rfl)) lX ?_;refine hK.out _ _ r6 (fun hHeld=>?_);clear hK K;simp only[getElem_toArray,getElem_cons_zero,getElem_cons_succ,Act.put,setIfInBounds_toArray,set_cons_zero,set_cons_succ];refine wpAnyH_take (i:=8) (v:=.pointer (some ⟨db,0,none⟩)) rfl (by kernel_rfl) (by kernel_rfl) (by kernel_rfl) (fun _ _ _ h=>h) (Or.inl ⟨by rfl,fun w hS=>by go_simp⟩) hHeld ?_
   simp only[getElem_toArray,getElem_cons_zero,getElem_cons_succ,Act.put,setIfInBounds_toArray,set_cons_zero,set_cons_succ];refine wpAnyH_take (i:=9) (v:=.pointer (some ⟨db,2,none⟩)) rfl (by kernel_rfl) (by kernel_rfl) (by kernel_rfl) (fun _ _ _ h=>h) (Or.inl ⟨by rfl,fun w hS=>by go_simp⟩) hHeld ?_;simp only[getElem_toArray,getElem_cons_zero,getElem_cons_succ,Act.put,setIfInBounds_toArray,set_cons_zero,set_cons_succ];refine wpAnyH_ready (rs:=[10]) (by kernel_rfl) (by simp) ?_;refine AllReadyH.cons rfl (fun K hK=>?_) AllReadyH.nil
   go_simp
   refine hK.out _ _ r7 (fun hHeld=>?_);clear hK K;refine wpAnyH_done (by kernel_rfl) ?_ _;go_wp2_with fail;go_ret;exact⟨rfl,an HF⟩
end
section
theorem step_copy_runI {P:Program} {ops:Array Oper} {o:Oper} {a:Act} {w:World} {K:Act->World->Prop} {Q:Exit->Act->World->Prop} {E:Prop}
 (hg:o.guard=none) (d x:Operand) (dT sT:TypeId) (JX:o.op=Op.call {callee:=Callee.builtin Builtin.copy,args:=#[d,x],argTypes:=#[dT,sT]})
 (v u:Value) (hd:a.eval d=v) (hx:a.eval x=u) {v':Value} {w':World} (hr:(Builtin.copy_ #[dT,sT] o.type #[v,u]).run P w=.ok v' w') (hK:K (a.put o.dst v') w'):
 if Region.wanted o (yielded ops a.tmps)=true then Oper.wp P o a w K Q else E:=by
 have hw:Region.wanted o (yielded ops a.tmps)=true:=by simp[Region.wanted,hg]
 rw[if_pos hw];unfold Oper.wp;simp[execOp,JX,resolve,invoke,builtin,hd,hx,hr,Result.andThen];exact hK
theorem aw.MT {w0 w:World} (l1:List aI) {g g' n aU cap':Nat} {A B:List (List UInt8)} {l2:List aI} (hA:A.length=n) (hB:B.length=n) (sA:pQ A) (sB:pQ B)
 (H:aw w0 w (l1++l7 (.slice (some ⟨g,0,none⟩) n aU) A::l2)) (hm:l7 (.slice (some ⟨g',0,none⟩) n cap') B∈l1++l2) (ty:TypeId):
 ∃w',(Builtin.copy_ #[69,69] ty #[.slice (some ⟨g,0,none⟩) n aU,.slice (some ⟨g',0,none⟩) n cap']).run prog w=.ok (goInt n) w'/\aw w0 w' (l1++l7 (.slice (some ⟨g,0,none⟩) n aU) B::l2):=by
 unfold l7 at H hm ⊢;rw[hA]at H;rw[hB]at hm ⊢;have hlB:=jE sB;have hlA:=jE sA;obtain⟨w',h1,h2,_⟩:=H.lay l1 0 (iK B) (by omega) (O0 B)
 have e:Go.splice (iK A) 0 (iK B)=iK B:=by unfold Go.splice;rw[take_zero,nil_append,drop_eq_nil_of_le (by omega),append_nil]
 rw[e]at h2;refine⟨w',?_,h2⟩;have vD:Nat.min n n=n:=Nat.min_self n
 have:=SN (P:=prog) w w' 69 69 ty 74 140 g 0 n aU g' 0 n cap' (iK B) underlying69 Eg (by rw[vD,hlB,hB]) (fun j v hv=>by
  rw[Nat.zero_add];refine H.jb (xs:=iK B) (k:=140) (e:=74) (n:=n) (aU:=cap') ?_ hv
  rcases mem_append.1 hm with h|h
  ·exact mem_append.2 (.inl h)
  ·exact mem_append.2 (.inr (.tail _ h))) (h1 prog)
 rw[vD]at this;exact this
variable (w0 w:World) (db:Nat) (d:DK) (l2:List aI)
def sD (e:Ending) (w':World):Prop:=e=.returned (bH d.fu)/\aE w0 w' db d.fP l2
theorem sf (h:aE w0 w db d l2):
 Calls prog 156 #[.pointer (some ⟨db,0,none⟩)] w fun e w'=>sD w0 db d l2 e w':=by
 have e2:=qd w0 w db d l2 h;unfold sD;unfold cZ at e2
 cases hf:d.oT with
 |true=>
  have wG:d.fu=some 10:=by unfold DK.fu;rw[hf];rfl
  have WD:d.fP=d.bD:=by unfold DK.fP;rw[hf];rfl
  rw[wG]at e2 ⊢;rw[WD];simp only[bH]at e2 ⊢;have E2:=aq e2;clear e2 h hf wG WD;go_enter func156,ntmps156;go_wp2_with fail;refine(an E2).mono ?_;rintro e w2 ⟨rfl,hD⟩;have HD:=aq hD;clear hD E2;go_wp2_with fail;go_ret;exact⟨rfl,an HD⟩
 |false=>
  have wG:d.fu=none:=by unfold DK.fu;rw[hf];rfl
  have WD:d.fP=d.bD.xr:=by unfold DK.fP;rw[hf];rfl
  rw[wG]at e2 ⊢;rw[WD];simp only[bH]at e2 ⊢;have E2:=aq e2;clear e2 h hf wG WD;generalize d.bD=d2 at *;go_enter func156,ntmps156;go_wp2_with fail;refine(an E2).mono ?_;rintro e w2 ⟨rfl,hD⟩;clear E2;have og:=hD.ok;obtain⟨g0,c0,g1,c1,v2,lv,hc01,kE,hc11,H⟩:=hD.mem;obtain⟨w3,T5,H3⟩:=H.drew.MT [_] (g:=g0) (g':=g1) (aU:=c0) (cap':=c1) og.same rfl og.kept og.aW (by simp) 3;have q0:w2.cell? ⟨db,0,none⟩=some (.slice (some ⟨g0,0,none⟩) d2.aW.length c0):=H.cellAt ae rfl;have q1:w2.cell? ⟨db,1,none⟩=some (.slice (some ⟨g1,0,none⟩) d2.aW.length c1):=H.cellAt ae rfl
  have q2:w3.cell? ⟨db,2,none⟩=some v2:=H3.cellAt ae rfl;have f2:w3.frozen? ⟨db,2,none⟩=false:=H3.frozenAt ae 2
  have HF:Hid (aE w0 (w3.setCell ⟨db,2,none⟩ (.slice none 0 0)) db d2.xr l2):=by refine⟨og.xr,g0,c0,g1,c1,.slice none 0 0,lv,hc01,kE,hc11,?_⟩;have h4:=H3.store [] 2 (.slice none 0 0) _ rfl;exact((h4.aD [_,_,_]).fJ 76 141).back [_,_,_]
  obtain⟨n,hn⟩:=aa d2.aW.length;rw[hn]at q0 q1 T5;clear hD og H H3 lv hc01 kE hc11 hn;go_wp2_with fail
  go_region_law (refine step_copy_runI rfl _ _ 69 69 rfl (.slice (some ⟨g0,0,none⟩) n c0) (.slice (some ⟨g1,0,none⟩) n c1) (by simp[Act.eval,Act.put]) (by simp[Act.eval,Act.put]) T5 ?_)
  all_goals (go_wp2_with fail;go_ret;exact⟨rfl,an HF⟩)
end
end Go.Proofs.YtphcnmlbieokoaaGreatDoor.S
namespace Go.Proofs.YtphcnmlbieokoaaGreatDoor.T
open List
structure CH where
 az:ByteArray
 val:ByteArray
 gone:Bool
end Go.Proofs.YtphcnmlbieokoaaGreatDoor.T
namespace Go.Proofs.YtphcnmlbieokoaaGreatDoor.S
open Go.RowKit List
abbrev bn:=T.CH
def iP (w:World) (v:Value) (n:Nat) (f:Nat->bn):Prop:=
 ((∃p c,v=.slice p 0 c)/\n=0)∨∃b off c,v=.slice (some ⟨b,off,none⟩) n c/\n<=9223372036854775807/\b<w.heap.size/\∀j,j<n->w.cell? ⟨b,off+j*3,none⟩=some (.string (f j).az)/\w.cell? ⟨b,off+j*3+1,none⟩=some (.string (f j).val)/\w.cell? ⟨b,off+j*3+2,none⟩=some (.bool (f j).gone)
theorem bP {B:Nat} {w w':World} (h:Below B w w') {p:Addr} (hp:p.block<B):w'.cell? p=w.cell? p:=World.cell?_of_block (w:=w) (h.block p.block hp)
theorem iP.below {w w':World} {v:Value} {n:Nat} {f:Nat->bn} (h:iP w v n f) (hb:Below w.heap.size w w'):iP w' v n f:=by
 rcases h with h|⟨b,off,c,h1,h2,h3,h4⟩
 ·exact .inl h
 ·have hs:=hb.size;refine .inr ⟨b,off,c,h1,h2,by omega,fun j hj=>?_⟩;rw[bP hb h3,bP hb h3,bP hb h3];exact h4 j hj
theorem iP.slice {w:World} {v:Value} {n:Nat} {f:Nat->bn} (h:iP w v n f):∃p c,v=.slice p n c:=by
 rcases h with⟨⟨p,c,h⟩,rfl⟩|⟨b,off,c,h,_⟩
 ·exact⟨p,c,h⟩
 ·exact⟨_,c,h⟩
def LK (n ia:Nat) (f:Nat->bn):Prop:=n<=ia/\∀j,j<n->(f j).az.size<=60/\(f j).val.size<=60
structure gC where
 aA:ByteArray
 s:ByteArray
 t:ByteArray
 n:Int
 k:Nat
 ch:Value
 cn:Nat
 cf:Nat->bn
def jz (w:World) (v:Value) (n:Nat) (f:Nat->gC):Prop:=
 ((∃p c,v=.slice p 0 c)/\n=0)∨∃b off c,v=.slice (some ⟨b,off,none⟩) n c/\n<=9223372036854775807/\b<w.heap.size/\∀j,j<n->w.cell? ⟨b,off+j*6,none⟩=some (.string (f j).aA)/\w.cell? ⟨b,off+j*6+1,none⟩=some (.string (f j).s)/\w.cell? ⟨b,off+j*6+2,none⟩=some (.string (f j).t)/\w.cell? ⟨b,off+j*6+3,none⟩=some (.int .i64 (f j).n)/\w.cell? ⟨b,off+j*6+4,none⟩=some (.int .u64 ((f j).k:Int))/\w.cell? ⟨b,off+j*6+5,none⟩=some (f j).ch/\iP w (f j).ch (f j).cn (f j).cf/\(-9223372036854775808<=(f j).n/\(f j).n<=9223372036854775807)/\(f j).k<18446744073709551616
theorem jz.below {w w':World} {v:Value} {n:Nat} {f:Nat->gC} (h:jz w v n f) (hb:Below w.heap.size w w'):jz w' v n f:=by
 rcases h with h|⟨b,off,c,h1,h2,h3,h4⟩
 ·exact .inl h
 ·have hs:=hb.size;refine .inr ⟨b,off,c,h1,h2,by omega,fun j hj=>?_⟩;rw[bP hb h3,bP hb h3,bP hb h3,bP hb h3,bP hb h3,bP hb h3];obtain⟨a1,a2,a3,a4,a5,a6,a7,a8⟩:=h4 j hj;exact⟨a1,a2,a3,a4,a5,a6,a7.below hb,a8⟩
theorem jz.slice {w:World} {v:Value} {n:Nat} {f:Nat->gC} (h:jz w v n f):∃p c,v=.slice p n c:=by
 rcases h with⟨⟨p,c,h⟩,rfl⟩|⟨b,off,c,h,_⟩
 ·exact⟨p,c,h⟩
 ·exact⟨_,c,h⟩
def FW (n ia:Nat) (f:Nat->gC):Prop:=n<=ia/\∀j,j<n->(f j).s.size<=200/\(f j).t.size<=150/\LK (f j).cn 16 (f j).cf
theorem aE.keep {w0 w w':World} {db:Nat} {d:DK} {l2:List aI} (h:aE w0 w db d l2) (hk:Kept (fun _=>False) w w'):aE w0 w' db d l2:=by
 obtain⟨g0,c0,g1,c1,v2,a1,a2,a3,a4,H⟩:=h.mem;exact⟨h.ok,g0,c0,g1,c1,v2,a1,a2,a3,a4,H.keep hk⟩
theorem aE.drew {w0 w:World} {db:Nat} {d:DK} {l2:List aI} (h:aE w0 w db d l2):aE w0 w.drew db d l2:=h.keep (Kept.refl _ w).drew
theorem aE.drewN {w0 w:World} {db:Nat} {d:DK} {l2:List aI} (h:aE w0 w db d l2) (n:Nat):aE w0 (w.drewN n) db d l2:=h.keep ((Kept.refl _ w).drewN n)
theorem aE.alloc {w0 w:World} {db:Nat} {d:DK} {l2:List aI} (h:aE w0 w db d l2) (o:Obj):aE w0 (w.alloc o) db d l2:=h.keep ((Kept.refl _ w).alloc o)
theorem aE.aY {w0 w:World} {db:Nat} {d:DK} {l2:List aI} (h:aE w0 w db d l2) (t:TypeId) (vs:List Value):aE w0 (w.alloc (.cells vs.toArray t)) db d (.cell w.heap.size t vs::l2):=by
 obtain⟨g0,c0,g1,c1,v2,a1,a2,a3,a4,H⟩:=h.mem;exact⟨h.ok,g0,c0,g1,c1,v2,a1,a2,a3,a4,(H.aY t vs).back [_,_,_,_]⟩
theorem aE.hold {w0 w:World} {db:Nat} {d:DK} {l2:List aI} (h:aE w0 w db d l2):aw w0 w l2:=by
 obtain⟨g0,c0,g1,c1,v2,a1,a2,a3,a4,H⟩:=h.mem;exact(((H.aD []).aD []).aD []).aD []
theorem aE.store {w0 w:World} {db:Nat} {d:DK} (l1:List aI) {b:Nat} {t:TypeId} {vs:List Value} {l2:List aI} (h:aE w0 w db d (l1++.cell b t vs::l2)) (j:Nat) (u:Value) (Nj:List Value) (he:vs.set j u=Nj):aE w0 (w.setCell ⟨b,j,none⟩ u) db d (l1++.cell b t Nj::l2):=by
 obtain⟨g0,c0,g1,c1,v2,a1,a2,a3,a4,H⟩:=h.mem;exact⟨h.ok,g0,c0,g1,c1,v2,a1,a2,a3,a4,H.store (_::_::_::_::l1) j u Nj he⟩
theorem aE.cellAt {w0 w:World} {db:Nat} {d:DK} {l2:List aI} (h:aE w0 w db d l2) {b:Nat} {t:TypeId} {vs:List Value} (hm:aI.cell b t vs∈l2) {j:Nat} {v:Value} (hv:vs[j]? = some v):w.cell? ⟨b,j,none⟩=some v:=h.hold.cellAt hm hv
theorem aE.frozenAt {w0 w:World} {db:Nat} {d:DK} {l2:List aI} (h:aE w0 w db d l2) {b:Nat} {t:TypeId} {vs:List Value} (hm:aI.cell b t vs∈l2) (j:Nat):w.frozen? ⟨b,j,none⟩=false:=h.hold.frozenAt hm j
end Go.Proofs.YtphcnmlbieokoaaGreatDoor.S
