import Derived.KernelRfl
import Derived.Test.YtphcnmlbieokoaaGreatDoorProg
import Derived.WalkKit
import Derived.WalkLawsBesides
import Derived.WalkSpells
import Derived.Deep.LoopGhost
import Derived.Laws.Rows
import Derived.Below
import Derived.Outline
import Derived.Shelf.SlSortCmp.Insertion
import Derived.Lib.OthersKept
import Derived.Laws.AppendOwn
import Derived.Lib.MapLaws
import Derived.Lib.RuneBytes
import Derived.Shelf.Strings.BuilderRune
import Derived.BigCall
import Derived.Shelf.Strings.BuilderK
import Derived.Shelf.Strings.Builder1
import Derived.Shelf.Strings.Builder2
import Derived.Shelf.Small.Utf8
import Derived.Shelf.Small.Strs
import Derived.Shelf.Strings.BuilderF
import Derived.Shelf.Utf8.AppendRunePlain
import Derived.Shelf.Utf8.RuneCount
import Derived.Shelf.Strings.Builder2Cap
import Derived.Shelf.Strconv.Itoa0
import Derived.Shelf.Strings.Search1
import Derived.Shelf.Strings.Search2
import Derived.Shelf.Strings.Search3
import Derived.Shelf.Strings.Count
import Derived.Shelf.LaysM
import Derived.Shelf.Strings.Shaped
import Derived.Shelf.Strings.Split
import Derived.Shelf.Strings.Replace
import Derived.Shelf.Strings.SplitShaped
import Derived.Shelf.Strings.Runes
import Derived.Shelf.Strings.RuneCount
import Derived.Shelf.Unicode.DecodeSlow
import Derived.Shelf.Unicode.DecodeAny
import Derived.Shelf.Strings.MapAny
import Derived.Shelf.Strings.BuilderCap
import Derived.Shelf.Strings.MapGrows
import Derived.Shelf.Unicode.ValidAny
set_option maxRecDepth 100000
set_option maxHeartbeats 16000000
set_option linter.unusedVariables false
set_option linter.unusedSimpArgs false
namespace Go.Proofs
theorem aa {α:Sort _} (a:α):∃b,a=b:=⟨a,rfl⟩
theorem ad {α:Type _} {a:Option α} {b c:α} (h:a=some b) (e:b=c:=by kernel_rfl):a=some c:=e▸h
theorem ae {α:Type _} {x0:α} {l:List α}:x0∈x0::l:=.head _
theorem af {α:Type _} {x0 x1:α} {l:List α}:x1∈x0::x1::l:=.tail _ (.head _)
theorem ag {α:Type _} {x0 x1 x2:α} {l:List α}:x2∈x0::x1::x2::l:=.tail _ (.tail _ (.head _))
theorem ah {α:Type _} {x0 x1 x2 x3:α} {l:List α}:x3∈x0::x1::x2::x3::l:=.tail _ (.tail _ (.tail _ (.head _)))
theorem ai {α:Type _} {x0 x1 x2 x3 x4:α} {l:List α}:x4∈x0::x1::x2::x3::x4::l:=.tail _ (.tail _ (.tail _ (.tail _ (.head _))))
theorem aj {α:Type _} {x0 x1 x2 x3 x4 x5:α} {l:List α}:x5∈x0::x1::x2::x3::x4::x5::l:=.tail _ (.tail _ (.tail _ (.tail _ (.tail _ (.head _)))))
theorem ak {α:Type _} {x0 x1 x2 x3 x4 x5 x6:α} {l:List α}:x6∈x0::x1::x2::x3::x4::x5::x6::l:=.tail _ (.tail _ (.tail _ (.tail _ (.tail _ (.tail _ (.head _))))))
end Go.Proofs
namespace Go.Proofs.YtphcnmlbieokoaaGreatDoor
open Go.RowKit List Go.Proofs.Tryz
def bu (r:Int):Int:=if r=768∨r=769∨r=776 then 230 else if r=807 then 202 else 0
def qU (r:Int):Bool:=decide (r=32∨r=45∨r=46∨r=95∨r=963∨r=962∨r=931∨(97<=r/\r<=122)∨(65<=r/\r<=90)∨(48<=r/\r<=57))
def kW (r:Int):Int:=if 65<=r/\r<=90 then r+32 else if r=962∨r=931 then 963 else r
theorem mC (r a b:Int) (w:World):
 Calls prog 248 #[.int .i32 r,.int .i32 a,.int .i32 b] w fun e w'=>e=.returned (.bool (decide (a<=r/\r<=b)))/\w'=w:=by
 by_cases h1:a<=r
 ·by_cases h2:r<=b
  ·go_enter func248,ntmps248
   go_wp2
   go_ret;refine⟨?_,rfl⟩
   first|(simp;done)|(simp;omega)
  ·go_enter func248,ntmps248
   go_wp2
   go_ret;refine⟨?_,rfl⟩
   first|(simp;done)|(simp;omega)
 ·go_enter func248,ntmps248
  go_wp2
  go_ret;refine⟨?_,rfl⟩
  first|(simp;done)|(simp;omega)
theorem ky (r:Int) (w:World):
 Calls prog 231 #[.int .i32 r] w fun e w'=>e=.returned (.int .i64 (bu r))/\w'=w:=by
 go_enter func231,ntmps231
 go_wp2
 all_goals go_ret
 all_goals refine⟨?_,rfl⟩
 all_goals (simp_all [bu])
theorem Ly (r:Int) (w:World):
 Calls prog 266 #[.int .i32 r] w fun e w'=>e=.returned (.bool (qU r))/\w'=w:=by
 go_enter func266,ntmps266
 go_wp2_with (go_at_call 248;refine(mC _ _ _ _).mono ?_;rintro e w1 ⟨rfl,rfl⟩)
 all_goals go_ret
 all_goals refine⟨?_,rfl⟩
 all_goals (simp_all [qU,Bool.or_assoc])
theorem K9 (r:Int) (w:World) (h0:-2147483648<=r) (h1:r<=2147483647):
 Calls prog 200 #[.int .i32 r] w fun e w'=>e=.returned (.int .i32 (kW r))/\w'=w:=by
 go_enter func200,ntmps200
 go_wp2_with (go_at_call 248;refine(mC _ _ _ _).mono ?_;rintro e w1 ⟨rfl,rfl⟩)
 all_goals go_ret
 all_goals refine⟨?_,rfl⟩
 all_goals (try simp_all [kW])
 all_goals omega
def tab:List (Int×Int×Int):=[(192,65,768),(200,69,768),(204,73,768),(210,79,768),(217,85,768),(224,97,768),(232,101,768),(236,105,768),(242,111,768),(249,117,768),(193,65,769),(201,69,769),(205,73,769),(211,79,769),(218,85,769),(221,89,769),(225,97,769),(233,101,769),(237,105,769),(243,111,769),(250,117,769),(253,121,769),(196,65,776),(203,69,776),(207,73,776),(214,79,776),(220,85,776),(228,97,776),(235,101,776),(239,105,776),(246,111,776),(252,117,776),(199,67,807),(231,99,807)]
def aS (i:Nat):Int×Int×Int:=tab.getD i (0,0,0)
def bE:Array Value:=(tab.flatMap fun x=>[Value.int .i32 x.1,Value.int .i32 x.2.1,Value.int .i32 x.2.2]).toArray
def kZ (w:World):Prop:=∃t fr,w.heap[6]? = some (.cells bE t fr)
theorem adM (w:World):(Instr.index 341 (.agg bE) (.int .i64 ((0:Nat):Int))).run prog w=.ok (.agg #[.int .i32 (aS 0).1,.int .i32 (aS 0).2.1,.int .i32 (aS 0).2.2]) w:=by kernel_rfl
theorem adL (w:World):(Instr.index 341 (.agg bE) (.int .i64 ((1:Nat):Int))).run prog w=.ok (.agg #[.int .i32 (aS 1).1,.int .i32 (aS 1).2.1,.int .i32 (aS 1).2.2]) w:=by kernel_rfl
theorem adK (w:World):(Instr.index 341 (.agg bE) (.int .i64 ((2:Nat):Int))).run prog w=.ok (.agg #[.int .i32 (aS 2).1,.int .i32 (aS 2).2.1,.int .i32 (aS 2).2.2]) w:=by kernel_rfl
theorem adJ (w:World):(Instr.index 341 (.agg bE) (.int .i64 ((3:Nat):Int))).run prog w=.ok (.agg #[.int .i32 (aS 3).1,.int .i32 (aS 3).2.1,.int .i32 (aS 3).2.2]) w:=by kernel_rfl
theorem adI (w:World):(Instr.index 341 (.agg bE) (.int .i64 ((4:Nat):Int))).run prog w=.ok (.agg #[.int .i32 (aS 4).1,.int .i32 (aS 4).2.1,.int .i32 (aS 4).2.2]) w:=by kernel_rfl
theorem adH (w:World):(Instr.index 341 (.agg bE) (.int .i64 ((5:Nat):Int))).run prog w=.ok (.agg #[.int .i32 (aS 5).1,.int .i32 (aS 5).2.1,.int .i32 (aS 5).2.2]) w:=by kernel_rfl
theorem adG (w:World):(Instr.index 341 (.agg bE) (.int .i64 ((6:Nat):Int))).run prog w=.ok (.agg #[.int .i32 (aS 6).1,.int .i32 (aS 6).2.1,.int .i32 (aS 6).2.2]) w:=by kernel_rfl
theorem adF (w:World):(Instr.index 341 (.agg bE) (.int .i64 ((7:Nat):Int))).run prog w=.ok (.agg #[.int .i32 (aS 7).1,.int .i32 (aS 7).2.1,.int .i32 (aS 7).2.2]) w:=by kernel_rfl
theorem adE (w:World):(Instr.index 341 (.agg bE) (.int .i64 ((8:Nat):Int))).run prog w=.ok (.agg #[.int .i32 (aS 8).1,.int .i32 (aS 8).2.1,.int .i32 (aS 8).2.2]) w:=by kernel_rfl
theorem adD (w:World):(Instr.index 341 (.agg bE) (.int .i64 ((9:Nat):Int))).run prog w=.ok (.agg #[.int .i32 (aS 9).1,.int .i32 (aS 9).2.1,.int .i32 (aS 9).2.2]) w:=by kernel_rfl
theorem aai (w:World):(Instr.index 341 (.agg bE) (.int .i64 ((10:Nat):Int))).run prog w=.ok (.agg #[.int .i32 (aS 10).1,.int .i32 (aS 10).2.1,.int .i32 (aS 10).2.2]) w:=by kernel_rfl
theorem aah (w:World):(Instr.index 341 (.agg bE) (.int .i64 ((11:Nat):Int))).run prog w=.ok (.agg #[.int .i32 (aS 11).1,.int .i32 (aS 11).2.1,.int .i32 (aS 11).2.2]) w:=by kernel_rfl
theorem aag (w:World):(Instr.index 341 (.agg bE) (.int .i64 ((12:Nat):Int))).run prog w=.ok (.agg #[.int .i32 (aS 12).1,.int .i32 (aS 12).2.1,.int .i32 (aS 12).2.2]) w:=by kernel_rfl
theorem aaf (w:World):(Instr.index 341 (.agg bE) (.int .i64 ((13:Nat):Int))).run prog w=.ok (.agg #[.int .i32 (aS 13).1,.int .i32 (aS 13).2.1,.int .i32 (aS 13).2.2]) w:=by kernel_rfl
theorem aae (w:World):(Instr.index 341 (.agg bE) (.int .i64 ((14:Nat):Int))).run prog w=.ok (.agg #[.int .i32 (aS 14).1,.int .i32 (aS 14).2.1,.int .i32 (aS 14).2.2]) w:=by kernel_rfl
theorem aad (w:World):(Instr.index 341 (.agg bE) (.int .i64 ((15:Nat):Int))).run prog w=.ok (.agg #[.int .i32 (aS 15).1,.int .i32 (aS 15).2.1,.int .i32 (aS 15).2.2]) w:=by kernel_rfl
theorem aac (w:World):(Instr.index 341 (.agg bE) (.int .i64 ((16:Nat):Int))).run prog w=.ok (.agg #[.int .i32 (aS 16).1,.int .i32 (aS 16).2.1,.int .i32 (aS 16).2.2]) w:=by kernel_rfl
theorem aab (w:World):(Instr.index 341 (.agg bE) (.int .i64 ((17:Nat):Int))).run prog w=.ok (.agg #[.int .i32 (aS 17).1,.int .i32 (aS 17).2.1,.int .i32 (aS 17).2.2]) w:=by kernel_rfl
theorem aaa (w:World):(Instr.index 341 (.agg bE) (.int .i64 ((18:Nat):Int))).run prog w=.ok (.agg #[.int .i32 (aS 18).1,.int .i32 (aS 18).2.1,.int .i32 (aS 18).2.2]) w:=by kernel_rfl
theorem Z9 (w:World):(Instr.index 341 (.agg bE) (.int .i64 ((19:Nat):Int))).run prog w=.ok (.agg #[.int .i32 (aS 19).1,.int .i32 (aS 19).2.1,.int .i32 (aS 19).2.2]) w:=by kernel_rfl
theorem Z8 (w:World):(Instr.index 341 (.agg bE) (.int .i64 ((20:Nat):Int))).run prog w=.ok (.agg #[.int .i32 (aS 20).1,.int .i32 (aS 20).2.1,.int .i32 (aS 20).2.2]) w:=by kernel_rfl
theorem Z7 (w:World):(Instr.index 341 (.agg bE) (.int .i64 ((21:Nat):Int))).run prog w=.ok (.agg #[.int .i32 (aS 21).1,.int .i32 (aS 21).2.1,.int .i32 (aS 21).2.2]) w:=by kernel_rfl
theorem Z6 (w:World):(Instr.index 341 (.agg bE) (.int .i64 ((22:Nat):Int))).run prog w=.ok (.agg #[.int .i32 (aS 22).1,.int .i32 (aS 22).2.1,.int .i32 (aS 22).2.2]) w:=by kernel_rfl
theorem Z5 (w:World):(Instr.index 341 (.agg bE) (.int .i64 ((23:Nat):Int))).run prog w=.ok (.agg #[.int .i32 (aS 23).1,.int .i32 (aS 23).2.1,.int .i32 (aS 23).2.2]) w:=by kernel_rfl
theorem Z4 (w:World):(Instr.index 341 (.agg bE) (.int .i64 ((24:Nat):Int))).run prog w=.ok (.agg #[.int .i32 (aS 24).1,.int .i32 (aS 24).2.1,.int .i32 (aS 24).2.2]) w:=by kernel_rfl
theorem Z3 (w:World):(Instr.index 341 (.agg bE) (.int .i64 ((25:Nat):Int))).run prog w=.ok (.agg #[.int .i32 (aS 25).1,.int .i32 (aS 25).2.1,.int .i32 (aS 25).2.2]) w:=by kernel_rfl
theorem Z2 (w:World):(Instr.index 341 (.agg bE) (.int .i64 ((26:Nat):Int))).run prog w=.ok (.agg #[.int .i32 (aS 26).1,.int .i32 (aS 26).2.1,.int .i32 (aS 26).2.2]) w:=by kernel_rfl
theorem Z1 (w:World):(Instr.index 341 (.agg bE) (.int .i64 ((27:Nat):Int))).run prog w=.ok (.agg #[.int .i32 (aS 27).1,.int .i32 (aS 27).2.1,.int .i32 (aS 27).2.2]) w:=by kernel_rfl
theorem Z0 (w:World):(Instr.index 341 (.agg bE) (.int .i64 ((28:Nat):Int))).run prog w=.ok (.agg #[.int .i32 (aS 28).1,.int .i32 (aS 28).2.1,.int .i32 (aS 28).2.2]) w:=by kernel_rfl
theorem ZZ (w:World):(Instr.index 341 (.agg bE) (.int .i64 ((29:Nat):Int))).run prog w=.ok (.agg #[.int .i32 (aS 29).1,.int .i32 (aS 29).2.1,.int .i32 (aS 29).2.2]) w:=by kernel_rfl
theorem ZY (w:World):(Instr.index 341 (.agg bE) (.int .i64 ((30:Nat):Int))).run prog w=.ok (.agg #[.int .i32 (aS 30).1,.int .i32 (aS 30).2.1,.int .i32 (aS 30).2.2]) w:=by kernel_rfl
theorem ZX (w:World):(Instr.index 341 (.agg bE) (.int .i64 ((31:Nat):Int))).run prog w=.ok (.agg #[.int .i32 (aS 31).1,.int .i32 (aS 31).2.1,.int .i32 (aS 31).2.2]) w:=by kernel_rfl
theorem ZW (w:World):(Instr.index 341 (.agg bE) (.int .i64 ((32:Nat):Int))).run prog w=.ok (.agg #[.int .i32 (aS 32).1,.int .i32 (aS 32).2.1,.int .i32 (aS 32).2.2]) w:=by kernel_rfl
theorem ZV (w:World):(Instr.index 341 (.agg bE) (.int .i64 ((33:Nat):Int))).run prog w=.ok (.agg #[.int .i32 (aS 33).1,.int .i32 (aS 33).2.1,.int .i32 (aS 33).2.2]) w:=by kernel_rfl
theorem UL (i:Nat) (hi:i<34) (w:World):(Instr.index 341 (.agg bE) (.int .i64 i)).run prog w=.ok (.agg #[.int .i32 (aS i).1,.int .i32 (aS i).2.1,.int .i32 (aS i).2.2]) w:=by
 have h:i=0∨i=1∨i=2∨i=3∨i=4∨i=5∨i=6∨i=7∨i=8∨i=9∨i=10∨i=11∨i=12∨i=13∨i=14∨i=15∨i=16∨i=17∨i=18∨i=19∨i=20∨i=21∨i=22∨i=23∨i=24∨i=25∨i=26∨i=27∨i=28∨i=29∨i=30∨i=31∨i=32∨i=33:=by omega
 rcases h with rfl|rfl|rfl|rfl|rfl|rfl|rfl|rfl|rfl|rfl|rfl|rfl|rfl|rfl|rfl|rfl|rfl|rfl|rfl|rfl|rfl|rfl|rfl|rfl|rfl|rfl|rfl|rfl|rfl|rfl|rfl|rfl|rfl|rfl
 ·exact adM w
 ·exact adL w
 ·exact adK w
 ·exact adJ w
 ·exact adI w
 ·exact adH w
 ·exact adG w
 ·exact adF w
 ·exact adE w
 ·exact adD w
 ·exact aai w
 ·exact aah w
 ·exact aag w
 ·exact aaf w
 ·exact aae w
 ·exact aad w
 ·exact aac w
 ·exact aab w
 ·exact aaa w
 ·exact Z9 w
 ·exact Z8 w
 ·exact Z7 w
 ·exact Z6 w
 ·exact Z5 w
 ·exact Z4 w
 ·exact Z3 w
 ·exact Z2 w
 ·exact Z1 w
 ·exact Z0 w
 ·exact ZZ w
 ·exact ZY w
 ·exact ZX w
 ·exact ZW w
 ·exact ZV w
def jj (r:Int):Int×Int×Int:=(tab.find? (fun x=>x.1==r)).getD (0,0,0)
def ik (r:Int):Bool:=(tab.find? (fun x=>x.1==r)).isSome
theorem I9 (r:Int):∀(l:List (Int×Int×Int)) (j:Nat),j<l.length->(∀m,m<j->(l.getD m (0,0,0)).1≠r)->(l.getD j (0,0,0)).1=r->l.find? (fun x=>x.1==r)=some (l.getD j (0,0,0))
 |[],j,hj,_,_=>by simp at hj
 |x::l,0,_,_,e=>by
  have:(x.1==r)=true:=by simpa using e
  simp[List.find?,this]
 |x::l,j+1,hj,h,e=>by
  have h0:(x.1==r)=false:=by simpa using h 0 (by omega)
  have:=I9 r l j (by simpa using hj) (fun m hm=>by simpa using h (m+1) (by omega)) (by simpa using e);simp only[List.find?,h0]
  simpa using this
theorem DG (r:Int):∀(l:List (Int×Int×Int)),(∀m,m<l.length->(l.getD m (0,0,0)).1≠r)->l.find? (fun x=>x.1==r)=none
 |[],_=>rfl
 |x::l,h=>by
  have h0:(x.1==r)=false:=by simpa using h 0 (by simp)
  have:=DG r l (fun m hm=>by simpa using h (m+1) (by simpa using hm));simp only[List.find?,h0];exact this
theorem Ni (r:Int) (j:Nat) (hj:j<34) (h:∀m,m<j->(aS m).1≠r) (e:(aS j).1=r):jj r=aS j/\ik r=true:=by
 have:=I9 r tab j (by simpa[tab]using hj) h e;unfold jj ik;rw[this];exact⟨rfl,rfl⟩
theorem J8 (r:Int) (h:∀m,m<34->(aS m).1≠r):jj r=(0,0,0)/\ik r=false:=by
 have:=DG r tab (fun m hm=>h m (by simpa[tab]using hm));unfold jj ik;rw[this];exact⟨rfl,rfl⟩
theorem tA (r:Int) (w:World) (hT:kZ w):
 Calls prog 265 #[.int .i32 r] w fun e w'=>e=.returned (.tuple #[.agg #[.int .i32 (jj r).1,.int .i32 (jj r).2.1,.int .i32 (jj r).2.2],.bool (ik r)])/\Below w.heap.size w w':=by
 obtain⟨t,fr,hT⟩:=hT
 have eO:6<w.heap.size:=by
  rcases Nat.lt_or_ge 6 w.heap.size with h|h
  ·exact h
  ·rw[Array.getElem?_eq_none h]at hT;cases hT
 have hT1:∀o,(w.alloc o).heap[6]? = some (.cells bE t fr):=fun o=>by show(w.heap.push o)[6]? = _;rw[Array.getElem?_push,if_neg (by omega),hT]
 go_enter func265,ntmps265
 go_wp2_with (refine wpList_load_row rfl 341 _ rfl 6 rfl t _ fr _ (hT1 _) underlying341 rfl (by kernel_rfl) ?_)
 clear hT1
 go_loopg [7] 35 (fun k i wr=>∃j:Nat,j<=34/\k=35-j/\i=.int .i64 j/\Hid (∀m,m<j->(aS m).1≠r)/\Below w.heap.size w wr/\w.heap.size<wr.heap.size/\wr.heap[w.heap.size]? = some (.cells #[.int .i32 0,.int .i32 0,.int .i32 0] 331))
 case atStart=>exact⟨0,by omega,rfl,rfl,(fun m hm=>absurd hm (Nat.not_lt_zero m)),Below.alloc (Below.refl _ _) (Nat.le_refl _) _,by simp,heap_alloc_new _ _⟩
 case round=>
  obtain⟨j,hj,hk,rfl,H,hB,gP,nQ⟩:=hrel;have c0:wr.cell? ⟨w.heap.size,0,none⟩=some (.int .i32 0):=by rw[cell_of_row _ _ _ _ _ _ nQ];rfl
  have c1:wr.cell? ⟨w.heap.size,1,none⟩=some (.int .i32 0):=by rw[cell_of_row _ _ _ _ _ _ nQ];rfl
  have c2:wr.cell? ⟨w.heap.size,2,none⟩=some (.int .i32 0):=by rw[cell_of_row _ _ _ _ _ _ nQ];rfl
  have f0:wr.frozen? ⟨w.heap.size,0,none⟩=false:=frozen_of_row _ _ _ _ _ nQ;have f1:wr.frozen? ⟨w.heap.size,1,none⟩=false:=frozen_of_row _ _ _ _ _ nQ;have f2:wr.frozen? ⟨w.heap.size,2,none⟩=false:=frozen_of_row _ _ _ _ _ nQ;have Tn:Hid (wr.heap[w.heap.size]? = some (.cells #[.int .i32 0,.int .i32 0,.int .i32 0] 331)):=nQ;clear nQ
  by_cases hj34:j<34
  ·have aeA:=fun wx=>UL j hj34 wx
   obtain⟨row,zl⟩:∃row,Hid (aS j=row):=⟨_,rfl⟩;rw[zl.out]at aeA;obtain⟨sg,le,ma⟩:=row
   by_cases he:sg=r
   ·have he':(sg==r)=true:=by simp[he]
    have fin:jj r=(sg,le,ma)/\ik r=true:=by have h1:=Ni r j hj34 H.out (by rw[zl.out];exact he);rw[zl.out]at h1;exact h1
    have xJ:Hid (jj r=(sg,le,ma)/\ik r=true):=fin;clear fin
    go_wp2
    refine bodyPost_ret (v:=.tuple #[.agg #[.int .i32 r,.int .i32 le,.int .i32 ma],.bool true]) (by simp[results,Tryz.results265,go_sem,c0,c1,c2,gP]) rfl ?_;rw[xJ.out.1,xJ.out.2];exact⟨by rw[he],(((hB.setCell (Nat.le_refl _) _).setCell (Nat.le_refl _) _).setCell (Nat.le_refl _) _).alloc (by simp;omega) _⟩
   ·have he':(sg==r)=false:=by simp[he]
    go_wp2
    go_roundg (34-j)
    case measure=>omega
    case rel=>
     refine⟨j+1,by omega,by omega,by simp,?_,hB.alloc (by omega) _,by simp;omega,?_⟩
     ·intro m hm
      rcases Nat.lt_or_ge m j with h|h
      ·exact H.out m h
      ·obtain rfl:m=j:=by omega
       rw[zl.out];exact he
     ·rw[Below.heap_alloc _ _ _ gP];exact Tn.out
  ·have xJ:Hid (jj r=(0,0,0)/\ik r=false):=J8 r fun m hm=>H.out m (by omega)
   go_wp2
   refine bodyPost_ret (v:=.tuple #[.agg #[.int .i32 0,.int .i32 0,.int .i32 0],.bool false]) (by simp[results,Tryz.results265,go_sem,c0,c1,c2]) rfl ?_;rw[xJ.out.1,xJ.out.2];exact⟨rfl,((hB.setCell (Nat.le_refl _) _).setCell (Nat.le_refl _) _).setCell (Nat.le_refl _) _⟩
open Go.Shelf Go.Lib Go.Sort
def XE:Go.Shelf.Ren:=⟨fun | 20=>291|n=>n,fun | 22=>301 | 24=>21 | 25=>335|n=>n,fun n=>n⟩
theorem UK:SlLaysF.n20 prog XE:={
 mixed:=by kernel_rfl
 f20:=⟨Tryz.f291.name,by decide +kernel,ad func291⟩
 t0:=underlying0
 a0:=isAgg0
 z0:=sizeOf0
 v0:=zeroValue0
 t3:=underlying3
 a3:=isAgg3
 z3:=sizeOf3
 v3:=zeroValue3
 t4:=underlying4
 a4:=isAgg4
 z4:=sizeOf4
 v4:=zeroValue4
 t22:=underlying301
 a22:=isAgg301
 z22:=sizeOf301
 v22:=zeroValue301
 a24:=isAgg21
 z24:=sizeOf21
 t25:=underlying335
 a25:=isAgg335
 z25:=sizeOf335
 v25:=zeroValue335}
def xA (x y:Int):Int:=bu x-bu y
theorem yF (r:Int):0<=bu r/\bu r<=230:=by
 unfold bu
 split
 ·omega
 ·split<;>omega
theorem Pk (x y:Int) (w:World):
 Calls prog 269 #[.int .i32 x,.int .i32 y] w fun e w'=>e=.returned (.int .i64 (xA x y))/\w'=w:=by
 have hx:=yF x;have hy:=yF y;have h1:=fun wx=>ky x wx
 have h2:=fun wx=>ky y wx
 unfold xA;generalize bu x=a at *;generalize bu y=b at *;go_enter func269,ntmps269;go_wp2_with fail;refine(h1 w).mono ?_;rintro e wx ⟨rfl,dE⟩;have dE:=dE.symm;subst dE;go_wp2_with fail;refine(h2 w).mono ?_;rintro e wx ⟨rfl,dE⟩;have dE:=dE.symm;subst dE
 go_wp2
 go_ret;exact⟨rfl,rfl⟩
theorem Vr:∀args w,(callFunc 269 args).run prog w=.ok (.enter 269 args) w:=fun args w=>by kernel_rfl
theorem Oj (iA off aU:Nat) (d:Array Int) (w:World) (hH:Holds (Value.int .i32) w iA off d) (gP:d.size<4611686018427387904):
 Calls prog 291 #[.slice (some ⟨iA,off,none⟩) d.size aU,.int .i64 (0:Nat),.int .i64 d.size,.func (.func 269) #[] #[]] w fun e w'=>
  e=.returned (.tuple #[])/\∃n,w'=(putRow (Value.int .i32) w iA off (Sort.insertionSort (ltOf xA) d 0 d.size)).drewN n:=
 Any.insertionSortCmpFunc_one UK (Value.int .i32) (fun _=>rfl) xA 269 #[] iA off aU 0 d.size d w Vr
  (fun m os dk _ x y=>(Pk x y _).mono fun e w' ⟨he,hw⟩=>⟨he,0,hw⟩) hH (Nat.zero_le _) (Nat.le_refl _) gP
def sorted (d:Array Int):Array Int:=Sort.insertionSort (ltOf xA) d 0 d.size
theorem Ed (iA off aU:Nat) (d:Array Int) (w:World) (hH:Holds (Value.int .i32) w iA off d) (hn:d.size<20):
 Calls prog 282 #[.slice (some ⟨iA,off,none⟩) d.size aU,.int .i64 d.size,.func (.func 269) #[] #[]] w fun e w'=>
  e=.returned (.tuple #[])/\∃n,w'=(putRow (Value.int .i32) w iA off (sorted d)).drewN n:=by
 have hi:=Oj iA off aU d w hH (by omega);unfold sorted;generalize Sort.insertionSort (ltOf xA) d 0 d.size=ds at *;generalize d.size=n at *;have h1:¬(20:Int)<=(n:Int):=by omega
 have h2:¬(20:Int)<(n:Int):=by omega
 go_enter func282,ntmps282;go_wp2_with fail;refine wp_loop_rounds 1 ?_;rw[rounds_succ];go_wp2_with fail;refine hi.mono ?_;rintro e w1 ⟨rfl,m,iD⟩;go_wp2_with fail;refine wp_loop_rounds 1 ?_;rw[rounds_succ]
 go_wp2
 go_end0
 exact⟨rfl,m,rfl⟩
theorem Kd (iA off aU:Nat) (d:Array Int) (w:World) (hH:Holds (Value.int .i32) w iA off d) (hn:d.size<20):
 Calls prog 268 #[.slice (some ⟨iA,off,none⟩) d.size aU,.func (.func 269) #[] #[]] w fun e w'=>
  e=.returned (.tuple #[])/\∃n,w'=(putRow (Value.int .i32) w iA off (sorted d)).drewN n:=by
 have hi:=Ed iA off aU d w hH hn;generalize sorted d=ds at *;generalize d.size=n at *;go_enter func268,ntmps268;go_wp2_with fail;refine hi.mono ?_;rintro e w1 ⟨rfl,m,iD⟩
 go_wp2
 go_end0
 exact⟨rfl,m,rfl⟩
theorem Rf (p:Option Addr) (aU:Nat) (w:World):
 Calls prog 291 #[.slice p 0 aU,.int .i64 0,.int .i64 0,.func (.func 269) #[] #[]] w fun e w'=>e=.returned (.tuple #[])/\w'=w:=by
 go_enter func291,ntmps291;go_wp2_with fail;refine wp_loop_rounds 1 ?_;rw[rounds_succ]
 go_wp2
 go_end0
 exact⟨rfl,rfl⟩
theorem GD (p:Option Addr) (aU:Nat) (w:World):
 Calls prog 282 #[.slice p 0 aU,.int .i64 0,.func (.func 269) #[] #[]] w fun e w'=>e=.returned (.tuple #[])/\w'=w:=by
 have hi:=Rf p aU w;go_enter func282,ntmps282;go_wp2_with fail;refine wp_loop_rounds 1 ?_;rw[rounds_succ];go_wp2_with fail;refine hi.mono ?_;rintro e wx ⟨rfl,dE⟩;have dE:=dE.symm;subst dE;go_wp2_with fail;refine wp_loop_rounds 1 ?_;rw[rounds_succ]
 go_wp2
 go_end0
 exact⟨rfl,rfl⟩
theorem Nu (p:Option Addr) (aU:Nat) (w:World):
 Calls prog 268 #[.slice p 0 aU,.func (.func 269) #[] #[]] w fun e w'=>e=.returned (.tuple #[])/\w'=w:=by
 have hi:=GD p aU w;go_enter func268,ntmps268;go_wp2_with fail;refine hi.mono ?_;rintro e wx ⟨rfl,dE⟩;have dE:=dE.symm;subst dE
 go_wp2
 go_end0
 exact⟨rfl,rfl⟩
def Mark (r:Int):Prop:=bu r=202∨bu r=230
def dt (l:List Int):List Int:=l.filter (fun r=>bu r==202)++l.filter (fun r=>!(bu r==202))
theorem Ez (l:List Int):l=[]∨∃A a,l=A++[a]:=by
 rcases eq_nil_or_concat l with h|⟨A,a,h⟩
 ·exact .inl h
 ·exact .inr ⟨A,a,by rw[h,concat_eq_append]⟩
theorem r9 (A R:List Int) (b:Int):(A++b::R).toArray[A.length]! = b:=by
 simp
theorem Qq (A R:List Int) (b x:Int):swp (A++b::x::R).toArray (A.length+1) A.length=(A++x::b::R).toArray:=by
 unfold swp;have h1:(A++b::x::R).toArray[A.length]! = b:=r9 _ _ _
 have h2:(A++b::x::R).toArray[A.length+1]! = x:=by simp
 rw[h1,h2];simp
theorem YB (x:Int) (hx:bu x=202) (A:List Int) (hA:∀a∈A,bu a=202):∀(n:Nat) (B R:List Int),B.length=n->(∀b∈B,bu b=230)->
 insInner (ltOf xA) 0 (A.length+B.length) (A++B++x::R).toArray=(A++x::B++R).toArray:=by
 intro n
 induction n with
 |zero=>
  intro B R hn _;have:B=[]:=eq_nil_of_length_eq_zero hn;subst this;simp only[append_nil,length_nil,Nat.add_zero]
  rcases Ez A with rfl|⟨A',a,rfl⟩
  ·rw[insInner_stop _ _ _ _ (.inl (by simp))];simp
  ·rw[insInner_stop]
   ·simp
   ·right;have e1:((A'++[a])++x::R).toArray[(A'++[a]).length]! = x:=r9 _ _ _
    have e2:((A'++[a])++x::R).toArray[(A'++[a]).length-1]! = a:=by simp
    rw[e1,e2];have ha:=hA a (by simp);simp[ltOf,xA,hx,ha]
 |succ n ih=>
  intro B R hn hB
  rcases Ez B with rfl|⟨B',b,rfl⟩
  ·simp at hn
  ·have hl:A.length+(B'++[b]).length=(A++B').length+1:=by simp;omega
   have hb:=hB b (by simp);have e0:A++(B'++[b])++x::R=(A++B')++b::x::R:=by simp
   rw[hl,e0,insInner_go]
   ·rw[Nat.add_sub_cancel,Qq];have:=ih B' (b::R) (by simpa using hn) (fun c hc=>hB c (by simp[hc]));rw[length_append,this];simp
   ·omega
   ·have e1:((A++B')++b::x::R).toArray[(A++B').length+1]! = x:=by
     have e:(A++B')++b::x::R=(A++B'++[b])++x::R:=by simp
     have el:(A++B').length+1=(A++B'++[b]).length:=by simp;omega
     rw[e,el];exact r9 _ _ _
    have e2:((A++B')++b::x::R).toArray[(A++B').length+1-1]! = b:=r9 _ _ _;rw[e1,e2];simp[ltOf,xA,hx,hb]
theorem stays (x:Int) (S R:List Int) (hx:bu x=230) (hS:∀a∈S,Mark a):insInner (ltOf xA) 0 S.length (S++x::R).toArray=(S++x::R).toArray:=by
 rcases Ez S with rfl|⟨A',a,rfl⟩
 ·rw[insInner_stop _ _ _ _ (.inl (by simp))]
 ·rw[insInner_stop]
  right;have e1:((A'++[a])++x::R).toArray[(A'++[a]).length]! = x:=r9 _ _ _
  have e2:((A'++[a])++x::R).toArray[(A'++[a]).length-1]! = a:=by simp
  rw[e1,e2]
  rcases hS a (by simp)with ha|ha<;>simp[ltOf,xA,hx,ha]
theorem o9 (l:List Int) (a:Int):a∈dt l↔a∈l:=by
 unfold dt;rw[mem_append,mem_filter,mem_filter]
 cases h:bu a==202<;>simp
theorem gj (l:List Int):(dt l).length=l.length:=by
 induction l with
 |nil=>rfl
 |cons x l ih=>unfold dt at ih ⊢;rw[length_append]at ih ⊢;rw[filter_cons,filter_cons];cases h:bu x==202<;>simp<;>omega
theorem step (pre R:List Int) (x:Int) (hp:∀a∈pre,Mark a) (hx:Mark x):insInner (ltOf xA) 0 pre.length (dt pre++x::R).toArray=(dt (pre++[x])++R).toArray:=by
 rw[<-gj pre]
 rcases hx with hx|hx
 ·have h1:dt (pre++[x])=pre.filter (fun r=>bu r==202)++x::pre.filter (fun r=>!(bu r==202)):=by
   simp[dt,filter_append,hx]
  rw[h1]
  have:=YB x hx (pre.filter (fun r=>bu r==202)) (fun a ha=>by simpa using(mem_filter.1 ha).2) _ (pre.filter (fun r=>!(bu r==202))) R rfl (fun b hb=>by
   have dJ:=mem_filter.1 hb
   rcases hp b dJ.1 with h|h
   ·simp[h]at dJ
   ·exact h)
  have e:(dt pre).length=(pre.filter (fun r=>bu r==202)).length+(pre.filter (fun r=>!(bu r==202))).length:=by unfold dt;rw[length_append]
  rw[e];unfold dt;rw[this]
 ·have h1:dt (pre++[x])=dt pre++[x]:=by simp[dt,filter_append,hx]
  rw[h1,stays x _ R hx (fun a ha=>hp a ((o9 _ _).1 ha))];simp
theorem outer:∀(R pre:List Int),(∀a∈pre,Mark a)->(∀a∈R,Mark a)->insOuter (ltOf xA) 0 (pre.length+R.length) pre.length (dt pre++R).toArray=(dt (pre++R)).toArray
 |[],pre,_,_=>by rw[insOuter_stop _ _ _ _ _ (by simp)];simp
 |x::R,pre,hp,hR=>by
  rw[insOuter_go _ _ _ _ _ (by simp),step pre R x hp (hR x (by simp))]
  have:=outer R (pre++[x]) (fun a ha=>by
   rcases mem_append.1 ha with h|h
   ·exact hp a h
   ·simp at h;subst h;exact hR a (by simp)) (fun a ha=>hR a (by simp[ha]))
  simp only[length_append,length_cons,length_nil]at this ⊢;rw[show pre.length+(R.length+1)=pre.length+(0+1)+R.length by omega,show pre.length+1=pre.length+(0+1)by omega,this];simp
theorem Ee (l:List Int) (h:∀a∈l,Mark a):sorted l.toArray=(dt l).toArray:=by
 unfold sorted insertionSort
 cases l with
 |nil=>rw[insOuter_stop _ _ _ _ _ (by simp)];rfl
 |cons x l=>
  have h1:dt [x]=[x]:=by unfold dt;cases h:bu x==202<;>simp[h]
  have:=outer l [x] (fun a ha=>by simp at ha;subst ha;exact h a (by simp)) (fun a ha=>h a (by simp[ha]));rw[h1]at this
  simpa[Nat.add_comm]using this
theorem oV {T e:TypeId} {B b:Nat} {bs:List Value} {w w':World} {row:Option Nat} (h:Lib.IsBuilderF T e B b bs w) (hg:w.grownBy w' row)
 (dW:∀g,row=some g->∃c t fz,w.heap[g]? = some (.cells c t fz)/\t≠T/\t≠e):Lib.IsBuilderF T e B b bs w':=by
 have core:∀p,Lib.BuilderAtF T e B b p bs w->Lib.BuilderAtF T e B b p bs w':=by
  intro p h;have eO:=h.lt;obtain⟨hB,v,hb,ft,dr⟩:=h;refine⟨hB,v,?_,?_,dr⟩
  ·rw[hg.block b eO ?_]
   ·exact hb
   ·intro Gi;obtain⟨c,t,fz,hc,ht,_⟩:=dW b Gi.symm;rw[hb]at hc;simp only[Option.some.injEq,Obj.cells.injEq]at hc;exact ht hc.2.1.symm
  ·refine ft.kept hg ?_
   rcases ft.2 with⟨rfl,_⟩|⟨g,aU,cur,fz,rfl,_,sV,_⟩
   ·left;rfl
   ·right;intro Gi;obtain⟨c,t,fz',hc,_,ht⟩:=dW g (by rw[<-Gi];rfl);rw[sV]at hc;simp only[Option.some.injEq,Obj.cells.injEq]at hc;exact ht hc.2.1.symm
 exact h.elim (fun x=>.inl (core _ x)) (fun x=>.inr (core _ x))
theorem ph {w:World} {B:Nat} {e:TypeId} {v:Value} {n:Nat} {xs:List Value} (h:w.ownsRow B e 1 v n xs):∀g,v.ownBlock=some g->∃c,w.heap[g]? = some (.cells c e (0,0)):=by
 intro g hg
 rcases h.2 with⟨rfl,_⟩|⟨g',aU,cur,rfl,_,sV,_⟩
 ·simp[Value.ownBlock]at hg
 ·simp[Value.ownBlock]at hg;subst hg;exact⟨cur,sV⟩
theorem yb {w w':World} {B b:Nat} {e f:TypeId} {v:Value} {n:Nat} {xs:List Value} (h:w.ownsRow B f 1 v n xs) (k:Lib.OthersKept e (some b) w w') (hb:v.ownBlock≠some b) (wG:f≠e):w'.ownsRow B f 1 v n xs:=by
 refine⟨h.1,?_⟩
 rcases h.2 with hn|⟨g,aU,cur,rfl,vH,sV,rest⟩
 ·exact .inl hn
 ·refine .inr ⟨g,aU,cur,rfl,vH,?_,rest⟩;refine k g _ sV ?_ ?_
  ·intro U3;exact hb U3
  ·intro c fz hc;simp only[Obj.cells.injEq]at hc;exact wG hc.2.1
theorem qM {w:World} {B b:Nat} {T e f:TypeId} {v:Value} {n:Nat} {xs bs:List Value} (h:w.ownsRow B f 1 v n xs) (hI:Lib.IsBuilderF T e B b bs w) (hfT:f≠T):v.ownBlock≠some b:=by
 intro hb;obtain⟨c,hc⟩:=ph h b hb
 rcases hI with⟨_,_,qD,_⟩|⟨_,_,qD,_⟩
 all_goals
  rw[hc]at qD;simp only[Option.some.injEq,Obj.cells.injEq]at qD;exact hfT qD.2.1
theorem Nt (B:Nat) (ms:List Int) (v:Value) (w:World) (h:w.ownsRow B 21 1 v ms.length (ms.map (Value.int .i32))) (hm:∀a∈ms,Mark a) (hn:ms.length<20):
 Calls prog 268 #[v,.func (.func 269) #[] #[]] w fun e w'=>e=.returned (.tuple #[])/\w'.ownsRow B 21 1 v ms.length ((dt ms).map (Value.int .i32))/\w.grownBy w' v.ownBlock:=by
 by_cases h0:ms=[]
 ·subst h0
  have hv:∃p aU,v=.slice p 0 aU:=by
   rcases h.2 with⟨rfl,_⟩|⟨g,aU,cur,rfl,_⟩
   ·exact⟨_,_,rfl⟩
   ·exact⟨_,_,rfl⟩
  obtain⟨p,aU,rfl⟩:=hv;refine(Nu p aU w).mono fun e w' ⟨he,hw⟩=>?_
  subst hw;exact⟨he,h,⟨rfl,rfl,rfl,Nat.le_refl _,fun _ _ _=>rfl⟩⟩
 ·rcases h.2 with⟨_,hz⟩|⟨g,aU,cur,rfl,vH,sV,uC,lJ,gZ,ID⟩
  ·exact absurd (eq_nil_of_length_eq_zero hz) h0
  ·have fk:∀j,j<ms.length->cur[j]? = some (.int .i32 (ms.toArray[j]!)):=by
    intro j hj;have h1:(cur.toList.take (ms.length*1))[j]? = (ms.map (Value.int .i32))[j]?:=by rw[ID]
    rw[getElem?_take,if_pos (by omega)]at h1;simp only[Array.getElem?_toList,getElem?_map]at h1;rw[h1,getElem?_eq_getElem hj];simp[hj]
   have hH:Holds (Value.int .i32) w g 0 ms.toArray:=by
    intro j hj;have PY:j<ms.length:=by simpa using hj
    exact⟨by rw[Nat.zero_add,cell_of_row w g j cur 21 (0,0) sV];exact fk j PY,by rw[Nat.zero_add];exact frozen_of_row w g j cur 21 sV⟩
   have hs:=Kd g 0 aU ms.toArray w hH (by simpa using hn);rw[Ee ms hm]at hs;have gP:ms.toArray.size=ms.length:=by simp
   rw[gP]at hs;refine hs.mono fun e w' ⟨he,m,hw⟩=>⟨he,?_,?_⟩
   ·subst hw;refine⟨by rw[length_map,gj];omega,.inr ⟨g,aU,putCells (Value.int .i32) 0 (dt ms).toArray cur,rfl,vH,?_,uC,lJ,?_,?_⟩⟩
    ·show(putRow (Value.int .i32) w g 0 (dt ms).toArray).heap[g]? = _;unfold putRow mapBlock;rw[Array.getElem?_modify,if_pos rfl,sV];rfl
    ·unfold putCells;rw[Array.size_mapIdx];exact gZ
    ·apply ext_getElem?;intro j;rw[getElem?_take]
     by_cases hj:j<ms.length
     ·rw[if_pos (by omega)];unfold putCells;have OA:j<(dt ms).length:=by rw[gj];exact hj
      simp only[Array.getElem?_toList,Array.getElem?_mapIdx,getElem?_map,fk j hj,getElem?_eq_getElem OA,Option.map_some];rw[if_pos ⟨Nat.zero_le _,by simpa using OA⟩];simp[OA]
     ·rw[if_neg (by omega),getElem?_eq_none (by rw[length_map,gj];omega)]
   ·subst hw;refine⟨rfl,rfl,rfl,?_,fun k hk dr=>?_⟩
    ·show _<=(putRow (Value.int .i32) w g 0 (dt ms).toArray).heap.size;rw[size_putRow];exact Nat.le_refl _
    ·show(putRow (Value.int .i32) w g 0 (dt ms).toArray).heap[k]? = _;unfold putRow mapBlock;rw[Array.getElem?_modify,if_neg (fun e=>dr (by rw[<-e];rfl))]
def bA (r:Int):Prop:=0<=r/\r<2048
def bI (rs:List Int):List UInt8:=rs.flatMap Lib.encodeRune
def bL (rs:List Int):ByteArray:=⟨(bI rs).toArray⟩
theorem mo:bI []=[]:=rfl
theorem cK (r:Int) (rs:List Int):bI (r::rs)=Lib.encodeRune r++bI rs:=rfl
theorem dq (a b:List Int):bI (a++b)=bI a++bI b:=by simp[bI]
theorem nD (r:Int):bI [r]=Lib.encodeRune r:=by simp[bI]
theorem oj {r:Int} (h0:0<=r) (h1:r<128):Lib.encodeRune r=[r.toNat.toUInt8]:=by
 unfold Lib.encodeRune;rw[Lib.encodeRuneZ_one h0 (by omega)];rfl
theorem s6 {r:Int} (h0:128<=r) (h1:r<2048):Lib.encodeRune r=[(192+r / 64).toNat.toUInt8,(128+r%64).toNat.toUInt8]:=by
 unfold Lib.encodeRune;rw[Lib.encodeRuneZ_two h0 (by omega)];rfl
theorem Fw {r:Int} (h:bA r):1<=(Lib.encodeRune r).length/\(Lib.encodeRune r).length<=2:=by
 rcases Int.lt_or_le r 128 with h1|h1
 ·rw[oj h.1 h1];simp
 ·rw[s6 h1 h.2];simp
theorem u8 (n:Nat) (h:n<256):n.toUInt8.toNat=n:=by
 show(UInt8.ofNat n).toNat=n;simp;omega
theorem nF {r:Int} (h:bA r) (t:List UInt8):Lib.decodeL (Lib.encodeRune r++t)=(r.toNat,(Lib.encodeRune r).length):=by
 have h2:=h.2;have h0:=h.1
 rcases Int.lt_or_le r 128 with h1|h1
 ·rw[oj h.1 h1,Lib.decodeL_N];have e:=u8 r.toNat (by omega);unfold Lib.decodeN;simp only[singleton_append,getD_cons_zero,e];rw[if_pos (by omega)];rfl
 ·rw[s6 h1 h.2,Lib.decodeL_N];have e0:=u8 (192+r / 64).toNat (by omega);have e1:=u8 (128+r%64).toNat (by omega);unfold Lib.decodeN;simp only[cons_append,nil_append,getD_cons_zero,getD_cons_succ,e0,e1];rw[if_neg (by omega),if_pos ⟨by omega,by simp,by omega⟩,if_pos (by omega)];simp only[length_cons,length_nil];refine Prod.ext ?_ rfl
  show _=r.toNat;omega
theorem SE (a b:List Int):(bI (a++b)).drop (bI a).length=bI b:=by
 rw[dq,drop_left]
theorem ej (rs:List Int):(bL rs).size=(bI rs).length:=by
 show(bI rs).toArray.size=_;simp
theorem decode_at (a:List Int) (r:Int) (b:List Int) (h:bA r):Utf8.decode (bL (a++r::b)) (bI a).length=(r.toNat,(Lib.encodeRune r).length):=by
 rw[<-Lib.decodeL_drop]
 show Lib.decodeL (((bI (a++r::b)).toArray.toList).drop _)=_;rw[toList_toArray,SE,cK,nF h]
theorem qG {r:Int} (h:bA r):0<(Lib.encodeRune r).length:=by have:=Fw h;omega
theorem gV (rs:List Int) (h:∀r∈rs,bA r):rs.length<=(bI rs).length/\(bI rs).length<=2*rs.length:=by
 induction rs with
 |nil=>simp[bI]
 |cons r rs ih=>have:=ih (fun x hx=>h x (by simp[hx]));have hr:=Fw (h r (by simp));rw[cK,length_append,length_cons];omega
theorem Je:∀(a b:List Int),(∀r∈a,bA r)->(∀r∈b,bA r)->bI a=bI b->a=b
 |[],[],_,_,_=>rfl
 |[],r::b,_,hb,h=>by have:=qG (hb r (by simp));rw[cK,mo]at h;have:=congrArg List.length h;rw[length_append,length_nil]at this;omega
 |r::a,[],ha,_,h=>by have:=qG (ha r (by simp));rw[cK,mo]at h;have:=congrArg List.length h;rw[length_append,length_nil]at this;omega
 |r::a,q::b,ha,hb,h=>by
  have h1:=nF (ha r (by simp)) (bI a);have h2:=nF (hb q (by simp)) (bI b);rw[cK,cK]at h;rw[h,h2]at h1
  have e:r=q:=by have:=congrArg Prod.fst h1;have h3:=(ha r (by simp)).1;have h4:=(hb q (by simp)).1;simp only at this;omega
  subst e;rw[Je a b (fun x hx=>ha x (by simp[hx])) (fun x hx=>hb x (by simp[hx])) (append_cancel_left h)]
end Go.Proofs.YtphcnmlbieokoaaGreatDoor
namespace Go.Proofs
open Go.Shelf Go.RowKit
open List
open Go.Proofs.Tryz
namespace YtphcnmlbieokoaaGreatDoor
def lays168_ren:Go.Shelf.Ren:=⟨fun | 168=>234 | 240=>160 | 242=>270 | 276=>212 | 278=>283|n=>n,fun | 37=>178 | 46=>167 | 51=>214 | 70=>177 | 72=>180 | 75=>30 | 80=>183 | 164=>276|n=>n,fun n=>n⟩
theorem lays168:Lays.n168 prog lays168_ren:={
 mixed:=by kernel_rfl
 f168:=ad func234
 f240:=ad func160
 f242:=ad func270
 f276:=ad func212
 f278:=ad func283
 t0:=underlying0
 a0:=isAgg0
 z0:=sizeOf0
 v0:=zeroValue0
 t3:=underlying3
 a3:=isAgg3
 z3:=sizeOf3
 v3:=zeroValue3
 t4:=underlying4
 a4:=isAgg4
 z4:=sizeOf4
 v4:=zeroValue4
 t5:=underlying5
 a5:=isAgg5
 z5:=sizeOf5
 v5:=zeroValue5
 t9:=underlying9
 a9:=isAgg9
 z9:=sizeOf9
 v9:=zeroValue9
 t20:=underlying20
 a20:=isAgg20
 z20:=sizeOf20
 v20:=zeroValue20
 t21:=underlying21
 a21:=isAgg21
 z21:=sizeOf21
 v21:=zeroValue21
 t37:=underlying178
 a37:=isAgg178
 z37:=sizeOf178
 v37:=zeroValue178
 t46:=underlying167
 a46:=isAgg167
 z46:=sizeOf167
 v46:=zeroValue167
 t51:=underlying214
 a51:=isAgg214
 z51:=sizeOf214
 v51:=zeroValue214
 t70:=underlying177
 a70:=isAgg177
 z70:=sizeOf177
 v70:=zeroValue177
 t72:=underlying180
 a72:=isAgg180
 z72:=sizeOf180
 v72:=zeroValue180
 t75:=underlying30
 a75:=isAgg30
 z75:=sizeOf30
 v75:=zeroValue30
 t164:=underlying276
 a164:=isAgg276
 z164:=sizeOf276
 v164:=zeroValue276}
theorem Ss:Builder.Extra prog lays168_ren:={
 sizeBuilder:=by kernel_rfl
 liesBuilder:=by kernel_rfl
 t5:=underlying5
 a5:=isAgg5
 z5:=sizeOf5
 v5:=zeroValue5
 infoByte:=by kernel_rfl
 cellsByte:=by kernel_rfl
 sizeByte:=by kernel_rfl
 neB5:=by decide}
theorem rp (B b:Nat) (bs:List Value) (r:Int) (US:-2147483648<=r) (lu:r<=2147483647) (w:World) (h:Lib.IsBuilderF 180 5 B b bs w) (hlen:bs.length+4<=140737488355328) (T8:B<=w.heap.size):
 Calls prog 234 #[.pointer (some ⟨b,0,none⟩),.int .i32 r] w fun e w'=>e=.returned (.tuple #[.int .i64 (Lib.runeCells r).length,.nilIface])/\(Lib.BuilderAtF 180 5 B b (.pointer (some ⟨b,0,none⟩)) (bs++Lib.runeCells r) w'/\Below B w w'/\Lib.OthersKept 5 (some b) w w'):=Any.Builder_WriteRune_k lays168 Ss B b bs r US lu w h hlen T8
def lays169_ren:Go.Shelf.Ren:=⟨fun | 169=>106|n=>n,fun | 70=>177 | 72=>180 | 37=>178 | 127=>231|n=>n,fun n=>n⟩
theorem lays169:Lays.n169 prog lays169_ren:={
 mixed:=by kernel_rfl
 f169:=ad func106
 t0:=underlying0
 a0:=isAgg0
 z0:=sizeOf0
 v0:=zeroValue0
 t3:=underlying3
 a3:=isAgg3
 z3:=sizeOf3
 v3:=zeroValue3
 t9:=underlying9
 a9:=isAgg9
 z9:=sizeOf9
 v9:=zeroValue9
 t37:=underlying178
 a37:=isAgg178
 z37:=sizeOf178
 v37:=zeroValue178
 t70:=underlying177
 a70:=isAgg177
 z70:=sizeOf177
 v70:=zeroValue177
 t72:=underlying180
 a72:=isAgg180
 z72:=sizeOf180
 v72:=zeroValue180
 t127:=underlying231
 a127:=isAgg231
 z127:=sizeOf231
 v127:=zeroValue231}
theorem Sr:Builder.Extra prog lays169_ren:={
 sizeBuilder:=by kernel_rfl
 liesBuilder:=by kernel_rfl
 t5:=underlying5
 a5:=isAgg5
 z5:=sizeOf5
 v5:=zeroValue5
 infoByte:=by kernel_rfl
 cellsByte:=by kernel_rfl
 sizeByte:=by kernel_rfl
 neB5:=by decide}
theorem Qr (B b:Nat) (l:List UInt8) (w:World) (h:Lib.IsBuilderF 180 5 B b (Lib.byteCells l) w) (T8:B<=w.heap.size):
 Calls prog 106 #[.pointer (some ⟨b,0,none⟩)] w fun e w'=>e=.returned (.string ⟨l.toArray⟩)/\(Lib.IsBuilderF 180 5 B b (Lib.byteCells l) w'/\Below B w w'/\Lib.OthersKept 5 (some b) w w'):=Any.Builder_String_any_k lays169 Sr B b l w h T8
end YtphcnmlbieokoaaGreatDoor
end Go.Proofs
namespace Go.Proofs.YtphcnmlbieokoaaGreatDoor
open Go.RowKit List Go.Proofs.Tryz
theorem aq {p:Prop} (h:p):Hid p:=h
theorem an {p:Prop} (h:Hid p):p:=h
def Kept (b:Nat) (row:Option Nat) (w w':World):Prop:=∀k o,w.heap[k]? = some o->k≠b->some k≠row->(∀c fz,o≠.cells c 5 fz)->w'.heap[k]? = some o
theorem Kept.trans {b:Nat} {row:Option Nat} {a c d:World} (h:Kept b row a c) (k:Kept b row c d):Kept b row a d:=
 fun i o hi hb hr ho=>k i o (h i o hi hb hr ho) hb hr ho
theorem Kept.others {b:Nat} {row:Option Nat} {w w':World} (h:Lib.OthersKept 5 (some b) w w'):Kept b row w w':=
 fun i o hi hb _ ho=>h i o hi (fun e=>hb (Option.some.inj e)) ho
theorem Kept.grown {b:Nat} {row:Option Nat} {w w':World} (h:w.grownBy w' row):Kept b row w w':=by
 intro i o hi _ hr _;rw[h.block i (Array.getElem?_eq_some_iff.1 hi).1 hr];exact hi
theorem Tb (g j:Nat):(⟨g,0,none⟩:Addr).add j=⟨g,j,none⟩:=by
 unfold Addr.add
 split<;>simp_all
theorem qq {r:Int} (h:Mark r):768<=r/\r<=807:=by
 unfold Mark bu at h
 by_cases h1:r=768∨r=769∨r=776
 ·omega
 ·rw[if_neg h1]at h
  by_cases h2:r=807
  ·omega
  ·rw[if_neg h2]at h;omega
theorem um {r:Int} (h:Mark r):bA r:=by
 have:=qq h;exact⟨by omega,by omega⟩
theorem below_grown {B:Nat} {w w':World} {row:Option Nat} (h:w.grownBy w' row) (hB:B<=w.heap.size) (hr:∀g,row=some g->B<=g):Below B w w':=
 ⟨h.os,h.tape,h.output,h.size,fun k hk=>h.block k (by omega) (fun e=>by have:=hr k e.symm;omega)⟩
theorem o6 (B b:Nat) (acc:List UInt8) (ms:List Int) (v:Value) (w:World) (hI:Lib.IsBuilderF 180 5 B b (Lib.byteCells acc) w) (hlen:acc.length+80<=140737488355328) (T8:B<=w.heap.size)
 (h:w.ownsRow B 21 1 v ms.length (ms.map (Value.int .i32))) (hm:∀a∈ms,Mark a) (hn:ms.length<20):
 Calls prog 233 #[.pointer (some ⟨b,0,none⟩),v] w fun e w'=>e=.returned (.tuple #[])/\Lib.IsBuilderF 180 5 B b (Lib.byteCells (acc++bI (dt ms))) w'/\
  w'.ownsRow B 21 1 v ms.length ((dt ms).map (Value.int .i32))/\Below B w w'/\Kept b v.ownBlock w w':=by
 have hs:=Nt B ms v w h hm hn;have adU:=qM h hI (by decide);have oh:=ph h;have eO:=fun g hg=>(h.lt g hg).1
 have y9:∀a∈dt ms,Mark a:=fun a ha=>hm a ((o9 _ _).1 ha)
 have Ww:=gj ms
 have hv:∃p aU,v=.slice p ms.length aU/\(ms.length=0∨∃g,p=some ⟨g,0,none⟩):=by
  rcases h.2 with⟨rfl,hz⟩|⟨g,aU,cur,rfl,_⟩
  ·exact⟨none,0,by rw[hz],.inl hz⟩
  ·exact⟨_,aU,rfl,.inr ⟨g,rfl⟩⟩
 obtain⟨p,aU,hve,hp⟩:=hv;generalize dt ms=ss at *;clear hm h;generalize nN:ms.length=n at *;have ags:(n:Int)<20:=by omega
 subst hve;have HI:=aq hI;have HK:=aq oh;have HL:=aq eO;have Hm:=aq y9;have Hl:=aq Ww;clear hI oh eO y9 Ww nN;go_enter func233,ntmps233;go_wp2_with fail;refine hs.mono ?_;rintro e w1 ⟨rfl,zQ,oP⟩;clear hs;have dJ:=below_grown oP T8 (an HL)
 have hI1:=oV (an HI) oP (fun g hg=>by
  obtain⟨c,hc⟩:=an HK g hg;exact⟨c,21,(0,0),hc,by decide,by decide⟩)
 have ji:Kept b (Value.slice p n aU).ownBlock w w1:=Kept.grown oP;have rV:=oP.size;clear oP;go_wp2_with fail
 go_loopg [10] (n+1) (fun k i wr=>∃j:Nat,j<=n/\k=n+1-j/\i=.int .i64 j/\Hid (Lib.IsBuilderF 180 5 B b (Lib.byteCells (acc++bI (ss.take j))) wr)/\Hid (wr.ownsRow B 21 1 (.slice p n aU) n (ss.map (Value.int .i32)))/\Below B w wr/\Hid (Kept b (Value.slice p n aU).ownBlock w wr))
 case atStart=>exact⟨0,by omega,rfl,rfl,by rw[take_zero,mo,append_nil];exact hI1,zQ,dJ,ji⟩
 case round=>
  obtain⟨j,hj,hk,rfl,HIr,HOr,hBr,HKr⟩:=hrel;have hBs:B<=wr.heap.size:=Nat.le_trans T8 hBr.size
  by_cases PX:j<n
  ·obtain⟨g,rfl⟩:∃g,p=some ⟨g,0,none⟩:=by
    rcases hp with h0|h0
    ·omega
    ·exact h0
   have Zj:j<ss.length:=by have:=an Hl;omega
   obtain⟨x,Hx⟩:∃x,Hid (ss[j]? = some x):=⟨_,getElem?_eq_getElem Zj⟩;have Zd:Mark x:=an Hm x (mem_of_getElem? (an Hx));have hxr:=qq Zd
   have fk:wr.cell? ⟨g,j,none⟩=some (.int .i32 x):=by
    have:=(an HOr).cells (g:=g) rfl j (.int .i32 x) (by rw[getElem?_map,an Hx];rfl)
    rwa [Tb]at this
   have MB:(j:Int)<(n:Int):=by omega
   have uw:(bI (ss.take j)).length<=2*j:=by
    have h1:=(gV (ss.take j) (fun r hr=>um (an Hm r (mem_of_mem_take hr)))).2;have h2:(ss.take j).length<=j:=by rw[length_take];omega
    omega
   have hW:=rp B b (Lib.byteCells (acc++bI (ss.take j))) x (by omega) (by omega) wr (an HIr) (by rw[Lib.byteCells_length,length_append];omega) hBs;clear Zd hj hI1 zQ dJ ji rV hxr uw Zj;go_wp2_with fail;refine hW.mono ?_;rintro e w2 ⟨rfl,h2,b2,k2⟩
   go_wp2
   go_roundg (n-j)
   case measure=>omega
   case rel=>
    refine⟨j+1,by omega,by omega,by simp,?_,?_,hBr.trans b2,(an HKr).trans (Kept.others k2)⟩
    ·have e1:ss.take (j+1)=ss.take j++[x]:=by rw[take_add_one,an Hx];rfl
     rw[e1,dq,nD,<-append_assoc,Lib.byteCells_append,Lib.byteCells_encodeRune];exact Or.inr h2
    ·exact yb (an HOr) k2 adU (by decide)
  ·have MB:¬(j:Int)<(n:Int):=by omega
   have Gg:ss.take j=ss:=take_of_length_le (by have:=an Hl;omega);have Hjl:=aq Gg;clear Gg
   go_wp2
   go_end0
   refine⟨rfl,?_,an HOr,hBr,an HKr⟩;have:=an HIr;rw[an Hjl]at this;exact this
theorem kZ.later {w w':World} (h:kZ w) {B:Nat} (hb:Below B w w') (hB:7<=B):kZ w':=by
 obtain⟨t,fr,h⟩:=h;exact⟨t,fr,(hb.block 6 (by omega)).trans h⟩
theorem kZ.size {w:World} (h:kZ w):7<=w.heap.size:=by
 obtain⟨t,fr,hT⟩:=h
 rcases Nat.lt_or_ge 6 w.heap.size with h|h
 ·exact h
 ·rw[Array.getElem?_eq_none h]at hT;cases hT
def cQ (r:Int):List Int:=if ik r then [(jj r).2.1,(jj r).2.2]else [r]
theorem l6 (r:Int) (w:World) (hT:kZ w):
 Calls prog 232 #[.int .i32 r] w fun e w'=>∃b,e=.returned (.slice (some ⟨b,0,none⟩) (cQ r).length (cQ r).length)/\Below w.heap.size w w'/\w.heap.size<=b/\b<w'.heap.size/\w'.heap[b]? = some (.cells ((cQ r).map (Value.int .i32)).toArray 21):=by
 have hw:=tA r w hT;unfold cQ;generalize jj r=x at hw ⊢;obtain⟨sg,le,ma⟩:=x;generalize ik r=bb at hw ⊢
 cases bb
 ·go_enter func232,ntmps232
  go_wp2_with (go_at_call 265;refine hw.mono ?_;rintro e w1 ⟨rfl,dJ⟩)
  go_ret;have hs:=dJ.size;exact⟨w1.heap.size+1,rfl,(dJ.alloc hs _).alloc (by simp;omega) _,by omega,by simp,heap_alloc2_new _ _ _⟩
 ·go_enter func232,ntmps232
  go_wp2_with (go_at_call 265;refine hw.mono ?_;rintro e w1 ⟨rfl,dJ⟩)
  go_ret;have hs:=dJ.size;exact⟨w1.heap.size+1,rfl,(dJ.alloc hs _).alloc (by simp;omega) _,by omega,by simp,heap_alloc2_new _ _ _⟩
def Gb (r:Int):Bool:=ik r||qU r||bu r != 0
theorem Re (r:Int) (w:World) (hT:kZ w):
 Calls prog 229 #[.int .i32 r] w fun e w'=>e=.returned (.bool (Gb r))/\Below w.heap.size w w':=by
 have hw:=tA r w hT;have hb:=fun wx=>Ly r wx
 have hc:=fun wx=>ky r wx
 unfold Gb;generalize jj r=x at hw ⊢;obtain⟨sg,le,ma⟩:=x;generalize ik r=bb at hw ⊢;generalize qU r=bz at hb ⊢;generalize bu r=cz at hc ⊢
 cases bb
 ·cases bz
  ·go_enter func229,ntmps229
   go_wp2_with (first|(go_at_call 265;refine hw.mono ?_;rintro e w1 ⟨rfl,dJ⟩)|(go_at_call 266;refine(hb _).mono ?_;rintro e w2 ⟨rfl,rfl⟩)|(go_at_call 231;refine(hc _).mono ?_;rintro e w3 ⟨rfl,rfl⟩))
   all_goals go_ret
   all_goals exact⟨by simp,dJ.alloc dJ.size _⟩
  ·go_enter func229,ntmps229
   go_wp2_with (first|(go_at_call 265;refine hw.mono ?_;rintro e w1 ⟨rfl,dJ⟩)|(go_at_call 266;refine(hb _).mono ?_;rintro e w2 ⟨rfl,rfl⟩)|(go_at_call 231;refine(hc _).mono ?_;rintro e w3 ⟨rfl,rfl⟩))
   all_goals go_ret
   all_goals exact⟨by simp,dJ.alloc dJ.size _⟩
 ·go_enter func229,ntmps229
  go_wp2_with (first|(go_at_call 265;refine hw.mono ?_;rintro e w1 ⟨rfl,dJ⟩)|(go_at_call 266;refine(hb _).mono ?_;rintro e w2 ⟨rfl,rfl⟩)|(go_at_call 231;refine(hc _).mono ?_;rintro e w3 ⟨rfl,rfl⟩))
  all_goals go_ret
  all_goals exact⟨by simp,dJ.alloc dJ.size _⟩
theorem sF:∀x∈tab,qU x.1=false/\bu x.1=0/\qU x.2.1=true/\0<bu x.2.2/\kW x.1=x.1/\(-2147483648<=x.2.1/\x.2.1<=2147483647)/\(-2147483648<=x.2.2/\x.2.2<=2147483647):=by decide +kernel
theorem mO (r:Int) (h:ik r=true):jj r∈tab/\(jj r).1=r:=by
 unfold ik at h;unfold jj;obtain⟨x,hx⟩:=Option.isSome_iff_exists.1 h;rw[hx];exact⟨mem_of_find?_eq_some hx,by simpa using find?_some hx⟩
theorem uO (r:Int) (h:qU r=true):bu r=0:=by
 unfold qU at h;have h:=of_decide_eq_true h;unfold bu;rw[if_neg (by omega),if_neg (by omega)]
theorem K8 (r:Int) (h0:-2147483648<=r) (h1:r<=2147483647):-2147483648<=kW r/\kW r<=2147483647:=by
 unfold kW
 split
 ·omega
 ·split<;>omega
theorem Lq (r:Int):bu r=0∨bu r=202∨bu r=230:=by
 unfold bu
 split
 ·omega
 ·split<;>omega
def rv (st:List Int×List Int) (p:Int):List Int×List Int:=if bu p=0 then(st.1++dt st.2++[p],[])else(st.1,st.2++[p])
def fV (ps:List Int):List Int×List Int:=ps.foldl rv ([],[])
def bT (rs:List Int):List Int:=rs.flatMap cQ
def ff (rs:List Int):List Int:=(fV (bT rs)).1++dt (fV (bT rs)).2
def marks (ps:List Int):Nat:=(ps.filter (fun p=>bu p != 0)).length
theorem CW (ps:List Int) (p:Int):fV (ps++[p])=rv (fV ps) p:=by simp[fV]
theorem G6 (rs:List Int) (r:Int):bT (rs++[r])=bT rs++cQ r:=by simp[bT]
theorem mG (a b:List Int):marks (a++b)=marks a+marks b:=by simp[marks]
theorem jK {p:Int} (h:bu p≠0):Mark p:=by
 rcases Lq p with h1|h1|h1
 ·exact absurd h1 h
 ·exact .inl h1
 ·exact .inr h1
theorem lz (ps:List Int):(∀a∈(fV ps).2,Mark a)/\(fV ps).2.length<=marks ps/\(fV ps).1.length+(fV ps).2.length=ps.length/\(∀a,a∈(fV ps).1++(fV ps).2->a∈ps):=by
 suffices h:∀(l:List Int),l.reverse=ps->_ from h ps.reverse (by simp)
 intro l
 induction l generalizing ps with
 |nil=>intro h;simp at h;subst h;simp[fV]
 |cons p l ih=>
  intro h;have hp:ps=l.reverse++[p]:=by rw[<-h];simp
  obtain⟨h1,h2,h3,h4⟩:=ih l.reverse rfl;rw[hp,CW,mG];unfold rv
  by_cases hc:bu p=0
  ·rw[if_pos hc];refine⟨by simp,by simp,?_,?_⟩
   ·simp only[length_append,length_cons,length_nil,gj];omega
   ·intro a ha;simp only[append_nil,mem_append,mem_singleton,o9]at ha h4 ⊢
    rcases ha with(ha|ha)|ha
    ·exact .inl (h4 a (.inl ha))
    ·exact .inl (h4 a (.inr ha))
    ·exact .inr ha
  ·rw[if_neg hc];have hm:marks [p]=1:=by simp[marks,hc]
   refine⟨?_,?_,?_,?_⟩
   ·intro a ha
    rcases mem_append.1 ha with ha|ha
    ·exact h1 a ha
    ·simp at ha;subst ha;exact jK hc
   ·simp only[length_append,length_cons,length_nil];omega
   ·simp only[length_append,length_cons,length_nil];omega
   ·intro a ha;simp only[mem_append,mem_singleton]at ha h4 ⊢
    rcases ha with ha|ha|ha
    ·exact .inl (h4 a (.inl ha))
    ·exact .inl (h4 a (.inr ha))
    ·exact .inr ha
theorem Np:∀x∈tab,(0<=x.2.1/\x.2.1<128)/\(768<=x.2.2/\x.2.2<2048):=by decide +kernel
theorem uZ {r:Int} (h:bA r):∀p∈cQ r,bA p:=by
 intro p hp;unfold cQ at hp
 cases hB:ik r with
 |false=>rw[hB]at hp;simp at hp;subst hp;exact h
 |true=>
  rw[hB]at hp;obtain⟨hm,_⟩:=mO r hB;have:=Np _ hm;simp at hp
  rcases hp with rfl|rfl
  ·exact⟨by omega,by omega⟩
  ·exact⟨by omega,by omega⟩
theorem GF (r:Int):∀j x,(cQ r)[j]? = some x->bu x≠0->j+1=(cQ r).length:=by
 intro j x hx hc;unfold cQ at hx ⊢
 cases hB:ik r with
 |false=>
  rw[hB]at hx
  cases j with
  |zero=>rfl
  |succ j=>simp at hx
 |true=>
  rw[hB]at hx;obtain⟨hm,_⟩:=mO r hB;have:=uO _ (sF _ hm).2.2.1
  match j with
  | 0=>simp at hx;subst hx;exact absurd this hc
  | 1=>rfl
  |j+2=>simp at hx
theorem ql {rs:List Int} (h:∀r∈rs,bA r):∀p∈bT rs,bA p:=by
 intro p hp;obtain⟨r,hr,hp⟩:=List.mem_flatMap.1 hp;exact uZ (h r hr) p hp
theorem Ae (r:Int):1<=(cQ r).length/\(cQ r).length<=2:=by
 unfold cQ
 split<;>simp
theorem mZ (rs:List Int):(bT rs).length<=2*rs.length:=by
 induction rs with
 |nil=>simp[bT]
 |cons r rs ih=>have:=Ae r;simp only[bT,flatMap_cons,length_append,length_cons]at ih ⊢;omega
structure ow (w:World) (s:ByteArray) (B:Nat) (wr:World) (pos:Nat) (v:Value) (st:List Int×List Int):Prop where
 bld:Lib.IsBuilderF 180 5 B B (Lib.byteCells (bI st.1)) wr
 it:wr.heap[B+1]? = some (.stringIter s pos)
 bel:Below B w wr
 own:wr.ownsRow B 21 1 v st.2.length (st.2.map (Value.int .i32))
theorem kV {w w':World} (h:Below w.heap.size w w') (row:Option Nat):w.grownBy w' row:=
 ⟨h.os,h.tape,h.output,h.size,fun k hk _=>h.block k hk⟩
theorem ow.later {w wr w1:World} {s:ByteArray} {B pos:Nat} {v:Value} {st:List Int×List Int} (h:ow w s B wr pos v st) (hb:Below wr.heap.size wr w1) (hB:B<=wr.heap.size):ow w s B w1 pos v st where
 bld:=oV h.bld (kV hb none) (fun g hg=>by cases hg)
 it:=(hb.block _ (Array.getElem?_eq_some_iff.1 h.it).1).trans h.it
 bel:=h.bel.trans (hb.mono hB)
 own:=h.own.kept (kV hb none) (by cases hv:v.ownBlock<;>simp)
theorem G9 {w:World} {au:Nat} {v:Value} {n:Nat} {xs:List Value} (h:w.ownsRow au 21 1 v n xs) {k:Nat} {s:ByteArray} {pos:Nat} (hk:w.heap[k]? = some (.stringIter s pos)) (p:Nat):(w.iterAt k s p).ownsRow au 21 1 v n xs:=by
 obtain⟨h1,h2⟩:=h;refine⟨h1,?_⟩
 rcases h2 with h2|⟨g,aU,cur,a,b,c,d⟩
 ·exact .inl h2
 ·refine .inr ⟨g,aU,cur,a,b,?_,d⟩
  have dr:g≠k:=by intro e;rw[e,hk]at c;cases c
  rw[Lib.iterAt_other _ _ _ _ _ dr];exact c
theorem ow.ar {w wr:World} {s:ByteArray} {B pos:Nat} {v:Value} {st:List Int×List Int} (h:ow w s B wr pos v st) (pos':Nat):ow w s B (wr.iterAt (B+1) s pos') pos' v st where
 bld:=h.bld.iterAt h.it pos'
 it:=Lib.iterAt_heap _ _ _ _ _ h.it
 bel:=Lib.below_iterAt h.bel (by omega) _ _
 own:=G9 h.own h.it pos'
theorem XF:(prog.info? 21).map (fun i=>(i.zero,i.size,i.bytes))=some (some (.int .i32 0),1,4):=by kernel_rfl
theorem pf (rs:List Int) (w:World) (hT:kZ w) (hs:∀r∈rs,bA r) (hl:rs.length<=1000) (hm:marks (bT rs)<20):
 Calls prog 185 #[.string (bL rs)] w fun e w'=>e=.returned (.string (bL (ff rs)))/\Below w.heap.size w w':=by
 obtain⟨i0,hi,hz0,fE,fD⟩:=info_parts XF;have XO:=hT.size;have HS:=aq hs;have HM:=aq hm;clear hs hm;go_enter func185,ntmps185;go_wp2_with fail
 go_loopg [4] (rs.length+1) (fun k v wr=>∃(done rest:List Int),k=rest.length+1/\Hid (rs=done++rest)/\ow w (bL rs) w.heap.size wr (bI done).length v (fV (bT done)))
 case atStart=>refine⟨[],rs,rfl,rfl,⟨(Lib.IsBuilderF.of (Lib.fresh_isBuilder 180 5 w)).alloc _,?_,((Below.refl _ w).alloc (Nat.le_refl _) _).alloc (by simp) _,World.ownsRow_nil _ _ _ _⟩⟩;have:=World.iter_heap (w.alloc (.cells #[.pointer none,.slice none 0 0] 180)) (bL rs) 0;simpa[bI]using this
 case round=>
  obtain⟨done,rest,hk,HR,gz⟩:=hrel;have hBs:w.heap.size+1<wr.heap.size:=(Array.getElem?_eq_some_iff.1 gz.it).1;have hf:=lz (bT done);have CA:=mZ done
  have hlen:(bI (fV (bT done)).1).length<=4000:=by
   have pV:∀r∈done,bA r:=fun x hx=>an HS x (by rw[an HR];simp[hx])
   have h1:=(gV (fV (bT done)).1 (fun p hp=>ql pV p (hf.2.2.2 p (by simp[hp])))).2;have h2:=hf.2.2.1;have h3:done.length<=rs.length:=by rw[an HR];simp
   omega
  cases rest with
  |nil=>
   have Mq:rs=done:=by have:=an HR;simpa using this
   have AZ:¬(bI done).length<(bL rs).size:=by rw[ej,Mq];omega
   have sU:∀ty,(Instr.next (.pointer (some ⟨w.heap.size+1,0,none⟩)) true ty).run prog wr=_:=fun ty=>Lib.run_next_end_at wr (w.heap.size+1) (bL rs) (bI done).length ty gz.it AZ
   have Mx:(fV (bT done)).2.length<20:=by have:=an HM;rw[Mq]at this;omega
   have hW:=o6 w.heap.size w.heap.size (bI (fV (bT done)).1) (fV (bT done)).2 u4 wr gz.bld (by omega) (by omega) gz.own hf.1 Mx
   have xJ:Hid (bI (fV (bT done)).1++bI (dt (fV (bT done)).2)=bI (ff rs)):=by show _=_;rw[Mq,<-dq];rfl
   have uG:=gz.bel;clear gz hf CA hlen AZ Mx Mq;generalize bI (fV (bT done)).1++bI (dt (fV (bT done)).2)=out at *;go_wp2_with fail;refine hW.mono ?_;rintro e w1 ⟨rfl,hI1,_,dJ,_⟩;go_wp2_with fail;refine(Qr w.heap.size w.heap.size out w1 hI1 (by have:=dJ.size;omega)).mono ?_;rintro e w2 ⟨rfl,_,cC,_⟩
   go_wp2
   go_ret;rw[an xJ];exact⟨rfl,(uG.trans dJ).trans cC⟩
  |cons r rest=>
   have pV:bA r:=an HS r (by rw[an HR];simp)
   have RU:Utf8.decode (bL rs) (bI done).length=(r.toNat,(Lib.encodeRune r).length):=by rw[an HR];exact decode_at done r rest pV
   have hp:(bI done).length<(bL rs).size:=by rw[ej,an HR,dq,cK,length_append,length_append];have:=qG pV;omega
   have sU:∀ty,(Instr.next (.pointer (some ⟨w.heap.size+1,0,none⟩)) true ty).run prog wr=.ok (.tuple #[.bool true,.int .i64 (bI done).length,.int .i32 r]) (wr.iterAt (w.heap.size+1) (bL rs) (bI (done++[r])).length):=fun ty=>by have h1:=Lib.run_next_any_at (P:=prog) wr (w.heap.size+1) (bL rs) (bI done).length ty gz.it hp;rw[RU]at h1;rw[h1,dq,nD,length_append,Int.toNat_of_nonneg pV.1]
   have rU:=gz.ar (bI (done++[r])).length;have hT0:kZ (wr.iterAt (w.heap.size+1) (bL rs) (bI (done++[r])).length):=hT.later rU.bel XO;have hS:=l6 r _ hT0;have XP:(wr.iterAt (w.heap.size+1) (bL rs) (bI (done++[r])).length).heap.size=wr.heap.size:=Lib.iterAt_size _ _ _ _;clear gz RU hp hT0;generalize wr.iterAt (w.heap.size+1) (bL rs) (bI (done++[r])).length=w0 at *;go_wp2_with fail;refine hS.mono ?_;rintro e w1 ⟨bk,rfl,dJ,Zl,eO,dW⟩;have XQ:=rU.later dJ (by omega);have RJ:=Ae r;have hps:Hid (∀p∈cQ r,bA p):=uZ pV
   have Ds:Hid (∀j x,(cQ r)[j]? = some x->bu x≠0->j+1=(cQ r).length):=GF r
   have X2:Hid (∀j,(fV (bT done++(cQ r).take j)).2.length<20):=fun j=>by
    have h1:=(lz (bT done++(cQ r).take j)).2.1;have h2:=an HM;rw[an HR,show done++r::rest=(done++[r])++rest by simp]at h2;simp only[bT,flatMap_append,flatMap_cons,flatMap_nil,append_nil,mG]at h2 h1 ⊢
    have h3:marks ((cQ r).take j)<=marks (cQ r):=by have:=mG ((cQ r).take j) ((cQ r).drop j);rw[take_append_drop]at this;omega
    omega
   have YR:Hid (bT (done++[r])=bT done++cQ r):=G6 done r
   have J6:Hid (rs=(done++[r])++rest):=by show _=_;rw[an HR];simp
   have XL:u4.ownBlock≠some bk:=fun e=>by have:=(rU.own.lt bk e).2;omega
   have Wv:Hid (∀j,(bI (fV (bT done++(cQ r).take j)).1).length<=8000):=fun j=>by
    have ad1:∀p∈bT done++(cQ r).take j,bA p:=fun p hp=>by
     rcases mem_append.1 hp with h|h
     ·exact ql (fun x hx=>an HS x (by rw[an HR];simp[hx])) p h
     ·exact an hps p (mem_of_mem_take h)
    have h0:=lz (bT done++(cQ r).take j);have h1:=(gV (fV (bT done++(cQ r).take j)).1 (fun p hp=>ad1 p (h0.2.2.2 p (by simp[hp])))).2;have h2:=h0.2.2.1;have h3:done.length<=rs.length:=by rw[an HR];simp
    have h4:((cQ r).take j).length<=2:=by rw[length_take];omega
    rw[length_append]at h2;omega
   have aaI:Hid (∀j,∀a∈(fV (bT done++(cQ r).take j)).2,Mark a):=fun j=>(lz _).1
   have WR:w.heap.size+1<w1.heap.size:=by have:=dJ.size;omega
   clear rU hS hf CA hlen sU;obtain⟨pos',Hpos⟩:∃pos',Hid ((bI (done++[r])).length=pos'):=⟨_,rfl⟩;rw[an Hpos]at XQ;generalize cQ r=ps at *;generalize bT done=pd at *;go_wp2_with fail
   go_loopg [4,17] (ps.length+1) (fun k2 v i wi=>∃j:Nat,j<=ps.length/\k2=ps.length+1-j/\i=.int .i64 j/\ow w (bL rs) w.heap.size wi pos' v (fV (pd++ps.take j))/\Hid (j<ps.length->wi.heap[bk]? = some (.cells (ps.map (Value.int .i32)).toArray 21)/\v.ownBlock≠some bk))
   case atStart=>exact⟨0,Nat.zero_le _,rfl,rfl,by rw[take_zero,append_nil];exact XQ,fun _=>⟨dW,XL⟩⟩
   case round=>
    obtain⟨j,hj,ll,rfl,JT,Ty⟩:=hrel
    by_cases PX:j<ps.length
    ·have MB:(j:Int)<(ps.length:Int):=by omega
     have Gc:=an Ty PX;obtain⟨x,Hx⟩:∃x,Hid (ps[j]? = some x):=⟨_,getElem?_eq_getElem PX⟩
     have fk:wr.cell? ⟨bk,j,none⟩=some (.int .i32 x):=by rw[cell_of_row _ _ _ _ _ _ Gc.1];simp[getElem?_map,an Hx]
     have XG:=an hps x (mem_of_getElem? (an Hx));have XJ:=XG.1;have me:=XG.2
     have tT:Hid (fV (pd++ps.take (j+1))=rv (fV (pd++ps.take j)) x):=by show _=_;rw[take_add_one,an Hx,<-CW];simp
     have T8:w.heap.size+1<wr.heap.size:=(Array.getElem?_eq_some_iff.1 JT.it).1
     by_cases hc:bu x=0
     ·have mW:Hid (rv (fV (pd++ps.take j)) x=((fV (pd++ps.take j)).1++dt (fV (pd++ps.take j)).2++[x],[])):=by
       show _=_;unfold rv;rw[if_pos hc]
      have hC:=ky x wr;rw[hc]at hC;have hW:=o6 w.heap.size w.heap.size (bI (fV (pd++ps.take j)).1) (fV (pd++ps.take j)).2 u4 wr JT.bld (by have:=an Wv j;omega) (by omega) JT.own (an aaI j) (an X2 j);have agr:=an Wv j;have hmj:=an X2 j
      have gX:(∃g aU,u4=.slice (some ⟨g,0,none⟩) (fV (pd++ps.take j)).2.length aU)∨(u4=.slice none 0 0/\(fV (pd++ps.take j)).2=[]):=by
       rcases JT.own.2 with⟨h1,h2⟩|⟨g,aU,cur,h1,_⟩
       ·exact .inr ⟨h1,eq_nil_of_length_eq_zero h2⟩
       ·exact .inl ⟨g,aU,h1⟩
      have hit:=JT.it;have hbj:=JT.bel;have qZ:=an aaI j;have oh:=ph JT.own;have Rm:=qM JT.own JT.bld (by decide);clear hc JT;generalize (fV (pd++ps.take j)).1=a at *;generalize (fV (pd++ps.take j)).2=m at *;have hml:(m.length:Int)<20:=by omega
      have Wu:(bI (a++dt m)).length+4<=140737488355328:=by have h1:=(gV (dt m) (fun y hy=>um (qZ y ((o9 _ _).1 hy)))).2;rw[gj]at h1;rw[dq,length_append];omega
      rcases gX with⟨g,aU,hu⟩|⟨hu,hm0⟩
      ·have aeC:=oh g (by rw[hu];rfl);rw[hu]at hW Gc Rm ⊢;go_wp2_with fail;refine hC.mono ?_;rintro e wx ⟨rfl,dE⟩;have dE:=dE.symm;subst dE;go_wp2_with fail;refine hW.mono ?_;rintro e w2 ⟨rfl,K5,hO2,cC,hk2'⟩;have Yj:Lib.IsBuilderF 180 5 w.heap.size w.heap.size (Lib.byteCells (bI (a++dt m))) w2:=by rw[dq];exact K5
       have hR:=rp w.heap.size w.heap.size (Lib.byteCells (bI (a++dt m))) x (by omega) (by omega) w2 Yj (by rw[Lib.byteCells_length];exact Wu) (by have:=cC.size;omega);go_wp2_with fail;refine hR.mono ?_;rintro e w3 ⟨rfl,hI3,hQ,hk3⟩
       go_wp2
       go_roundg (ps.length-j)
       case measure=>omega
       case rel=>
        have uF:∀k o,wr.heap[k]? = some o->k≠w.heap.size->some k≠some g->(∀c fz,o≠.cells c 5 fz)->w3.heap[k]? = some o:=fun k o h1 h2 h3 h4=>hk3 k o (hk2' k o h1 h2 h3 h4) (fun e=>h2 (Option.some.inj e)) h4
        refine⟨j+1,by omega,by omega,by simp,?_,fun RG=>⟨?_,Gc.2⟩⟩
        ·rw[an tT,an mW];refine⟨?_,?_,(hbj.trans cC).trans hQ,?_⟩
         ·show Lib.IsBuilderF 180 5 w.heap.size w.heap.size (Lib.byteCells (bI (a++dt m++[x]))) w3;rw[dq (a++dt m) [x],nD,Lib.byteCells_append,Lib.byteCells_encodeRune];exact Or.inr hI3
         ·refine uF _ _ hit (by omega) ?_ (fun _ _ e=>by cases e);intro e;have e1:w.heap.size+1=g:=Option.some.inj e;rw[e1]at hit;obtain⟨c,hc⟩:=aeC;rw[hit]at hc
          cases hc
         ·have h5:=yb hO2 hk3 (by exact Rm) (by decide);obtain⟨_,h6⟩:=h5;refine⟨rfl,?_⟩
          rcases h6 with⟨h7,_⟩|⟨g',cap',cur',h7,h8,h9,pH,tN,pX,_⟩
          ·cases h7
          ·simp only[Value.slice.injEq,Option.some.injEq,Addr.mk.injEq,true_and,and_true]at h7;obtain⟨rfl,rfl⟩:=h7;exact .inr ⟨g,aU,cur',rfl,h8,h9,Nat.zero_le _,tN,pX,by simp⟩
        ·exact uF _ _ Gc.1 (by omega) (fun e=>Gc.2 e.symm) (fun c fz e=>by simp only[Obj.cells.injEq]at e;exact absurd e.2.1 (by decide))
      ·rw[hu]at hW Gc Rm ⊢;go_wp2_with fail;refine hC.mono ?_;rintro e wx ⟨rfl,dE⟩;have dE:=dE.symm;subst dE;go_wp2_with fail;refine hW.mono ?_;rintro e w2 ⟨rfl,K5,hO2,cC,hk2'⟩;have Yj:Lib.IsBuilderF 180 5 w.heap.size w.heap.size (Lib.byteCells (bI (a++dt m))) w2:=by rw[dq];exact K5
       have hR:=rp w.heap.size w.heap.size (Lib.byteCells (bI (a++dt m))) x (by omega) (by omega) w2 Yj (by rw[Lib.byteCells_length];exact Wu) (by have:=cC.size;omega);go_wp2_with fail;refine hR.mono ?_;rintro e w3 ⟨rfl,hI3,hQ,hk3⟩
       go_wp2
       go_roundg (ps.length-j)
       case measure=>omega
       case rel=>
        have uF:∀k o,wr.heap[k]? = some o->k≠w.heap.size->(∀c fz,o≠.cells c 5 fz)->w3.heap[k]? = some o:=fun k o h1 h2 h4=>hk3 k o (hk2' k o h1 h2 (fun e=>by cases e) h4) (fun e=>h2 (Option.some.inj e)) h4
        refine⟨j+1,by omega,by omega,by simp,?_,fun RG=>⟨?_,Gc.2⟩⟩
        ·rw[an tT,an mW];refine⟨?_,?_,(hbj.trans cC).trans hQ,?_⟩
         ·show Lib.IsBuilderF 180 5 w.heap.size w.heap.size (Lib.byteCells (bI (a++dt m++[x]))) w3;rw[dq (a++dt m) [x],nD,Lib.byteCells_append,Lib.byteCells_encodeRune];exact Or.inr hI3
         ·exact uF _ _ hit (by omega) (fun _ _ e=>by cases e)
         ·exact World.ownsRow_nil _ _ _ _
        ·exact uF _ _ Gc.1 (by omega) (fun c fz e=>by simp only[Obj.cells.injEq]at e;exact absurd e.2.1 (by decide))
     ·have mW:Hid (rv (fV (pd++ps.take j)) x=((fV (pd++ps.take j)).1,(fV (pd++ps.take j)).2++[x])):=by
       show _=_;unfold rv;rw[if_neg hc]
      have abX:=aq (an Ds j x (an Hx) hc);have hC:=ky x wr;have Yc:(bu x==0)=false:=by simpa using hc
      have agF:(bu x != 0)=true:=by simpa using hc
      have hmj:=an X2 j;have nI:=aq JT.own;have afb:=aq JT;have hbj:=JT.bel;clear hc JT dW XQ;generalize bu x=cx at *;generalize hmlen:(fV (pd++ps.take j)).2.length=nm at *;have HML:=aq hmlen;clear hmlen;go_wp2_with fail;refine hC.mono ?_;rintro e wx ⟨rfl,dE⟩;have dE:=dE.symm;subst dE
      go_wp2_with (at_builtin;refine wpList_append_own _ rfl _ _ 301 rfl w.heap.size 21 i0 (.int .i32 0) 1 4 underlying301 hi hz0 fE fD rfl (by decide) _ _ _ rfl ((an nI).alloc _) ⟨wr.heap.size,0,none⟩ 1 1 [.int .i32 x] rfl rfl (cell_one_new _ _ _) (fun y hy=>by simp at hy;subst hy;rfl) (by unfold maxLen;omega) (by omega) (by simp;omega) ?_;intro v' w3 yn KR agn)
      go_roundg (ps.length-j)
      case measure=>omega
      case rel=>
       have aeq:=an abX;refine⟨j+1,by omega,by omega,by simp,?_,fun RG=>by omega⟩;rw[an tT,an mW];have Ou:=(an afb).later ((Below.refl _ wr).alloc (Nat.le_refl _) (.cells #[Value.int .i32 x] 21)) (by omega);have zy:=ph Ou.own;refine⟨oV Ou.bld KR (fun g hg=>?_),?_,Ou.bel.trans (below_grown KR (by simp;omega) (fun g hg=>(Ou.own.lt g hg).1)),?_⟩
       ·obtain⟨c,hc⟩:=zy g hg;exact⟨c,21,(0,0),hc,by decide,by decide⟩
       ·rw[KR.block _ (by simp;omega) ?_]
        ·exact Ou.it
        ·intro e;obtain⟨c,hc⟩:=zy _ e.symm;rw[Ou.it]at hc
         cases hc
       ·rw[<-an HML]at yn
        simpa using yn
    ·have MB:¬(j:Int)<(ps.length:Int):=by omega
     have hje:ps.take j=ps:=take_of_length_le (by omega);have aar:=JT;rw[hje]at aar;clear JT hje
     go_wp2
     go_roundg (rest.length+1)
     case measure=>omega
     case rel=>exact⟨done++[r],rest,rfl,J6,by rw[an YR,an Hpos];exact aar⟩
end Go.Proofs.YtphcnmlbieokoaaGreatDoor
namespace Go.Proofs
open Go.Shelf
open List
open Go.Proofs.Tryz
def Tryz.lays119_ren:Go.Shelf.Ren:=⟨fun | 119=>250|n=>n,fun | 21=>21 | 4=>4|n=>n,fun|n=>n⟩
theorem Tryz.lays119:Go.Proofs.Lays.n119 prog Tryz.lays119_ren:={
 mixed:=by kernel_rfl
 f119:=ad func250
 t4:=underlying4
 a4:=isAgg4
 z4:=sizeOf4
 v4:=zeroValue4
 t21:=underlying21
 a21:=isAgg21
 z21:=sizeOf21
 v21:=zeroValue21}
theorem Tryz.utf8_ValidRune (r:Int) (w:World):
 Calls prog 250 #[.int .i32 r] w fun e w'=>e=.returned (.bool (Lib.validRune r))/\w'=w:=Any.utf8_ValidRune Tryz.lays119 r w
def Tryz.lays106_ren:Go.Shelf.Ren:=⟨fun | 106=>50 | 213=>94 | 265=>148|n=>n,fun | 9=>9 | 3=>3|n=>n,fun|n=>n⟩
theorem Tryz.lays106:Go.Proofs.Lays.n106 prog Tryz.lays106_ren:={
 mixed:=by kernel_rfl
 f106:=ad func50
 f213:=ad func94
 f265:=ad func148
 t3:=underlying3
 a3:=isAgg3
 z3:=sizeOf3
 v3:=zeroValue3
 t9:=underlying9
 a9:=isAgg9
 z9:=sizeOf9
 v9:=zeroValue9}
open Go.RowKit in
theorem Tryz.strings_Compare (a b:ByteArray) (w:World):
 Calls prog 50 #[.string a,.string b] w fun e w'=>e=.returned (.int .i64 (Lib.compareBytes a.data.toList b.data.toList))/\w'=w:=Any.strings_Compare Tryz.lays106 a b w
def Tryz.lays137_ren:Go.Shelf.Ren:=⟨fun | 137=>249 | 217=>278 | 266=>287|n=>n,fun | 9=>9 | 5=>5 | 3=>3|n=>n,fun|n=>n⟩
theorem Tryz.lays137:Go.Proofs.Lays.n137 prog Tryz.lays137_ren:={
 mixed:=by kernel_rfl
 f137:=ad func249
 f217:=ad func278
 f266:=ad func287
 t3:=underlying3
 a3:=isAgg3
 z3:=sizeOf3
 v3:=zeroValue3
 t5:=underlying5
 a5:=isAgg5
 z5:=sizeOf5
 v5:=zeroValue5
 t9:=underlying9
 a9:=isAgg9
 z9:=sizeOf9
 v9:=zeroValue9}
open Go.RowKit in
theorem Tryz.strings_IndexByte (s:ByteArray) (c:Int) (w:World):
 Calls prog 249 #[.string s,.int .u8 c] w fun e w'=>e=.returned (.int .i64 (Lib.indexByte s.data.toList c.toNat.toUInt8))/\w'=w:=Any.strings_IndexByte Tryz.lays137 s c w
def Tryz.lays195_ren:Go.Shelf.Ren:=⟨fun | 195=>184|n=>n,fun | 9=>9 | 3=>3 | 0=>0 | 4=>4|n=>n,fun|n=>n⟩
theorem Tryz.lays195:Go.Proofs.Lays.n195 prog Tryz.lays195_ren:={
 mixed:=by kernel_rfl
 f195:=ad func184
 t0:=underlying0
 a0:=isAgg0
 z0:=sizeOf0
 v0:=zeroValue0
 t3:=underlying3
 a3:=isAgg3
 z3:=sizeOf3
 v3:=zeroValue3
 t4:=underlying4
 a4:=isAgg4
 z4:=sizeOf4
 v4:=zeroValue4
 t9:=underlying9
 a9:=isAgg9
 z9:=sizeOf9
 v9:=zeroValue9}
open Go.RowKit in
theorem Tryz.utf8_RuneCountInString (s:ByteArray) (w:World) (hs:s.size<9223372036854775807):
 Calls prog 184 #[.string s] w fun e w'=>e=.returned (.int .i64 (Lib.runeCount s))/\∃pos,w'=w.iter s pos:=Any.utf8_RuneCountInString Tryz.lays195 s w hs
def Tryz.lays155_ren:Go.Shelf.Ren:=⟨fun | 155=>134 | 154=>198 | 138=>243 | 165=>130 | 143=>244 | 166=>104 | 197=>230 | 169=>106 | 195=>184 | 218=>276 | 240=>160 | 241=>197 | 219=>277 | 260=>267 | 276=>212 | 277=>242 | 217=>278 | 225=>252 | 224=>251 | 267=>286 | 266=>287 | 314=>293|n=>n,fun | 9=>9 | 3=>3 | 4=>4 | 72=>180 | 0=>0 | 76=>143 | 105=>298 | 21=>21 | 5=>5 | 70=>177 | 20=>20 | 37=>178 | 75=>30 | 127=>231 | 164=>276 | 46=>167 | 119=>293 | 139=>296 | 138=>295 | 146=>259 | 51=>214 | 80=>183|n=>n,fun | 1=>0 | 3=>3 | 4=>4|n=>n⟩
theorem Tryz.lays155:Go.Proofs.Lays.n155 prog Tryz.lays155_ren:={
 mixed:=by kernel_rfl
 f138:=ad func243
 f143:=ad func244
 f154:=ad func198
 f155:=ad func134
 f165:=ad func130
 f166:=ad func104
 f169:=ad func106
 f195:=ad func184
 f197:=ad func230
 f217:=ad func278
 f218:=ad func276
 f219:=ad func277
 f224:=ad func251
 f225:=ad func252
 f240:=ad func160
 f241:=ad func197
 f260:=ad func267
 f266:=ad func287
 f267:=ad func286
 f276:=ad func212
 f277:=ad func242
 f314:=ad func293
 t0:=underlying0
 a0:=isAgg0
 z0:=sizeOf0
 v0:=zeroValue0
 t3:=underlying3
 a3:=isAgg3
 z3:=sizeOf3
 v3:=zeroValue3
 t4:=underlying4
 a4:=isAgg4
 z4:=sizeOf4
 v4:=zeroValue4
 t5:=underlying5
 a5:=isAgg5
 z5:=sizeOf5
 v5:=zeroValue5
 t9:=underlying9
 a9:=isAgg9
 z9:=sizeOf9
 v9:=zeroValue9
 t20:=underlying20
 a20:=isAgg20
 z20:=sizeOf20
 v20:=zeroValue20
 t21:=underlying21
 a21:=isAgg21
 z21:=sizeOf21
 v21:=zeroValue21
 t37:=underlying178
 a37:=isAgg178
 z37:=sizeOf178
 v37:=zeroValue178
 t46:=underlying167
 a46:=isAgg167
 z46:=sizeOf167
 v46:=zeroValue167
 t51:=underlying214
 a51:=isAgg214
 z51:=sizeOf214
 v51:=zeroValue214
 t70:=underlying177
 a70:=isAgg177
 z70:=sizeOf177
 v70:=zeroValue177
 t72:=underlying180
 a72:=isAgg180
 z72:=sizeOf180
 v72:=zeroValue180
 t75:=underlying30
 a75:=isAgg30
 z75:=sizeOf30
 v75:=zeroValue30
 t76:=underlying143
 a76:=isAgg143
 z76:=sizeOf143
 v76:=zeroValue143
 t105:=underlying298
 a105:=isAgg298
 z105:=sizeOf298
 v105:=zeroValue298
 t119:=underlying293
 a119:=isAgg293
 z119:=sizeOf293
 t127:=underlying231
 a127:=isAgg231
 z127:=sizeOf231
 v127:=zeroValue231
 t138:=underlying295
 a138:=isAgg295
 z138:=sizeOf295
 v138:=zeroValue295
 t139:=underlying296
 a139:=isAgg296
 z139:=sizeOf296
 v139:=zeroValue296
 t146:=underlying259
 a146:=isAgg259
 z146:=sizeOf259
 v146:=zeroValue259
 t164:=underlying276
 a164:=isAgg276
 z164:=sizeOf276
 v164:=zeroValue276
 g1:=by kernel_rfl
 g3:=by kernel_rfl
 g4:=by kernel_rfl}
theorem Tryz.wC:Builder.Extra prog Tryz.lays155_ren:={
 sizeBuilder:=by kernel_rfl
 liesBuilder:=by kernel_rfl
 t5:=underlying5
 a5:=isAgg5
 z5:=sizeOf5
 v5:=zeroValue5
 infoByte:=by kernel_rfl
 cellsByte:=by kernel_rfl
 sizeByte:=by kernel_rfl
 neB5:=by decide}
open Go.RowKit Go.Lib in
theorem Tryz.strings_ReplaceAll (s old new:ByteArray) (m:Int) (w:World) (hs:s.size<4294967281) (hm:w.cell? ⟨0,0,none⟩=some (.int .i64 m)) (h1:1<=old.size) (hlen:s.size+Lib.countB s old*new.size<=140737488355328):
 Calls prog 134 #[.string s,.string old,.string new] w fun e w'=>
  e=.returned (.string ⟨(Lib.replaceAll s.data.toList old.data.toList new.data.toList).toArray⟩)/\Below w.heap.size w w':=Any.strings_ReplaceAll Tryz.lays155 Tryz.wC s old new m w hs hm h1 hlen
def Tryz.lays152_ren:Go.Shelf.Ren:=⟨fun | 152=>201 | 137=>249 | 119=>250 | 224=>251 | 225=>252 | 217=>278 | 266=>287|n=>n,fun | 9=>9 | 21=>21 | 3=>3 | 4=>4 | 5=>5 | 0=>0 | 46=>167|n=>n,fun|n=>n⟩
theorem Tryz.lays152:Go.Proofs.Lays.n152 prog Tryz.lays152_ren:={
 mixed:=by kernel_rfl
 f119:=ad func250
 f137:=ad func249
 f152:=ad func201
 f217:=ad func278
 f224:=ad func251
 f225:=ad func252
 f266:=ad func287
 t0:=underlying0
 a0:=isAgg0
 z0:=sizeOf0
 v0:=zeroValue0
 t3:=underlying3
 a3:=isAgg3
 z3:=sizeOf3
 v3:=zeroValue3
 t4:=underlying4
 a4:=isAgg4
 z4:=sizeOf4
 v4:=zeroValue4
 t5:=underlying5
 a5:=isAgg5
 z5:=sizeOf5
 v5:=zeroValue5
 t9:=underlying9
 a9:=isAgg9
 z9:=sizeOf9
 v9:=zeroValue9
 t21:=underlying21
 a21:=isAgg21
 z21:=sizeOf21
 v21:=zeroValue21
 t46:=underlying167
 a46:=isAgg167
 z46:=sizeOf167
 v46:=zeroValue167}
open Go.RowKit Go.Lib in
theorem Tryz.strings_IndexRune_ascii (s:ByteArray) (r:Int) (w:World) (h0:0<=r) (h1:r<128):
 Calls prog 201 #[.string s,.int .i32 r] w fun e w'=>e=.returned (.int .i64 (Lib.indexByte s.data.toList r.toNat.toUInt8))/\w'=w:=Any.strings_IndexRune_ascii Tryz.lays152 s r w h0 h1
def Tryz.lays197_ren:Go.Shelf.Ren:=⟨fun | 197=>230 | 260=>267|n=>n,fun | 9=>9 | 21=>21 | 3=>3 | 4=>4 | 5=>5 | 105=>298 | 119=>293 | 0=>0 | 46=>167 | 139=>296 | 138=>295|n=>n,fun | 3=>3 | 4=>4|n=>n⟩
theorem Tryz.lays197:Go.Proofs.Lays.n197 prog Tryz.lays197_ren:={
 mixed:=by kernel_rfl
 f197:=ad func230
 f260:=ad func267
 t0:=underlying0
 a0:=isAgg0
 z0:=sizeOf0
 v0:=zeroValue0
 t3:=underlying3
 a3:=isAgg3
 z3:=sizeOf3
 v3:=zeroValue3
 t4:=underlying4
 a4:=isAgg4
 z4:=sizeOf4
 v4:=zeroValue4
 t5:=underlying5
 a5:=isAgg5
 z5:=sizeOf5
 v5:=zeroValue5
 t9:=underlying9
 a9:=isAgg9
 z9:=sizeOf9
 v9:=zeroValue9
 t21:=underlying21
 a21:=isAgg21
 z21:=sizeOf21
 v21:=zeroValue21
 t46:=underlying167
 a46:=isAgg167
 z46:=sizeOf167
 v46:=zeroValue167
 t105:=underlying298
 a105:=isAgg298
 z105:=sizeOf298
 v105:=zeroValue298
 t119:=underlying293
 a119:=isAgg293
 z119:=sizeOf293
 t138:=underlying295
 a138:=isAgg295
 z138:=sizeOf295
 v138:=zeroValue295
 t139:=underlying296
 a139:=isAgg296
 z139:=sizeOf296
 v139:=zeroValue296
 g3:=by kernel_rfl
 g4:=by kernel_rfl}
open Go.RowKit Go.Lib in
theorem Tryz.utf8_DecodeRuneInString (s:ByteArray) (w:World) (hT:Lib.Utf8Tabs 3 4 w):
 Calls prog 230 #[.string s] w fun e w'=>e=.returned (.tuple #[.int .i32 (Lib.decodeGo s).1,.int .i64 (Lib.decodeGo s).2])/\Below w.heap.size w w':=Any.utf8_DecodeRuneInString Tryz.lays197 s w hT
def Tryz.lays230_ren:Go.Shelf.Ren:=⟨fun | 230=>199 | 197=>230 | 118=>245 | 165=>130 | 166=>104 | 168=>234 | 270=>246 | 167=>247 | 169=>106 | 260=>267 | 240=>160 | 241=>197 | 242=>270 | 276=>212 | 277=>242 | 278=>283|n=>n,fun | 107=>265 | 9=>9 | 72=>180 | 0=>0 | 4=>4 | 3=>3 | 21=>21 | 105=>298 | 76=>143 | 5=>5 | 75=>30 | 70=>177 | 20=>20 | 37=>178 | 127=>231 | 119=>293 | 46=>167 | 139=>296 | 138=>295 | 164=>276 | 51=>214 | 80=>183|n=>n,fun | 3=>3 | 4=>4|n=>n⟩
theorem Tryz.lays230:Go.Proofs.Lays.n230 prog Tryz.lays230_ren:={
 mixed:=by kernel_rfl
 f118:=ad func245
 f165:=ad func130
 f166:=ad func104
 f167:=ad func247
 f168:=ad func234
 f169:=ad func106
 f197:=ad func230
 f230:=ad func199
 f240:=ad func160
 f241:=ad func197
 f242:=ad func270
 f260:=ad func267
 f270:=ad func246
 f276:=ad func212
 f277:=ad func242
 f278:=ad func283
 t0:=underlying0
 a0:=isAgg0
 z0:=sizeOf0
 v0:=zeroValue0
 t3:=underlying3
 a3:=isAgg3
 z3:=sizeOf3
 v3:=zeroValue3
 t4:=underlying4
 a4:=isAgg4
 z4:=sizeOf4
 v4:=zeroValue4
 t5:=underlying5
 a5:=isAgg5
 z5:=sizeOf5
 v5:=zeroValue5
 t9:=underlying9
 a9:=isAgg9
 z9:=sizeOf9
 v9:=zeroValue9
 t20:=underlying20
 a20:=isAgg20
 z20:=sizeOf20
 v20:=zeroValue20
 t21:=underlying21
 a21:=isAgg21
 z21:=sizeOf21
 v21:=zeroValue21
 t37:=underlying178
 a37:=isAgg178
 z37:=sizeOf178
 v37:=zeroValue178
 t46:=underlying167
 a46:=isAgg167
 z46:=sizeOf167
 v46:=zeroValue167
 t51:=underlying214
 a51:=isAgg214
 z51:=sizeOf214
 v51:=zeroValue214
 t70:=underlying177
 a70:=isAgg177
 z70:=sizeOf177
 v70:=zeroValue177
 t72:=underlying180
 a72:=isAgg180
 z72:=sizeOf180
 v72:=zeroValue180
 t75:=underlying30
 a75:=isAgg30
 z75:=sizeOf30
 v75:=zeroValue30
 t76:=underlying143
 a76:=isAgg143
 z76:=sizeOf143
 v76:=zeroValue143
 t105:=underlying298
 a105:=isAgg298
 z105:=sizeOf298
 v105:=zeroValue298
 t107:=underlying265
 a107:=isAgg265
 z107:=sizeOf265
 v107:=zeroValue265
 t119:=underlying293
 a119:=isAgg293
 z119:=sizeOf293
 t127:=underlying231
 a127:=isAgg231
 z127:=sizeOf231
 v127:=zeroValue231
 t138:=underlying295
 a138:=isAgg295
 z138:=sizeOf295
 v138:=zeroValue295
 t139:=underlying296
 a139:=isAgg296
 z139:=sizeOf296
 v139:=zeroValue296
 t164:=underlying276
 a164:=isAgg276
 z164:=sizeOf276
 v164:=zeroValue276
 g3:=by kernel_rfl
 g4:=by kernel_rfl}
theorem Tryz.wv:Builder.Extra prog Tryz.lays230_ren:={
 sizeBuilder:=by kernel_rfl
 liesBuilder:=by kernel_rfl
 t5:=underlying5
 a5:=isAgg5
 z5:=sizeOf5
 v5:=zeroValue5
 infoByte:=by kernel_rfl
 cellsByte:=by kernel_rfl
 sizeByte:=by kernel_rfl
 neB5:=by decide}
open Go.RowKit Go.Lib in
theorem Tryz.strings_Map_grows (g:Nat) (lb:Array Value) (eg:∀args w,(callFunc g args).run prog w=.ok (.enter g args) w) (f:Int->Int) (s:ByteArray) (w:World) (hs:s.size<35184372088832) (hf:MapGrows prog g lb f w) (nN:∀x:Nat,x<=1114111->-2147483648<=f x/\f x<=2147483647) (hT:Lib.Utf8Tabs 3 4 w):
 Calls prog 199 #[.func (.func g) #[] lb,.string s] w fun e w'=>e=.returned (.string ⟨(Lib.mapD f s.data.toList).toArray⟩)/\Below w.heap.size w w':=Any.strings_Map_grows Tryz.lays230 Tryz.wv g lb eg f s w hs hf nN hT
end Go.Proofs
namespace Go.Proofs.YtphcnmlbieokoaaGreatDoor
open Go.RowKit List Go.Proofs.Tryz
structure bF (w:World):Prop where
 tab:kZ w
 u8:Lib.Utf8Tabs 3 4 w
 mx:∃m,w.cell? ⟨0,0,none⟩=some (.int .i64 m)
theorem bF.size {w:World} (h:bF w):7<=w.heap.size:=by
 have:=h.tab.size;omega
theorem bF.later {w w':World} (h:bF w) (hb:Below w.heap.size w w'):bF w' where
 tab:=h.tab.later hb h.tab.size
 u8:=Utf8Tabs_below h.u8 hb
 mx:=by obtain⟨m,hm⟩:=h.mx;exact⟨m,(hb.cell (p:=⟨0,0,none⟩) (by have:=h.size;show 0<w.heap.size;omega)).trans hm⟩
def gT (rs:List Int):List Int:=(ff rs).map kW
theorem yt {r:Int} (h:bA r):bA (kW r):=by
 unfold kW bA at *
 split
 ·omega
 ·split<;>omega
theorem ub {rs:List Int}:∀p∈ff rs,p∈bT rs:=by
 intro p hp;unfold ff at hp;refine(lz (bT rs)).2.2.2 p ?_
 rcases mem_append.1 hp with h|h
 ·exact mem_append.2 (.inl h)
 ·exact mem_append.2 (.inr ((o9 _ _).1 h))
theorem mE {rs:List Int} (h:∀r∈rs,bA r):∀p∈ff rs,bA p:=fun p hp=>ql h p (ub p hp)
theorem yu {rs:List Int} (h:∀r∈rs,bA r):∀p∈gT rs,bA p:=by
 intro p hp;obtain⟨q,hq,rfl⟩:=mem_map.1 hp;exact yt (mE h q hq)
theorem lU (rs:List Int):(ff rs).length=(bT rs).length:=by
 unfold ff;rw[length_append,gj];exact(lz (bT rs)).2.2.1
theorem Fo (rs:List Int):(gT rs).length=(bT rs).length:=by
 unfold gT;rw[length_map,lU]
theorem Im (f:Int->Int) (hf:∀r,bA r->0<=f r):∀rs:List Int,(∀r∈rs,bA r)->Lib.mapD f (bI rs)=bI (rs.map f)
 |[],_=>rfl
 |r::rs,h=>by
  have hr:=h r (by simp)
  have dr:bI (r::rs)≠[]:=by intro e;have:=congrArg List.length e;rw[cK,length_append,length_nil]at this;have:=qG hr;omega
  rw[Lib.mapD_step f _ dr,cK,nF hr];simp only[Int.toNat_of_nonneg hr.1];rw[if_pos (hf r hr),drop_left,Im f hf rs (fun x hx=>h x (by simp[hx])),map_cons,cK]
theorem Vs:∀args w,(callFunc 200 args).run prog w=.ok (.enter 200 args) w:=fun args w=>by kernel_rfl
theorem QZ (rs:List Int) (w:World) (hR:bF w) (hs:∀r∈rs,bA r) (hl:rs.length<=2000):
 Calls prog 199 #[.func (.func 200) #[] #[],.string (bL rs)] w fun e w'=>e=.returned (.string (bL (rs.map kW)))/\Below w.heap.size w w':=by
 have h1:=Tryz.strings_Map_grows 200 #[] Vs kW (bL rs) w (by rw[ej];have:=(gV rs hs).2;omega)
  (fun W x hx _=>(K9 (x:Int) W (by omega) (by omega)).mono fun e w' ⟨he,hw⟩=>⟨he,by rw[hw];exact Below.refl _ _⟩)
  (fun x hx=>K8 x (by omega) (by omega)) hR.u8
 have e:(bL rs).data.toList=bI rs:=by simp[bL]
 rw[e,Im kW (fun r hr=>(yt hr).1) rs hs]at h1;exact h1
theorem yR (rs:List Int) (w:World) (hR:bF w) (hs:∀r∈rs,bA r) (hl:rs.length<=1000) (hm:marks (bT rs)<20):
 Calls prog 135 #[.string (bL rs)] w fun e w'=>e=.returned (.string (bL (gT rs)))/\Below w.heap.size w w':=by
 have h1:=pf rs w hR.tab hs hl hm;have h2:=fun wx (hx:bF wx)=>QZ (ff rs) wx hx (mE hs) (by rw[lU];have:=mZ rs;omega)
 have e:(ff rs).map kW=gT rs:=rfl;rw[e]at h2;generalize ff rs=sp at *;generalize gT rs=fl at *;clear e;go_enter func135,ntmps135;go_wp2_with fail;refine h1.mono ?_;rintro e w1 ⟨rfl,dJ⟩;have yq:=hR.later dJ;go_wp2_with fail;refine(h2 w1 yq).mono ?_;rintro e w2 ⟨rfl,cC⟩
 go_wp2
 go_ret;exact⟨rfl,dJ.trans (cC.mono dJ.size)⟩
end Go.Proofs.YtphcnmlbieokoaaGreatDoor
namespace Go.Proofs
open Go.Shelf Go.RowKit
open List
open Go.Proofs.Tryz
namespace YtphcnmlbieokoaaGreatDoor
def lays196_ren:Go.Shelf.Ren:=⟨fun | 196=>181 | 259=>228|n=>n,fun | 46=>167 | 53=>37 | 119=>293 | 138=>295 | 139=>296|n=>n,fun | 3=>3 | 4=>4|n=>n⟩
theorem lays196:Lays.n196 prog lays196_ren:={
 mixed:=by kernel_rfl
 f196:=ad func181
 f259:=ad func228
 t0:=underlying0
 a0:=isAgg0
 z0:=sizeOf0
 v0:=zeroValue0
 t3:=underlying3
 a3:=isAgg3
 z3:=sizeOf3
 v3:=zeroValue3
 t4:=underlying4
 a4:=isAgg4
 z4:=sizeOf4
 v4:=zeroValue4
 t5:=underlying5
 a5:=isAgg5
 z5:=sizeOf5
 v5:=zeroValue5
 t9:=underlying9
 a9:=isAgg9
 z9:=sizeOf9
 v9:=zeroValue9
 t12:=underlying12
 a12:=isAgg12
 z12:=sizeOf12
 v12:=zeroValue12
 t46:=underlying167
 a46:=isAgg167
 z46:=sizeOf167
 v46:=zeroValue167
 t53:=underlying37
 a53:=isAgg37
 z53:=sizeOf37
 v53:=zeroValue37
 t119:=underlying293
 a119:=isAgg293
 z119:=sizeOf293
 t138:=underlying295
 a138:=isAgg295
 z138:=sizeOf295
 v138:=zeroValue295
 t139:=underlying296
 a139:=isAgg296
 z139:=sizeOf296
 v139:=zeroValue296
 g3:=by kernel_rfl
 g4:=by kernel_rfl}
theorem uS (s:ByteArray) (w:World) (hs:s.size<=9223372036854775807) (hT:Lib.Utf8Tabs 3 4 w):
 Calls prog 181 #[.string s] w fun e w'=>e=.returned (.bool (Lib.validD s.data.toList))/\Below w.heap.size w w':=Any.utf8_ValidString lays196 s w hs hT
end YtphcnmlbieokoaaGreatDoor
end Go.Proofs
namespace Go.Proofs.YtphcnmlbieokoaaGreatDoor
open Go.RowKit List Go.Proofs.Tryz
def iG (s:ByteArray):Nat->Nat->Bool
 | 0,_=>true
 |f+1,pos=>if pos<s.size then Gb (Utf8.decode s pos).1&&iG s f (pos+(Utf8.decode s pos).2)else true
def rK (s:ByteArray):Bool:=iG s s.size 0
theorem vm (s:ByteArray) (f pos:Nat) (h:¬pos<s.size):iG s f pos=true:=by
 cases f<;>simp[iG,h]
theorem pC {r:Int} (h:Gb r=true):bA r:=by
 unfold Gb at h;simp only[Bool.or_eq_true,bne_iff_ne]at h
 rcases h with(h|h)|h
 ·obtain⟨hm,hx⟩:=mO r h;have:∀x∈tab,0<=x.1/\x.1<2048:=by decide +kernel
  have:=this _ hm;rw[hx]at this;exact this
 ·have:=of_decide_eq_true h;exact⟨by omega,by omega⟩
 ·exact um (jK h)
theorem Hy (s:ByteArray):∀(f pos:Nat),s.size<=pos+f->pos<=s.size->iG s f pos=true->∃rs,s.data.toList.drop pos=bI rs/\∀r∈rs,Gb r=true
 | 0,pos,h,h2,_=>⟨[],by
  have hl:s.data.toList.length=s.size:=Array.length_toList;rw[drop_eq_nil_of_le (by omega)];rfl,by simp⟩
 |f+1,pos,h,h2,ho=>by
  have hl:s.data.toList.length=s.size:=Array.length_toList
  by_cases hp:pos<s.size
  ·simp only[iG,if_pos hp,Bool.and_eq_true]at ho;have hd:=Lib.decodeL_drop s pos
   have dr:s.data.toList.drop pos≠[]:=by intro e;have:=congrArg List.length e;rw[length_drop,length_nil]at this;omega
   have hw:=Lib.decodeL_le _ dr;have iD:=Lib.decodeL_width (s.data.toList.drop pos);rw[hd,length_drop]at hw;rw[hd]at iD;obtain⟨rs,h3,h4⟩:=Hy s f (pos+(Utf8.decode s pos).2) (by omega) (by omega) ho.2;refine⟨((Utf8.decode s pos).1:Int)::rs,?_,?_⟩
   ·have he:=Lib.encode_decode (s.data.toList.drop pos) dr (by
     rintro⟨h5,_⟩;have:=pC ho.1;rw[hd]at h5;rw[h5]at this;have:=this.2;omega)
    rw[hd]at he;rw[cK,he,<-h3,<-drop_drop,take_append_drop]
   ·intro r hr
    rcases mem_cons.1 hr with rfl|hr
    ·exact ho.1
    ·exact h4 r hr
  ·exact⟨[],by rw[drop_eq_nil_of_le (by omega)];rfl,by simp⟩
theorem Da (s:ByteArray) (h:rK s=true):∃rs,s=bL rs/\∀r∈rs,Gb r=true:=by
 obtain⟨rs,h1,h2⟩:=Hy s s.size 0 (by omega) (by omega) h;refine⟨rs,?_,h2⟩;rw[drop_zero]at h1;unfold bL;rw[<-h1]
theorem yS (s:ByteArray) (w:World) (hT:kZ w):
 Calls prog 182 #[.string s] w fun e w'=>e=.returned (.bool (rK s))/\Below w.heap.size w w':=by
 have XO:=hT.size;go_enter func182,ntmps182;go_wp2_with fail
 go_loopg [] (s.size+1) (fun k wr=>∃(pos fuel:Nat),k=fuel+1/\wr.heap[w.heap.size]? = some (.stringIter s pos)/\Below w.heap.size w wr/\s.size<=pos+fuel/\Hid (iG s fuel pos=rK s))
 case atStart=>refine⟨0,s.size,rfl,?_,(Below.refl _ w).alloc (Nat.le_refl _) _,by omega,rfl⟩;have:=World.iter_heap w s 0;simpa using this
 case round=>
  obtain⟨pos,fuel,hk,hit,mg,hfu,HO⟩:=hrel;have gP:w.heap.size<wr.heap.size:=(Array.getElem?_eq_some_iff.1 hit).1
  by_cases hp:pos<s.size
  ·obtain⟨f,rfl⟩:∃f,fuel=f+1:=⟨fuel-1,by omega⟩;have sU:∀ty,(Instr.next (.pointer (some ⟨w.heap.size,0,none⟩)) true ty).run prog wr=_:=fun ty=>Lib.run_next_any_at wr w.heap.size s pos ty hit hp
   have hwd:1<=(Utf8.decode s pos).2:=by have:=Lib.decodeL_width (s.data.toList.drop pos);rw[Lib.decodeL_drop]at this;exact this
   have aew:=Lib.iterAt_heap wr w.heap.size s pos (pos+(Utf8.decode s pos).2) hit;have tt:=Lib.below_iterAt mg (k:=w.heap.size) (Nat.le_refl _) s (pos+(Utf8.decode s pos).2);have ux:(wr.iterAt w.heap.size s (pos+(Utf8.decode s pos).2)).heap.size=wr.heap.size:=Lib.iterAt_size _ _ _ _;have hI:=Re ((Utf8.decode s pos).1:Int) (wr.iterAt w.heap.size s (pos+(Utf8.decode s pos).2)) (hT.later tt XO)
   have mW:Hid (iG s (f+1) pos=(Gb (Utf8.decode s pos).1&&iG s f (pos+(Utf8.decode s pos).2))):=by show _=_;simp only[iG,if_pos hp]
   cases hz:Gb ((Utf8.decode s pos).1:Int)with
   |true=>
    rw[hz]at hI mW;have Hz:=aq hz;clear hz;go_wp2_with fail;refine hI.mono ?_;rintro e w1 ⟨rfl,dJ⟩
    go_wp2
    go_roundg (f+1)
    case measure=>omega
    case rel=>
     refine⟨pos+(Utf8.decode s pos).2,f,rfl,?_,tt.trans (dJ.mono (by omega)),by omega,?_⟩
     ·rw[dJ.block _ (by omega)];exact aew
     ·rw[<-an HO,an mW];rfl
   |false=>
    rw[hz]at hI mW;have Hz:=aq hz;clear hz;go_wp2_with fail;refine hI.mono ?_;rintro e w1 ⟨rfl,dJ⟩
    go_wp2
    go_ret;refine⟨?_,tt.trans (dJ.mono (by omega))⟩;rw[<-an HO,an mW];rfl
  ·have sU:∀ty,(Instr.next (.pointer (some ⟨w.heap.size,0,none⟩)) true ty).run prog wr=_:=fun ty=>Lib.run_next_end_at wr w.heap.size s pos ty hit hp
   go_wp2
   go_ret;refine⟨?_,mg⟩;rw[<-an HO,vm s fuel pos hp];rfl
theorem rD (rs:List Int) (hs:∀r∈rs,bA r):∀(rest done:List Int) (f:Nat),rs=done++rest->rest.length<=f->Lib.runeCountFrom (bL rs) f (bI done).length=rest.length
 |[],done,f,h,_=>by rw[Lib.runeCountFrom_end _ _ _ (by rw[ej,h,append_nil];omega)];rfl
 |r::rest,done,0,h,hf=>by simp at hf
 |r::rest,done,f+1,h,hf=>by
  have hr:=hs r (by rw[h];simp)
  have hp:(bI done).length<(bL rs).size:=by rw[ej,h,dq,cK,length_append,length_append];have:=qG hr;omega
  have hd:Utf8.decode (bL rs) (bI done).length=(r.toNat,(Lib.encodeRune r).length):=by rw[h];exact decode_at done r rest hr
  simp only[Lib.runeCountFrom,if_pos hp,hd];have e:(bI done).length+(Lib.encodeRune r).length=(bI (done++[r])).length:=by rw[dq,nD,length_append]
  rw[e,rD rs hs rest (done++[r]) f (by rw[h];simp) (by simpa using hf),length_cons];omega
theorem Cl (rs:List Int) (hs:∀r∈rs,bA r):Lib.runeCount (bL rs)=rs.length:=by
 unfold Lib.runeCount;exact rD rs hs rs [] _ rfl (by rw[ej];exact(gV rs hs).1)
theorem BB (s:ByteArray) (w:World):Calls prog 150 #[.string s] w fun e w'=>e=.returned (.bool (s.toList==[46]||s.toList==[46,46]))/\w'=w:=by
 cases h1:s.toList==[46]
 ·go_enter func150,ntmps150
  go_wp2
  all_goals go_ret
  all_goals (refine⟨?_,rfl⟩;simp_all)
 ·go_enter func150,ntmps150
  go_wp2
  all_goals go_ret
  all_goals (refine⟨?_,rfl⟩;simp_all)
theorem FQ (r:Int) (rs:List Int) (w:World) (hU:Lib.Utf8Tabs 3 4 w) (hr:bA r):
 Calls prog 183 #[.string (bL (r::rs))] w fun e w'=>e=.returned (.bool (bu r != 0))/\Below w.heap.size w w':=by
 have h1:=Tryz.utf8_DecodeRuneInString (bL (r::rs)) w hU
 have hd:Lib.decodeGo (bL (r::rs))=(r.toNat,(Lib.encodeRune r).length):=by
  unfold Lib.decodeGo
  have hp:¬(bL (r::rs)).size=0:=by rw[ej,cK,length_append];have:=qG hr;omega
  rw[if_neg hp];exact decode_at [] r rs hr
 rw[hd]at h1;simp only[Int.toNat_of_nonneg hr.1]at h1;have hC:=fun wx=>ky r wx
 clear hd;generalize bu r=c at *;generalize (Lib.encodeRune r).length=n at *;go_enter func183,ntmps183;go_wp2_with fail;refine h1.mono ?_;rintro e w1 ⟨rfl,dJ⟩;go_wp2_with fail;refine(hC w1).mono ?_;rintro e wx ⟨rfl,dE⟩;have dE:=dE.symm;subst dE
 go_wp2
 go_ret;exact⟨rfl,dJ⟩
structure Name (rs:List Int):Prop where
 signs:∀r∈rs,Gb r=true
 ne:rs≠[]
 first:∀r t,rs=r::t->bu r=0
 bytes:(bI rs).length<=24
 ix:(ff rs).length<=12
theorem Name.small {rs:List Int} (h:Name rs):∀r∈rs,bA r:=fun r hr=>pC (h.signs r hr)
theorem Il {r:Int} (h:bA r):2*marks (cQ r)<=(Lib.encodeRune r).length:=by
 have hl:=Fw h;have two:128<=r->(Lib.encodeRune r).length=2:=fun h1=>by rw[s6 h1 h.2];rfl
 unfold cQ
 cases hB:ik r with
 |false=>
  by_cases hc:bu r=0
  ·simp[marks,hc]
  ·have:=qq (jK hc);rw[two (by omega)];simp[marks,hc]
 |true=>
  obtain⟨hm,hx⟩:=mO r hB;have h1:=uO _ (sF _ hm).2.2.1;have h3:∀x∈tab,192<=x.1:=by decide +kernel
  have h2:=h3 _ hm;rw[two (by omega)];simp only[marks,if_true,filter_cons,h1];simp
  split<;>simp
theorem rO:∀rs:List Int,(∀r∈rs,bA r)->2*marks (bT rs)<=(bI rs).length
 |[],_=>by simp[marks,bT]
 |r::rs,h=>by have h1:=Il (h r (by simp));have h2:=rO rs (fun x hx=>h x (by simp[hx]));have e:bT (r::rs)=cQ r++bT rs:=rfl;rw[e,mG,cK,length_append];omega
theorem Name.marks {rs:List Int} (h:Name rs):marks (bT rs)<20:=by
 have:=rO rs h.small;have:=h.bytes;omega
theorem Name.short {rs:List Int} (h:Name rs):rs.length<=24:=by
 have:=(gV rs h.small).1;have:=h.bytes;omega
end Go.Proofs.YtphcnmlbieokoaaGreatDoor
