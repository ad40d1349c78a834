import Derived.Test.YtgipjjhkhfihpaaGreatDoorProg
import Derived.WalkKit
import Derived.WalkSpells
import Derived.WalkLawsBesides
import Derived.Laws.IdiomStrings
import Derived.Laws.BitsAllLaws
import Derived.Deep.RegionLaw
import Derived.Deep.LoopGhost
import Derived.Deep.DeepMust
import Derived.Deep.RegionWith
import Derived.Deep.QuietTactic
import Derived.BigQuiet
set_option maxRecDepth 100000
set_option maxHeartbeats 6400000
namespace Go.Proofs.YtgipjjhkhfihpaaGreatDoor
open Go.RowKit
theorem zF {p:Prop} (h:p):Hid p:=h
theorem zA {p:Prop} (h:Hid p):p:=h
theorem zA7 {k:IntKind} {a b:Int} (h:a=b):Ending.returned (.int k a)=.returned (.int k b):=by rw [h]
theorem zAI {a b:Bool} (h:a=b):Ending.returned (.bool a)=.returned (.bool b):=by rw [h]
theorem zBw {w w1 w2:World} (h1:Below w.heap.size w w1) (h2:Below w1.heap.size w1 w2):Below w.heap.size w w2:=h1.trans (h2.mono h1.size)
theorem zHH (l:List UInt8) (k:Nat) (h:k < (ByteArray.mk l.toArray).size):(ByteArray.mk l.toArray)[k]=l[k]'h:=rfl
theorem zBV (a b:List UInt8):(ByteArray.mk a.toArray) ++ (ByteArray.mk b.toArray)=ByteArray.mk (a ++ b).toArray:=by
 apply ByteArray.ext;simp [ByteArray.data_append]
theorem zAu (l:List UInt8) (i j:Nat):(ByteArray.mk l.toArray).extract i j=ByteArray.mk ((l.drop i).take (j - i)).toArray:=by
 apply ByteArray.ext;simp [ByteArray.data_extract,List.take_drop]
theorem zJK {α:Type} (l:List α) (k:Nat) (h:k < l.length):(l.drop k).take 1=[l[k]]:=by
 rw [List.drop_eq_getElem_cons h];rfl
theorem zQg {a b:UInt8}:((a.toNat:Int) == (b.toNat:Int))=(a == b):=by
 rw [Bool.eq_iff_iff,beq_iff_eq,beq_iff_eq,← UInt8.toNat_inj];omega
theorem zV {P:Program} {ops:Array Oper} {rest:List Oper} {o:Oper} {a:Act} {Q:Exit→Act→World→Prop} {w:World} {news:List Value} {e:TypeId} (hgd:o.guard=none) (s x:Operand) (t:TypeId)
  (ho:o.op=.call { callee:=.builtin .append,args:=#[s,x],argTypes:=#[t,t] })
  (base:Nat) (i:TypeInfo) (z:Value) (size bytes:Nat) (ht:P.underlying t=some (.slice e)) (hi:P.info? e=some i) (hz:i.zero=some z)
  (hsize:i.size=size) (hby:i.bytes=bytes) (hzs:z.cells.size=size) (hsz:0 < size)
  (v:Value) (n:Nat) (xs:List Value) (hown:w.ownsRow base e size v n xs) (hs:a.eval s=v)
  (hx:a.eval x=.slice (some ⟨w.heap.size,0,none⟩) 1 1) (hl:news.length=size) (h1:∀ u∈news,u.oneCell'=true)
  (h63:n + 1≤maxLen) (hbytes:(n + 1) * bytes≤140737488355328) (hbase:base≤w.heap.size)
  (h:∀ v' w',w'.ownsRow base e size v' (n + 1) (xs ++ news)→w.grownBy w' v.ownBlock→(v'≠.slice none 0 0)→wpList P ops Q rest (a.put o.dst v') w'):wpList P ops Q (o :: rest) a (w.alloc (.cells news.toArray e)):=by
 refine wpList_append_own _ hgd s x t ho base e i z size bytes ht hi hz hsize hby hzs hsz v n xs hs (hown.alloc _) ⟨w.heap.size,0,none⟩ 1 1 news hx (by simpa using hl) ?_ h1 h63 hbytes (by simp;omega) ?_
 ·intro j u hj;have hlt:=(List.getElem?_eq_some_iff.1 hj).1;have hadd:(⟨w.heap.size,0,none⟩:Addr).add j=⟨w.heap.size,j,none⟩:=(by unfold Addr.add;split<;>simp_all);rw [hadd,cell_of_row _ w.heap.size j news.toArray e (0,0) (heap_alloc_new w _)]
  simpa using hj
 ·intro v' w' h2 h3 h4;refine h v' w' h2 ?_ (fun hv=>by have:=(h4.1 hv).2;omega);exact ⟨h3.os,h3.tape,h3.output,Nat.le_trans (by simp) h3.size,fun k hk hne=>(h3.block k (by simp;omega) hne).trans (heap_alloc_old w _ hk)⟩
theorem za {B:Nat} {a w w':World} {v:Value} {base e size n:Nat} {xs:List Value} (h:Below B a w) (hg:w.grownBy w' v.ownBlock) (hown:w.ownsRow base e size v n xs) (hB:B≤base) (hs:B≤w.heap.size):Below B a w':=
 h.grown hg hs (fun k hk=>Nat.le_trans hB (hown.lt k hk).1)
theorem zS {w:World} {base:Nat} {e:TypeId} {size:Nat} {v:Value} {n:Nat} {xs:List Value} (h:w.ownsRow base e size v n xs) (hn:0 < n) :
  ∃ g cap,v=.slice (some ⟨g,0,none⟩) n cap∧base≤g∧g < w.heap.size∧n≤cap∧(∀ j u,xs[j]?=some u→w.cell? ⟨g,j,none⟩=some u):=by
 obtain ⟨h1,h2⟩:=h
 rcases h2 with ⟨_,h2⟩ | ⟨g,cap,cur,rfl,hg,hh,hc,_,_,ht⟩
 ·omega
 ·refine ⟨g,cap,rfl,hg,(Array.getElem?_eq_some_iff.1 hh).1,hc,fun j u hj=>?_⟩;rw [cell_of_row w g j cur e (0,0) hh];rw [← ht,List.getElem?_take] at hj
  split at hj
  ·simpa using hj
  ·cases hj
theorem zN {w:World} {base:Nat} {e:TypeId} {size:Nat} {v:Value} {n:Nat} {xs:List Value} (h:w.ownsRow base e size v n xs):∃ ao cap,v=.slice ao n cap:=by
 rcases h.2 with ⟨rfl,rfl⟩ | ⟨g,cap,_,rfl,_⟩
 ·exact ⟨_,_,rfl⟩
 ·exact ⟨_,_,rfl⟩
theorem zBX (w:World) (c:List Value) (e:TypeId):∀ j u,c[j]?=some u→(w.alloc (.cells c.toArray e)).cell? ((⟨w.heap.size,0,none⟩:Addr).add j)=some u:=by
 intro j u hj;have hadd:(⟨w.heap.size,0,none⟩:Addr).add j=⟨w.heap.size,j,none⟩:=(by unfold Addr.add;split<;>simp_all);rw [hadd,cell_of_row _ w.heap.size j c.toArray e (0,0) (heap_alloc_new w _)]
 simpa using hj
theorem zC {w:World} {b:Nat} {c:Array Value} {t:TypeId} {fr:Nat × Nat} (h:w.heap[b]?=some (.cells c t fr)) (o:Nat):w.cell? ⟨b,o,none⟩=c[o]?:=by simp [World.cell?,h]
theorem zD {w:World} {b:Nat} {c:Array Value} {t:TypeId} (h:w.heap[b]?=some (.cells c t (0,0))) (o:Nat):w.frozen? ⟨b,o,none⟩=false:=by simp [World.frozen?,h]
theorem zB {w:World} {b:Nat} {o:Obj} (h:w.heap[b]?=some o):b < w.heap.size:=(Array.getElem?_eq_some_iff.1 h).1
theorem zI {w:World} {b:Nat} {c:Array Value} {t:TypeId} {fr:Nat × Nat} (h:w.heap[b]?=some (.cells c t fr)) (o:Nat) (u:Value):(w.setCell ⟨b,o,none⟩ u).heap[b]?=some (.cells (c.setIfInBounds o u) t fr):=by
 simp [World.setCell,Array.getElem?_modify,h]
structure Only (T:Nat→Prop) (w w':World):Prop where
 os:w'.os=w.os
 tape:w'.tape=w.tape
 output:w'.output=w.output
 size:w.heap.size≤w'.heap.size
 block:∀ k,k < w.heap.size→¬ T k→w'.heap[k]?=w.heap[k]?
theorem Only.refl (T:Nat→Prop) (w:World):Only T w w:=⟨rfl,rfl,rfl,Nat.le_refl _,fun _ _ _=>rfl⟩
theorem Only.trans {T:Nat→Prop} {a b c:World} (h:Only T a b) (k:Only T b c):Only T a c:=
 ⟨k.os.trans h.os,k.tape.trans h.tape,k.output.trans h.output,Nat.le_trans h.size k.size,fun i hi ht=>(k.block i (Nat.lt_of_lt_of_le hi h.size) ht).trans (h.block i hi ht)⟩
theorem Only.mono {T T':Nat→Prop} {a b:World} (h:Only T a b) (hT:∀ k,k < a.heap.size→T k→T' k):Only T' a b:=
 ⟨h.os,h.tape,h.output,h.size,fun i hi ht=>h.block i hi (fun x=>ht (hT i hi x))⟩
theorem Only.of_below {T:Nat→Prop} {a b:World} (h:Below a.heap.size a b):Only T a b:=⟨h.os,h.tape,h.output,h.size,fun i hi _=>h.block i hi⟩
theorem Only.below {T:Nat→Prop} {a b:World} {B:Nat} (h:Only T a b) (hB:B≤a.heap.size) (hT:∀ k,k < B→¬ T k):Below B a b:=⟨h.os,h.tape,h.output,h.size,fun i hi=>h.block i (Nat.lt_of_lt_of_le hi hB) (hT i hi)⟩
theorem Only.drew {T:Nat→Prop} {a w:World} (h:Only T a w):Only T a w.drew:=⟨h.os,h.tape,h.output,h.size,h.block⟩
theorem Only.alloc {T:Nat→Prop} {a w:World} (h:Only T a w) (o:Obj):Only T a (w.alloc o):=
 h.trans ⟨rfl,rfl,rfl,by simp,fun _ hk _=>heap_alloc_old w o hk⟩
theorem Only.setCell {T:Nat→Prop} {a w:World} (h:Only T a w) {p:Addr} (hp:T p.block∨a.heap.size≤p.block) (u:Value):Only T a (w.setCell p u):=
 ⟨h.os,h.tape,h.output,by simpa [World.setCell] using h.size,fun k hk ht=>by
  rw [Below.heap_setCell _ _ _ _ (fun e=>by subst e;exact hp.elim ht (fun hp=>by omega))];exact h.block k hk ht⟩
theorem Only.setAt {b:Nat} {a w:World} (h:Only (·=b) a w) (o:Nat) (u:Value):Only (·=b) a (w.setCell ⟨b,o,none⟩ u):=h.setCell (p:=⟨b,o,none⟩) (Or.inl rfl) u
theorem Only.grown {T:Nat→Prop} {a w w':World} {row:Option Nat} (h:Only T a w) (hg:w.grownBy w' row) (hr:∀ k,row=some k→T k∨a.heap.size≤k):Only T a w':=
 ⟨hg.os.trans h.os,hg.tape.trans h.tape,hg.output.trans h.output,Nat.le_trans h.size hg.size,fun k hk ht=>by
  rw [hg.block k (Nat.lt_of_lt_of_le hk h.size) (fun e=>(hr k e.symm).elim ht (fun x=>by omega))];exact h.block k hk ht⟩
theorem zE {w:World} {b o:Nat} {c:Array Value} {t:TypeId} {f:Nat × Nat} {v:Value} (h:w.heap[b]?=some (.cells c t f)) (e:c[o]?=some v):w.cell? ⟨b,o,none⟩=some v:=by rw [zC h];exact e
theorem zH {w w':World} {k:Nat} {o:Obj} (hb:Below w.heap.size w w') (h:w.heap[k]?=some o):w'.heap[k]?=some o:=(hb.block k (zB h)).trans h
theorem zJ {w:World} {b:Nat} {t:TypeId} {f:Nat × Nat} {x0 x1:Value} (h:w.heap[b]?=some (.cells #[x0,x1] t f)):w.cell? ⟨b,0,none⟩=some x0∧w.cell? ⟨b,1,none⟩=some x1:=⟨zE h rfl,zE h rfl⟩
theorem zAi {w:World} {b:Nat} {t:TypeId} {f:Nat × Nat} {x0 x1 x2 x3:Value} (h:w.heap[b]?=some (.cells #[x0,x1,x2,x3] t f)):w.cell? ⟨b,0,none⟩=some x0∧w.cell? ⟨b,1,none⟩=some x1∧w.cell? ⟨b,2,none⟩=some x2∧w.cell? ⟨b,3,none⟩=some x3:=⟨zE h rfl,zE h rfl,zE h rfl,zE h rfl⟩
theorem zGc {w:World} {b:Nat} {t:TypeId} {f:Nat × Nat} {x0 x1 x2 x3 x4:Value} (h:w.heap[b]?=some (.cells #[x0,x1,x2,x3,x4] t f)):w.cell? ⟨b,0,none⟩=some x0∧w.cell? ⟨b,1,none⟩=some x1∧w.cell? ⟨b,2,none⟩=some x2∧w.cell? ⟨b,3,none⟩=some x3∧w.cell? ⟨b,4,none⟩=some x4:=⟨zE h rfl,zE h rfl,zE h rfl,zE h rfl,zE h rfl⟩
theorem zAH {w:World} {b:Nat} {t:TypeId} {f:Nat × Nat} {x0 x1 x2 x3 x4 x5:Value} (h:w.heap[b]?=some (.cells #[x0,x1,x2,x3,x4,x5] t f)):w.cell? ⟨b,0,none⟩=some x0∧w.cell? ⟨b,1,none⟩=some x1∧w.cell? ⟨b,2,none⟩=some x2∧w.cell? ⟨b,3,none⟩=some x3∧w.cell? ⟨b,4,none⟩=some x4∧w.cell? ⟨b,5,none⟩=some x5:=⟨zE h rfl,zE h rfl,zE h rfl,zE h rfl,zE h rfl,zE h rfl⟩
theorem zRg {w:World} {b:Nat} {t:TypeId} {f:Nat × Nat} {x0 x1 x2 x3 x4 x5 x6 x7 x8 x9 x10 x11 x12:Value} (h:w.heap[b]?=some (.cells #[x0,x1,x2,x3,x4,x5,x6,x7,x8,x9,x10,x11,x12] t f)):w.cell? ⟨b,0,none⟩=some x0∧w.cell? ⟨b,1,none⟩=some x1∧w.cell? ⟨b,2,none⟩=some x2∧w.cell? ⟨b,3,none⟩=some x3∧w.cell? ⟨b,4,none⟩=some x4∧w.cell? ⟨b,5,none⟩=some x5∧w.cell? ⟨b,6,none⟩=some x6∧w.cell? ⟨b,7,none⟩=some x7∧w.cell? ⟨b,8,none⟩=some x8∧w.cell? ⟨b,9,none⟩=some x9∧w.cell? ⟨b,10,none⟩=some x10∧w.cell? ⟨b,11,none⟩=some x11∧w.cell? ⟨b,12,none⟩=some x12:=⟨zE h rfl,zE h rfl,zE h rfl,zE h rfl,zE h rfl,zE h rfl,zE h rfl,zE h rfl,zE h rfl,zE h rfl,zE h rfl,zE h rfl,zE h rfl⟩
abbrev S (l:List UInt8):Value:=.string ⟨l.toArray⟩
def zt (c:UInt8) (st:List (List UInt8) × List UInt8) (b:UInt8):List (List UInt8) × List UInt8:=
 if b=c then (st.1 ++ [st.2],[]) else (st.1,st.2 ++ [b])
def zU (c:UInt8) (l:List UInt8):List (List UInt8) × List UInt8:=l.foldl (zt c) ([],[])
def zZ (c:UInt8) (l:List UInt8):List (List UInt8):=(zU c l).1 ++ [(zU c l).2]
theorem zB1 (c:UInt8) (l:List UInt8) (k:Nat) (h:k < l.length):zU c (l.take (k + 1))=zt c (zU c (l.take k)) l[k]:=by
 unfold zU;rw [List.take_succ_eq_append_getElem h,List.foldl_append];rfl
theorem zA9 (c:UInt8) (l:List UInt8):(zU c l).1.length≤l.length∧(zU c l).2.length≤l.length:=by
 suffices h:∀ (l:List UInt8) (st:List (List UInt8) × List UInt8),(l.foldl (zt c) st).1.length≤st.1.length + l.length∧(l.foldl (zt c) st).2.length≤st.2.length + l.length by
  have:=h l ([],[]);simpa [zU] using this
 intro l
 induction l with
 | nil=>intro st;simp
 | cons b l ih=>
  intro st
  have:=ih (zt c st b)
  simp only [List.foldl_cons,List.length_cons];have h2:(zt c st b).1.length≤st.1.length + 1∧(zt c st b).2.length≤st.2.length + 1:=by
   unfold zt;split<;>simp
  omega
theorem Tryz.info9:(Tryz.prog.info? 9).map (fun i=>(i.zero,i.size,i.bytes))=some (some (.string ⟨#[]⟩),1,16):=by kernel_rfl
theorem zKR (l:List UInt8) (c:UInt8) (w:World) (hl:l.length≤1048576) :
  Calls Tryz.prog 79 #[.string ⟨l.toArray⟩,.int .u8 c.toNat] w fun e w'=>
   ∃ v,e=.returned v∧w'.ownsRow w.heap.size 9 1 v (zZ c l).length ((zZ c l).map S)∧Below w.heap.size w w':=by
 obtain ⟨i0,hi,hz0,hz1,hz2⟩:=info_parts Tryz.info9
 go_enter Tryz.func79,Tryz.ntmps79
 go_wp2
 go_loopw [5,6,7] (fun v t i wr=>∃ k:Nat,k≤l.length∧i=.int .i64 k∧t=S (zU c (l.take k)).2∧wr.ownsRow w.heap.size 9 1 v (zU c (l.take k)).1.length ((zU c (l.take k)).1.map S)∧Below w.heap.size w wr) (fun _ _ i _=>l.length - (intOf i).toNat)
 case atStart=>exact ⟨0,by omega,rfl,rfl,World.ownsRow_nil _ _ _ _,Below.refl _ _⟩
 case round=>
  obtain ⟨k,hk,rfl,rfl,hown,hb⟩:=hrel;have hsz:=zA9 c (l.take k);rw [List.length_take] at hsz;have hbs:=hb.size
  by_cases hlt:k < l.length
  ·go_wp2_with (first | (at_builtin;refine zV rfl _ _ 100 rfl w.heap.size i0 (.string ⟨#[]⟩) 1 16 Tryz.underlying100 hi hz0 hz1 hz2 rfl (by decide) _ _ _ hown rfl rfl rfl ?_ ?_ ?_ hbs ?_;rotate_right;intro v' w1 hown' hgrow hnn) | go_in)
   ·have hne:(l[k] == c)=true:=by rw [← zQg];assumption
    go_roundw
    case rel=>
     have e:zU c (l.take (k + 1))=((zU c (l.take k)).1 ++ [(zU c (l.take k)).2],[]):=by
      rw [zB1 c l k hlt];unfold zt;rw [if_pos (by simpa using hne)]
     refine ⟨k + 1,by omega,by go_num,?_,?_,za hb hgrow hown (Nat.le_refl _) hbs⟩
     ·rw [e]
     ·rw [e];simpa using hown'
    case measure=>simp [intOf];omega
   ·intro u hu;simp at hu;subst hu;rfl
   ·unfold maxLen;omega
   ·omega
   ·have hne:(l[k] == c)=false:=by rw [← zQg];assumption
    go_roundw
    case rel=>
     have e:zU c (l.take (k + 1))=((zU c (l.take k)).1,(zU c (l.take k)).2 ++ [l[k]]):=by
      rw [zB1 c l k hlt];unfold zt;rw [if_neg (by simpa using hne)]
     refine ⟨k + 1,by omega,by go_num,?_,?_,hb⟩
     ·rw [e,zAu,zBV]
      congr 4
      rw [show k + 1 - k=1 from by omega,zJK l k hlt]
     ·rw [e];exact hown
    case measure=>simp [intOf];omega
  ·have hkl:k=l.length:=(by omega);subst hkl;have HT:Hid (l.take l.length=l):=List.take_length
   go_wp2_with (first | (at_builtin;refine zV rfl _ _ 100 rfl w.heap.size i0 (.string ⟨#[]⟩) 1 16 Tryz.underlying100 hi hz0 hz1 hz2 rfl (by decide) _ _ _ hown rfl rfl rfl ?_ ?_ ?_ hbs ?_;rotate_right;intro v' w1 hown' hgrow hnn) | go_in)
   ·go_ret;rw [HT.out] at hown';exact ⟨_,rfl,by simpa [zZ] using hown',za hb hgrow hown (Nat.le_refl _) hbs⟩
   ·intro u hu;simp at hu;subst hu;rfl
   ·unfold maxLen;omega
   ·omega
def dig:List UInt8→Int
 | [c]=>if 49≤(c.toNat:Int)∧(c.toNat:Int)≤56 then (c.toNat:Int) - 48 else 0
 | _=>0
theorem zSS (k:Nat) (h:k < 8) (l:List UInt8) (e:(l == [48 + (UInt8.ofNat k + 1)])=true):dig l=(k:Int) + 1:=by
 rw [beq_iff_eq.1 e]
 have:(48 + (UInt8.ofNat k + 1)).toNat=49 + k:=by
  simp [UInt8.toNat_add,UInt8.toNat_ofNat'];omega
 simp only [dig,this];rw [if_pos (by omega)];omega
theorem zRp (l:List UInt8) (h:∀ j:Nat,j < 8→(l == [48 + (UInt8.ofNat j + 1)])=false):dig l=0:=by
 match l with
 | []=>rfl
 | _ :: _ :: _=>rfl
 | [c]=>
  simp only [dig]
  split
  ·next hc=>
   exfalso
   have:=h (c.toNat - 49) (by omega)
   have e:c=48 + (UInt8.ofNat (c.toNat - 49) + 1):=by
    apply UInt8.toNat_inj.1
    simp [UInt8.toNat_add,UInt8.toNat_ofNat'];omega
   rw [← e] at this;simp at this
  ·rfl
theorem zJt (n:Int) (h0:0≤n) (h1:n < 256) (w:World) :
  (convert 114 9 (.slice (some ⟨w.heap.size,0,none⟩) 1 1)).run Tryz.prog (w.alloc (.cells #[.int .u8 n] 5)) =
   .ok (.string ⟨#[UInt8.ofNat n.toNat]⟩) (w.alloc (.cells #[.int .u8 n] 5)):=by
 have e:((UInt8.ofNat n.toNat).toNat:Int)=n:=(by simp [UInt8.toNat_ofNat'];omega);have h:=run_convert_bytes_back (P:=Tryz.prog) (w.alloc (.cells #[.int .u8 n] 5)) 114 9 5 ⟨w.heap.size,0,none⟩ 1 [UInt8.ofNat n.toNat] Tryz.underlying114 Tryz.underlying5 Tryz.underlying9
  (fun j hj=>by
   simp at hj;subst hj;simp only [List.getElem_cons_zero,e];simp [Addr.add])
 exact h
theorem zDr (l:List UInt8) (w:World) :
  Calls Tryz.prog 81 #[.string ⟨l.toArray⟩] w fun e w'=>e=.returned (.int .i64 (dig l))∧Below w.heap.size w w':=by
 go_enter Tryz.func81,Tryz.ntmps81
 go_wp2
 go_loopw [3] (fun i wr=>∃ k:Nat,k≤8∧i=.int .i64 (k + 1)∧Below w.heap.size w wr∧(∀ j:Nat,j < k→(l == [48 + (UInt8.ofNat j + 1)])=false)) (fun i _=>10 - (intOf i).toNat)
 case atStart=>exact ⟨0,by omega,rfl,Below.refl _ _,fun j h=>absurd h (by omega)⟩
 case round=>
  obtain ⟨k,hk,rfl,hb,hno⟩:=hrel;have HN:Hid (∀ j:Nat,j < k→(l == [48 + (UInt8.ofNat j + 1)])=false):=hno;clear hno
  by_cases hlt:k < 8
  ·have hcv:=zJt (48 + ((k:Int) + 1)) (by omega) (by omega) wr
   go_wp2
   ·go_ret;exact ⟨zA7 (zSS k hlt l ‹_›).symm,hb.alloc hb.size _⟩
   ·go_roundw
    case rel=>
     refine ⟨k + 1,by omega,by go_num,hb.alloc hb.size _,fun j hj=>?_⟩
     rcases Nat.lt_or_ge j k with h | h
     ·exact HN.out j h
     ·have:j=k:=by omega
      subst this;assumption
    case measure=>simp [intOf];omega
  ·go_wp2
   go_ret
   have:k=8:=by omega
   subst this;exact ⟨zA7 (zRp l HN.out).symm,hb⟩
theorem zDn (a:Nat) (ha:a < 9223372036854775808):(BitVec.ofInt 64 (a:Int)).toNat=a:=by
 rw [BitVec.toNat_ofInt];omega
theorem zBa (a:Nat) (ha:a < 9223372036854775808):IntKind.i64.wrap (a:Int)=(a:Int):=by
 have e:(a:Int) % 18446744073709551616=a:=(by omega);show (if (true && decide ((a:Int) % 18446744073709551616 ≥ 9223372036854775808))=true then (a:Int) % 18446744073709551616 - 18446744073709551616 else (a:Int) % 18446744073709551616)=a;rw [e,if_neg (by simp;omega)]
theorem zCK (a b:Nat) (ha:a < 9223372036854775808) (hb:b < 9223372036854775808):bits .or .i64 (a:Int) (b:Int)=((a ||| b:Nat):Int):=by
 have h:a ||| b < 9223372036854775808:=Nat.or_lt_two_pow (n:=63) ha hb;show IntKind.i64.wrap (((BitVec.ofInt 64 (a:Int) ||| BitVec.ofInt 64 (b:Int)).toNat:Nat):Int)=_;rw [BitVec.toNat_or,zDn a ha,zDn b hb,zBa _ h]
theorem zBN (a b:Nat) (ha:a < 9223372036854775808) (hb:b < 9223372036854775808):bits .and .i64 (a:Int) (b:Int)=((a &&& b:Nat):Int):=by
 have h:a &&& b < 9223372036854775808:=Nat.lt_of_le_of_lt Nat.and_le_left ha;show IntKind.i64.wrap (((BitVec.ofInt 64 (a:Int) &&& BitVec.ofInt 64 (b:Int)).toNat:Nat):Int)=_;rw [BitVec.toNat_and,zDn a ha,zDn b hb,zBa _ h]
def zb (a b:Nat):Nat:=a ^^^ (a &&& b)
theorem zn (a b i:Nat):(zb a b).testBit i=(a.testBit i && !b.testBit i):=by
 unfold zb;rw [Nat.testBit_xor,Nat.testBit_and];cases a.testBit i<;>cases b.testBit i<;>rfl
theorem zJ5 (a b:Nat):zb a b≤a:=by
 apply Nat.le_of_testBit
 intro i h;rw [zn] at h;simp at h;exact h.1
theorem zBJ (a b:Nat) (ha:a < 9223372036854775808) (hb:b < 9223372036854775808):bits .andNot .i64 (a:Int) (b:Int)=((zb a b:Nat):Int):=by
 have h:zb a b < 9223372036854775808:=Nat.lt_of_le_of_lt (zJ5 a b) ha;show IntKind.i64.wrap (((BitVec.ofInt 64 (a:Int) &&& ~~~ BitVec.ofInt 64 (b:Int)).toNat:Nat):Int)=_;have e:(BitVec.ofInt 64 (a:Int) &&& ~~~ (BitVec.ofInt 64 (b:Int))).toNat=zb a b:=by
  apply Nat.eq_of_testBit_eq
  intro i;rw [zn,BitVec.testBit_toNat,BitVec.getLsbD_and,BitVec.getLsbD_not];rw [← BitVec.testBit_toNat,← BitVec.testBit_toNat,zDn a ha,zDn b hb]
  by_cases hi:i < 64
  ·simp [hi]
  ·have:a.testBit i=false:=Nat.testBit_lt_two_pow (Nat.lt_of_lt_of_le (show a < 2 ^ 63 from ha) (Nat.pow_le_pow_right (by omega) (by omega)))
   simp [this]
 rw [e,zBa _ h]
theorem zB3 (l:List UInt8):0≤dig l∧dig l≤8:=by
 unfold dig;split
 ·split<;>omega
 ·omega
theorem zD2 (n:Nat) (h:n≤8):2 ^ n≤256:=by
 have:=Nat.pow_le_pow_right (n:=2) (by omega) h
 simpa using this
theorem zH0 (v:Int) (h0:0≤v) (h1:v≤8):wrap64 (2 ^ v.toNat)=((2 ^ v.toNat:Nat):Int):=by
 have h:=zD2 v.toNat (by omega);rw [show (2:Int) ^ v.toNat=((2 ^ v.toNat:Nat):Int) from by simp];generalize 2 ^ v.toNat=m at *;exact IntWalk.wrap64_in _ ⟨by omega,by omega⟩
theorem zF1 (n:Nat) (hn:n < 512) (v:Int) (h0:0≤v) (h1:v≤8):bits .or .i64 (n:Int) (wrap64 (2 ^ v.toNat))=((n ||| 2 ^ v.toNat:Nat):Int):=by
 have h:=zD2 v.toNat (by omega);rw [zH0 v h0 h1];generalize 2 ^ v.toNat=m at *;exact zCK _ _ (by omega) (by omega)
theorem zBD (a b:Nat) (ha:a < 512) (hb:b < 512):a ||| b < 512:=Nat.or_lt_two_pow (n:=9) ha hb
attribute [local go_sem] zHH
theorem zLV (l:List UInt8) (b p n:Nat) (w:World) (hblk:w.heap[b]?=some (.cells #[.int .i64 p,.int .i64 n] 121 (0,0))) (hn:n < 512) :
  Calls Tryz.prog 80 #[.pointer (some ⟨b,0,none⟩),.string ⟨(45 :: l).toArray⟩] w fun e w'=>
   e=.returned (.bool (decide (0 < dig l)))∧w'.heap[b]?=some (.cells #[.int .i64 p,.int .i64 ((n ||| 2 ^ (dig l).toNat:Nat):Int)] 121 (0,0))∧Only (·=b) w w':=by
 obtain ⟨d0,d1⟩:=zB3 l
 go_enter Tryz.func80,Tryz.ntmps80
 go_wp2_with fail;rw [zAu,show List.take (l.length + 1 - 1) (List.drop 1 (45 :: l))=l from by simp];refine (zDr l w).mono ?_;rintro e w1 ⟨rfl,hb⟩;have hblk1:w1.heap[b]?=some (.cells #[.int .i64 p,.int .i64 n] 121 (0,0)):=(hb.block b (zB hblk)).trans hblk;obtain ⟨hc0,hc1⟩:=zJ hblk1;have hf1:=zD hblk1 1;go_wp2_with fail
 go_region
 all_goals go_wp2_with fail
 all_goals go_ret
 all_goals
  refine ⟨rfl,?_,((Only.of_below hb).setAt _ _).drew⟩;rw [zF1 n hn _ d0 d1];exact zI hblk1 1 _
theorem zME (l:List UInt8) (h45:l.head?≠some 45) (b p n:Nat) (w:World) (hblk:w.heap[b]?=some (.cells #[.int .i64 p,.int .i64 n] 121 (0,0))) (hp:p < 512) :
  Calls Tryz.prog 80 #[.pointer (some ⟨b,0,none⟩),.string ⟨l.toArray⟩] w fun e w'=>
   e=.returned (.bool (decide (0 < dig l)))∧w'.heap[b]?=some (.cells #[.int .i64 ((p ||| 2 ^ (dig l).toNat:Nat):Int),.int .i64 n] 121 (0,0))∧Only (·=b) w w':=by
 obtain ⟨d0,d1⟩:=zB3 l
 match l with
 | []=>
  clear h45
  go_enter Tryz.func80,Tryz.ntmps80
  go_wp2_with fail;refine (zDr [] w).mono ?_;rintro e w1 ⟨rfl,hb⟩;have hblk1:w1.heap[b]?=some (.cells #[.int .i64 p,.int .i64 n] 121 (0,0)):=(hb.block b (zB hblk)).trans hblk;obtain ⟨hc0,-⟩:=zJ hblk1;have hf1:=zD hblk1 0;go_wp2_with fail
  go_region
  all_goals go_wp2_with fail
  all_goals go_ret
  all_goals
   refine ⟨rfl,?_,((Only.of_below hb).setAt _ _).drew⟩;rw [zF1 p hp _ d0 d1];exact zI hblk1 0 _
 | c :: l=>
  have hc:((c.toNat:Int) == 45)=false:=by
   rw [beq_eq_false_iff_ne];intro e;exact h45 (by simp;apply UInt8.toNat_inj.1;show _=45;omega)
  clear h45
  go_enter Tryz.func80,Tryz.ntmps80
  go_wp2_with fail;refine (zDr (c :: l) w).mono ?_;rintro e w1 ⟨rfl,hb⟩;have hblk1:w1.heap[b]?=some (.cells #[.int .i64 p,.int .i64 n] 121 (0,0)):=(hb.block b (zB hblk)).trans hblk;obtain ⟨hc0,-⟩:=zJ hblk1;have hf1:=zD hblk1 0;go_wp2_with fail
  go_region
  all_goals go_wp2_with fail
  all_goals go_ret
  all_goals
   refine ⟨rfl,?_,((Only.of_below hb).setAt _ _).drew⟩;rw [zF1 p hp _ d0 d1];exact zI hblk1 0 _
end Go.Proofs.YtgipjjhkhfihpaaGreatDoor
namespace Go.Proofs.YtgipjjhkhfihpaaGreatDoor
open Go.RowKit
theorem zHz (a v:Nat) (ha:a < 512) (_hv:v≤8):bits .and .i64 ((a:Int) / 2 ^ v) 1=if a.testBit v then 1 else 0:=by
 have e:(a:Int) / 2 ^ v=((a / 2 ^ v:Nat):Int):=by
  rw [Int.natCast_ediv];simp
 have hle:a / 2 ^ v≤a:=Nat.div_le_self _ _;rw [e,show (1:Int)=((1:Nat):Int) from rfl,zBN _ _ (by omega) (by omega)];rw [Nat.and_one_is_mod,Nat.testBit_eq_decide_div_mod_eq]
 rcases Nat.mod_two_eq_zero_or_one (a / 2 ^ v) with h | h<;>simp [h]
theorem zCx (a v:Nat) (ha:a < 512) (hv:v≤8):(bits .and .i64 ((a:Int) / 2 ^ v) 1 == 1)=a.testBit v:=by
 rw [zHz a v ha hv];cases a.testBit v<;>rfl
theorem zDW (b a v:Nat) (w:World) (ha:a < 512) (hv:v≤8) (hc:w.cell? ⟨b,1,none⟩=some (.int .i64 a)) :
  Calls Tryz.prog 82 #[.pointer (some ⟨b,0,none⟩),.int .i64 v] w fun e w'=>e=.returned (.bool (a.testBit v))∧w'=w:=by
 have hb:=zCx a v ha hv
 go_enter Tryz.func82,Tryz.ntmps82
 go_wp2_with fail;go_ret;exact ⟨rfl,rfl⟩
structure RS where
 cl:List (Nat × Nat)
 told:List Nat
 kinds:List Bool
 seen:Nat
 used:Nat
def zk (c:(Nat × Nat)) (w:List UInt8):(Nat × Nat) × Bool:=
 match w with
 | 45 :: r=>((c.1,c.2 ||| 2 ^ (dig r).toNat),decide (0 < dig r))
 | w=>((c.1 ||| 2 ^ (dig w).toNat,c.2),decide (0 < dig w))
def zBF (ws:List (List UInt8)):(Nat × Nat) × Bool:=
 ws.foldl (fun st w=>((zk st.1 w).1,st.2 && (zk st.1 w).2)) ((0,0),true)
structure PS where
 told:List Nat
 kinds:List Bool
 seen:Nat
 ok:Bool
def zBG (a:Bool) (st:PS) (w:List UInt8):PS:=
 {told:=st.told ++ [(dig w).toNat],kinds:=st.kinds ++ [a],seen:=st.seen ||| 2 ^ (dig w).toNat,
  ok:=if dig w=0∨st.seen.testBit (dig w).toNat then false else st.ok }
def zAg (a:Bool) (st:RS) (ws:List (List UInt8)):PS:=ws.foldl (zBG a) ⟨st.told,st.kinds,st.seen,true⟩
def zEH (st:RS) (hd:List UInt8) (tl:List (List UInt8)):RS × Bool:=
 if hd=[99] then
  ({ st with cl:=st.cl ++ [(zBF tl).1],used:=st.used ||| (zBF tl).1.1 ||| (zBF tl).1.2 },(zBF tl).2)
 else if (hd=[101]∨hd=[97])∧st.cl=[]∧tl≠[] then
  ({ st with told:=(zAg (hd == [97]) st tl).told,kinds:=(zAg (hd == [97]) st tl).kinds,seen:=(zAg (hd == [97]) st tl).seen },(zAg (hd == [97]) st tl).ok)
 else (st,false)
def zCF (st:RS) (row:List UInt8):RS × Bool:=
 match zZ 32 row with
 | []=>(st,false)
 | hd :: tl=>zEH st hd tl
theorem zE2 (st:RS) (row hd:List UInt8) (tl:List (List UInt8)) (h:zZ 32 row=hd :: tl):zCF st row=zEH st hd tl:=by unfold zCF;rw [h]
def zAy (st:RS) (i:Nat):List (List UInt8)→RS ⊕ Nat
 | []=>.inl st
 | r :: rs=>if (zCF st r).2 then zAy (zCF st r).1 (i + 1) rs else .inr (i + 1)
def rs0:RS:=⟨[],[],[],0,0⟩
theorem zLu (c:Nat × Nat) (r:List UInt8) (h:r.head?≠some 45):zk c r=((c.1 ||| 2 ^ (dig r).toNat,c.2),decide (0 < dig r)):=by
 unfold zk;split
 ·simp at h
 ·rfl
theorem zF4 (c:Nat × Nat) (r:List UInt8) (h1:c.1 < 512) (h2:c.2 < 512):(zk c r).1.1 < 512∧(zk c r).1.2 < 512:=by
 have d:∀ r,2 ^ (dig r).toNat < 512:=fun r=>by
  have:=zB3 r;have:=zD2 (dig r).toNat (by omega);omega
 unfold zk;split
 ·exact ⟨h1,zBD _ _ h2 (d _)⟩
 ·exact ⟨zBD _ _ h1 (d _),h2⟩
theorem zMR (ws:List (List UInt8)) (j:Nat) (h:j < ws.length):zBF (ws.take (j + 1))=((zk (zBF (ws.take j)).1 ws[j]).1,(zBF (ws.take j)).2 && (zk (zBF (ws.take j)).1 ws[j]).2):=by
 unfold zBF;rw [List.take_succ_eq_append_getElem h,List.foldl_append];rfl
theorem zJU (ws:List (List UInt8)):(zBF ws).1.1 < 512∧(zBF ws).1.2 < 512:=by
 unfold zBF
 suffices h:∀ (ws:List (List UInt8)) (st:(Nat × Nat) × Bool),st.1.1 < 512→st.1.2 < 512→(ws.foldl (fun st w=>((zk st.1 w).1,st.2 && (zk st.1 w).2)) st).1.1 < 512∧(ws.foldl (fun st w=>((zk st.1 w).1,st.2 && (zk st.1 w).2)) st).1.2 < 512 from h ws _ (by decide) (by decide)
 intro ws
 induction ws with
 | nil=>intro st h1 h2;exact ⟨h1,h2⟩
 | cons w ws ih=>
  intro st h1 h2
  have:=zF4 st.1 w h1 h2
  exact ih _ this.1 this.2
theorem zHr (l:List UInt8) (b p n:Nat) (w:World) (hblk:w.heap[b]?=some (.cells #[.int .i64 p,.int .i64 n] 121 (0,0))) (hp:p < 512) (hn:n < 512) :
  Calls Tryz.prog 80 #[.pointer (some ⟨b,0,none⟩),.string ⟨l.toArray⟩] w fun e w'=>
   e=.returned (.bool (zk (p,n) l).2)∧w'.heap[b]?=some (.cells #[.int .i64 ((zk (p,n) l).1.1:Int),.int .i64 ((zk (p,n) l).1.2:Int)] 121 (0,0))∧Only (·=b) w w':=by
 by_cases h:l.head?=some 45
 ·match l,h with
  | c :: r,h=>
   simp at h;subst h;exact zLV r b p n w hblk hn
 ·rw [zLu _ _ h];exact zME l h b p n w hblk hp
theorem zDq (c:UInt8) (l:List UInt8):∀ r∈zZ c l,r.length≤l.length:=by
 have h:∀ (l:List UInt8) (st:List (List UInt8) × List UInt8) (B:Nat),(∀ r∈st.1,r.length≤B)→st.2.length≤B→(∀ r∈(l.foldl (zt c) st).1,r.length≤B + l.length)∧(l.foldl (zt c) st).2.length≤B + l.length:=by
  intro l
  induction l with
  | nil=>intro st B h1 h2;exact ⟨by simpa using h1,by simpa using h2⟩
  | cons b l ih=>
   intro st B h1 h2
   have:=ih (zt c st b) (B + 1) (by
    intro r hr;unfold zt at hr
    split at hr
    ·simp at hr
     rcases hr with hr | hr
     ·have:=h1 r hr;omega
     ·subst hr;omega
    ·have:=h1 r hr;omega) (by unfold zt;split<;>simp;omega)
   simp only [List.foldl_cons,List.length_cons];rw [show B + (l.length + 1)=B + 1 + l.length from by omega];exact this
 have:=h l ([],[]) 0 (by simp) (by simp)
 intro r hr;simp [zZ] at hr
 rcases hr with hr | hr
 ·have:=this.1 r hr;omega
 ·have:=this.2;subst hr;unfold zU;omega
structure zv where
 order:List Nat
 all:Nat
 ends:List Nat
 cl:List (Nat × Nat)
def zB0 (st:RS) (k:Nat):List Nat:=((List.range k).map (· + 1)).filter (fun v=>st.used.testBit v && !st.seen.testBit v)
def zDE (st:RS) (k:Nat):Nat:=((st.told.zip st.kinds).take k).foldl (fun a x=>if x.2 then a ||| 2 ^ x.1 else a) 0
def zFo (order:List Nat) (all:Nat) (i:Nat):Bool:=i == order.length || (all.testBit (order.getD i 0) != all.testBit (order.getD (i - 1) 0))
def zDS (order:List Nat) (all:Nat) (k:Nat):List Nat:=((List.range k).map (· + 1)).filter (zFo order all)
def zCt (st:RS):List Nat:=zB0 st 8 ++ st.told
def zW (st:RS):zv:=
 {order:=zCt st,all:=zDE st st.told.length,ends:=zDS (zCt st) (zDE st st.told.length) (zCt st).length,cl:=st.cl }
def zCU (l:List UInt8):(Nat × Nat) ⊕ zv:=
 if 2000 < l.length then .inl (1,0) else
 match zAy rs0 0 (zZ 10 l).dropLast with
 | .inr i=>.inl (2,i)
 | .inl st=>if (zZ 10 l).getLast?≠some [] then .inl (2,(zZ 10 l).length) else if 24 < st.cl.length then .inl (3,0) else .inr (zW st)
theorem zLJ (st:RS) (k:Nat):zB0 st (k + 1)=zB0 st k ++ (if st.used.testBit (k + 1) && !st.seen.testBit (k + 1) then [k + 1] else []):=by
 unfold zB0;rw [List.range_succ,List.map_append,List.filter_append]
 congr 1
 simp [List.filter_cons]
theorem zHg (order:List Nat) (all k:Nat):zDS order all (k + 1)=zDS order all k ++ (if zFo order all (k + 1) then [k + 1] else []):=by
 unfold zDS;rw [List.range_succ,List.map_append,List.filter_append]
 congr 1
 simp [List.filter_cons]
theorem zNv (st:RS) (k:Nat) (h1:k < st.told.length) (h2:k < st.kinds.length):zDE st (k + 1)=if st.kinds[k] then zDE st k ||| 2 ^ st.told[k] else zDE st k:=by
 unfold zDE;have hz:k < (st.told.zip st.kinds).length:=(by simp;omega);rw [List.take_succ_eq_append_getElem hz,List.foldl_append]
 simp
theorem zPD (st:RS) (row:List UInt8) (tl:List (List UInt8)) (h:zZ 32 row=[99] :: tl) :
  zCF st row=({ st with cl:=st.cl ++ [(zBF tl).1],used:=st.used ||| (zBF tl).1.1 ||| (zBF tl).1.2 },(zBF tl).2):=by
 rw [zE2 _ _ _ _ h,zEH,if_pos rfl]
theorem zOT (st:RS) (row hd:List UInt8) (tl:List (List UInt8)) (h:zZ 32 row=hd :: tl) (hh:hd=[101]∨hd=[97]) (hc:st.cl=[]) (ht:tl≠[]) :
  zCF st row=({ st with told:=(zAg (hd == [97]) st tl).told,kinds:=(zAg (hd == [97]) st tl).kinds,seen:=(zAg (hd == [97]) st tl).seen },(zAg (hd == [97]) st tl).ok):=by
 have h99:hd≠[99]:=(by rcases hh with rfl | rfl<;>decide);rw [zE2 _ _ _ _ h,zEH,if_neg h99,if_pos ⟨hh,hc,ht⟩]
theorem zPo (st:RS) (row hd:List UInt8) (tl:List (List UInt8)) (h:zZ 32 row=hd :: tl) (h99:hd≠[99]) (hh:¬ ((hd=[101]∨hd=[97])∧st.cl=[]∧tl≠[])) :
  (zCF st row).2=false:=by
 rw [zE2 _ _ _ _ h,zEH,if_neg h99,if_neg hh]
theorem zJF (rows:List (List UInt8)) (k:Nat) (row:List UInt8) (hrow:rows[k]?=some row) (hk:k + 1 < rows.length):rows.dropLast.drop k=row :: rows.dropLast.drop (k + 1):=by
 have hl:k < rows.dropLast.length:=(by simp;omega);rw [List.drop_eq_getElem_cons hl]
 congr 1
 rw [List.getElem_dropLast]
 have:=(List.getElem?_eq_some_iff.1 hrow).2
 exact this
theorem zLE (a:Bool) (st:RS) (ws:List (List UInt8)) (j:Nat) (h:j < ws.length):zAg a st (ws.take (j + 1))=zBG a (zAg a st (ws.take j)) ws[j]:=by
 unfold zAg;rw [List.take_succ_eq_append_getElem h,List.foldl_append];rfl
theorem zIg (a:Bool) (p:PS) (w:List UInt8) (dn:Nat) (h:dig w=(dn:Int)) :
  zBG a p w=⟨p.told ++ [dn],p.kinds ++ [a],p.seen ||| 2 ^ dn,if dn=0∨p.seen.testBit dn=true then false else p.ok⟩:=by
 unfold zBG;rw [h];simp only [Int.toNat_natCast]
 by_cases h0:dn=0
 ·subst h0;simp
 ·have:¬ ((dn:Int)=0):=by omega
  simp [h0]
theorem zOX (a:Bool) (st:RS) (ws:List (List UInt8)) (hs:st.seen < 512) (hk:st.kinds.length=st.told.length) :
  (zAg a st ws).seen < 512∧(zAg a st ws).told.length=st.told.length + ws.length∧(zAg a st ws).kinds.length=st.told.length + ws.length:=by
 unfold zAg
 suffices h:∀ (ws:List (List UInt8)) (p:PS),p.seen < 512→p.kinds.length=p.told.length→(ws.foldl (zBG a) p).seen < 512∧(ws.foldl (zBG a) p).told.length=p.told.length + ws.length∧(ws.foldl (zBG a) p).kinds.length=p.told.length + ws.length from h ws _ hs hk
 intro ws
 induction ws with
 | nil=>intro p h1 h2;exact ⟨h1,rfl,h2⟩
 | cons w ws ih=>
  intro p h1 h2;have d:2 ^ (dig w).toNat < 512:=by have:=zB3 w;have:=zD2 (dig w).toNat (by omega);omega
  have:=ih (zBG a p w) (zBD _ _ h1 d) (by simp [zBG,h2])
  simp only [List.foldl_cons,List.length_cons];simp only [zBG,List.length_append,List.length_cons,List.length_nil] at this ⊢;omega
theorem zE6 {P:Program} {ops:Array Oper} {o:Oper} {a:Act} {w:World} {K:Act→World→Prop} {Q:Exit→Act→World→Prop} {E:Prop}
  (hg:o.guard=none) (s x:Operand) (t:TypeId) (hop:o.op=Op.call { callee:=Callee.builtin Builtin.append,args:=#[s,x],argTypes:=#[t,t] })
  (base:Nat) (e:TypeId) (i:TypeInfo) (z:Value) (size bytes:Nat) (ht:P.underlying t=some (.slice e)) (hi:P.info? e=some i) (hz:i.zero=some z)
  (hsize:i.size=size) (hby:i.bytes=bytes) (hzs:z.cells.size=size) (hsz:0 < size)
  (v:Value) (n:Nat) (xs:List Value) (hown:w.ownsRow base e size v n xs) (hs:a.eval s=v)
  (ad:Addr) (m c:Nat) (news:List Value) (hx:a.eval x=.slice (some ad) m c) (hl:news.length=m * size) (hnews:∀ j u,news[j]?=some u→w.cell? (ad.add j)=some u) (h1:∀ u∈news,u.oneCell'=true)
  (h63:n + m≤maxLen) (hbytes:(n + m) * bytes≤140737488355328) (hbase:base≤w.heap.size)
  (hK:∀ v' w',w'.ownsRow base e size v' (n + m) (xs ++ news)→w.grownBy w' v.ownBlock→(v'=.slice none 0 0↔v=.slice none 0 0∧m=0)→K (a.put o.dst v') w') :
  if Region.wanted o (yielded ops a.tmps)=true then Oper.wp P o a w K Q else E:=by
 have hw:Region.wanted o (yielded ops a.tmps)=true:=(by simp [Region.wanted,hg]);rw [if_pos hw];exact wp_append_own w s x t hop base e i z size bytes ht hi hz hsize hby hzs hsz v n xs hs hown ad m c news hx hl hnews h1 h63 hbytes hbase hK
section
variable {P:Program}
theorem zFt (w:World) (base:Nat) (t ty e:TypeId) (i:TypeInfo) (z:Value) (size bytes:Nat) (ht:P.underlying t=some (.slice e)) (hi:P.info? e=some i) (hz:i.zero=some z)
  (hsize:i.size=size) (hby:i.bytes=bytes) (hzs:z.cells.size=size) (hsz:0 < size)
  (v:Value) (n:Nat) (xs:List Value) (hown:w.ownsRow base e size v n xs)
  (a:Addr) (m c:Nat) (news:List Value) (hl:news.length=m * size) (hnews:∀ j u,news[j]?=some u→w.cell? (a.add j)=some u) (h1:∀ u∈news,u.oneCell'=true)
  (h0:0 < m) (h63:n + m≤maxLen) (hbytes:(n + m) * bytes≤140737488355328) (hbase:base≤w.heap.size) :
  ∃ v' w',(Builtin.append_ #[t,t] ty #[v,.slice (some a) m c]).run P w=.ok v' w'∧w'.ownsRow base e size v' (n + m) (xs ++ news)∧w.grownBy w' v.ownBlock∧
   (v'.ownBlock=v.ownBlock∨∃ k,v'.ownBlock=some k∧w.heap.size≤k):=by
 obtain ⟨v',w',hr,h2,h3,_⟩:=run_append_own (P:=P) w base t ty e i z size bytes ht hi hz hsize hby hzs hsz v n xs hown a m c news hl hnews h1 h63 hbytes hbase;refine ⟨v',w',hr,h2,h3,?_⟩;have hsmall:n + m≤9223372036854775807:=(by simp only [maxLen] at h63;omega);subst hsize hby;have hx:=hown
 rcases hx.2 with ⟨rfl,rfl⟩ | ⟨g,cap,cur,rfl,hbg,hg,hnc,hcm,hcs,htake⟩
 ·have hq:=run_append_nil (P:=P) w t ty e i z ht hi hz a m c news hl hnews h0 (by omega) (by simp only [Nat.zero_add] at hbytes;omega);rw [hq] at hr;injection hr with e1 e2;subst e1;exact Or.inr ⟨_,rfl,Nat.le_refl _⟩
 ·by_cases hroom:n + m≤cap
  ·have hfit:n * i.size + news.length≤cur.size:=(by rw [hl,hcs,← Nat.add_mul];exact Nat.mul_le_mul_right _ hroom);have hq:=run_append_room (P:=P) w t ty e i ht hi g n cap cur hg a m c news hl hnews h1 hroom hfit;rw [hq] at hr;injection hr with e1 e2;subst e1;exact Or.inl rfl
  ·have hq:=run_append_grow (P:=P) w t ty e i z ht hi hz ⟨g,0,none⟩ n cap xs hown.1 (hown.cells (g:=g) rfl) a m c news hl hnews (by omega) (by omega) (growslice_fits (by omega) hbytes);rw [hq] at hr;injection hr with e1 e2;subst e1;exact Or.inr ⟨_,rfl,Nat.le_refl _⟩
theorem zGq {w:World} {o:Oper} {a:Act} {K:Act→World→Prop} {Q:Exit→Act→World→Prop} (s x:Operand) (t:TypeId)
  (ho:o.op=.call { callee:=.builtin .append,args:=#[s,x],argTypes:=#[t,t] })
  (base:Nat) (e:TypeId) (i:TypeInfo) (z:Value) (size bytes:Nat) (ht:P.underlying t=some (.slice e)) (hi:P.info? e=some i) (hz:i.zero=some z)
  (hsize:i.size=size) (hby:i.bytes=bytes) (hzs:z.cells.size=size) (hsz:0 < size)
  (v:Value) (n:Nat) (xs:List Value) (hown:w.ownsRow base e size v n xs) (hs:a.eval s=v)
  (ad:Addr) (m c:Nat) (news:List Value) (hx:a.eval x=.slice (some ad) m c) (hl:news.length=m * size) (hnews:∀ j u,news[j]?=some u→w.cell? (ad.add j)=some u) (h1:∀ u∈news,u.oneCell'=true)
  (h0:0 < m) (h63:n + m≤maxLen) (hbytes:(n + m) * bytes≤140737488355328) (hbase:base≤w.heap.size)
  (h:∀ v' w',w'.ownsRow base e size v' (n + m) (xs ++ news)→w.grownBy w' v.ownBlock→(v'.ownBlock=v.ownBlock∨∃ k,v'.ownBlock=some k∧w.heap.size≤k)→K (a.put o.dst v') w'):o.wp P a w K Q:=by
 obtain ⟨v',w',hr,h2,h3,h4⟩:=zFt (P:=P) w base t o.type e i z size bytes ht hi hz hsize hby hzs hsz v n xs hown ad m c news hl hnews h1 h0 h63 hbytes hbase;unfold Oper.wp execOp;simp only [ho,resolve,invoke,builtin,Sem.run_bind,Sem.run_pure,Result.andThen_ok,List.map_toArray,List.map_cons,List.map_nil,hs,hx,hr];exact h v' w' h2 h3 h4
theorem zp {ops:Array Oper} {rest:List Oper} {o:Oper} {a:Act} {Q:Exit→Act→World→Prop} {w:World} {news:List Value} {e:TypeId} (hgd:o.guard=none) (s x:Operand) (t:TypeId)
  (ho:o.op=.call { callee:=.builtin .append,args:=#[s,x],argTypes:=#[t,t] })
  (base:Nat) (i:TypeInfo) (z:Value) (size bytes:Nat) (ht:P.underlying t=some (.slice e)) (hi:P.info? e=some i) (hz:i.zero=some z)
  (hsize:i.size=size) (hby:i.bytes=bytes) (hzs:z.cells.size=size) (hsz:0 < size)
  (v:Value) (n:Nat) (xs:List Value) (hown:w.ownsRow base e size v n xs) (hs:a.eval s=v)
  (hx:a.eval x=.slice (some ⟨w.heap.size,0,none⟩) 1 1) (hl:news.length=size) (h1:∀ u∈news,u.oneCell'=true)
  (h63:n + 1≤maxLen) (hbytes:(n + 1) * bytes≤140737488355328) (hbase:base≤w.heap.size)
  (h:∀ v' w',w'.ownsRow base e size v' (n + 1) (xs ++ news)→w.grownBy w' v.ownBlock→(v'.ownBlock=v.ownBlock∨∃ k,v'.ownBlock=some k∧w.heap.size≤k)→wpList P ops Q rest (a.put o.dst v') w'):wpList P ops Q (o :: rest) a (w.alloc (.cells news.toArray e)):=by
 refine wpList_plain hgd fun _ hK=>zGq s x t ho base e i z size bytes ht hi hz hsize hby hzs hsz v n xs (hown.alloc _) hs ⟨w.heap.size,0,none⟩ 1 1 news hx (by simpa using hl) (zBX w news e) h1 (by decide) h63 hbytes (by simp;omega) fun v' w' h2 h3 h4=>hK _ _ (h v' w' h2 ?_ ?_)
 ·exact ⟨h3.os,h3.tape,h3.output,Nat.le_trans (by simp) h3.size,fun k hk hne=>(h3.block k (by simp;omega) hne).trans (heap_alloc_old w _ hk)⟩
 ·rcases h4 with h4 | ⟨k,h4,h5⟩
  ·exact Or.inl h4
  ·exact Or.inr ⟨k,h4,by simp at h5;omega⟩
theorem zDy {ops:Array Oper} {o:Oper} {a:Act} {w:World} {K:Act→World→Prop} {Q:Exit→Act→World→Prop} {E:Prop}
  (hg:o.guard=none) (s x:Operand) (t:TypeId) (hop:o.op=Op.call { callee:=Callee.builtin Builtin.append,args:=#[s,x],argTypes:=#[t,t] })
  (base:Nat) (e:TypeId) (i:TypeInfo) (z:Value) (size bytes:Nat) (ht:P.underlying t=some (.slice e)) (hi:P.info? e=some i) (hz:i.zero=some z)
  (hsize:i.size=size) (hby:i.bytes=bytes) (hzs:z.cells.size=size) (hsz:0 < size)
  (v:Value) (n:Nat) (xs:List Value) (hown:w.ownsRow base e size v n xs) (hs:a.eval s=v)
  (ad:Addr) (m c:Nat) (news:List Value) (hx:a.eval x=.slice (some ad) m c) (hl:news.length=m * size) (hnews:∀ j u,news[j]?=some u→w.cell? (ad.add j)=some u) (h1:∀ u∈news,u.oneCell'=true)
  (h0:0 < m) (h63:n + m≤maxLen) (hbytes:(n + m) * bytes≤140737488355328) (hbase:base≤w.heap.size)
  (hK:∀ v' w',w'.ownsRow base e size v' (n + m) (xs ++ news)→w.grownBy w' v.ownBlock→(v'.ownBlock=v.ownBlock∨∃ k,v'.ownBlock=some k∧w.heap.size≤k)→K (a.put o.dst v') w') :
  if Region.wanted o (yielded ops a.tmps)=true then Oper.wp P o a w K Q else E:=by
 have hw:Region.wanted o (yielded ops a.tmps)=true:=(by simp [Region.wanted,hg]);rw [if_pos hw];exact zGq s x t hop base e i z size bytes ht hi hz hsize hby hzs hsz v n xs hown hs ad m c news hx hl hnews h1 h0 h63 hbytes hbase hK
end
theorem zGN (c:UInt8) (a b:List UInt8):zU c (a ++ b)=b.foldl (zt c) (zU c a):=by
 unfold zU;rw [List.foldl_append]
theorem zJy (c:UInt8) (l:List UInt8):∃ pre,l=pre ++ (zU c l).2:=by
 suffices h:∀ (n:Nat) (l:List UInt8),l.length=n→∃ pre,l=pre ++ (zU c l).2 from h _ l rfl
 intro n
 induction n with
 | zero=>intro l hl;exact ⟨[],by rw [List.eq_nil_of_length_eq_zero hl];rfl⟩
 | succ n ih=>
  intro l hl;obtain ⟨a,b,rfl⟩:∃ a b,l=a ++ [b]:=⟨l.dropLast,l.getLast (by intro e;subst e;simp at hl),(List.dropLast_concat_getLast _).symm⟩;obtain ⟨pre,hpre⟩:=ih a (by simp at hl;omega);rw [zGN];simp only [List.foldl_cons,List.foldl_nil];unfold zt
  split
  ·exact ⟨a ++ [b],by simp⟩
  ·exact ⟨pre,by simp;rw [← List.append_assoc,← hpre]⟩
theorem zNp (c:UInt8) (l:List UInt8):l.drop (l.length - (zU c l).2.length)=(zU c l).2:=by
 obtain ⟨pre,h⟩:=zJy c l;generalize (zU c l).2=t at *;subst h
 simp
theorem zHU (c:UInt8) (l:List UInt8) (k s:Nat) (hk:k≤l.length) (hs:s + (zU c (l.take k)).2.length=k):(l.drop s).take (k - s)=(zU c (l.take k)).2:=by
 have h:=zNp c (l.take k);rw [List.length_take,Nat.min_eq_left hk] at h;rw [show k - (zU c (l.take k)).2.length=s from by omega] at h;rw [← h,List.drop_take]
attribute [local go_sem] zHH
theorem zJc (l:List UInt8) (w:World) (hl:l.length≤1048576) :
  Calls Tryz.prog 43 #[.string ⟨l.toArray⟩] w fun e w'=>
   ∃ v,e=.returned (.tuple #[v,.bool (decide ((zU 10 l).2=[]))])∧w'.ownsRow w.heap.size 9 1 v (zU 10 l).1.length ((zU 10 l).1.map S)∧Below w.heap.size w w':=by
 obtain ⟨i0,hi,hz0,hz1,hz2⟩:=info_parts Tryz.info9
 go_enter Tryz.func43,Tryz.ntmps43
 go_wp2
 go_loopw [4,5,6] (fun v t i wr=>∃ k s:Nat,k≤l.length∧i=.int .i64 k∧t=.int .i64 s∧s + (zU 10 (l.take k)).2.length=k∧wr.ownsRow w.heap.size 9 1 v (zU 10 (l.take k)).1.length ((zU 10 (l.take k)).1.map S)∧Below w.heap.size w wr) (fun _ _ i _=>l.length - (intOf i).toNat)
 case atStart=>exact ⟨0,0,by omega,rfl,rfl,rfl,World.ownsRow_nil _ _ _ _,Below.refl _ _⟩
 case round=>
  obtain ⟨k,s,hk,rfl,rfl,hs,hown,hb⟩:=hrel;have hsz:=zA9 10 (l.take k);rw [List.length_take] at hsz;have hbs:=hb.size;have HP:=zF (zHU 10 l k s hk hs);have hsk:s≤k:=(by omega);have HS:=zF hs;clear hs
  by_cases hlt:k < l.length
  ·by_cases hc:l[k]=10
   ·have hcb:((l[k].toNat:Int) == 10)=true:=by rw [hc];rfl
    go_wp2_with (first | (at_builtin;refine zV rfl _ _ 100 rfl w.heap.size i0 (.string ⟨#[]⟩) 1 16 Tryz.underlying100 hi hz0 hz1 hz2 rfl (by decide) _ _ _ hown rfl rfl rfl ?_ ?_ ?_ hbs ?_;rotate_right;intro v' w1 hown' hgrow hnn) | go_in)
    ·go_roundw
     case rel=>
      have e:zU 10 (l.take (k + 1))=((zU 10 (l.take k)).1 ++ [(zU 10 (l.take k)).2],[]):=by
       rw [zB1 10 l k hlt];unfold zt;rw [if_pos hc]
      refine ⟨k + 1,k + 1,by omega,by go_num,by go_num,?_,?_,za hb hgrow hown (Nat.le_refl _) hbs⟩
      ·rw [e];rfl
      ·rw [zAu,zA HP] at hown';rw [e];simpa using hown'
     case measure=>simp [intOf];omega
    ·intro u hu;simp at hu;subst hu;rfl
    ·unfold maxLen;omega
    ·omega
   ·have hcb:((l[k].toNat:Int) == 10)=false:=by
     rw [beq_eq_false_iff_ne];intro e;exact hc (by apply UInt8.toNat_inj.1;show _=10;omega)
    go_wp2_with fail
    go_roundw
    case rel=>
     have e:zU 10 (l.take (k + 1))=((zU 10 (l.take k)).1,(zU 10 (l.take k)).2 ++ [l[k]]):=by
      rw [zB1 10 l k hlt];unfold zt;rw [if_neg hc]
     refine ⟨k + 1,s,by omega,by go_num,rfl,?_,?_,hb⟩
     ·rw [e];simp;have:=zA HS;omega
     ·rw [e];exact hown
    case measure=>simp [intOf];omega
  ·have hkl:k=l.length:=(by omega);subst hkl;have HT:Hid (l.take l.length=l):=zF List.take_length;rw [zA HT] at hown HS;have hsb:((s:Int) == (l.length:Int))=decide ((zU 10 l).2=[]):=by
    have:=zA HS
    rw [Bool.eq_iff_iff,beq_iff_eq,decide_eq_true_iff,← List.length_eq_zero_iff];omega
   go_wp2_with fail;go_ret2;exact ⟨_,rfl,hown,hb⟩
theorem zGu (c:UInt8) (l:List UInt8) (k:Nat):(zU c (l.take k)).1 <+: (zU c l).1:=by
 have h:∀ (b:List UInt8) (st:List (List UInt8) × List UInt8),st.1 <+: (b.foldl (zt c) st).1:=by
  intro b
  induction b with
  | nil=>intro st;exact List.prefix_refl _
  | cons x b ih=>
   intro st;refine List.IsPrefix.trans ?_ (ih (zt c st x));unfold zt;split
   ·exact List.prefix_append _ _
   ·exact List.prefix_refl _
 conv=>rhs;rw [← List.take_append_drop k l]
 rw [zGN];exact h _ _
def zB4 (l:List UInt8):Bool:=!(zZ 32 l).any (·.isEmpty)
theorem zPt (l:List UInt8) (k:Nat) (hk:k≤l.length) (h:(zU 32 (l.take k)).2=[]) (hx:∀ h:k < l.length,l[k]=32):zB4 l=false:=by
 unfold zB4;rw [Bool.not_eq_false',List.any_eq_true];refine ⟨[],?_,rfl⟩;unfold zZ
 by_cases hlt:k < l.length
 ·have e:zU 32 (l.take (k + 1))=((zU 32 (l.take k)).1 ++ [[]],[]):=by
   rw [zB1 32 l k hlt];unfold zt;rw [if_pos (hx hlt),h]
  have hp:=zGu 32 l (k + 1);rw [e] at hp;exact List.mem_append_left _ (hp.subset (by simp))
 ·have:k=l.length:=by omega
  subst this;rw [List.take_length] at h;rw [h];simp
def zO8 (l:List UInt8) (w:World) (e:Ending) (w':World):Prop:=Below w.heap.size w w'∧
 if zB4 l=true then ∃ v,e=.returned (.tuple #[v,.bool true])∧w'.ownsRow w.heap.size 9 1 v (zZ 32 l).length ((zZ 32 l).map S)
 else e=.returned (.tuple #[.slice none 0 0,.bool false])
theorem zJl (l:List UInt8) (w:World) (hl:l.length≤1048576) :
  Calls Tryz.prog 65 #[.string ⟨l.toArray⟩] w fun e w'=>zO8 l w e w':=by
 obtain ⟨i0,hi,hz0,hz1,hz2⟩:=info_parts Tryz.info9
 go_enter Tryz.func65,Tryz.ntmps65
 go_wp2
 go_loopg [4,5,6] (l.length + 2) (fun q v t i wr=>∃ k s:Nat,i=.int .i64 k∧t=.int .i64 s∧1≤q∧Below w.heap.size w wr∧
   ((k≤l.length∧k + q=l.length + 2∧s + (zU 32 (l.take k)).2.length=k∧wr.ownsRow w.heap.size 9 1 v (zU 32 (l.take k)).1.length ((zU 32 (l.take k)).1.map S)∧(∀ x∈(zU 32 (l.take k)).1,x≠[]))∨
   (k=l.length + 1∧zB4 l=true∧wr.ownsRow w.heap.size 9 1 v (zZ 32 l).length ((zZ 32 l).map S))))
 case atStart=>exact ⟨0,0,rfl,rfl,by omega,Below.refl _ _,Or.inl ⟨by omega,by omega,rfl,World.ownsRow_nil _ _ _ _,by intro x hx;simp [zU] at hx⟩⟩
 case round=>
  obtain ⟨k,s,rfl,rfl,hq,hb,hrel⟩:=hrel;have hbs:=hb.size
  rcases hrel with ⟨hk,hkq,hs,hown,hne⟩ | ⟨hk,hok,hown⟩
  ·have hsz:=zA9 32 (l.take k);rw [List.length_take] at hsz;have HP:=zF (zHU 32 l k s hk hs);have hsk:s≤k:=(by omega);have HS:=zF hs;clear hs;have HN:=zF hne;clear hne;have hdk:decide ((k:Int)≤(l.length:Int))=true:=by simp;omega
   by_cases hcont:∃ h:k < l.length,l[k]≠32
   ·obtain ⟨hlt,hc⟩:=hcont;have hdl:decide ((k:Int) < (l.length:Int))=true:=(by simp;omega);have hcb:((l[k].toNat:Int) != 32)=true:=by
     rw [bne_iff_ne];intro e;exact hc (by apply UInt8.toNat_inj.1;show _=32;omega)
    go_wp2_with fail
    go_roundg (gk - 1)
    case measure=>omega
    case rel=>
     have e:zU 32 (l.take (k + 1))=((zU 32 (l.take k)).1,(zU 32 (l.take k)).2 ++ [l[k]]):=by
      rw [zB1 32 l k hlt];unfold zt;rw [if_neg hc]
     refine ⟨k + 1,s,by go_num,rfl,by omega,hb,Or.inl ⟨by omega,by omega,?_,?_,?_⟩⟩
     ·rw [e];simp;have:=zA HS;omega
     ·rw [e];exact hown
     ·rw [e];exact zA HN
   ·have hend:∀ h:k < l.length,l[k]=32:=fun h=>Classical.byContradiction fun hc=>hcont ⟨h,hc⟩
    have HX:=zF hend;clear hcont
    by_cases hse:s=k
    ·have hsb:((k:Int) == (s:Int))=true:=(by rw [beq_iff_eq];omega);have hbad:=zPt l k hk (by have:=zA HS;exact List.eq_nil_of_length_eq_zero (by omega)) hend;have HB:=zF hbad;clear hbad;have HSE:=zF hse;clear hse
     by_cases hlt:k < l.length
     ·have hdl:decide ((k:Int) < (l.length:Int))=true:=(by simp;omega);have hcb:((l[k].toNat:Int) != 32)=false:=(by rw [hend hlt];rfl);clear hend;go_wp2_with fail;go_ret2;exact ⟨hb,by rw [zA HB,if_neg (by decide)];rfl⟩
     ·have hdl:decide ((k:Int) < (l.length:Int))=false:=(by simp;omega);clear hend;go_wp2_with fail;go_ret2;exact ⟨hb,by rw [zA HB,if_neg (by decide)];rfl⟩
    ·have hsb:((k:Int) == (s:Int))=false:=(by rw [beq_eq_false_iff_ne];omega);have HNE:Hid ((zU 32 (l.take k)).2≠[]):=zF (fun e=>by have:=zA HS;rw [e] at this;simp at this;omega)
     by_cases hlt:k < l.length
     ·have hdl:decide ((k:Int) < (l.length:Int))=true:=(by simp;omega);have hcb:((l[k].toNat:Int) != 32)=false:=(by rw [hend hlt];rfl);clear hend
      go_wp2_with (first | (at_builtin;refine zV rfl _ _ 100 rfl w.heap.size i0 (.string ⟨#[]⟩) 1 16 Tryz.underlying100 hi hz0 hz1 hz2 rfl (by decide) _ _ _ hown rfl rfl rfl (by simp [Value.oneCell']) (by unfold maxLen;omega) (by omega) hbs ?_;intro v' w1 hown' hgrow hnn) | go_in)
      go_roundg (gk - 1)
      case measure=>omega
      case rel=>
       have e:zU 32 (l.take (k + 1))=((zU 32 (l.take k)).1 ++ [(zU 32 (l.take k)).2],[]):=by
        rw [zB1 32 l k hlt];unfold zt;rw [if_pos (zA HX hlt)]
       refine ⟨k + 1,k + 1,by go_num,by go_num,by omega,za hb hgrow hown (Nat.le_refl _) hbs,Or.inl ⟨by omega,by omega,?_,?_,?_⟩⟩
       ·rw [e];rfl
       ·rw [zAu,zA HP] at hown';rw [e];simpa using hown'
       ·rw [e];intro x hx;simp at hx
        rcases hx with hx | hx
        ·exact zA HN x hx
        ·rw [hx];exact zA HNE
     ·have hdl:decide ((k:Int) < (l.length:Int))=false:=(by simp;omega);clear hend
      go_wp2_with (first | (at_builtin;refine zV rfl _ _ 100 rfl w.heap.size i0 (.string ⟨#[]⟩) 1 16 Tryz.underlying100 hi hz0 hz1 hz2 rfl (by decide) _ _ _ hown rfl rfl rfl (by simp [Value.oneCell']) (by unfold maxLen;omega) (by omega) hbs ?_;intro v' w1 hown' hgrow hnn) | go_in)
      go_roundg (gk - 1)
      case measure=>omega
      case rel=>
       have HT:Hid (l.take k=l):=zF (by rw [show k=l.length from by omega];exact List.take_length);have hn2:=zA HN;have hn3:=zA HNE;rw [zAu,zA HP] at hown';rw [zA HT] at hown' hn2 hn3;refine ⟨k + 1,k + 1,by go_num,by go_num,by omega,za hb hgrow hown (Nat.le_refl _) hbs,Or.inr ⟨by omega,?_,by simpa [zZ] using hown'⟩⟩;unfold zB4 zZ;rw [Bool.not_eq_true',List.any_eq_false];intro x hx;simp at hx
       rcases hx with hx | hx
       ·have:=hn2 x hx;simpa using this
       ·rw [hx];simpa using hn3
  ·have hdk:decide ((k:Int)≤(l.length:Int))=false:=(by simp;omega);have HOK:=zF hok;clear hok;have hk1:l.length < k:=(by omega);have hk2:k≤l.length + 1:=(by omega);clear hk;go_wp2_with fail;go_ret2;exact ⟨hb,by rw [zA HOK,if_pos rfl];exact ⟨_,rfl,hown⟩⟩
end Go.Proofs.YtgipjjhkhfihpaaGreatDoor
namespace Go.Proofs.YtgipjjhkhfihpaaGreatDoor
open Go.RowKit
def zAU (c:UInt8):Bool:=decide (48≤c.toNat∧c.toNat≤57)
def dec (l:List UInt8):Nat:=l.foldl (fun n c=>n * 10 + (c.toNat - 48)) 0
def zl (l:List UInt8) (most:Nat):Option Nat:=
 if l=[]∨l.head?=some 48∨l.all zAU=false∨most < dec l then none else some (dec l)
theorem zFV (l:List UInt8) (k:Nat) (h:k < l.length):dec (l.take (k + 1))=dec (l.take k) * 10 + (l[k].toNat - 48):=by
 unfold dec;rw [List.take_succ_eq_append_getElem h,List.foldl_append];rfl
theorem zEd (l:List UInt8) (k:Nat):dec (l.take k)≤dec l:=by
 have h:∀ (b:List UInt8) (n:Nat),n≤b.foldl (fun n c=>n * 10 + (c.toNat - 48)) n:=by
  intro b
  induction b with
  | nil=>intro n;exact Nat.le_refl _
  | cons c b ih=>intro n;exact Nat.le_trans (by simp only [];omega) (ih _)
 conv=>rhs;rw [← List.take_append_drop k l]
 unfold dec;rw [List.foldl_append];exact h _ _
theorem zHv (l:List UInt8) (most k:Nat) (h:k < l.length) (hd:zAU l[k]=false):zl l most=none:=by
 unfold zl;rw [if_pos]
 right;right;left
 rw [List.all_eq_false];exact ⟨l[k],List.getElem_mem h,by simp [hd]⟩
theorem zIj (l:List UInt8) (most k:Nat) (h:k < l.length) (hd:most < dec (l.take k) * 10 + (l[k].toNat - 48)):zl l most=none:=by
 unfold zl;rw [if_pos]
 right;right;right
 rw [← zFV l k h] at hd;exact Nat.lt_of_lt_of_le hd (zEd l (k + 1))
def zN3 (l:List UInt8) (most:Nat) (w:World) (e:Ending) (w':World):Prop:=
 w'=w∧e=.returned (.tuple #[.int .i64 ((zl l most).getD 0:Nat),.bool (zl l most).isSome])
attribute [local go_sem] zHH
theorem zGH (l:List UInt8) (most:Nat) (w:World) (hl:l.length≤1048576) (hm:most≤1048576) :
  Calls Tryz.prog 123 #[.string ⟨l.toArray⟩,.int .i64 most] w fun e w'=>zN3 l most w e w':=by
 by_cases hnil:l=[]
 ·subst hnil;have HN:Hid (zl [] most=none):=zF (by unfold zl;rw [if_pos (Or.inl rfl)])
  go_enter Tryz.func123,Tryz.ntmps123
  go_wp2_with fail;go_ret2;exact ⟨rfl,by rw [zA HN];rfl⟩
 have h0:0 < l.length:=List.length_pos_iff.2 hnil;have hcl:((l.length:Int) == 0)=false:=by rw [beq_eq_false_iff_ne];omega
 by_cases hc0:l[0]=48
 ·have HN:Hid (zl l most=none):=zF (by unfold zl;rw [if_pos (Or.inr (Or.inl (by rw [List.head?_eq_getElem?,List.getElem?_eq_getElem h0,hc0])))]);have hcb:((l[0].toNat:Int) == 48)=true:=(by rw [hc0];rfl);clear hc0 hnil
  go_enter Tryz.func123,Tryz.ntmps123
  go_wp2_with fail;go_ret2;exact ⟨rfl,by rw [zA HN];rfl⟩
 ·have hcb:((l[0].toNat:Int) == 48)=false:=by
   rw [beq_eq_false_iff_ne];intro e;exact hc0 (by apply UInt8.toNat_inj.1;show _=48;omega)
  have HH:Hid (l.head?≠some 48):=zF (by rw [List.head?_eq_getElem?,List.getElem?_eq_getElem h0];simpa using hc0);have HNil:=zF hnil;clear hc0 hnil
  go_enter Tryz.func123,Tryz.ntmps123
  go_wp2_with fail
  go_loopg [6,7] (l.length) (fun q n i wr=>∃ k:Nat,i=.int .i64 k∧k + q=l.length∧n=.int .i64 (dec (l.take k):Nat)∧dec (l.take k)≤most∧(l.take k).all zAU=true∧wr=w)
  case atStart=>exact ⟨0,rfl,by omega,rfl,by simp [dec],rfl,rfl⟩
  case round=>
   obtain ⟨k,rfl,hkq,rfl,hle,hall,hwr⟩:=hrel;subst hwr;have HA:=zF hall;clear hall
   by_cases hlt:k < l.length
   ·have hdl:decide ((k:Int) < (l.length:Int))=true:=(by simp;omega);have HDT:=zF (zFV l k hlt);have HBD:=zF (zHv l most k hlt);have HBM:=zF (zIj l most k hlt);generalize dec (l.take k)=n at *;have hb8:l[k].toNat < 256:=UInt8.toNat_lt l[k]
    by_cases hd:zAU l[k]=true
    ·have hd1:48≤l[k].toNat∧l[k].toNat≤57:=of_decide_eq_true hd;have hq1:decide ((l[k].toNat:Int) < 48)=false:=(by simp;omega);have hq2:decide ((57:Int) < (l[k].toNat:Int))=false:=by simp;omega
     by_cases hmu:most < n * 10 + (l[k].toNat - 48)
     ·have HN:=zF (zA HBM hmu)
      by_cases hdm:most < l[k].toNat - 48
      ·have hq3:decide ((most:Int) < (l[k].toNat:Int) - 48)=true:=(by simp;omega);clear hd;go_wp2_with fail;go_ret2;exact ⟨rfl,by rw [zA HN];rfl⟩
      ·have hq3:decide ((most:Int) < (l[k].toNat:Int) - 48)=false:=(by simp;omega);have hq4:decide (((most:Int) - ((l[k].toNat:Int) - 48)) / 10 < (n:Int))=true:=(by simp;omega);clear hd;go_wp2_with fail;go_ret2;exact ⟨rfl,by rw [zA HN];rfl⟩
     ·have hq3:decide ((most:Int) < (l[k].toNat:Int) - 48)=false:=(by simp;omega);have hq4:decide (((most:Int) - ((l[k].toNat:Int) - 48)) / 10 < (n:Int))=false:=(by simp;omega);have HD:=zF hd;clear hd;go_wp2_with fail
      go_roundg (gk - 1)
      case measure=>omega
      case rel=>
       refine ⟨k + 1,by go_num,by omega,?_,by rw [zA HDT];omega,?_,rfl⟩
       ·rw [zA HDT];exact congrArg (Value.int .i64) (by omega)
       ·rw [List.take_succ_eq_append_getElem hlt,List.all_append,zA HA];simp [zA HD]
    ·have hdf:zAU l[k]=false:=(by simpa using hd);have HN:=zF (zA HBD hdf);have hd1:¬ (48≤l[k].toNat∧l[k].toNat≤57):=of_decide_eq_false hdf;clear hd hdf
     by_cases hlo:l[k].toNat < 48
     ·have hq1:decide ((l[k].toNat:Int) < 48)=true:=(by simp;omega);clear hd1;go_wp2_with fail;go_ret2;exact ⟨rfl,by rw [zA HN];rfl⟩
     ·have hq1:decide ((l[k].toNat:Int) < 48)=false:=(by simp;omega);have hq2:decide ((57:Int) < (l[k].toNat:Int))=true:=(by simp;omega);clear hd1;go_wp2_with fail;go_ret2;exact ⟨rfl,by rw [zA HN];rfl⟩
   ·have hkl:k=l.length:=(by omega);subst hkl;have hdl:decide ((l.length:Int) < (l.length:Int))=false:=(by simp);have hA:=zA HA;rw [List.take_length] at hle hA;have HN:Hid (zl l most=some (dec l)):=zF (by
     unfold zl;rw [if_neg];rintro (h | h | h | h)
     ·exact zA HNil h
     ·exact zA HH h
     ·rw [hA] at h;cases h
     ·omega)
    have HT:Hid (l.take l.length=l):=zF List.take_length;clear hA;go_wp2_with fail;go_ret2;refine ⟨rfl,?_⟩;rw [zA HN];show Ending.returned (.tuple #[.int .i64 (dec (l.take l.length):Nat),.bool true])=_;rw [zA HT];rfl
theorem zN8 (l:List UInt8):zl l 8=if dig l=0 then none else some (dig l).toNat:=by
 match l with
 | []=>rfl
 | [c]=>
  have hb8:c.toNat < 256:=UInt8.toNat_lt c;have hdig:dig [c]=if 49≤(c.toNat:Int)∧(c.toNat:Int)≤56 then (c.toNat:Int) - 48 else 0:=rfl
  unfold zl dec zAU;rw [hdig]
  by_cases h:49≤(c.toNat:Int)∧(c.toNat:Int)≤56
  ·rw [if_neg]
   ·rw [if_pos h,if_neg (by omega)]
    simp;omega
   ·rintro (h1 | h1 | h1 | h1)
    ·cases h1
    ·simp at h1;subst h1;revert h;decide
    ·simp at h1;omega
    ·simp at h1;omega
  ·rw [if_neg h,if_pos rfl,if_pos]
   by_cases h48:c=48
   ·right;left;simp [h48]
   ·have:c.toNat≠48:=fun e=>h48 (by apply UInt8.toNat_inj.1;exact e)
    by_cases hd:48≤c.toNat∧c.toNat≤57
    ·right;right;right;simp;omega
    ·right;right;left;simp;omega
 | c :: d :: r=>
  have h0:dig (c :: d :: r)=0:=rfl;rw [h0,if_pos rfl];unfold zl;rw [if_pos]
  by_cases h48:c=48
  ·right;left;simp [h48]
  ·have hc:c.toNat≠48:=fun e=>h48 (by apply UInt8.toNat_inj.1;exact e)
   by_cases hd:(c :: d :: r).all zAU=false
   ·right;right;left;exact hd
   ·right;right;right
    have hc1:48≤c.toNat∧c.toNat≤57:=by
     have:zAU c=true:=by
      simp at hd;exact hd.1
     exact of_decide_eq_true this
    have h1:=zEd (c :: d :: r) 2;have h2:dec ((c :: d :: r).take 2)=(c.toNat - 48) * 10 + (d.toNat - 48):=(by simp [dec]);omega
def zOM (l:List UInt8) (w:World) (e:Ending) (w':World):Prop:=w'=w∧e=.returned (.tuple #[.int .i64 (dig l),.bool (decide (0 < dig l))])
theorem zK2 {l:List UInt8} {w w':World} {e:Ending} (h:zN3 l 8 w e w'):zOM l w e w':=by
 obtain ⟨h1,h2⟩:=h;refine ⟨h1,?_⟩;rw [h2,zN8]
 have:=zB3 l
 by_cases h0:dig l=0
 ·rw [if_pos h0,h0];rfl
 ·rw [if_neg h0];have h1:decide (0 < dig l)=true:=(by simp;omega);rw [h1];have h2:(((some (dig l).toNat).getD 0:Nat):Int)=dig l:=(by simp;omega);rw [h2];rfl
theorem zC4 (l:List UInt8) (w:World) (hl:l.length≤1048576) :
  Calls Tryz.prog 97 #[.string ⟨l.toArray⟩] w fun e w'=>zOM l w e w':=by
 go_enter Tryz.func97,Tryz.ntmps97
 go_wp2_with fail;refine (zGH l 8 w hl (by omega)).mono ?_;intro e w1 hp;obtain ⟨rfl,rfl⟩:=zK2 hp;go_wp2_with fail;go_ret2;exact ⟨rfl,rfl⟩
def zAn (l:List UInt8):Int:=if l.head?=some 45 then - dig l.tail else dig l
def zBb (l:List UInt8):Bool:=if l.head?=some 45 then decide (0 < dig l.tail) else decide (0 < dig l)
def zR8 (l:List UInt8) (w:World) (e:Ending) (w':World):Prop:=w'=w∧e=.returned (.tuple #[.int .i64 (zAn l),.bool (zBb l)])
attribute [local go_sem] zHH
theorem zGU (l:List UInt8) (w:World) (hl:l.length≤1048576) :
  Calls Tryz.prog 98 #[.string ⟨l.toArray⟩] w fun e w'=>zR8 l w e w':=by
 by_cases hnil:l=[]
 ·subst hnil
  go_enter Tryz.func98,Tryz.ntmps98
  go_wp2_with fail;refine (zC4 [] w hl).mono ?_;rintro e w1 ⟨rfl,rfl⟩;go_wp2_with fail;go_ret2;exact ⟨rfl,rfl⟩
 have h0:0 < l.length:=List.length_pos_iff.2 hnil;have hd0:decide ((0:Int) < (l.length:Int))=true:=(by simp;omega);have hh:l.head?=some l[0]:=by rw [List.head?_eq_getElem?,List.getElem?_eq_getElem h0]
 by_cases hc0:l[0]=45
 ·have hcb:((l[0].toNat:Int) == 45)=true:=(by rw [hc0];rfl);have HL:Hid (zAn l=- dig l.tail∧zBb l=decide (0 < dig l.tail)):=zF (by unfold zAn zBb;rw [hh,hc0];simp);obtain ⟨d0,d1⟩:=zB3 l.tail;clear hc0 hnil hh
  go_enter Tryz.func98,Tryz.ntmps98
  go_wp2_with fail;rw [zAu,show List.take (l.length - 1) (List.drop 1 l)=l.tail from by rw [List.take_of_length_le (by simp),List.drop_one]];refine (zC4 l.tail w (by simp;omega)).mono ?_;rintro e w1 ⟨rfl,rfl⟩;go_wp2_with fail;go_ret2;exact ⟨rfl,by rw [(zA HL).1,(zA HL).2];rfl⟩
 ·have hcb:((l[0].toNat:Int) == 45)=false:=by
   rw [beq_eq_false_iff_ne];intro e;exact hc0 (by apply UInt8.toNat_inj.1;show _=45;omega)
  have HL:Hid (zAn l=dig l∧zBb l=decide (0 < dig l)):=zF (by unfold zAn zBb;rw [hh];simp [hc0]);clear hc0 hnil hh
  go_enter Tryz.func98,Tryz.ntmps98
  go_wp2_with fail;refine (zC4 l w hl).mono ?_;rintro e w1 ⟨rfl,rfl⟩;go_wp2_with fail;go_ret2;exact ⟨rfl,by rw [(zA HL).1,(zA HL).2];rfl⟩
end Go.Proofs.YtgipjjhkhfihpaaGreatDoor
namespace Go.Proofs.YtgipjjhkhfihpaaGreatDoor
open Go.RowKit
def zAD (v:Int):Nat:=if 1≤v∧v≤8 then 2 ^ v.toNat else 0
theorem zCn (v:Int):zAD v < 512:=by
 unfold zAD;split
 ·have:=zD2 v.toNat (by omega);omega
 ·decide
theorem zFc (v:Int) (w:World):Calls Tryz.prog 108 #[.int .i64 v] w fun e w'=>e=.returned (.int .i64 (zAD v:Nat))∧w'=w:=by
 by_cases h1:v < 1
 ·have HB:Hid (zAD v=0):=zF (by unfold zAD;rw [if_neg (by omega)]);have hd:decide (v < 1)=true:=by simpa using h1
  go_enter Tryz.func108,Tryz.ntmps108
  go_wp2_with fail;go_ret;exact ⟨by rw [zA HB];rfl,rfl⟩
 ·have hd:decide (v < 1)=false:=by simpa using h1
  by_cases h2:8 < v
  ·have HB:Hid (zAD v=0):=zF (by unfold zAD;rw [if_neg (by omega)]);have hd2:decide (8 < v)=true:=by simpa using h2
   go_enter Tryz.func108,Tryz.ntmps108
   go_wp2_with fail;go_ret;exact ⟨by rw [zA HB];rfl,rfl⟩
  ·have HB:Hid (zAD v=2 ^ v.toNat):=zF (by unfold zAD;rw [if_pos (by omega)]);have hd2:decide (8 < v)=false:=(by simpa using h2);have HS:=zF (zH0 v (by omega) (by omega))
   go_enter Tryz.func108,Tryz.ntmps108
   go_wp2_with fail;go_ret;exact ⟨zA7 (by rw [zA HB];exact zA HS),rfl⟩
def zQ (c:Nat × Nat) (x:Int):Nat × Nat:=if x < 0 then (c.1,c.2 ||| zAD (-x)) else (c.1 ||| zAD x,c.2)
theorem zCH (p n:Nat) (x:Int) (w:World) (hp:p < 512) (hn:n < 512) (hx:-9223372036854775807≤x) (hx2:x≤9223372036854775807) :
  Calls Tryz.prog 88 #[.agg #[.int .i64 p,.int .i64 n],.int .i64 x] w fun e w'=>
   e=.returned (.agg #[.int .i64 ((zQ (p,n) x).1:Nat),.int .i64 ((zQ (p,n) x).2:Nat)])∧Below w.heap.size w w':=by
 by_cases h:x < 0
 ·have HW:Hid (zQ (p,n) x=(p,n ||| zAD (-x))):=zF (by unfold zQ;rw [if_pos h]);have hd:decide (x < 0)=true:=(by simpa using h);have hwx:IntKind.i64.wrap (-x)=-x:=by
   obtain ⟨m,hm⟩:=Int.eq_ofNat_of_zero_le (show 0≤-x by omega);rw [hm];exact zBa m (by omega)
  have hor:bits .or .i64 (n:Int) (zAD (-x):Nat)=((n ||| zAD (-x):Nat):Int):=zCK _ _ (by omega) (by have:=zCn (-x);omega)
  go_enter Tryz.func88,Tryz.ntmps88
  go_wp2_with fail
  go_region_with (go_at_call 108;refine (zFc _ _).mono ?_;rintro e w1 ⟨rfl,rfl⟩)
  all_goals go_wp2_with fail
  all_goals
   refine bodyPost_ret (v:=.agg #[.int .i64 p,.int .i64 ((n ||| zAD (-x):Nat):Int)]) (by simp [results,Tryz.results88,go_sem]) rfl ⟨by rw [zA HW],?_⟩;exact ((((Below.refl _ _).alloc (Nat.le_refl _) _).alloc (by simp) _)).drew
 ·have HW:Hid (zQ (p,n) x=(p ||| zAD x,n)):=zF (by unfold zQ;rw [if_neg h]);have hd:decide (x < 0)=false:=(by simpa using h);have hor:bits .or .i64 (p:Int) (zAD x:Nat)=((p ||| zAD x:Nat):Int):=zCK _ _ (by omega) (by have:=zCn x;omega)
  go_enter Tryz.func88,Tryz.ntmps88
  go_wp2_with fail
  go_region_with (go_at_call 108;refine (zFc _ _).mono ?_;rintro e w1 ⟨rfl,rfl⟩)
  all_goals go_wp2_with fail
  all_goals
   refine bodyPost_ret (v:=.agg #[.int .i64 ((p ||| zAD x:Nat):Int),.int .i64 n]) (by simp [results,Tryz.results88,go_sem]) rfl ⟨by rw [zA HW],?_⟩;exact ((((Below.refl _ _).alloc (Nat.le_refl _) _).alloc (by simp) _)).drew
theorem zEk (p n:Nat) (v:Int) (w:World) (hp:p < 512) (hn:n < 512) :
  Calls Tryz.prog 99 #[.agg #[.int .i64 p,.int .i64 n],.int .i64 v] w fun e w'=>
   e=.returned (.bool ((p ||| n) &&& zAD v != 0))∧Below w.heap.size w w':=by
 have hor:bits .or .i64 (p:Int) (n:Int)=((p ||| n:Nat):Int):=zCK _ _ (by omega) (by omega);have hand:bits .and .i64 ((p ||| n:Nat):Int) (zAD v:Nat)=(((p ||| n) &&& zAD v:Nat):Int):=zBN _ _ (by have:=zBD p n hp hn;omega) (by have:=zCn v;omega);have HE:Hid (((((p ||| n) &&& zAD v:Nat):Int) != 0)=((p ||| n) &&& zAD v != 0)):=zF (by
  rw [Bool.eq_iff_iff,bne_iff_ne,bne_iff_ne];omega)
 go_enter Tryz.func99,Tryz.ntmps99
 go_wp2_with fail
 go_quiet ((go_at_call 108;exact Calls.quiet_of_same (zFc _ _)))
 go_wp2_with fail;go_ret;exact ⟨zAI (zA HE),below_drewN ((Below.refl _ _).alloc (Nat.le_refl _) _) nq⟩
def zu (l:List Nat):List Value:=l.map (fun n:Nat=>Value.int .i64 (n:Int))
def zJs (l:List Bool):List Value:=l.map Value.bool
def zAK (l:List (Nat × Nat)):List Value:=l.flatMap (fun c=>[Value.int .i64 (c.1:Int),Value.int .i64 (c.2:Int)])
theorem zKM (l:List (Nat × Nat)):(zAK l).length=l.length * 2:=by
 induction l with
 | nil=>rfl
 | cons a l ih=>simp [zAK] at *;omega
theorem zD5 (l:List (Nat × Nat)) (c:Nat × Nat):zAK (l ++ [c])=zAK l ++ [Value.int .i64 (c.1:Int),Value.int .i64 (c.2:Int)]:=by simp [zAK]
theorem Tryz.info121:(Tryz.prog.info? 121).map (fun i=>(i.zero,i.size,i.bytes))=some (some (.agg #[.int .i64 0,.int .i64 0]),2,16):=by kernel_rfl
theorem Tryz.info3:(Tryz.prog.info? 3).map (fun i=>(i.zero,i.size,i.bytes))=some (some (.int .i64 0),1,8):=by kernel_rfl
theorem Tryz.info4:(Tryz.prog.info? 4).map (fun i=>(i.zero,i.size,i.bytes))=some (some (.bool false),1,1):=by kernel_rfl
structure RInv (w1:World) (bf:Nat) (st:RS) (vT vK vC:Value) (wr:World):Prop where
 below:Below bf w1 wr
 fb:wr.heap[bf]?=some (.cells #[.slice none 0 0,.int .i64 0,.slice none 0 0,vC] 92 (0,0))
 oC:wr.ownsRow (bf + 1) 121 2 vC st.cl.length (zAK st.cl)
 oT:wr.ownsRow (bf + 1) 3 1 vT st.told.length (zu st.told)
 oK:wr.ownsRow (bf + 1) 4 1 vK st.kinds.length (zJs st.kinds)
theorem zO {w w':World} {base:Nat} {e:TypeId} {size:Nat} {v:Value} {n:Nat} {xs:List Value} (h:w.ownsRow base e size v n xs) (hb:Below w.heap.size w w'):w'.ownsRow base e size v n xs:=
 h.kept (row:=none) ⟨hb.os,hb.tape,hb.output,hb.size,fun k hk _=>hb.block k hk⟩ (by cases hv:v.ownBlock<;>simp)
theorem RInv.later {w1:World} {bf:Nat} {st:RS} {vT vK vC:Value} {wr w':World} (h:RInv w1 bf st vT vK vC wr) (hb:Below wr.heap.size wr w'):RInv w1 bf st vT vK vC w':=
 ⟨h.below.trans (hb.mono (Nat.le_of_lt (zB h.fb))),(hb.block bf (zB h.fb)).trans h.fb,zO h.oC hb,zO h.oT hb,zO h.oK hb⟩
theorem zKa {w1 wr wp w':World} {bf bc:Nat} {st:RS} {vT vK vC:Value} {cs:Array Value} (h:RInv w1 bf st vT vK vC wr) (hp:Below wr.heap.size wr wp) (hg:wp.grownBy w' vC.ownBlock)
  (hbc:wr.heap[bc]?=some (.cells cs 121 (0,0))) (hne:vC.ownBlock≠some bc) :
  w'.heap[bf]?=some (.cells #[.slice none 0 0,.int .i64 0,.slice none 0 0,vC] 92 (0,0))∧w'.heap[bc]?=some (.cells cs 121 (0,0)):=by
 have hlt:=h.oC.lt
 constructor
 ·rw [hg.block bf (Nat.lt_of_lt_of_le (zB h.fb) hp.size) (fun e=>by have:=hlt bf e.symm;omega),hp.block bf (zB h.fb)];exact h.fb
 ·rw [hg.block bc (Nat.lt_of_lt_of_le (zB hbc) hp.size) (fun e=>hne e.symm),hp.block bc (zB hbc)];exact hbc
theorem zPU {w:World} {b1 b2:Nat} {e1 e2:TypeId} {s1 s2:Nat} {v1 v2:Value} {n1 n2:Nat} {x1 x2:List Value} (h1:w.ownsRow b1 e1 s1 v1 n1 x1) (h2:w.ownsRow b2 e2 s2 v2 n2 x2) (he:e1≠e2) :
  v1.ownBlock=none∨v1.ownBlock≠v2.ownBlock:=by
 rcases h1.2 with ⟨rfl,_⟩ | ⟨g1,c1,cur1,rfl,_,hh1,_⟩
 ·exact Or.inl rfl
 ·right
  rcases h2.2 with ⟨rfl,_⟩ | ⟨g2,c2,cur2,rfl,_,hh2,_⟩
  ·simp [Value.ownBlock]
  ·simp [Value.ownBlock];intro e;subst e;rw [hh1] at hh2;simp at hh2;exact he hh2.2
theorem zA3 {w wp w':World} {base base2:Nat} {e e2:TypeId} {size size2:Nat} {v v2:Value} {n n2:Nat} {xs x2:List Value} (h:w.ownsRow base e size v n xs) (hp:Below w.heap.size w wp) (h2:w.ownsRow base2 e2 size2 v2 n2 x2) (hg:wp.grownBy w' v2.ownBlock) (he:e≠e2):w'.ownsRow base e size v n xs:=
 (zO h hp).kept hg (zPU h h2 he)
theorem RInv.push_clause {w1 wr wp w':World} {bf:Nat} {st:RS} {vT vK vC v':Value} {p n:Nat} (h:RInv w1 bf st vT vK vC wr) (hp:Below wr.heap.size wr wp) (hg:wp.grownBy w' vC.ownBlock)
  (hown:w'.ownsRow (bf + 1) 121 2 v' (st.cl.length + 1) (zAK st.cl ++ [.int .i64 (p:Int),.int .i64 (n:Int)])) (u:Nat) :
  RInv w1 bf { st with cl:=st.cl ++ [(p,n)],used:=u } vT vK v' (w'.setCell ⟨bf,3,none⟩ v'):=by
 have hlt:=h.oC.lt;have hbf:=zB h.fb;have hfb:w'.heap[bf]?=some (.cells #[.slice none 0 0,.int .i64 0,.slice none 0 0,vC] 92 (0,0)):=by
  rw [hg.block bf (Nat.lt_of_lt_of_le hbf hp.size) (fun e=>by have:=hlt bf e.symm;omega),hp.block bf hbf];exact h.fb
 refine ⟨?_,?_,?_,?_,?_⟩
 ·exact ((h.below.trans (hp.mono (Nat.le_of_lt hbf))).grown hg (Nat.le_trans (Nat.le_of_lt hbf) hp.size) (fun k hk=>by have:=(hlt k hk).1;omega)).setCell (p:=⟨bf,3,none⟩) (Nat.le_refl _) _
 ·exact zI hfb 3 v'
 ·have:=ownsRow_setCell_below hown (a:=⟨bf,3,none⟩) (Nat.lt_succ_self bf) v'
  rw [← zD5 st.cl (p,n)] at this
  simpa using this
 ·exact ownsRow_setCell_below (zA3 h.oT hp h.oC hg (by decide)) (a:=⟨bf,3,none⟩) (Nat.lt_succ_self bf) v'
 ·exact ownsRow_setCell_below (zA3 h.oK hp h.oC hg (by decide)) (a:=⟨bf,3,none⟩) (Nat.lt_succ_self bf) v'
theorem RInv.push_told {w1 wr wp w':World} {bf:Nat} {st:RS} {vT vK vC v':Value} {x:Nat} (h:RInv w1 bf st vT vK vC wr) (hp:Below wr.heap.size wr wp) (hg:wp.grownBy w' vT.ownBlock)
  (hown:w'.ownsRow (bf + 1) 3 1 v' (st.told.length + 1) (zu st.told ++ [.int .i64 (x:Int)])) (s:Nat) :
  RInv w1 bf { st with told:=st.told ++ [x],seen:=s } v' vK vC w':=by
 have hlt:=h.oT.lt;have hbf:=zB h.fb;refine ⟨?_,?_,zA3 h.oC hp h.oT hg (by decide),?_,zA3 h.oK hp h.oT hg (by decide)⟩
 ·exact (h.below.trans (hp.mono (Nat.le_of_lt hbf))).grown hg (Nat.le_trans (Nat.le_of_lt hbf) hp.size) (fun k hk=>by have:=(hlt k hk).1;omega)
 ·rw [hg.block bf (Nat.lt_of_lt_of_le hbf hp.size) (fun e=>by have:=hlt bf e.symm;omega),hp.block bf hbf];exact h.fb
 ·simpa [zu] using hown
theorem RInv.push_kind {w1 wr wp w':World} {bf:Nat} {st:RS} {vT vK vC v':Value} {x:Bool} (h:RInv w1 bf st vT vK vC wr) (hp:Below wr.heap.size wr wp) (hg:wp.grownBy w' vK.ownBlock)
  (hown:w'.ownsRow (bf + 1) 4 1 v' (st.kinds.length + 1) (zJs st.kinds ++ [.bool x])) :
  RInv w1 bf { st with kinds:=st.kinds ++ [x] } vT v' vC w':=by
 have hlt:=h.oK.lt;have hbf:=zB h.fb;refine ⟨?_,?_,zA3 h.oC hp h.oK hg (by decide),zA3 h.oT hp h.oK hg (by decide),?_⟩
 ·exact (h.below.trans (hp.mono (Nat.le_of_lt hbf))).grown hg (Nat.le_trans (Nat.le_of_lt hbf) hp.size) (fun k hk=>by have:=(hlt k hk).1;omega)
 ·rw [hg.block bf (Nat.lt_of_lt_of_le hbf hp.size) (fun e=>by have:=hlt bf e.symm;omega),hp.block bf hbf];exact h.fb
 ·simpa [zJs] using hown
def apart (a b:Value):Prop:=∀ k,a.ownBlock=some k→b.ownBlock≠some k
theorem apart.symm {a b:Value} (h:apart a b):apart b a:=fun k hk hk'=>h k hk' hk
theorem apart.keep {a b:Value} (h:apart a b):a.ownBlock=none∨a.ownBlock≠b.ownBlock:=by
 cases ha:a.ownBlock with
 | none=>exact Or.inl rfl
 | some k=>exact Or.inr (fun e=>h k ha e.symm)
theorem zEf (a:Value):apart (.slice none 0 0) a:=fun k hk=>by simp [Value.ownBlock] at hk
theorem apart.grown {a a' b:Value} {w:World} {base:Nat} {e:TypeId} {size n:Nat} {xs:List Value} (h:apart a b) (hb:w.ownsRow base e size b n xs) (hat:a'.ownBlock=a.ownBlock∨∃ k,a'.ownBlock=some k∧w.heap.size≤k):apart a' b:=by
 intro k hk hk'
 rcases hat with hat | ⟨k',hat,hle⟩
 ·exact h k (hat ▸ hk) hk'
 ·rw [hk] at hat;injection hat with e;subst e
  have:=(hb.lt k hk').2;omega
structure FInv (w1:World) (bf:Nat) (st:RS) (order:List Nat) (all:Nat) (ends:List Nat) (vT vK vC vO vE:Value) (wr:World):Prop where
 below:Below bf w1 wr
 fb:wr.heap[bf]?=some (.cells #[vO,.int .i64 (all:Int),vE,vC] 92 (0,0))
 oC:wr.ownsRow (bf + 1) 121 2 vC st.cl.length (zAK st.cl)
 oT:wr.ownsRow (bf + 1) 3 1 vT st.told.length (zu st.told)
 oK:wr.ownsRow (bf + 1) 4 1 vK st.kinds.length (zJs st.kinds)
 oO:wr.ownsRow (bf + 1) 3 1 vO order.length (zu order)
 oE:wr.ownsRow (bf + 1) 3 1 vE ends.length (zu ends)
 aOT:apart vO vT
 aOE:apart vO vE
 aET:apart vE vT
theorem FInv.of {w1:World} {bf:Nat} {st:RS} {vT vK vC:Value} {wr:World} (h:RInv w1 bf st vT vK vC wr):FInv w1 bf st [] 0 [] vT vK vC (.slice none 0 0) (.slice none 0 0) wr:=
 ⟨h.below,h.fb,h.oC,h.oT,h.oK,World.ownsRow_nil _ _ _ _,World.ownsRow_nil _ _ _ _,zEf _,zEf _,zEf _⟩
section
variable {w1 wr wp w':World} {bf:Nat} {st:RS} {order ends:List Nat} {all:Nat} {vT vK vC vO vE v':Value}
theorem FInv.isBelow {w:World} (h:FInv w1 bf st order all ends vT vK vC vO vE wr) (hb:Below w.heap.size w w1) (hbf:w1.heap.size=bf):Below w.heap.size w wr:=
 hb.trans (h.below.mono (hbf ▸ hb.size))
theorem FInv.later (h:FInv w1 bf st order all ends vT vK vC vO vE wr) (hb:Below wr.heap.size wr w'):FInv w1 bf st order all ends vT vK vC vO vE w':=
 ⟨h.below.trans (hb.mono (Nat.le_of_lt (zB h.fb))),(hb.block bf (zB h.fb)).trans h.fb,zO h.oC hb,zO h.oT hb,zO h.oK hb,zO h.oO hb,zO h.oE hb,h.aOT,h.aOE,h.aET⟩
theorem FInv.push_order {x:Nat} (h:FInv w1 bf st order all ends vT vK vC vO vE wr) (hp:Below wr.heap.size wr wp) (hg:wp.grownBy w' vO.ownBlock)
  (hown:w'.ownsRow (bf + 1) 3 1 v' (order.length + 1) (zu order ++ [.int .i64 (x:Int)])) (hat:v'.ownBlock=vO.ownBlock∨∃ k,v'.ownBlock=some k∧wp.heap.size≤k) :
  w'.heap[bf]?=some (.cells #[vO,.int .i64 (all:Int),vE,vC] 92 (0,0))∧
  w'.ownsRow (bf + 1) 3 1 vT st.told.length (zu st.told)∧w'.ownsRow (bf + 1) 4 1 vK st.kinds.length (zJs st.kinds)∧
  FInv w1 bf st (order ++ [x]) all ends vT vK vC v' vE (w'.setCell ⟨bf,0,none⟩ v'):=by
 have hlt:=h.oO.lt;have hbf:=zB h.fb;have hfb:w'.heap[bf]?=some (.cells #[vO,.int .i64 (all:Int),vE,vC] 92 (0,0)):=by
  rw [hg.block bf (Nat.lt_of_lt_of_le hbf hp.size) (fun e=>by have:=hlt bf e.symm;omega),hp.block bf hbf];exact h.fb
 have kT:=(zO h.oT hp).kept hg h.aOT.symm.keep;have kK:=zA3 h.oK hp h.oO hg (by decide);have kE:=(zO h.oE hp).kept hg h.aOE.symm.keep;refine ⟨hfb,kT,kK,?_,zI hfb 0 v',?_,?_,?_,?_,?_,h.aOT.grown (zO h.oT hp) hat,h.aOE.grown (zO h.oE hp) hat,h.aET⟩
 ·exact ((h.below.trans (hp.mono (Nat.le_of_lt hbf))).grown hg (Nat.le_trans (Nat.le_of_lt hbf) hp.size) (fun k hk=>by have:=(hlt k hk).1;omega)).setCell (p:=⟨bf,0,none⟩) (Nat.le_refl _) _
 ·exact ownsRow_setCell_below (zA3 h.oC hp h.oO hg (by decide)) (a:=⟨bf,0,none⟩) (Nat.lt_succ_self bf) v'
 ·exact ownsRow_setCell_below kT (a:=⟨bf,0,none⟩) (Nat.lt_succ_self bf) v'
 ·exact ownsRow_setCell_below kK (a:=⟨bf,0,none⟩) (Nat.lt_succ_self bf) v'
 ·have:=ownsRow_setCell_below hown (a:=⟨bf,0,none⟩) (Nat.lt_succ_self bf) v'
  simpa [zu] using this
 ·exact ownsRow_setCell_below kE (a:=⟨bf,0,none⟩) (Nat.lt_succ_self bf) v'
theorem FInv.push_end {x:Nat} (h:FInv w1 bf st order all ends vT vK vC vO vE wr) (hp:Below wr.heap.size wr wp) (hg:wp.grownBy w' vE.ownBlock)
  (hown:w'.ownsRow (bf + 1) 3 1 v' (ends.length + 1) (zu ends ++ [.int .i64 (x:Int)])) (hat:v'.ownBlock=vE.ownBlock∨∃ k,v'.ownBlock=some k∧wp.heap.size≤k) :
  w'.heap[bf]?=some (.cells #[vO,.int .i64 (all:Int),vE,vC] 92 (0,0))∧
  FInv w1 bf st order all (ends ++ [x]) vT vK vC vO v' (w'.setCell ⟨bf,2,none⟩ v'):=by
 have hlt:=h.oE.lt;have hbf:=zB h.fb;have hfb:w'.heap[bf]?=some (.cells #[vO,.int .i64 (all:Int),vE,vC] 92 (0,0)):=by
  rw [hg.block bf (Nat.lt_of_lt_of_le hbf hp.size) (fun e=>by have:=hlt bf e.symm;omega),hp.block bf hbf];exact h.fb
 refine ⟨hfb,?_,zI hfb 2 v',?_,?_,?_,?_,?_,h.aOT,(h.aOE.symm.grown (zO h.oO hp) hat).symm,h.aET.grown (zO h.oT hp) hat⟩
 ·exact ((h.below.trans (hp.mono (Nat.le_of_lt hbf))).grown hg (Nat.le_trans (Nat.le_of_lt hbf) hp.size) (fun k hk=>by have:=(hlt k hk).1;omega)).setCell (p:=⟨bf,2,none⟩) (Nat.le_refl _) _
 ·exact ownsRow_setCell_below (zA3 h.oC hp h.oE hg (by decide)) (a:=⟨bf,2,none⟩) (Nat.lt_succ_self bf) v'
 ·exact ownsRow_setCell_below ((zO h.oT hp).kept hg h.aET.symm.keep) (a:=⟨bf,2,none⟩) (Nat.lt_succ_self bf) v'
 ·exact ownsRow_setCell_below (zA3 h.oK hp h.oE hg (by decide)) (a:=⟨bf,2,none⟩) (Nat.lt_succ_self bf) v'
 ·exact ownsRow_setCell_below ((zO h.oO hp).kept hg h.aOE.keep) (a:=⟨bf,2,none⟩) (Nat.lt_succ_self bf) v'
 ·have:=ownsRow_setCell_below hown (a:=⟨bf,2,none⟩) (Nat.lt_succ_self bf) v'
  simpa [zu] using this
theorem FInv.set_all (h:FInv w1 bf st order all ends vT vK vC vO vE wr) (all':Nat):FInv w1 bf st order all' ends vT vK vC vO vE (wr.setCell ⟨bf,1,none⟩ (.int .i64 (all':Int))):=by
 refine ⟨h.below.setCell (p:=⟨bf,1,none⟩) (Nat.le_refl _) _,zI h.fb 1 _,?_,?_,?_,?_,?_,h.aOT,h.aOE,h.aET⟩
 all_goals first
  | exact ownsRow_setCell_below h.oC (a:=⟨bf,1,none⟩) (Nat.lt_succ_self bf) _
  | exact ownsRow_setCell_below h.oK (a:=⟨bf,1,none⟩) (Nat.lt_succ_self bf) _
  | exact ownsRow_setCell_below h.oT (a:=⟨bf,1,none⟩) (Nat.lt_succ_self bf) _
  | exact ownsRow_setCell_below h.oO (a:=⟨bf,1,none⟩) (Nat.lt_succ_self bf) _
  | exact ownsRow_setCell_below h.oE (a:=⟨bf,1,none⟩) (Nat.lt_succ_self bf) _
theorem FInv.drew (h:FInv w1 bf st order all ends vT vK vC vO vE wr):FInv w1 bf st order all ends vT vK vC vO vE wr.drew:=h.later ((Below.refl _ _).drew)
end
theorem zNT (st:RS) (hd:List UInt8) (tl:List (List UInt8)) (h:∀ v∈st.told,v≤8):∀ v∈(zEH st hd tl).1.told,v≤8:=by
 unfold zEH
 split
 ·exact h
 ·split
  ·dsimp only;unfold zAg
   suffices hs:∀ (tl:List (List UInt8)) (p:PS),(∀ v∈p.told,v≤8)→∀ v∈(tl.foldl (zBG (hd == [97])) p).told,v≤8 from hs tl _ h
   intro tl
   induction tl with
   | nil=>intro p hp;exact hp
   | cons w tl ih=>
    intro p hp;refine ih _ ?_;intro v hv;simp [zBG] at hv
    rcases hv with hv | hv
    ·exact hp v hv
    ·have:=zB3 w;omega
  ·exact h
theorem zSY (rows:List (List UInt8)):∀ (st:RS) (i:Nat) (st':RS),(∀ v∈st.told,v≤8)→zAy st i rows=.inl st'→∀ v∈st'.told,v≤8:=by
 induction rows with
 | nil=>intro st i st' h e;simp [zAy] at e;subst e;exact h
 | cons r rows ih=>
  intro st i st' h e;rw [zAy] at e
  split at e
  ·refine ih _ _ _ ?_ e;unfold zCF
   split
   ·exact h
   ·exact zNT _ _ _ h
  ·cases e
theorem zPL (st:RS) (k:Nat):∀ v∈zB0 st k,v≤k:=by
 intro v hv;unfold zB0 at hv;rw [List.mem_filter] at hv;obtain ⟨hv,_⟩:=hv;simp at hv;omega
theorem zK3 (st:RS) (h:∀ v∈st.told,v≤8) (k:Nat):zDE st k < 512:=by
 unfold zDE
 suffices hs:∀ (l:List (Nat × Bool)) (a:Nat),a < 512→(∀ x∈l,x.1≤8)→l.foldl (fun a x=>if x.2 then a ||| 2 ^ x.1 else a) a < 512 by
  refine hs _ 0 (by decide) ?_;intro x hx;have h1:=List.mem_of_mem_take hx;exact h _ (List.of_mem_zip h1).1
 intro l
 induction l with
 | nil=>intro a ha _;exact ha
 | cons x l ih=>
  intro a ha hx;refine ih _ ?_ (fun y hy=>hx y (List.mem_cons_of_mem _ hy))
  have:=zD2 x.1 (hx x (List.mem_cons_self ..))
  dsimp only
  split
  ·exact zBD _ _ ha (by omega)
  ·exact ha
theorem zAG {w:World} {base lo:Nat} {e:TypeId} {size:Nat} {v:Value} {n:Nat} {xs:List Value} (h:w.ownsRow base e size v n xs) (hl:lo≤base):w.ownsRow lo e size v n xs:=by
 refine ⟨h.1,?_⟩
 rcases h.2 with h2 | ⟨g,cap,cur,hv,hg,r⟩
 ·exact Or.inl h2
 ·exact Or.inr ⟨g,cap,cur,hv,Nat.le_trans hl hg,r⟩
theorem zF9 (st:RS) (k:Nat):(zB0 st k).length≤k:=by
 unfold zB0;refine Nat.le_trans (List.length_filter_le _ _) ?_
 simp
theorem zNf (order:List Nat) (all k:Nat):(zDS order all k).length≤k:=by
 unfold zDS;refine Nat.le_trans (List.length_filter_le _ _) ?_
 simp
end Go.Proofs.YtgipjjhkhfihpaaGreatDoor
