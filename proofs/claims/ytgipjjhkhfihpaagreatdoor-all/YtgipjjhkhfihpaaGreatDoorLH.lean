import Derived.Test.YtgipjjhkhfihpaaGreatDoorRows
import Derived.Test.YtgipjjhkhfihpaaGreatDoorKD
import Derived.ProofKit
import Derived.SizedLaws
import Derived.OpenShut
import Derived.Deep.Slices
import Derived.Test.YtgipjjhkhfihpaaGreatDoorCards
import Derived.Test.YtgipjjhkhfihpaaGreatDoorTie
import Derived.LaidMore
import Derived.Stop.Joined
import Derived.Lib.LaidTab
import Derived.Deep.DeepHandedRow
import Derived.Test.YtgipjjhkhfihpaaGreatDoorLG
import Derived.Test.YtgipjjhkhfihpaaGreatDoorKI
import Derived.Test.YtgipjjhkhfihpaaGreatDoorKK
import Derived.Test.YtgipjjhkhfihpaaGreatDoorLA
import Derived.Test.YtgipjjhkhfihpaaGreatDoorKX
set_option maxRecDepth 100000
set_option maxHeartbeats 6400000
namespace Go.Proofs.YtgipjjhkhfihpaaGreatDoor
open Go.ChangeShapes Go.WideShapes Go.ChangeAt Go.RowKit Go.Deep
theorem Tryz.cellsOp:Tryz.prog.cellsOf 29=6:=by kernel_rfl
theorem Tryz.cellsInt:Tryz.prog.cellsOf 3=1:=by kernel_rfl
theorem Tryz.cellsStr:Tryz.prog.cellsOf 9=1:=by kernel_rfl
theorem Tryz.bytesOp:Tryz.prog.bytesOf 29=64:=by kernel_rfl
theorem Tryz.own:ownKnob Tryz.prog.godebug=none:=by kernel_rfl
theorem Tryz.laidOut:laidOutB Tryz.prog=true:=by kernel_rfl
section
variable {H:Type} {enc:TypeId × Value→H} {w:World} {base:Nat} {spare:Nat→Bool} {held:Bool}
def OpV.data (o:OpV):DataW H:=.agg [.lit (.int .i64 o.kind),.lit (.int .i64 o.a),.lit (.int .i64 o.b),.lit (.int .i64 o.c),.lit (.string o.s),.lit (.string o.t)]
theorem zFf {x:Int} (h:(Lit.int .i64 x).wf=true):zE8 x:=bounds_i64 h
theorem zSa {n:Nat} {cs:List Value} {x:DataW H × List MemPlace} (h:DataW.trod enc Tryz.prog w base spare held n 29 cs=some x):∃ o:OpV,cs=o.cells∧o.Ok∧x.1=o.data:=by
 obtain ⟨xs,m,_,hx,hl,hlen,hf⟩:=DataW.trod_struct Tryz.underlying29 h;rw [Tryz.cellsOp] at hl
 match cs,hl with
 | [c0,c1,c2,c3,c4,c5],_=>
  have hlen':xs.length=6:=hlen
  match xs,hlen' with
  | [y0,y1,y2,y3,y4,y5],_=>
   have h0:DataW.trod enc Tryz.prog w base spare held m 3 [c0]=some y0:=(by simpa [Tryz.cellsInt] using hf 0 _ rfl);have h1:DataW.trod enc Tryz.prog w base spare held m 3 [c1]=some y1:=(by simpa [Tryz.cellsInt] using hf 1 _ rfl);have h2:DataW.trod enc Tryz.prog w base spare held m 3 [c2]=some y2:=(by simpa [Tryz.cellsInt] using hf 2 _ rfl);have h3:DataW.trod enc Tryz.prog w base spare held m 3 [c3]=some y3:=(by simpa [Tryz.cellsInt] using hf 3 _ rfl);have h4:DataW.trod enc Tryz.prog w base spare held m 9 [c4]=some y4:=(by simpa [Tryz.cellsStr] using hf 4 _ rfl);have h5:DataW.trod enc Tryz.prog w base spare held m 9 [c5]=some y5:=(by simpa [Tryz.cellsStr] using hf 5 _ rfl);obtain ⟨k0,e0,rfl,w0⟩:=DataW.trod_int Tryz.underlying3 h0;obtain ⟨k1,e1,rfl,w1⟩:=DataW.trod_int Tryz.underlying3 h1;obtain ⟨k2,e2,rfl,w2⟩:=DataW.trod_int Tryz.underlying3 h2;obtain ⟨k3,e3,rfl,w3⟩:=DataW.trod_int Tryz.underlying3 h3;obtain ⟨s4,e4,rfl,w4⟩:=DataW.trod_string Tryz.underlying9 h4;obtain ⟨s5,e5,rfl,w5⟩:=DataW.trod_string Tryz.underlying9 h5;simp at e0 e1 e2 e3 e4 e5;subst e0 e1 e2 e3 e4 e5;exact ⟨⟨k0,k1,k2,k3,s4.data.toList,s5.data.toList⟩,rfl,⟨zFf w0,zFf w1,zFf w2,zFf w3⟩,by rw [hx];rfl⟩
theorem zLM {fuel:Nat} {ao:Option Addr} {len cap:Nat} {x:DataW H × List MemPlace} (h:DataW.trod enc Tryz.prog w 0 spare held fuel 22 [.slice ao len cap]=some x) :
  ∃ ops:List OpV,ops.length=len∧ScriptAt w ao ops∧(∀ o∈ops,o.Ok)∧((ops=[]∧len=0)∨∃ sp,x.1=.slice (ops.map OpV.data) sp):=by
 rcases open_slice Tryz.underlying22 h with ⟨hcs,_⟩ | ⟨a,len',cap',m,n,D,Pl,hcs,_,hl,hm,hm',hx,hel⟩
 ·simp at hcs;obtain ⟨rfl,rfl,rfl⟩:=hcs;exact ⟨[],rfl,fun h=>absurd rfl h,by simp,Or.inl ⟨rfl,rfl⟩⟩
 ·simp at hcs;obtain ⟨rfl,rfl,rfl⟩:=hcs;have hlm:len≤m:=(by rw [hm'];split<;>omega);have hex:∀ i,i < len→∃ o:OpV,w.cells? 0 (a.add (i * 6)) 6=some o.cells∧o.Ok∧D i=o.data:=by
   intro i hi;obtain ⟨cs',h1,h2⟩:=hel i (by omega);rw [Tryz.cellsOp] at h1;obtain ⟨o,rfl,h3,h4⟩:=zSa h2;exact ⟨o,h1,h3,h4⟩
  obtain ⟨O,hO⟩:∃ O:Nat→OpV,∀ i,i < len→w.cells? 0 (a.add (i * 6)) 6=some (O i).cells∧(O i).Ok∧D i=(O i).data:=
   ⟨fun i=>if h:i < len then Classical.choose (hex i h) else ⟨0,0,0,0,[],[]⟩,fun i hi=>by
    simp only [hi,dif_pos];exact Classical.choose_spec (hex i hi)⟩
  refine ⟨(List.range len).map O,by simp,?_,?_,Or.inr ⟨(List.range (m - len)).map fun j=>D (len + j),?_⟩⟩
  ·intro hne;have h0:0 < len:=by
    rcases Nat.eq_zero_or_pos len with h0 | h0
    ·subst h0;simp at hne
    ·exact h0
   have hcell:∀ k (hk:k < len) j (_:j < 6) u,(O k).cells[j]?=some u→w.cell? ((a.add (k * 6)).add j)=some u:=by
    intro k hk j hj u hu;obtain ⟨_,hlen,hc⟩:=World.cells?_some (hO k hk).1;rw [hc j (by omega)];exact hu
   obtain ⟨b,off,spot⟩:=a;have hsp:spot=none:=by
    have h1:=hcell 0 h0 0 (by omega) _ rfl
    simpa [Addr.add] using World.cell?_spot h1
   subst hsp;have hadd:∀ k j,((⟨b,off,none⟩:Addr).add (k * 6)).add j=⟨b,off + (k * 6 + j),none⟩:=by
    intro k j;rw [add_plain,add_plain,Nat.add_assoc]
   refine ⟨b,off,rfl,?_,?_⟩
   ·have h1:=hcell 0 h0 0 (by omega) _ rfl;exact World.block_lt_of_cell? w _ h1
   ·intro k hk j hj u hu;have hk':k < len:=(by simpa using hk);rw [← hadd];refine hcell k hk' j hj u ?_
    simpa using hu
  ·intro o ho;simp at ho;obtain ⟨i,hi,rfl⟩:=ho;exact (hO i hi).2.1
  ·rw [hx];show DataW.slice _ _=_
   congr 1
   rw [List.map_map]
   apply List.map_congr_left
   intro i hi;exact (hO i (by simpa using hi)).2.2
theorem zFz {P:Program} {e:TypeId}:∀ {l:List (DataW H)} {d:DataW H},d∈l→∀ n∈d.weights P e,n∈DataW.weightsAll P e l
 | d0 :: l,d,hd,n,hn=>by
  simp only [DataW.weightsAll,List.mem_append]
  rcases List.mem_cons.1 hd with rfl | h
  ·exact Or.inl hn
  ·exact Or.inr (zFz h n hn)
theorem zJ9 {ops:List OpV} {sp:List (DataW H)} (h:(DataW.weightsEach Tryz.prog [22] [.slice (ops.map OpV.data) sp]).all (·≤reachBytes)=true):zLA ops∧ops.length≤140737488355328:=by
 constructor
 ·intro o ho;have key:∀ n∈(o.data:DataW H).weights Tryz.prog 29,n≤reachBytes:=by
   intro n hn;refine of_decide_eq_true (List.all_eq_true.1 h n (DataW.weights_mem_each (j:=0) rfl rfl n ?_));simp only [DataW.weights,Tryz.underlying22,List.mem_cons,List.mem_append];exact Or.inr (Or.inl (zFz (List.mem_map_of_mem ho) n hn))
  have hr:reachBytes < 2 ^ 47:=reachBytes_lt;have k1:=key o.s.length (by simp [OpV.data,DataW.weights,DataW.weightsEach,Tryz.underlying29]);have k2:=key o.t.length (by simp [OpV.data,DataW.weights,DataW.weightsEach,Tryz.underlying29])
  constructor<;>omega
 ·have:=sized_slice h (j:=0) (t:=22) (e:=29) rfl rfl Tryz.underlying22
  rw [Tryz.bytesOp] at this;have hr:reachBytes < 2 ^ 47:=reachBytes_lt;simp at this;omega
end
theorem zRX (os:Os) (args:Array Value):laidMetH Tryz.prog Rows.loadsRow.laid ((World.doorLaid Tryz.prog 400 os).forCall (fun _ _=>0) ⟨#[],args,[]⟩).memory:=
 laidMetH_of_parts3 (fuel:=8) (laidMet_of_run' 8 (by kernel_rfl) (by kernel_rfl)) (by kernel_rfl) (by kernel_rfl)
end Go.Proofs.YtgipjjhkhfihpaaGreatDoor
namespace Go.Proofs.YtgipjjhkhfihpaaGreatDoor
open Go.RowKit
theorem DInv.ap {bw:Nat} {w:World} {D:DW} (h:DInv bw w D):∀ i (hi:i < D.h6s.length),apart D.v5 D.h6s[i]:=by
 intro i hi k h1 h2;have hnz:=h.n5 k h1;obtain ⟨c,hc⟩:=zr h.o5 k h1;have hlt:=zB hc;have ho:Only (·=k) w { w with heap:=w.heap.setIfInBounds k (.cells #[] 3 (0,0)) }:=⟨rfl,rfl,rfl,by simp,fun j hj hne=>by
  show (w.heap.setIfInBounds k _)[j]?=w.heap[j]?;rw [Array.getElem?_setIfInBounds_ne (fun e=>hne e.symm)]⟩
 rcases h.lss (·=k) _ ho (fun j hj e=>hnz (e ▸ hj)) i hi with h0 | ⟨g,n,cs,e1,_,e2,_⟩
 ·rw [h0] at h2;cases h2
 ·rw [e1] at h2;have e3:some g=some k:=h2;injection e3 with e3;subst e3;have e4:(w.heap.setIfInBounds g (.cells #[] 3 (0,0)))[g]?=some (.cells cs 25 (0,0)):=e2;rw [Array.getElem?_setIfInBounds_self_of_lt hlt] at e4;injection e4 with e4;injection e4 with _ e5 _;exact absurd e5 (by decide)
theorem DInv.lists {bw:Nat} {w:World} {D:DW} (h:DInv bw w D):ListsAt bw w D.v5 D.v6 D.h5s D.h6s:=⟨h.o5,h.o6,h.ls.now,h.lss.now,h.ap⟩
theorem DInv.blocks {bw:Nat} {w w':World} {D:DW} {e:Ending} (hD:DInv bw w D) (hp:zHk bw D.text D.px D.pf D.proof D.v4 D.v5 D.v6 D.h5s D.h6s w e w'):StepD bw D 0 w e w':=by
 obtain ⟨hret,ho,v5',v6',n5,x6,hw',hL',hn5,hf5,hx6,hv5,hv6⟩:=hp;have hbw:=zB hD.wat;have hsz:=ho.size;have hTZ:∀ k,D.Z k→¬ (k=bw∨D.v5.ownBlock=some k∨D.v6.ownBlock=some k):=fun k hk h=>by
  rcases h with h | h | h
  ·have:=(hD.zin k hk).1;omega
  ·exact hD.n5 k h hk
  ·exact hD.n6 k h hk
 obtain ⟨Z',hZ'⟩:∃ Z':Nat→Prop,∀ k,Z' k↔(D.Z k∨(w.heap.size≤k∧k < w'.heap.size∧v5'.ownBlock≠some k∧v6'.ownBlock≠some k)):=⟨_,fun _=>Iff.rfl⟩;have hZ1:∀ k,D.Z k→Z' k:=fun k h=>(hZ' k).2 (Or.inl h)
 have hnz:∀ k,k < w.heap.size→¬ D.Z k→¬ Z' k:=fun k hk hz h=>by
  rcases (hZ' k).1 h with h | h
  ·exact hz h
  ·omega
 have hint:∀ g c,w'.heap[g]?=some (.cells c 3 (0,0))→w.heap.size≤g→Z' g:=fun g c hg hfr=>(hZ' g).2 (Or.inr ⟨hfr,zB hg,fun e=>by
  obtain ⟨c',hc'⟩:=zr hL'.o5 g e;exact absurd (zc hg hc') (by decide),fun e=>by
  obtain ⟨c',hc'⟩:=zr hL'.o6 g e;exact absurd (zc hg hc') (by decide)⟩)
 refine ⟨hret,ho.below (Nat.le_of_lt hbw) (fun k hk h=>?_),{ D with v5:=v5',v6:=v6',h5s:=D.h5s ++ n5,h6s:=D.h6s ++ [x6],Z:=Z' },⟨hw',?_,hL'.o5,hL'.o6,?_,(hD.form.step ho hTZ).grow hZ1,?_,?_,?_,?_,?_,?_,?_,hD.gap⟩,by show D.text.length≤_;omega,by show D.proof.length≤_;omega,by show D.gs.length≤_;omega,by show (D.h5s ++ n5).length≤_;rw [List.length_append];omega,by show (D.h6s ++ [x6]).length≤_;rw [List.length_append,List.length_singleton];omega⟩
 ·rcases h with h | h | h
  ·omega
  ·have:=(hD.o5.lt k h).1;omega
  ·have:=(hD.o6.lt k h).1;omega
 ·refine zY hD.o4 ho (fun k hk h=>?_);obtain ⟨c,hc⟩:=zr hD.o4 k hk
  rcases h with h | h | h
  ·have:=(hD.o4.lt k hk).1;omega
  ·obtain ⟨c',hc'⟩:=zr hD.o5 k h;exact absurd (zc hc hc') (by decide)
  ·obtain ⟨c',hc'⟩:=zr hD.o6 k h;exact absurd (zc hc hc') (by decide)
 ·intro k hk
  rcases (hZ' k).1 hk with h | h
  ·have:=hD.zin k h;omega
  ·omega
 ·intro T w2 ho2 hT2 i hi
  by_cases hil:i < D.h5s.length
  ·obtain ⟨g,n,e1,e2,e3⟩:=(hD.ls.step ho hTZ) T w2 ho2 (fun k hk=>hT2 k (hZ1 k hk)) i hil;exact ⟨g,n,by rw [List.getElem_append_left hil];exact e1,e2,e3⟩
  ·obtain ⟨g,n,e1,e2,e3⟩:=hL'.ls i hi;have hmem:(D.h5s ++ n5)[i]∈n5:=(by rw [List.getElem_append_right (by omega)];exact List.getElem_mem _);have hfr:=hf5 _ hmem g (by rw [e1];rfl);exact ⟨g,n,e1,e2,(ho2.block g (zB e3) (hT2 g (hint g _ e3 hfr))).trans e3⟩
 ·intro T w2 ho2 hT2 i hi
  by_cases hil:i < D.h6s.length
  ·have h0:=(hD.lss.step ho hTZ) T w2 ho2 (fun k hk=>hT2 k (hZ1 k hk)) i hil;rw [List.getElem_append_left hil];exact h0
  ·have hl:=hL'.lss i hi;have hie:(D.h6s ++ [x6])[i]=x6:=by
    have:i=D.h6s.length:=by rw [List.length_append,List.length_singleton] at hi;omega
    subst this
    simp
   rcases hl with h0 | ⟨h,n,cs,e1,e2,e3,e4⟩
   ·exact Or.inl h0
   ·rcases hx6 with h0 | ⟨h',cap,cs',f1,f2,f3,f4⟩
    ·rw [hie,h0] at e1;cases e1
    ·rw [hie,f1] at e1;injection e1 with g1 g2 g3;injection g1 with g1;injection g1 with g1;subst g1 g2;rw [e3] at f3;injection f3 with f3;injection f3 with f3 _ _;subst f3;have hhz:Z' h':=(hZ' h').2 (Or.inr ⟨f2,zB e3,fun e=>hL'.ap i hi h' e (by rw [hie,f1];rfl),fun e=>by
      obtain ⟨c',hc'⟩:=zr hL'.o6 h' e;exact absurd (zc e3 hc') (by decide)⟩)
     refine Or.inr ⟨h',cap,cs,by rw [hie,f1],e2,(ho2.block h' (zB e3) (hT2 h' hhz)).trans e3,fun k hk=>?_⟩;obtain ⟨x,a1,a2⟩:=e4 k hk;obtain ⟨y,b1,b2,_⟩:=f4 k hk;rw [a1] at b1;injection b1 with b1;injection b1 with b1 _ _;injection b1 with b1;injection b1 with b1;subst b1;exact ⟨x,a1,(ho2.block x (zB a2) (hT2 x (hint x _ a2 b2))).trans a2⟩
 ·intro k hk;exact hnz k (hD.o4.lt k hk).2 (hD.n4 k hk)
 ·intro k hk h
  rcases (hZ' k).1 h with h | h
  ·rcases hv5 with e | ⟨j,e1,e2⟩
   ·exact hD.n5 k (e ▸ hk) h
   ·have hk':v5'.ownBlock=some k:=hk;rw [e1] at hk';injection hk' with hk'
    have:=(hD.zin k h).2
    omega
  ·exact h.2.2.1 hk
 ·intro k hk h
  rcases (hZ' k).1 h with h | h
  ·rcases hv6 with e | ⟨j,e1,e2⟩
   ·exact hD.n6 k (e ▸ hk) h
   ·have hk':v6'.ownBlock=some k:=hk;rw [e1] at hk';injection hk' with hk'
    have:=(hD.zin k h).2
    omega
  ·exact h.2.2.2 hk
 ·intro G hG;refine ((hD.games G hG).keep ho hTZ (fun k hk ht=>?_)).grow hZ1
  rcases ht with h | h | h
  ·have:=(hD.gz G hG k hk).1;omega
  ·obtain ⟨c',hc'⟩:=zr hD.o5 k h;exact zEt (hD.games G hG) hc' (by decide) (by decide) (by decide) hk
  ·obtain ⟨c',hc'⟩:=zr hD.o6 k h;exact zEt (hD.games G hG) hc' (by decide) (by decide) (by decide) hk
 ·intro G hG k hk;exact ⟨(hD.gz G hG k hk).1,hnz k ((hD.games G hG).lt hk) (hD.gz G hG k hk).2⟩
theorem zL8 (bw:Nat) (D:DW) (o:OpV) (w:World) (hD:DInv bw w D) (hk:o.kind=6) :
  Calls Tryz.prog 19 #[.pointer (some ⟨bw,0,none⟩),.agg #[.int .i64 o.kind,.int .i64 o.a,.int .i64 o.b,.int .i64 o.c,S o.s,S o.t]] w fun e w'=>StepD bw D (o.s.length + 1) w e w':=by
 have hbw:=zB hD.wat;obtain ⟨kind,a,b,c,s,t⟩:=o;dsimp only at hk ⊢;subst hk;have h1:w.cell? ⟨bw,1,none⟩=some (.pointer D.px):=zE hD.wat rfl;have hbel:Below w.heap.size w (w.alloc (.cells #[.int .i64 6,.int .i64 a,.int .i64 b,.int .i64 c,S s,S t] 29)):=(Below.refl _ _).alloc (Nat.le_refl _) _;have hDA:=hD.later hbel;have HFIN:Hid (∀ e w2,StepD bw D 0 (w.alloc (.cells #[.int .i64 6,.int .i64 a,.int .i64 b,.int .i64 c,S s,S t] 29)) e w2→e=.returned (.bool true)∧StepD bw D (s.length + 1) w (.returned (.bool true)) w2):=zF (fun e w2 h=>by
  have he:=h.ret;subst he;exact ⟨rfl,(h.after (hbel.mono (Nat.le_of_lt hbw))).more (by omega)⟩)
 rcases hDA.form with ⟨hpx,hpf⟩ | ⟨b1,b2,st,q0,hpx,hpf,hF,hSm,h24,hN,hln⟩
 ·rw [hpx] at h1;have HQ:Hid (StepD bw D (s.length + 1) w (.returned (.bool true)) (w.alloc (.cells #[.int .i64 6,.int .i64 a,.int .i64 b,.int .i64 c,S s,S t] 29))):=zF ((StepD.quiet (hbel.mono (Nat.le_of_lt hbw)) hDA rfl rfl (by omega) rfl rfl).more (by omega))
  go_enter Tryz.func19,Tryz.ntmps19
  go_wp2_with fail;go_ret;exact zA HQ
 ·rw [hpx] at h1;have hwA:=hDA.wat;rw [hpx,hpf] at hwA;have HOP:Hid (Calls Tryz.prog 33 #[.pointer (some ⟨bw,0,none⟩)] (w.alloc (.cells #[.int .i64 6,.int .i64 a,.int .i64 b,.int .i64 c,S s,S t] 29)) fun e w'=>StepD bw D 0 (w.alloc (.cells #[.int .i64 6,.int .i64 a,.int .i64 b,.int .i64 c,S s,S t] 29)) e w'):=zF (by
   refine (zMu bw b1 b2 (bw + 1) st q0 D.text D.proof D.v4 D.v5 D.v6 _ hwA hF.now.1 hF.now.2 hSm h24 hN).mono ?_;rintro e w2 ⟨rfl,hb2⟩;exact StepD.quiet (hb2.mono (Nat.le_of_lt (zB hwA))) (hDA.later hb2) rfl rfl (by omega) rfl rfl)
  clear hDA hF hSm h24 hN hD hbel hwA hln
  go_enter Tryz.func19,Tryz.ntmps19
  go_wp2_with fail;refine (zA HOP).mono ?_;intro e w2 hs;obtain ⟨rfl,hfin⟩:=zA HFIN _ _ hs;clear hs;go_wp2_with fail;go_ret;exact hfin
theorem zI9 (bw:Nat) (D:DW) (o:OpV) (w:World) (hD:DInv bw w D) (hk:o.kind=10) (hn5:D.h5s.length≤1048576000) (hn6:D.h6s.length≤1073741823) :
  Calls Tryz.prog 19 #[.pointer (some ⟨bw,0,none⟩),.agg #[.int .i64 o.kind,.int .i64 o.a,.int .i64 o.b,.int .i64 o.c,S o.s,S o.t]] w fun e w'=>StepD bw D (o.s.length + 1) w e w':=by
 have hbw:=zB hD.wat;obtain ⟨kind,a,b,c,s,t⟩:=o;dsimp only at hk ⊢;subst hk;have h1:w.cell? ⟨bw,1,none⟩=some (.pointer D.px):=zE hD.wat rfl;have hbel:Below w.heap.size w (w.alloc (.cells #[.int .i64 10,.int .i64 a,.int .i64 b,.int .i64 c,S s,S t] 29)):=(Below.refl _ _).alloc (Nat.le_refl _) _;have hDA:=hD.later hbel;have HFIN:Hid (∀ e w2,StepD bw D 0 (w.alloc (.cells #[.int .i64 10,.int .i64 a,.int .i64 b,.int .i64 c,S s,S t] 29)) e w2→e=.returned (.bool true)∧StepD bw D (s.length + 1) w (.returned (.bool true)) w2):=zF (fun e w2 h=>by
  have he:=h.ret;subst he;exact ⟨rfl,(h.after (hbel.mono (Nat.le_of_lt hbw))).more (by omega)⟩)
 rcases hDA.form with ⟨hpx,hpf⟩ | ⟨b1,b2,st,q0,hpx,hpf,hF,hSm,h24,hN,hln⟩
 ·rw [hpx] at h1;have HQ:Hid (StepD bw D (s.length + 1) w (.returned (.bool true)) (w.alloc (.cells #[.int .i64 10,.int .i64 a,.int .i64 b,.int .i64 c,S s,S t] 29))):=zF ((StepD.quiet (hbel.mono (Nat.le_of_lt hbw)) hDA rfl rfl (by omega) rfl rfl).more (by omega))
  go_enter Tryz.func19,Tryz.ntmps19
  go_wp2_with fail;go_ret;exact zA HQ
 ·rw [hpx] at h1;have hwA:=hDA.wat;rw [hpx,hpf] at hwA;have HOP:Hid (Calls Tryz.prog 35 #[.pointer (some ⟨bw,0,none⟩)] (w.alloc (.cells #[.int .i64 10,.int .i64 a,.int .i64 b,.int .i64 c,S s,S t] 29)) fun e w'=>StepD bw D 0 (w.alloc (.cells #[.int .i64 10,.int .i64 a,.int .i64 b,.int .i64 c,S s,S t] 29)) e w'):=zF (by
   refine (zLD bw b1 b2 st q0 D.text D.proof D.v4 D.v5 D.v6 D.h5s D.h6s _ hwA hF.now.1 hF.now.2 hSm hN hDA.lists hn5 hn6).mono ?_;intro e w2 hp;rw [← hpx,← hpf] at hp;exact hDA.blocks hp)
  clear hDA hF hSm h24 hN hD hbel hwA hln
  go_enter Tryz.func19,Tryz.ntmps19
  go_wp2_with fail;refine (zA HOP).mono ?_;intro e w2 hs;obtain ⟨rfl,hfin⟩:=zA HFIN _ _ hs;clear hs;go_wp2_with fail;go_ret;exact hfin
theorem zMB (bw:Nat) (D:DW) (o:OpV) (w:World) (hD:DInv bw w D) (hk:o.kind=3) (ht:TabAt w) :
  Calls Tryz.prog 19 #[.pointer (some ⟨bw,0,none⟩),.agg #[.int .i64 o.kind,.int .i64 o.a,.int .i64 o.b,.int .i64 o.c,S o.s,S o.t]] w fun e w'=>StepD bw D (o.s.length + 1) w e w':=by
 have hbw:=zB hD.wat;obtain ⟨kind,a,b,c,s,t⟩:=o;dsimp only at hk ⊢;subst hk;have h1:w.cell? ⟨bw,1,none⟩=some (.pointer D.px):=zE hD.wat rfl;have hbel:Below w.heap.size w (w.alloc (.cells #[.int .i64 3,.int .i64 a,.int .i64 b,.int .i64 c,S s,S t] 29)):=(Below.refl _ _).alloc (Nat.le_refl _) _;have hDA:=hD.later hbel;have HFIN:Hid (∀ e w2,StepD bw D 0 (w.alloc (.cells #[.int .i64 3,.int .i64 a,.int .i64 b,.int .i64 c,S s,S t] 29)) e w2→e=.returned (.bool true)∧StepD bw D (s.length + 1) w (.returned (.bool true)) w2):=zF (fun e w2 h=>by
  have he:=h.ret;subst he;exact ⟨rfl,(h.after (hbel.mono (Nat.le_of_lt hbw))).more (by omega)⟩)
 rcases hDA.form with ⟨hpx,hpf⟩ | ⟨b1,b2,st,q0,hpx,hpf,hF,hSm,h24,hN,hln⟩
 ·rw [hpx] at h1;have HQ:Hid (StepD bw D (s.length + 1) w (.returned (.bool true)) (w.alloc (.cells #[.int .i64 3,.int .i64 a,.int .i64 b,.int .i64 c,S s,S t] 29))):=zF ((StepD.quiet (hbel.mono (Nat.le_of_lt hbw)) hDA rfl rfl (by omega) rfl rfl).more (by omega))
  go_enter Tryz.func19,Tryz.ntmps19
  go_wp2_with fail;go_ret;exact zA HQ
 ·rw [hpx] at h1;have hwA:=hDA.wat;rw [hpx,hpf] at hwA;have HOP:Hid (Calls Tryz.prog 32 #[.pointer (some ⟨bw,0,none⟩),.int .i64 a,.int .i64 b] (w.alloc (.cells #[.int .i64 3,.int .i64 a,.int .i64 b,.int .i64 c,S s,S t] 29)) fun e w'=>StepD bw D 0 (w.alloc (.cells #[.int .i64 3,.int .i64 a,.int .i64 b,.int .i64 c,S s,S t] 29)) e w'):=zF (by
   have hC:Calls Tryz.prog 32 #[.pointer (some ⟨bw,0,none⟩),.int .i64 a,.int .i64 b] (w.alloc (.cells #[.int .i64 3,.int .i64 a,.int .i64 b,.int .i64 c,S s,S t] 29)) fun e w'=>zGB bw D.text D.proof (some ⟨b1,0,none⟩) (some ⟨b2,0,none⟩) D.v4 D.v5 D.v6 (w.alloc (.cells #[.int .i64 3,.int .i64 a,.int .i64 b,.int .i64 c,S s,S t] 29)) e w':=by
    by_cases hbad:a < 0∨1048576 < a∨b < 0∨64 < b
    ·exact zNZ bw b1 b2 (bw + 1) (zK q0) a b D.text D.proof D.v4 D.v5 D.v6 _ hwA hln hbad
    ·obtain ⟨bn,rfl⟩:∃ n:Nat,a=(n:Int):=⟨a.toNat,by omega⟩;obtain ⟨ln,rfl⟩:∃ n:Nat,b=(n:Int):=⟨b.toNat,by omega⟩;exact zOt bw b1 b2 (bw + 1) st q0 bn ln D.text D.proof D.v4 D.v5 D.v6 _ hwA hF.now.1 hF.now.2 hSm h24 hN hln (ht.later hbel) (by omega) (by omega)
   refine hC.mono ?_;rintro e w2 ⟨rfl,ho2,proof',hw2,hp2⟩;refine ⟨rfl,ho2.below (Nat.le_of_lt (zB hwA)) (fun k hk e=>by omega),_,hDA.base ho2 hw2 (Or.inl ⟨rfl,hpx.symm,hpf.symm⟩),by show D.text.length≤_;omega,by show proof'.length≤_;omega,by show D.gs.length≤_;omega,by show D.h5s.length≤_;omega,by show D.h6s.length≤_;omega⟩)
  clear hDA hF hSm h24 hN hD hbel hwA hln
  go_enter Tryz.func19,Tryz.ntmps19
  go_wp2_with fail;refine (zA HOP).mono ?_;intro e w2 hs;obtain ⟨rfl,hfin⟩:=zA HFIN _ _ hs;clear hs;go_wp2_with fail;go_ret;exact hfin
def zQk (k:Int):Bool:=zNx k || k == 3 || k == 6 || k == 10
theorem zMa:zNs TabAt zQk:=by
 intro bw D o w ht hD hk hok hpl htl hsl hn4 hn5 hn6;unfold zQk at hk;simp only [Bool.or_eq_true,beq_iff_eq] at hk
 rcases hk with ((hk | hk) | hk) | hk
 ·exact zJx bw D o w trivial hD hk hok hpl htl hsl hn4 hn5 hn6
 ·exact zMB bw D o w hD hk ht
 ·exact zL8 bw D o w hD hk
 ·exact zI9 bw D o w hD hk hn5 hn6
theorem zPG (k:Int) (h:inB [10,6,3,7,8,9,11] k=true):zQk k=true:=by
 unfold inB at h;unfold zQk zNx zJj;simp only [Bool.or_eq_true,List.any_cons,List.any_nil,beq_iff_eq] at h ⊢
 rcases h with h | h | h | h | h | h | h | h | h
 ·exact Or.inl (Or.inl (Or.inl (Or.inl (Or.inl h))))
 ·exact Or.inr h.symm
 ·exact Or.inl (Or.inr h.symm)
 ·exact Or.inl (Or.inl (Or.inr h.symm))
 ·exact Or.inl (Or.inl (Or.inl (Or.inr h.symm)))
 ·exact Or.inl (Or.inl (Or.inl (Or.inl (Or.inr (Or.inl (Or.inl h.symm))))))
 ·exact Or.inl (Or.inl (Or.inl (Or.inl (Or.inr (Or.inl (Or.inr h.symm))))))
 ·exact Or.inl (Or.inl (Or.inl (Or.inl (Or.inr (Or.inr h.symm)))))
 ·cases h
theorem zR3 (ops:List OpV) (ao:Option Addr) (cap:Nat) (w:World) (hs:ScriptAt w ao ops) (hsz:zLA ops) (hln:ops.length≤140737488355328) (hok:∀ o∈ops,o.Ok) (ht:TabAt w) :
  Calls Tryz.prog 8 #[.slice ao ops.length cap] w fun e w'=>e=.returned (.bool true)∧Below w.heap.size w w':=by
 have HOK:=zF hok;clear hok;have HU:Hid (∀ (base:Nat) (v:Value) (w':World),zEP ops=true→w'.ownsRow base 29 6 v (ops.filter (fun o=>inB [10,6,3,7,8,9,11] o.kind)).length (zDX (ops.filter (fun o=>inB [10,6,3,7,8,9,11] o.kind)))→Below (w.alloc (.cells #[.int .i64 10,.int .i64 6,.int .i64 3,.int .i64 7,.int .i64 8,.int .i64 9,.int .i64 11] 3)).heap.size (w.alloc (.cells #[.int .i64 10,.int .i64 6,.int .i64 3,.int .i64 7,.int .i64 8,.int .i64 9,.int .i64 11] 3)) w'→Calls Tryz.prog 14 #[v] w' fun e w''=>e=.returned (.int .i64 (-1))∧Below w'.heap.size w' w''):=zF (by
  intro base v w' hsm hown hbel;have ht':TabAt w':=(ht.later ((Below.refl w.heap.size w).alloc (Nat.le_refl _) (.cells #[.int .i64 10,.int .i64 6,.int .i64 3,.int .i64 7,.int .i64 8,.int .i64 9,.int .i64 11] 3))).later hbel;have h1:zDk ops ops.length≤524288:=of_decide_eq_true hsm;have h2:=zKI (fun o=>inB [10,6,3,7,8,9,11] o.kind) ops;have h3:(ops.filter (fun o=>inB [10,6,3,7,8,9,11] o.kind)).length≤ops.length:=List.length_filter_le _ _;have h4:=zGM ops 0 (by omega);rw [zEB] at h4;refine zSo TabAt zQk zMa base _ v w' hown ?_ (by omega) (by omega) (fun wx h=>ht'.later h);intro o ho;rw [List.mem_filter] at ho;exact ⟨zPG _ ho.2,zA HOK o ho.1⟩)
 go_enter Tryz.func8,Tryz.ntmps8
 go_wp2_with fail;have hbel:Below w.heap.size w (w.alloc (.cells #[.int .i64 10,.int .i64 6,.int .i64 3,.int .i64 7,.int .i64 8,.int .i64 9,.int .i64 11] 3)):=(Below.refl _ _).alloc (Nat.le_refl _) _;have hs':ScriptAt (w.alloc (.cells #[.int .i64 10,.int .i64 6,.int .i64 3,.int .i64 7,.int .i64 8,.int .i64 9,.int .i64 11] 3)) ao ops:=by
  intro hne;obtain ⟨b,off,h1,h2,h3⟩:=hs hne;exact ⟨b,off,h1,Nat.lt_of_lt_of_le h2 hbel.size,fun k hk j hj u hu=>by rw [hbel.cell (p:=⟨b,off + (k * 6 + j),none⟩) h2];exact h3 k hk j hj u hu⟩
 refine (zKw ops ao cap [10,6,3,7,8,9,11] (some ⟨w.heap.size,0,none⟩) 7 _ hs' (fun _=>⟨w.heap.size,0,rfl,by simp,fun j hj=>by
  have hj7:j < 7:=(by simpa using hj);rw [zC (heap_alloc_new w _)]
  match j,hj7 with
  | 0,_=>rfl
  | 1,_=>rfl
  | 2,_=>rfl
  | 3,_=>rfl
  | 4,_=>rfl
  | 5,_=>rfl
  | 6,_=>rfl⟩) hsz hln (by simp) HU).mono ?_
 rintro e w1 ⟨rfl,hb⟩;go_wp2_with fail;go_ret;exact ⟨rfl,zBw hbel hb⟩
theorem tabG:Tryz.prog.globalNamed "internal/strconv.uint64pow10"=some ((Tryz.prog.globalNamed "internal/strconv.uint64pow10").getD 0):=by kernel_rfl
theorem tabT:(Tryz.prog.globals[(Tryz.prog.globalNamed "internal/strconv.uint64pow10").getD 0]?).map (·.type)=some 206:=by kernel_rfl
theorem zKk {d1 d2:DataW Unit} {W:World} (h:laidMet Tryz.prog [("math/bits.deBruijn32tab",d1),("math/bits.deBruijn64tab",d2),("internal/strconv.uint64pow10",Lib.tabData .u64 Lib.pow10Tab)] W):TabAt W:=by
 obtain ⟨ps,hv,_⟩:=h;obtain ⟨_,_,_,_,_,_,_,_,_,_,hv2,_⟩:=hv;obtain ⟨_,_,_,_,_,_,_,_,_,_,hv3,_⟩:=hv2;obtain ⟨g',t',cs,fuel,p,q,hg',ht',hvar,hd,_,_⟩:=hv3;obtain rfl:=Option.some.inj (tabG.symm.trans hg');obtain rfl:=Option.some.inj (tabT.symm.trans ht');unfold TabAt Lib.TabIs;rw [hvar,← Lib.cells_of_tab (show Tryz.prog.underlying 206=some (.array 20 200) by kernel_rfl) (show Tryz.prog.underlying 200=some (.int .u64) by kernel_rfl) (by kernel_rfl) (by kernel_rfl) hd]
theorem zL4 {W:World} (h:laidMetH Tryz.prog Rows.solvesRow.laid W):TabAt W:=by
 have hf:(Rows.solvesRow.laid.filter fun x=>x.2.handleName?.isSome)=[]:=(by rfl);unfold laidMetH at h;rw [hf] at h;exact zKk h
end Go.Proofs.YtgipjjhkhfihpaaGreatDoor
namespace Go.Proofs.YtgipjjhkhfihpaaGreatDoor
open Go.ChangeShapes Go.WideShapes Go.ChangeAt Go.RowKit Go.Deep
theorem zMU (os:Os) (started:os.Started) (H:Type) (enc:TypeId × Value→H) (F:Stop.Interp) :
  ReturnsInHanded {} Tryz.checked os 8 .any ((OpenSpec.ofChange Rows.allSpec).preRow enc Tryz.prog Tryz.f8 Rows.allRow.domain false Rows.allRow.laid) (((OpenSpec.ofChange Rows.allSpec).at F).post enc Tryz.prog Tryz.f8 false true false false):=by
 obtain ⟨places,hx⟩:∃ places,DataW.whole enc Tryz.prog ((World.doorLaid Tryz.prog 400 os).forCall (fun _ _=>0) ⟨#[],#[.slice none 0 0],[]⟩).memory Tryz.f8.params.toList Rows.allSpec.vars false #[Value.slice none 0 0].toList 8=some ([.nil],[],places):=⟨[],by kernel_rfl⟩;refine returnsInHanded_of_row (C:=Tryz.checked) (s:=OpenSpec.ofChange Rows.allSpec) Tryz.own started (by kernel_rfl) Tryz.func8
  (witness_row_at (enc:=enc) (C:=Tryz.checked) false (World.doorLaid Tryz.prog 400 os) #[.slice none 0 0] rfl (by kernel_rfl) (by kernel_rfl) (by kernel_rfl)
   (OpenSpec.preRow_of_cond 8 hx (by kernel_rfl) (fun k hk=>by cases hk) (by kernel_rfl) (zRX os _))) ?_
 intro W base args ds gs before hval0 hW _ _ hsz0 hL _ _;have hsz:(DataW.weightsEach Tryz.prog (Tryz.f8.params.toList ++ Rows.allSpec.plain.varTypes Tryz.prog) (ds ++ gs)).all (·≤reachBytes)=true:=hsz0;clear hsz0;have hval:∀ (j:Nat) t v,Tryz.f8.params[j]?=some t→args[j]?=some v→Value.okWide Tryz.prog W .any base t v:=hval0;have hW':=hW;obtain ⟨p,q,hA0,hV,rfl,hfz,hnd⟩:=hW;have hA:DataW.TrodAll enc Tryz.prog W 0 (fun _=>true) true Tryz.f8.params.toList args.toList ds p:=hA0;rw [Tryz.params8] at hA hval hsz;obtain ⟨v0,d0,rfl,rfl,h0⟩:=trodAll_one hA;obtain ⟨rfl,rfl⟩:=trodVars_none hV;obtain ⟨a0,len,cap,rfl⟩:=okWide_slice Tryz.underlying22 (hval 0 22 v0 rfl rfl);have k0:=h0;have lt0:∀ x∈p,x.block < W.heap.size:=(by obtain ⟨m,hm⟩:=k0;exact DataW.trod_lt m _ _ _ hm);obtain ⟨fuel,hf⟩:=h0;clear hA0 hval0 hA;simp only [List.append_nil] at hW';obtain ⟨ops,hlen,hsc,hok,hdat⟩:=zLM (show DataW.trod enc Tryz.prog W 0 (fun _=>true) true fuel 22 [.slice a0 len cap]=some (d0,p) from hf);have hsize:zLA ops∧ops.length≤140737488355328:=by
  rcases hdat with ⟨rfl,_⟩ | ⟨sp,hx⟩
  ·exact ⟨fun o ho=>by simp at ho,by simp⟩
  ·have hd:d0=.slice (ops.map OpV.data) sp:=hx;subst hd;exact zJ9 (sp:=sp) hsz
 subst hlen;refine (zR3 ops a0 cap W hsc hsize.1 hsize.2 hok (zL4 hL)).mono fun e W' ⟨he,bel⟩=>?_
 subst he;exact ⟨_,rfl,_,_,_,[],_,[],hW',trodAll_mk1 (shut_bool Tryz.underlying4 _),trodAll_mk1 (Below.trod Tryz.laidOut (by kernel_rfl) (of_decide_eq_true (by kernel_rfl)) k0 bel lt0),rfl,bel.frame _,fun h=>by cases h⟩
theorem zQm:Rows.AllSaid:=
 OpenClaim.holds_of_cond 8 Tryz.f8 rfl rfl rfl rfl rfl rfl rfl ⟨rfl,rfl,rfl,rfl,rfl⟩ rfl rfl rfl rfl rfl (by kernel_rfl) Tryz.func8 (by kernel_rfl)
  (of_decide_eq_true (by kernel_rfl)) (by unfold Func.isWrapper;first | (rw [if_pos (by decide +kernel)];kernel_rfl) | (rw [if_neg (by decide +kernel)];exact ⟨rfl,rfl⟩))
  (fun os started H enc _ F=>by rw [OpenClaim.pre_eq_preRow];exact zMU os started H enc F)
theorem zPO (f:FuncId) (fn:Func) (hf:Tryz.pinned.checked.prog.funcNamed "duel/duellaw.All"=some f) (hfn:Tryz.pinned.checked.prog.funcs[f]?=some fn) :
  false=Tryz.pinned.checked.prog.looks []∧∀ (j:Nat) t,fn.params[j]?=some t→Tryz.pinned.checked.prog.wantsStandIn t=false:=by
 obtain rfl:f=8:=Option.some.inj ((show Tryz.prog.funcNamed "duel/duellaw.All"=some 8 by kernel_rfl).symm.trans hf) |>.symm;obtain rfl:fn=Tryz.f8:=(Option.some.inj (Tryz.func8.symm.trans hfn)).symm;refine ⟨by kernel_rfl,fun j t ht=>?_⟩;rw [Tryz.params8] at ht;obtain rfl:t=22:=(by simpa using Array.mem_of_getElem? ht);exact (show Tryz.prog.wantsStandIn 22=false by kernel_rfl)
theorem all_holds:Rows.AllCardSaid:=
 Claim7.holds_tied_plain_at .later [] _ _ _ _ zQm (fun _ h=>by cases h) (by kernel_rfl) (fun _ h=>by cases h) all_row_tie rfl ⟨rfl,rfl⟩ (by kernel_rfl) rfl zPO (by kernel_rfl)
#print axioms all_holds
end Go.Proofs.YtgipjjhkhfihpaaGreatDoor
