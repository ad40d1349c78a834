import Derived.Test.YtgipjjhkhfihpaaGreatDoorKJ
import Derived.Test.YtgipjjhkhfihpaaGreatDoorKE
import Derived.Test.YtgipjjhkhfihpaaGreatDoorKF
import Derived.Test.YtgipjjhkhfihpaaGreatDoorKG
import Derived.Test.YtgipjjhkhfihpaaGreatDoorKH
import Derived.Test.YtgipjjhkhfihpaaGreatDoorKD
import Derived.Deep.RegionWith
set_option maxRecDepth 100000
set_option maxHeartbeats 6400000
namespace Go.Proofs.YtgipjjhkhfihpaaGreatDoor
open Go.RowKit
def zDb (q:QS) (kind:Nat) (ss:List (Nat × Nat)) (line:List UInt8):Option (Nat × Nat):=
 if 9000≤ss.length then none else if zB4 line then (match zZ 32 line with | []=>none | hd :: tl=>zFX q kind ss hd tl) else none
theorem zLI (q:QS) (kind:Nat) (ss:List (Nat × Nat)) (line hd:List UInt8) (tl:List (List UInt8)) (hl:¬ 9000≤ss.length) (hs:zB4 line=true) (h:zZ 32 line=hd :: tl):zDb q kind ss line=zFX q kind ss hd tl:=by
 unfold zDb;rw [if_neg hl,if_pos hs,h]
theorem zM9 (ss:List Stp) (s:Stp):ze (ss ++ [s])=ze ss ++ [s.lits]:=by simp [ze]
theorem PInv.push {w w':World} {b:Nat} {q:QS} {kind:Nat} {ss:List Stp} {vV vC vS:Value} {s:Stp} {e:Ending} (h:PInv w b q kind ss vV vC vS) (ha:zKg (b + 1) b 2 ss vS s #[vV,vC,.int .i64 kind,vS] 105 w e w'):e=.returned (.int .i64 ((ss.length:Int) + 1))∧(∃ v',PInv w' b q kind (ss ++ [s]) vV vC v')∧Below b w w':=by
 obtain ⟨v',h0,h1,h2,h3,h4⟩:=ha;have hb:Below b w w':=h3.below (Nat.le_of_lt (zB h.fb)) (fun k hk hh=>by
  rcases hh with e | e
  ·omega
  ·have:=(h.oS.lt k e).1;omega)
 exact ⟨h0,⟨v',h2,zEc h.oV h.lV hb,zEc h.oC h.lC hb,by simpa using h1,h.lV,h.lC⟩,hb⟩
def zPc (b:Nat) (q:QS) (kind:Nat) (ss:List Stp) (vV vC:Value) (line:List UInt8) (w:World) (e:Ending) (w':World):Prop:=
 Below b w w'∧match zDb q kind (ze ss) line with
  | none=>e=.returned (.bool false)
  | some c=>e=.returned (.bool true)∧(c.1 < 512∧c.2 < 512)∧∃ s vS',s.lits=c∧zSu q kind ss (zZ 32 line) s∧PInv w' b q kind (ss ++ [s]) vV vC vS'
theorem zJG (b:Nat) (q:QS) (kind:Nat) (ss:List Stp) (vV vC vS:Value) (k:Nat) (line:List UInt8) (w:World) (hP:PInv w b q kind ss vV vC vS) (hQ:QB q) (hS:SBs ss) (hk:1≤k) (hl:line.length≤1048570) :
  Calls Tryz.prog 46 #[.pointer (some ⟨b,0,none⟩),.int .i64 k,.string ⟨line.toArray⟩] w fun e w'=>zPc b q kind ss vV vC line w e w':=by
 have hbw:=zB hP.fb;have hsl:=hS.len;obtain ⟨aS,cS,rfl⟩:=zN hP.oS;have k3:w.cell? ⟨b,3,none⟩=some (.slice aS ss.length cS):=zE hP.fb rfl;have hkb:((k:Int) == 0)=false:=by rw [beq_eq_false_iff_ne];omega
 by_cases h9:9000≤ss.length
 ·have hd9:decide ((9000:Int)≤(ss.length:Int))=true:=(by simp;omega);have HF:Hid (zDb q kind (ze ss) line=none):=zF (by unfold zDb;rw [if_pos (by simpa [ze] using h9)]);clear h9
  go_enter Tryz.func46,Tryz.ntmps46
  go_wp2_with fail;go_ret;exact ⟨Below.refl _ _,by rw [zA HF];rfl⟩
 ·have hd9:decide ((9000:Int)≤(ss.length:Int))=false:=(by simp;omega);have H9:=zF h9;clear h9
  go_enter Tryz.func46,Tryz.ntmps46
  go_wp2_with fail;refine (zJl line w (by omega)).mono ?_;rintro e w2 ⟨hb,hsp⟩
  cases hok:zB4 line with
  | false=>
   rw [hok,if_neg (by decide)] at hsp;subst hsp;have HF:Hid (zDb q kind (ze ss) line=none):=zF (by unfold zDb;rw [if_neg (by simpa [ze] using zA H9),hok];rfl);go_wp2_with fail;go_ret;exact ⟨hb.mono (Nat.le_of_lt hbw),by rw [zA HF];rfl⟩
  | true=>
   rw [hok,if_pos rfl] at hsp;obtain ⟨v,rfl,hown⟩:=hsp;have hwl:(zZ 32 line).length≤1048571:=(by have:=zA9 32 line;simp [zZ];omega);have hwl2:∀ x∈zZ 32 line,x.length≤1048576:=fun x hx=>by have:=zDq 32 line x hx;omega
   obtain ⟨hd,tl,hws⟩:∃ hd tl,zZ 32 line=hd :: tl:=by
    cases h:zZ 32 line with
    | nil=>simp [zZ] at h
    | cons a b=>exact ⟨a,b,rfl⟩
   have HQ:=zF (zLI q kind (ze ss) line hd tl (by simpa [ze] using zA H9) hok hws);have HWE:=zF hws;rw [hws] at hown hwl hwl2;clear hws hok
   rcases hown.2 with ⟨_,h0⟩ | ⟨g,cap,cur,rfl,hbg,hg,hnc,hcm,hcs,htake⟩
   ·simp at h0
   simp only [List.length_cons] at hwl hnc;have hST:StrsAt w2 (some ⟨g,0,none⟩) (hd :: tl):=fun _=>⟨g,0,cur,rfl,hg,fun j hj=>by
    have h1:=hown.cellAt j (by simpa using hj);rw [zC hg] at h1;rw [Nat.zero_add,h1,List.getElem?_map,List.getElem?_eq_getElem hj];rfl⟩
   have HWL:Hid (∀ x∈tl,x.length≤1048576):=zF (fun x hx=>hwl2 x (List.mem_cons_of_mem _ hx));have hP2:=hP.later hb;clear hwl2 htake hcs hcm;simp only [List.length_cons];go_wp2_with fail;refine (zKO b q kind ss vV vC _ hd tl g 0 cap w2 hP2 hQ hS hST (by omega) (by omega) (zA HWL)).mono ?_;rintro e w3 ⟨hb3,s,ok,rfl,hlt,hok⟩;obtain ⟨sr,sf,ss2,sv,sl⟩:=s;obtain ⟨p,n⟩:=sl;have hb03:Below w.heap.size w w3:=zBw hb hb3;have hP3:=hP2.later hb3;have hA3:Below w3.heap.size w3 (w3.alloc (.cells #[.int .i64 (sr:Int),.int .i64 (sf:Int),.int .i64 (ss2:Int),.int .i64 (sv:Int),.int .i64 (p:Int),.int .i64 (n:Int)] 134)):=(Below.refl _ _).alloc (Nat.le_refl _) _;have hf3:=heap_alloc_new w3 (.cells #[.int .i64 (sr:Int),.int .i64 (sf:Int),.int .i64 (ss2:Int),.int .i64 (sv:Int),.int .i64 (p:Int),.int .i64 (n:Int)] 134);have hbz:Below w.heap.size w (w3.alloc (.cells #[.int .i64 (sr:Int),.int .i64 (sf:Int),.int .i64 (ss2:Int),.int .i64 (sv:Int),.int .i64 (p:Int),.int .i64 (n:Int)] 134)):=zBw hb03 hA3;have hP4:=hP3.later hA3
   rcases hok with ⟨rfl,hok,htag⟩ | ⟨rfl,hok⟩
   ·have HF:Hid (zDb q kind (ze ss) line=some (p,n)):=zF (by rw [zA HQ];exact hok);have HTAG:=zF htag;clear hok htag;go_wp2_with fail;generalize w3.alloc (.cells #[.int .i64 (sr:Int),.int .i64 (sf:Int),.int .i64 (ss2:Int),.int .i64 (sv:Int),.int .i64 (p:Int),.int .i64 (n:Int)] 134)=wz at *;obtain ⟨q0,q1,q2,q3,q4,q5⟩:=zAH hf3;have lf3:=zB hf3;have lb4:=zB hP4.fb;have hd9:Below wz.heap.size wz wz.drew:=(Below.refl _ wz).drew
    go_region_with (go_at_call 72;refine (zCZ (b + 1) b 2 ss (.slice aS ss.length cS) ⟨sr,sf,ss2,sv,(p,n)⟩ _ _ _ (hP4.later hd9).fb rfl (by decide) (hP4.later hd9).oS (by omega) (zB (hP4.later hd9).fb)).mono ?_;intro e w4 hadd;obtain ⟨he4,hJ4,hbJ⟩:=(hP4.later hd9).push hadd;subst he4;clear hadd)
    all_goals
     obtain ⟨v',hJ⟩:=hJ4;go_wp2_with fail;go_ret;refine ⟨((hbz.mono (Nat.le_of_lt hbw)).trans (hd9.mono (Nat.le_of_lt lb4))).trans hbJ,?_⟩;rw [zA HF];exact ⟨rfl,hlt,⟨sr,sf,ss2,sv,(p,n)⟩,v',rfl,by rw [zA HWE];exact zA HTAG,hJ⟩
   ·have HF:Hid (zDb q kind (ze ss) line=none):=zF (by rw [zA HQ];exact hok);clear hok;go_wp2_with fail;go_ret;exact ⟨hbz.mono (Nat.le_of_lt hbw),by rw [zA HF];rfl⟩
def zLb (q:QS) (kind:Nat):List (Nat × Nat)→Nat→List (List UInt8)→List (Nat × Nat) ⊕ Nat
 | ss,_,[]=>.inl ss
 | ss,n,r :: rs=>match zDb q kind ss r with
  | none=>.inr (n + 1)
  | some c=>zLb q kind (ss ++ [c]) (n + 1) rs
def goQ (q:QS) (ended:Bool) (total:Nat) (kind:Nat) (ss:List (Nat × Nat)) (n:Nat) (rs:List (List UInt8)):(Nat × Nat) ⊕ (Nat × List (Nat × Nat)):=
 match zLb q kind ss n rs with
 | .inr i=>.inl (5,i)
 | .inl ss'=>if ended=true∧zCs ss'=true then .inr (kind,ss') else .inl (5,total + 1)
def zFK (r0:List UInt8):Nat:=if r0=zA4 then 2 else 1
def zGA (q:QS) (ended:Bool) (rows:List (List UInt8)):(Nat × Nat) ⊕ (Nat × List (Nat × Nat)):=
 match rows with
 | []=>.inl (5,1)
 | r0 :: rs=>if r0=zA4∨r0=zCS then goQ q ended (rs.length + 1) (zFK r0) [] 1 rs else .inl (5,1)
def zA1 (q:QS) (l:List UInt8):(Nat × Nat) ⊕ (Nat × List (Nat × Nat)):=
 if 262144 < l.length then .inl (1,0) else zGA q (decide ((zU 10 l).2=[])) (zU 10 l).1
theorem zNr (q:QS) (ended:Bool) (rows:List (List UInt8)) (h:0 < rows.length):zGA q ended rows=if rows[0]=zA4∨rows[0]=zCS then goQ q ended rows.length (zFK rows[0]) [] 1 (rows.drop 1) else .inl (5,1):=by
 cases rows with
 | nil=>simp at h
 | cons r0 rs=>rfl
theorem PInv.setKind {w:World} {b:Nat} {q:QS} {kind:Nat} {ss:List Stp} {vV vC vS:Value} (h:PInv w b q kind ss vV vC vS) (kd:Nat):PInv (w.setCell ⟨b,2,none⟩ (.int .i64 kd)) b q kd ss vV vC vS:=by
 have hb:Below b w (w.setCell ⟨b,2,none⟩ (.int .i64 kd)):=(Below.refl b w).setCell (p:=⟨b,2,none⟩) (Nat.le_refl _) _;exact ⟨zI h.fb 2 _,zEc h.oV h.lV hb,zEc h.oC h.lC hb,ownsRow_setCell_below h.oS (a:=⟨b,2,none⟩) (Nat.lt_succ_self b) _,h.lV,h.lC⟩
def Marks (rows:List (List UInt8)) (ss:List Stp):Prop:=∀ i (h:i < ss.length),zC7 ss[i]=zGC i (zZ 32 (rows.getD (i + 1) []))
theorem zHB (rows:List (List UInt8)):Marks rows []:=fun i h=>by simp at h
theorem Marks.snoc {rows:List (List UInt8)} {ss:List Stp} {s:Stp} (h:Marks rows ss) (hs:zC7 s=zGC ss.length (zZ 32 (rows.getD (ss.length + 1) []))):Marks rows (ss ++ [s]):=by
 intro i hi
 by_cases e:i < ss.length
 ·rw [List.getElem_append_left e];exact h i e
 ·have e2:i=ss.length:=(by simp at hi;omega);subst e2
  simpa using hs
def zFT (q:QS) (kind:Nat) (l:List UInt8) (ss:List Stp):Prop:=Tags q kind ss∧Marks (zU 10 l).1 ss
def zOY (q:QS) (l:List UInt8) (w:World) (e:Ending) (w':World):Prop:=
 Below w.heap.size w w'∧match zA1 q l with
  | .inl (x,i)=>e=.returned (.tuple #[.agg #[.int .i64 0,.slice none 0 0],.int .i64 (x:Int),.int .i64 (i:Int)])
  | .inr (kind,ls)=>∃ ss vS,ze ss=ls∧zFT q kind l ss∧SBs ss∧e=.returned (.tuple #[.agg #[.int .i64 (kind:Int),vS],.int .i64 0,.int .i64 0])∧w'.ownsRow w.heap.size 134 6 vS ss.length (zAk ss)
theorem zI6 (b:Nat) (vV vC vS:Value) (kind:Nat) (l:List UInt8) (w:World) (hfb:w.heap[b]?=some (.cells #[vV,vC,.int .i64 kind,vS] 105 (0,0))) :
  Calls Tryz.prog 46 #[.pointer (some ⟨b,0,none⟩),.int .i64 0,.string ⟨l.toArray⟩] w fun e w'=>zLN b l w e w':=by
 go_enter Tryz.func46,Tryz.ntmps46
 go_wp2_with fail;refine (zKB b vV vC vS kind l w hfb).mono ?_;intro e w1 hk;have hr:∃ o,e=.returned (.bool o):=by
  rcases hk with h | h | h
  ·exact ⟨_,h.2.1⟩
  ·exact ⟨_,h.2.1⟩
  ·exact ⟨_,h.2.2.1⟩
 obtain ⟨o,rfl⟩:=hr;have HK:=zF hk;clear hk;go_wp2_with fail;go_ret;exact zA HK
theorem zJq (q:QS) (vV vC:Value) (l:List UInt8) (w:World) (hV:w.ownsRow 0 139 2 vV q.vars.length (zd q.vars)) (hC:w.ownsRow 0 74 2 vC q.cl.length (zAK q.cl)) (hQ:QB q) :
  Calls Tryz.prog 24 #[.agg #[vV,vC],.string ⟨l.toArray⟩] w fun e w'=>zOY q l w e w':=by
 by_cases hlong:262144 < l.length
 ·have hd:decide ((262144:Int) < (l.length:Int))=true:=(by simp;omega);have HF:Hid (zA1 q l=.inl (1,0)):=zF (by unfold zA1;rw [if_pos hlong]);clear hlong;obtain ⟨aV,cV,rfl⟩:=zN hV;obtain ⟨aC,cC,rfl⟩:=zN hC
  go_enter Tryz.func24,Tryz.ntmps24
  go_wp2_with fail;refine bodyPost_ret (v:=.tuple #[.agg #[.int .i64 0,.slice none 0 0],.int .i64 1,.int .i64 0]) (by simp [results,Tryz.results24,go_sem]) rfl ⟨((Below.refl _ _).alloc (Nat.le_refl _) _).alloc (by simp) _,?_⟩;rw [zA HF];rfl
 ·have hl:l.length≤262144:=(by omega);have hd:decide ((262144:Int) < (l.length:Int))=false:=(by simp;omega);have hdr:=zA9 10 l;have HSP:Hid (zA1 q l=zGA q (decide ((zU 10 l).2=[])) (zU 10 l).1):=zF (by unfold zA1;rw [if_neg hlong]);clear hlong;have HlV:Hid (∀ k,vV.ownBlock=some k→k < w.heap.size):=zF (fun k hk=>(hV.lt k hk).2);have HlC:Hid (∀ k,vC.ownBlock=some k→k < w.heap.size):=zF (fun k hk=>(hC.lt k hk).2);obtain ⟨aV,cV,rfl⟩:=zN hV;obtain ⟨aC,cC,rfl⟩:=zN hC;have hA0:Below w.heap.size w ((w.alloc (.cells #[.slice aV q.vars.length cV,.slice aC q.cl.length cC] 60)).alloc (.cells #[.int .i64 0,.slice none 0 0] 67)):=((Below.refl _ _).alloc (Nat.le_refl _) _).alloc (by simp) _;have hf0:((w.alloc (.cells #[.slice aV q.vars.length cV,.slice aC q.cl.length cC] 60)).alloc (.cells #[.int .i64 0,.slice none 0 0] 67)).heap[w.heap.size]?=some (.cells #[.slice aV q.vars.length cV,.slice aC q.cl.length cC] 60 (0,0)):=by
   rw [heap_alloc_old _ _ (by simp)];exact heap_alloc_new _ _
  have hr0:((w.alloc (.cells #[.slice aV q.vars.length cV,.slice aC q.cl.length cC] 60)).alloc (.cells #[.int .i64 0,.slice none 0 0] 67)).heap[w.heap.size + 1]?=some (.cells #[.int .i64 0,.slice none 0 0] 67 (0,0)):=zP (by simp)
  go_enter Tryz.func24,Tryz.ntmps24
  go_wp2_with fail;refine (zJc l _ (by omega)).mono ?_;rintro e w1 ⟨v,rfl,hown,hb1⟩;have hB1:Below w.heap.size w w1:=hA0.trans (hb1.mono hA0.size);have hf1:=zH hb1 hf0;have hr1:=zH hb1 hr0;have hsz1:w.heap.size + 1 < w1.heap.size:=zB hr1;have f10:w1.cell? ⟨w.heap.size,0,none⟩=some (.slice aV q.vars.length cV):=zE hf1 rfl;have f11:w1.cell? ⟨w.heap.size,1,none⟩=some (.slice aC q.cl.length cC):=zE hf1 rfl;have HRL:Hid (∀ r∈(zU 10 l).1,r.length≤262144):=zF (fun r hr=>by
   have:=zDq 10 l r (by unfold zZ;exact List.mem_append_left _ hr);omega)
  have hoV1:=zO hV hB1;have hoC1:=zO hC hB1;generalize hrows:(zU 10 l).1=rows at *;obtain ⟨aL,cL,rfl⟩:=zN hown;obtain ⟨ended,hended⟩:∃ o,decide ((zU 10 l).2=[])=o:=⟨_,rfl⟩;rw [hended] at HSP ⊢;have hown1:=zAG (lo:=0) hown (Nat.zero_le _);have HROWS:=zF hrows;clear hown hrows hended;have hrows2:rows.length≤262144:=(by omega);clear hdr;go_wp2_with fail
  go_loopg [25] (rows.length) (fun m i wx=>∃ (k kind:Nat) (ss:List Stp) (vS:Value),i=.int .i64 k∧k + m=rows.length∧SBs ss∧(Tags q kind ss∧Marks rows ss)∧PInv wx w1.heap.size q kind ss (.slice aV q.vars.length cV) (.slice aC q.cl.length cC) vS∧Below w1.heap.size w1 wx∧
   ((k=0∧kind=0∧ss=[])∨(1≤k∧ss.length + 1=k∧zA1 q l=goQ q ended rows.length kind (ze ss) k (rows.drop k))))
  case atStart=>
   refine ⟨0,0,[],_,rfl,by omega,⟨by simp,by simp⟩,⟨zIa q 0,zHB rows⟩,⟨heap_alloc_new _ _,hoV1.alloc _,hoC1.alloc _,World.ownsRow_nil _ _ _ _,fun k hk=>Nat.lt_of_lt_of_le (zA HlV k hk) hB1.size,fun k hk=>Nat.lt_of_lt_of_le (zA HlC k hk) hB1.size⟩,(Below.refl _ _).alloc (Nat.le_refl _) _,Or.inl ⟨rfl,rfl,rfl⟩⟩
  case round=>
   obtain ⟨k,kind,ss,vS,rfl,hk,hSB,hTg,hP,hbx,hph⟩:=hrel;have HTG:=zF hTg;clear hTg;have HPH:=zF hph;clear hph;have hBx:Below w.heap.size w wr:=hB1.trans (hbx.mono hB1.size);have hrx:=(hbx.block _ hsz1).trans hr1;have r0:wr.cell? ⟨w.heap.size + 1,0,none⟩=some (.int .i64 0):=zE hrx rfl;have r1:wr.cell? ⟨w.heap.size + 1,1,none⟩=some (.slice none 0 0):=zE hrx rfl
   by_cases hlt:k < rows.length
   ·obtain ⟨g,cap,hVe,hg,hg',_,hcell⟩:=zS hown1 (by omega);injection hVe with hVe _ hV2;subst hVe hV2;have hcj:wr.cell? ⟨g,k,none⟩=some (S rows[k]):=by
     rw [hbx.cell (p:=⟨g,k,none⟩) hg'];exact hcell k _ (by simp [hlt])
    have hrl:=zA HRL _ (List.getElem_mem hlt);clear hcell;go_wp2_with fail
    rcases zA HPH with ⟨hk0,hkd,hss⟩ | ⟨hk1,hsk,hrq⟩
    ·have HK0:=zF hk0;subst hk0 hkd hss;have HRQ:Hid (zA1 q l=if rows[0]=zA4∨rows[0]=zCS then goQ q ended rows.length (zFK rows[0]) [] 1 (rows.drop 1) else .inl (5,1)):=zF (by
      rw [zA HSP];exact zNr q ended rows hlt)
     refine (zI6 w1.heap.size _ _ vS 0 rows[0] wr hP.fb).mono ?_;intro e w2 hkp;have hkind:∀ kd:Nat,PInv (wr.setCell ⟨w1.heap.size,2,none⟩ (.int .i64 kd)) w1.heap.size q kd [] (.slice aV q.vars.length cV) (.slice aC q.cl.length cC) vS∧Below w1.heap.size w1 (wr.setCell ⟨w1.heap.size,2,none⟩ (.int .i64 kd)):=fun kd=>⟨hP.setKind kd,hbx.setCell (p:=⟨w1.heap.size,2,none⟩) (Nat.le_refl _) _⟩
     rcases hkp with ⟨h1,rfl,rfl⟩ | ⟨h1,rfl,rfl⟩ | ⟨h1,h2,rfl,hw2⟩
     ·have HG:Hid (zA1 q l=goQ q ended rows.length 1 [] 1 (rows.drop 1)):=zF (by
       rw [zA HRQ,if_pos (Or.inr h1),h1];rfl)
      obtain ⟨hPk,hbk⟩:=hkind 1;have HPk:=zF hPk;have HBk:=zF hbk;clear h1 hPk hbk hkind;go_wp2_with fail
      go_roundg (gk - 1)
      case measure=>omega
      case rel=>exact ⟨1,1,[],vS,by go_num,by omega,hSB,⟨zIa q 1,zHB rows⟩,zA HPk,zA HBk,Or.inr ⟨by omega,rfl,zA HG⟩⟩
     ·have HG:Hid (zA1 q l=goQ q ended rows.length 2 [] 1 (rows.drop 1)):=zF (by
       rw [zA HRQ,if_pos (Or.inl h1),h1];rfl)
      obtain ⟨hPk,hbk⟩:=hkind 2;have HPk:=zF hPk;have HBk:=zF hbk;clear h1 hPk hbk hkind;go_wp2_with fail
      go_roundg (gk - 1)
      case measure=>omega
      case rel=>exact ⟨1,2,[],vS,by go_num,by omega,hSB,⟨zIa q 2,zHB rows⟩,zA HPk,zA HBk,Or.inr ⟨by omega,rfl,zA HG⟩⟩
     ·have HG:Hid (zA1 q l=.inl (5,1)):=zF (by rw [zA HRQ,if_neg (fun h=>h.elim h1 h2)]);subst hw2;clear h1 h2 hkind;have hz:=hrx;have r20:w2.cell? ⟨w.heap.size + 1,0,none⟩=some (.int .i64 0):=zE hz rfl;have r21:w2.cell? ⟨w.heap.size + 1,1,none⟩=some (.slice none 0 0):=zE hz rfl;have y20:=zD hz 0;have y21:=zD hz 1;have hR:=zI (zI hz 0 (.int .i64 0)) 1 (.slice none 0 0);have j0:=zC hR 0;have j1:=zC hR 1;go_wp2_with fail;refine bodyPost_ret (v:=.tuple #[.agg #[.int .i64 0,.slice none 0 0],.int .i64 5,.int .i64 1]) (by simp [results,Tryz.results24,go_sem,j0,j1]) rfl ⟨?_,?_⟩
      ·exact (hBx.setCell (p:=⟨w.heap.size + 1,0,none⟩) (Nat.le_succ _) _).setCell (p:=⟨w.heap.size + 1,1,none⟩) (Nat.le_succ _) _
      ·rw [zA HG];exact congrArg (fun m:Int=>Ending.returned (.tuple #[.agg #[.int .i64 0,.slice none 0 0],.int .i64 5,.int .i64 m])) (by omega)
    ·have HSK:=zF hsk;clear hsk;have hrq2:zA1 q l=match zDb q kind (ze ss) rows[k] with
       | none=>.inl (5,k + 1)
       | some c=>goQ q ended rows.length kind (ze ss ++ [c]) (k + 1) (rows.drop (k + 1)):=by
      rw [hrq];unfold goQ;rw [List.drop_eq_getElem_cons hlt,zLb]
      cases zDb q kind (ze ss) rows[k]<;>rfl
     have HRQ:=zF hrq2;clear hrq2 hrq;refine (zJG w1.heap.size q kind ss _ _ vS k rows[k] wr hP hQ hSB hk1 (by omega)).mono ?_;rintro e w2 ⟨hb2,hp⟩;have hb3:Below w1.heap.size w1 w2:=hbx.trans hb2;have hB3:Below w.heap.size w w2:=hB1.trans (hb3.mono hB1.size)
     cases hq:zDb q kind (ze ss) rows[k] with
     | none=>
      rw [hq] at hp;have hp':e=.returned (.bool false):=hp;subst hp';have HF:Hid (zA1 q l=.inl (5,k + 1)):=zF (by rw [zA HRQ,hq]);clear hp hq;have hz:=(hb3.block _ hsz1).trans hr1;have r20:w2.cell? ⟨w.heap.size + 1,0,none⟩=some (.int .i64 0):=zE hz rfl;have r21:w2.cell? ⟨w.heap.size + 1,1,none⟩=some (.slice none 0 0):=zE hz rfl;have y20:=zD hz 0;have y21:=zD hz 1;have hR:=zI (zI hz 0 (.int .i64 0)) 1 (.slice none 0 0);have j0:=zC hR 0;have j1:=zC hR 1;go_wp2_with fail;refine bodyPost_ret (v:=.tuple #[.agg #[.int .i64 0,.slice none 0 0],.int .i64 5,.int .i64 ((k:Int) + 1)]) (by simp [results,Tryz.results24,go_sem,j0,j1]) rfl ⟨?_,?_⟩
      ·exact (hB3.setCell (p:=⟨w.heap.size + 1,0,none⟩) (Nat.le_succ _) _).setCell (p:=⟨w.heap.size + 1,1,none⟩) (Nat.le_succ _) _
      ·rw [zA HF];exact congrArg (fun m:Int=>Ending.returned (.tuple #[.agg #[.int .i64 0,.slice none 0 0],.int .i64 5,.int .i64 m])) (by omega)
     | some c=>
      rw [hq] at hp;have hp':e=.returned (.bool true)∧(c.1 < 512∧c.2 < 512)∧∃ s vS',s.lits=c∧zSu q kind ss (zZ 32 rows[k]) s∧PInv w2 w1.heap.size q kind (ss ++ [s]) (.slice aV q.vars.length cV) (.slice aC q.cl.length cC) vS':=hp;obtain ⟨rfl,hlt2,s,vS',hsc,htg,hP'⟩:=hp';have HTN:Hid (Tags q kind (ss ++ [s])∧Marks rows (ss ++ [s])):=zF ⟨(zA HTG).1.snoc htg.1,(zA HTG).2.snoc (by
       rw [htg.2,zA HSK];simp [List.getD,hlt])⟩
      clear htg;have HF:Hid (zA1 q l=goQ q ended rows.length kind (ze (ss ++ [s])) (k + 1) (rows.drop (k + 1))):=zF (by rw [zA HRQ,hq,zM9,hsc]);have hSB':SBs (ss ++ [s]):=⟨by
       have:¬ 9000≤ss.length:=fun h9=>by unfold zDb at hq;rw [if_pos (by simpa [ze] using h9)] at hq;cases hq
       simp;omega,fun c' hc'=>by
       rcases List.mem_append.1 hc' with hc' | hc'
       ·exact hSB.bits c' hc'
       ·simp at hc';subst hc';rw [hsc];exact hlt2⟩
      have HS:=zF hSB';clear hp hq hSB' hsc;go_wp2_with fail
      go_roundg (gk - 1)
      case measure=>omega
      case rel=>exact ⟨k + 1,kind,ss ++ [s],vS',by go_num,by omega,zA HS,zA HTN,hP',hb3,Or.inr ⟨by omega,by have:=zA HSK;simp;omega,zA HF⟩⟩
   ·have hkl:k=rows.length:=(by omega);have HRQ:Hid (zA1 q l=if ended=true∧zCs (ze ss)=true then .inr (kind,ze ss) else .inl (5,rows.length + 1)):=zF (by
     rcases zA HPH with ⟨hk0,hkd,hss⟩ | ⟨hk1,_,hrq⟩
     ·have:rows=[]:=List.eq_nil_of_length_eq_zero (by omega)
      rw [zA HSP,this,hss,if_neg (by intro h;cases h.2)];rfl
     ·rw [hrq,hkl,List.drop_length];rfl)
    subst hkl
    cases ended with
    | false=>
     have HF:Hid (zA1 q l=.inl (5,rows.length + 1)):=zF (by rw [zA HRQ,if_neg (by intro h;cases h.1)]);have hz:=hrx;have r20:wr.cell? ⟨w.heap.size + 1,0,none⟩=some (.int .i64 0):=zE hz rfl;have r21:wr.cell? ⟨w.heap.size + 1,1,none⟩=some (.slice none 0 0):=zE hz rfl;have y20:=zD hz 0;have y21:=zD hz 1;have hR:=zI (zI hz 0 (.int .i64 0)) 1 (.slice none 0 0);have j0:=zC hR 0;have j1:=zC hR 1;go_wp2_with fail;refine bodyPost_ret (v:=.tuple #[.agg #[.int .i64 0,.slice none 0 0],.int .i64 5,.int .i64 ((rows.length:Int) + 1)]) (by simp [results,Tryz.results24,go_sem,j0,j1]) rfl ⟨?_,?_⟩
     ·exact (hBx.setCell (p:=⟨w.heap.size + 1,0,none⟩) (Nat.le_succ _) _).setCell (p:=⟨w.heap.size + 1,1,none⟩) (Nat.le_succ _) _
     ·rw [zA HF];exact congrArg (fun m:Int=>Ending.returned (.tuple #[.agg #[.int .i64 0,.slice none 0 0],.int .i64 5,.int .i64 m])) (by omega)
    | true=>
     go_wp2_with fail;refine (zMk w1.heap.size q kind ss _ _ vS wr hP hSB).mono ?_;rintro e w2 ⟨rfl,hb2⟩;have hP2:=hP.later hb2;have hb3:Below w1.heap.size w1 w2:=hbx.trans (hb2.mono hbx.size);have hB3:Below w.heap.size w w2:=hB1.trans (hb3.mono hB1.size)
     cases hcl:zCs (ze ss) with
     | false=>
      have HF:Hid (zA1 q l=.inl (5,rows.length + 1)):=zF (by rw [zA HRQ,if_neg (by rw [hcl];intro h;cases h.2)]);clear hcl;have hz:=(hb3.block _ hsz1).trans hr1;have r20:w2.cell? ⟨w.heap.size + 1,0,none⟩=some (.int .i64 0):=zE hz rfl;have r21:w2.cell? ⟨w.heap.size + 1,1,none⟩=some (.slice none 0 0):=zE hz rfl;have y20:=zD hz 0;have y21:=zD hz 1;have hR:=zI (zI hz 0 (.int .i64 0)) 1 (.slice none 0 0);have j0:=zC hR 0;have j1:=zC hR 1;go_wp2_with fail;refine bodyPost_ret (v:=.tuple #[.agg #[.int .i64 0,.slice none 0 0],.int .i64 5,.int .i64 ((rows.length:Int) + 1)]) (by simp [results,Tryz.results24,go_sem,j0,j1]) rfl ⟨?_,?_⟩
      ·exact (hB3.setCell (p:=⟨w.heap.size + 1,0,none⟩) (Nat.le_succ _) _).setCell (p:=⟨w.heap.size + 1,1,none⟩) (Nat.le_succ _) _
      ·rw [zA HF];exact congrArg (fun m:Int=>Ending.returned (.tuple #[.agg #[.int .i64 0,.slice none 0 0],.int .i64 5,.int .i64 m])) (by omega)
     | true=>
      have HSBH:=zF hSB;have HF:Hid (zA1 q l=.inr (kind,ze ss)):=zF (by rw [zA HRQ,if_pos (by simp [hcl])]);clear hcl;have hz:=(hb3.block _ hsz1).trans hr1;have r20:w2.cell? ⟨w.heap.size + 1,0,none⟩=some (.int .i64 0):=zE hz rfl;have r21:w2.cell? ⟨w.heap.size + 1,1,none⟩=some (.slice none 0 0):=zE hz rfl;have y20:=zD hz 0;have y21:=zD hz 1;have p2:w2.cell? ⟨w1.heap.size,2,none⟩=some (.int .i64 kind):=zE hP2.fb rfl;have p3:w2.cell? ⟨w1.heap.size,3,none⟩=some vS:=zE hP2.fb rfl;obtain ⟨aS,cS,rfl⟩:=zN hP2.oS;have hO:=ownsRow_setCell_below (ownsRow_setCell_below hP2.oS (a:=⟨w.heap.size + 1,0,none⟩) (show w.heap.size + 1 < w1.heap.size + 1 by omega) (.int .i64 kind)) (a:=⟨w.heap.size + 1,1,none⟩) (show w.heap.size + 1 < w1.heap.size + 1 by omega) (.slice aS ss.length cS);have HO:=zF (zAG (lo:=w.heap.size) hO (by omega));clear hO;have hR:=zI (zI hz 0 (.int .i64 kind)) 1 (.slice aS ss.length cS);have j0:=zC hR 0;have j1:=zC hR 1;go_wp2_with fail;refine bodyPost_ret (v:=.tuple #[.agg #[.int .i64 kind,.slice aS ss.length cS],.int .i64 0,.int .i64 0]) (by simp [results,Tryz.results24,go_sem,j0,j1]) rfl ⟨?_,?_⟩
      ·exact (hB3.setCell (p:=⟨w.heap.size + 1,0,none⟩) (Nat.le_succ _) _).setCell (p:=⟨w.heap.size + 1,1,none⟩) (Nat.le_succ _) _
      ·rw [zA HF];exact ⟨ss,_,rfl,⟨(zA HTG).1,by rw [zA HROWS];exact (zA HTG).2⟩,zA HSBH,rfl,zA HO⟩
def zCM (q:QS) (l:List UInt8):Nat × Nat × Nat:=match zA1 q l with
 | .inl (x,i)=>(0,x,i)
 | .inr (kind,_)=>(kind,0,0)
def zPH (q:QS) (l:List UInt8) (w:World) (e:Ending) (w':World):Prop:=
 Below w.heap.size w w'∧e=.returned (.tuple #[.int .i64 ((zCM q l).1:Int),.int .i64 ((zCM q l).2.1:Int),.int .i64 ((zCM q l).2.2:Int)])
theorem zHL (lo b:Nat) (q:QS) (l:List UInt8) (w:World) (hP:ProgAt lo w b q) (hQ:QB q) :
  Calls Tryz.prog 17 #[.pointer (some ⟨b,0,none⟩),.string ⟨l.toArray⟩] w fun e w'=>zPH q l w e w':=by
 obtain ⟨_,vV,vC,hfb,hV,hC⟩:=hP;have hbw:=zB hfb;have k0:w.cell? ⟨b,0,none⟩=some vV:=zE hfb rfl;have k1:w.cell? ⟨b,1,none⟩=some vC:=zE hfb rfl;obtain ⟨aV,cV,rfl⟩:=zN hV;obtain ⟨aC,cC,rfl⟩:=zN hC
 go_enter Tryz.func17,Tryz.ntmps17
 go_wp2_with fail;refine (zEI b _ _ aV aC _ cV _ cC rfl rfl w hfb).mono ?_;rintro e w0 ⟨rfl,hA⟩;go_wp2_with fail;refine (zJq q _ _ l _ (zAG (lo:=0) (zO hV hA) (Nat.zero_le _)) (zAG (lo:=0) (zO hC hA) (Nat.zero_le _)) hQ).mono ?_;rintro e w1 ⟨hb1,hp⟩;have hB1:Below w.heap.size w w1:=hA.trans (hb1.mono hA.size)
 cases hq:zA1 q l with
 | inl xi=>
  obtain ⟨x,i⟩:=xi;rw [hq] at hp;have hp':e=.returned (.tuple #[.agg #[.int .i64 0,.slice none 0 0],.int .i64 (x:Int),.int .i64 (i:Int)]):=hp;subst hp';have HC:Hid (zCM q l=(0,x,i)):=zF (by unfold zCM;rw [hq]);clear hp hq;go_wp2_with fail;go_ret3;exact ⟨hB1.alloc hB1.size _,by rw [zA HC];rfl⟩
 | inr ks=>
  obtain ⟨kind,ls⟩:=ks;rw [hq] at hp;obtain ⟨ss,vS,_,_,_,rfl,hS⟩:=hp;have HC:Hid (zCM q l=(kind,0,0)):=zF (by unfold zCM;rw [hq]);clear hq;obtain ⟨aS,cS,rfl⟩:=zN hS;go_wp2_with fail;go_ret3;exact ⟨hB1.alloc hB1.size _,by rw [zA HC];rfl⟩
theorem zFF (ss:List (Nat × Nat)) (w:List UInt8) (hs:ss.length≤9000):zDA ss w=if cnt w big < 1∨ss.length < cnt w big then none else some (ss.getD (cnt w big - 1) (0,0)):=by
 unfold zDA;rw [zJ8 w ss.length (by omega)]
 by_cases h:cnt w big < 1∨ss.length < cnt w big
 ·rw [if_pos h,if_neg (by omega)];rfl
 ·rw [if_neg h,if_pos (by omega)];have hlt:cnt w big - 1 < ss.length:=(by omega);simp only [Option.bind_some];rw [List.getElem?_eq_getElem hlt,zDG _ _ _ hlt]
theorem zRH {F:zv} {q:QS} (h:FQ F q) (x:List UInt8):zCb q 1 [x]=axR F (cnt x big):=by
 unfold zCb axR;rw [if_pos rfl,h.cl];dsimp only;rw [zJ8 x q.cl.length (by have:=h.clen;omega)]
 by_cases hb:cnt x big < 1∨q.cl.length < cnt x big
 ·rw [if_pos hb,if_neg (by omega)];rfl
 ·rw [if_neg hb,if_pos (by omega)];have hlt:cnt x big - 1 < q.cl.length:=(by omega);simp only [Option.bind_some];rw [List.getElem?_eq_getElem hlt,zDG _ _ _ hlt];simp only [Option.bind_some];unfold zBt
  by_cases hz:q.cl[cnt x big - 1].1 &&& q.cl[cnt x big - 1].2=0
  ·rw [if_pos hz,if_neg (by simp [hz])]
  ·rw [if_neg hz,if_pos (by simpa using hz)]
theorem zOn {F:zv} {q:QS} (h:FQ F q) (hF:FOk F) (truth:Bool) (ss:List (Nat × Nat)) (hs:ss.length≤9000) (x:List UInt8):zDJ q (kd truth) ss [x]=zCv F truth ss (cnt x big):=by
 unfold zDJ zCv;dsimp only;rw [zFF ss x hs]
 by_cases hb:cnt x big < 1∨ss.length < cnt x big
 ·rw [if_pos hb,if_pos hb];rfl
 ·rw [if_neg hb,if_neg hb];simp only [Option.map_some];rw [zOE h hF truth]
theorem zRK {F:zv} {q:QS} (h:FQ F q) (truth:Bool) (z:List UInt8):zGE q (kd truth) z=if 1≤cnt z big∧cnt z big≤8∧cnt z big∈F.order∧F.all.testBit (cnt z big)=truth then some (cnt z big) else none:=by
 have hd:=zN8 z;rw [zJ8 z 8 (by omega)] at hd;unfold zGE;have hbd:=zB3 z
 by_cases h0:dig z=0
 ·rw [if_pos h0] at hd;rw [if_neg (by omega),if_neg];rintro ⟨h1,h2,_⟩;rw [if_pos ⟨h1,h2⟩] at hd;cases hd
 ·rw [if_neg h0] at hd;have hc:1≤cnt z big∧cnt z big≤8:=by
   apply Classical.byContradiction
   intro hn;rw [if_neg hn] at hd;cases hd
  rw [if_pos hc] at hd;have he:cnt z big=(dig z).toNat:=Option.some.inj hd;rw [if_pos (by omega),← he]
  rcases zLr h (cnt z big) with ⟨x,h1,h2,h3,h4⟩ | ⟨h1,h2⟩
  ·rw [h1];simp only [Option.bind_some];have hk:=h.kinds x h3;rw [h2] at hk;have hp:zAl (kd truth) x.2=(F.all.testBit (cnt z big) == truth):=by
    rw [hk];unfold zAl kd;cases truth<;>cases x.2<;>rfl
   rw [hp]
   by_cases hb:F.all.testBit (cnt z big)=truth
   ·rw [if_pos (by simpa using hb),if_pos ⟨hc.1,hc.2,h4,hb⟩]
   ·rw [if_neg (by simpa using hb),if_neg (fun hh=>hb hh.2.2.2)]
  ·rw [h1,if_neg (fun hh=>h2 hh.2.2.1)];rfl
theorem zQB {F:zv} (a b:Nat × Nat) (v:Nat) (h1:1≤v) (h8:v≤8) (sa:SI F a) (sb:SI F b):zEX a b v=if a.1.testBit v=false∨b.2.testBit v=false then none else zBt (zCL a b v):=by
 by_cases ha:a.1.testBit v=true
 ·by_cases hb:b.2.testBit v=true
  ·have e:zi a b v=zCL a b v:=by
    have na:a.2.testBit v=false:=by
     cases hh:a.2.testBit v with
     | false=>rfl
     | true=>exact (zD6 sa.apart v ha hh).elim
    have nb:b.1.testBit v=false:=by
     cases hh:b.1.testBit v with
     | false=>rfl
     | true=>exact (zD6 sb.apart v hh hb).elim
    unfold zi zAV zCL;rw [zB8 v h1 h8]
    apply zGh
    ·intro u;show (zb (a.1 ||| b.1) (2 ^ v)).testBit u=(zb a.1 (2 ^ v) ||| b.1).testBit u;rw [zn,Nat.testBit_or,Nat.testBit_or,zn,Nat.testBit_two_pow]
     by_cases e:v=u
     ·subst e;simp [nb]
     ·simp [e]
    ·intro u;show (zb (a.2 ||| b.2) (2 ^ v)).testBit u=(a.2 ||| zb b.2 (2 ^ v)).testBit u;rw [zn,Nat.testBit_or,Nat.testBit_or,zn,Nat.testBit_two_pow]
     by_cases e:v=u
     ·subst e;simp [na]
     ·simp [e]
   have e1:zEX a b v=(if (zi a b v).1 &&& (zi a b v).2 != 0 then none else some (zi a b v)):=by
    unfold zEX;rw [zF8 a v h1 h8,zGD b v h1 h8,if_pos ⟨ha,hb⟩]
   rw [e1,e,if_neg (show ¬ (a.1.testBit v=false∨b.2.testBit v=false) by rw [ha,hb];simp)];unfold zBt
   by_cases hz2:(zCL a b v).1 &&& (zCL a b v).2=0
   ·rw [if_pos hz2,if_neg (by simp [hz2])]
   ·rw [if_neg hz2,if_pos (by simpa using hz2)]
  ·have hb':b.2.testBit v=false:=(by simpa using hb);rw [if_pos (Or.inr hb')];unfold zEX;rw [zGD b v h1 h8,if_neg (fun hh=>hb hh.2)]
 ·have ha':a.1.testBit v=false:=(by simpa using ha);rw [if_pos (Or.inl ha')];unfold zEX;rw [zF8 a v h1 h8,if_neg (fun hh=>ha hh.1)]
theorem zSq {F:zv} {q:QS} (h:FQ F q) (truth:Bool) (ss:List (Nat × Nat)) (hs:ss.length≤9000) (hSI:∀ c∈ss,SI F c) (x y z:List UInt8):zE9 q (kd truth) ss [x,y,z]=zF7 F truth ss (cnt x big) (cnt y big) (cnt z big):=by
 have LQ:zE9 q (kd truth) ss [x,y,z]=(zDA ss x).bind fun a=>(zDA ss y).bind fun b=>(zGE q (kd truth) z).bind fun v=>zEX a b v:=rfl
 have RN:(cnt x big < 1∨ss.length < cnt x big∨cnt y big < 1∨ss.length < cnt y big∨cnt z big < 1∨8 < cnt z big)→zF7 F truth ss (cnt x big) (cnt y big) (cnt z big)=none:=fun hh=>by unfold zF7;rw [if_pos hh]
 rw [LQ]
 by_cases hx:cnt x big < 1∨ss.length < cnt x big
 ·rw [zFF ss x hs,if_pos hx,RN (by omega)];rfl
 ·rw [zFF ss x hs,if_neg hx,Option.bind_some]
  by_cases hy:cnt y big < 1∨ss.length < cnt y big
  ·rw [zFF ss y hs,if_pos hy,RN (by omega)];rfl
  ·rw [zFF ss y hs,if_neg hy,Option.bind_some]
   by_cases hz:cnt z big < 1∨8 < cnt z big
   ·rw [zRK h truth z,if_neg (by omega),RN (by omega)];rfl
   ·have h1:1≤cnt z big:=(by omega);have h8:cnt z big≤8:=(by omega);have ia:cnt x big - 1 < ss.length:=(by omega);have ib:cnt y big - 1 < ss.length:=(by omega);have hR:zF7 F truth ss (cnt x big) (cnt y big) (cnt z big)=if F.all.testBit (cnt z big)≠truth∨ss[cnt x big - 1].1.testBit (cnt z big)=false∨ss[cnt y big - 1].2.testBit (cnt z big)=false then none else zBt (zCL ss[cnt x big - 1] ss[cnt y big - 1] (cnt z big)):=by
     unfold zF7;rw [if_neg (by omega),zDG _ _ _ ia,zDG _ _ _ ib]
    rw [hR,zDG _ _ _ ia,zDG _ _ _ ib,zRK h truth z];have sa:=hSI _ (List.getElem_mem ia);have sb:=hSI _ (List.getElem_mem ib);clear RN LQ hR;generalize ss[cnt x big - 1]=a at *;generalize ss[cnt y big - 1]=b at *;generalize cnt z big=v at *
    by_cases hk:F.all.testBit v=truth
    ·by_cases hm:v∈F.order
     ·have hc:(1≤v∧v≤8∧v∈F.order∧F.all.testBit v=truth):=⟨h1,h8,hm,hk⟩;rw [if_pos hc,Option.bind_some,zQB a b v h1 h8 sa sb]
      by_cases hh:a.1.testBit v=false∨b.2.testBit v=false
      ·rw [if_pos hh,if_pos (Or.inr hh)]
      ·rw [if_neg hh,if_neg (by rintro (h' | h');exact h' hk;exact hh h')]
     ·have hc:¬ (1≤v∧v≤8∧v∈F.order∧F.all.testBit v=truth):=fun hh=>hm hh.2.2.1
      have ha:a.1.testBit v=false:=by
       cases hh:a.1.testBit v with
       | false=>rfl
       | true=>exact absurd (sa.vars v (Or.inl hh)) hm
      rw [if_neg hc,if_pos (Or.inr (Or.inl ha))];rfl
    ·have hc:¬ (1≤v∧v≤8∧v∈F.order∧F.all.testBit v=truth):=fun hh=>hk hh.2.2.2
     rw [if_neg hc,if_pos (Or.inl hk)];rfl
theorem zSv (c:Nat × Nat) (w:List UInt8):(zk c w).2=zBb w∧(zBb w=true→(zk c w).1=zQ c (zAn w)∧(zAn w).natAbs=zAL w):=by
 obtain ⟨h1,h2⟩:=zGP c w;refine ⟨h1,fun hg=>⟨h2 hg,?_⟩⟩;unfold zBb at hg;unfold zAn zAL
 by_cases hh:w.head?=some 45
 ·rw [if_pos hh] at hg ⊢;have hd:0 < dig w.tail:=of_decide_eq_true hg;have h0:dig w=0:=by
   cases w with
   | nil=>simp at hh
   | cons a r=>
    simp at hh;subst hh
    cases r with
    | nil=>rfl
    | cons b r=>rfl
  rw [if_pos h0];omega
 ·rw [if_neg hh] at hg ⊢;have hd:0 < dig w:=of_decide_eq_true hg;rw [if_neg (by omega)];omega
theorem zSE {F:zv} {q:QS} (h:FQ F q) (ws:List (List UInt8)):∀ (c:Nat × Nat) (last:Nat),zFJ q.vars c last ws=zAe F.order c last ws:=by
 induction ws with
 | nil=>intro c last;rfl
 | cons w ws ih=>
  intro c last;obtain ⟨h1,h2⟩:=zSv c w;rw [zFJ,zAe,h1]
  cases hg:zBb w with
  | false=>rw [if_neg (by decide),if_neg (fun hh=>by cases hh.1)]
  | true=>
   obtain ⟨h3,h4⟩:=h2 hg;rw [if_pos rfl,h4,h3]
   rcases zLr h (zAL w) with ⟨x,f1,f2,f3,f4⟩ | ⟨f1,f2⟩
   ·rw [f1];dsimp only;rw [f2]
    by_cases hle:zAL w≤last
    ·rw [if_pos hle,if_neg (fun hh=>by have:=hh.2.1;omega)]
    ·rw [if_neg hle,if_pos ⟨rfl,by omega,f4⟩,ih]
   ·rw [f1];dsimp only;rw [if_neg (fun hh=>f2 hh.2.2)]
theorem zLa {F:zv} {q:QS} (h:FQ F q) (ws:List (List UInt8)):zAt q 2 ws=zDH F ws:=by
 unfold zAt zDH;rw [if_pos rfl,zSE h,h.cl]
 congr 1
 funext c
 have:zCD q.cl c=zFm q.cl c:=by
  unfold zCD zFm
  congr 1
  funext x
  exact zQl x c
 rw [this]
theorem zSV {F:zv} {q:QS} (h:FQ F q) (hF:FOk F) (truth:Bool) (ss:List (Nat × Nat)) (hs:ss.length≤9000) (hSI:∀ c∈ss,SI F c) (hd:List UInt8) (tl:List (List UInt8)):zFX q (kd truth) ss hd tl=zo F truth ss hd tl:=by
 unfold zFX
 by_cases ha:hd=[97]
 ·subst ha;rw [if_pos rfl]
  cases truth with
  | true=>
   have e1:zo F true ss [97] tl=none:=rfl;rw [e1];rfl
  | false=>
   by_cases hl:tl.length=1
   ·obtain ⟨x,rfl⟩:=List.length_eq_one_iff.1 hl;exact zRH h x
   ·have e1:zo F false ss [97] tl=none:=(by unfold zo;rw [if_neg (fun h=>hl h.2.2),if_neg (by simp),if_neg (by simp),if_neg (by simp)]);rw [e1];unfold zCb
    split
    ·split
     ·simp at hl
     ·rfl
    ·rfl
 ·rw [if_neg ha]
  by_cases hc:hd=[99]
  ·subst hc;rw [if_pos rfl]
   cases truth with
   | false=>
    have e1:zo F false ss [99] tl=none:=rfl;rw [e1];rfl
   | true=>
    have e1:zo F true ss [99] tl=zDH F tl:=rfl;rw [e1];exact zLa h tl
  ·rw [if_neg hc]
   by_cases hr:hd=[114]
   ·subst hr;rw [if_pos rfl]
    by_cases hl:tl.length=3
    ·obtain ⟨x,y,z,rfl⟩:=zG8 hl;rw [zSq h truth ss hs hSI];unfold zo;rw [if_neg (by simp),if_neg (by simp),if_pos ⟨rfl,rfl⟩];rfl
    ·have e1:zo F truth ss [114] tl=none:=(by unfold zo;rw [if_neg (by simp),if_neg (by simp),if_neg (fun h=>hl h.2),if_neg (by simp)]);rw [e1];unfold zE9
     split
     ·simp at hl
     ·rfl
   ·rw [if_neg hr]
    by_cases hdd:hd=[100]
    ·subst hdd;rw [if_pos rfl]
     by_cases hl:tl.length=1
     ·obtain ⟨x,rfl⟩:=List.length_eq_one_iff.1 hl;rw [zOn h hF truth ss hs];unfold zo;rw [if_neg (by simp),if_neg (by simp),if_neg (by simp),if_pos ⟨rfl,rfl⟩];rfl
     ·have e1:zo F truth ss [100] tl=none:=(by unfold zo;rw [if_neg (by simp),if_neg (by simp),if_neg (by simp),if_neg (fun h=>hl h.2)]);rw [e1];unfold zDJ
      split
      ·simp at hl
      ·rfl
    ·rw [if_neg hdd];unfold zo;rw [if_neg (fun h=>ha h.1),if_neg (fun h=>hc h.1),if_neg (fun h=>hr h.1),if_neg (fun h=>hdd h.1)]
theorem zGJ:cnt [] big=0:=rfl
theorem zMn (order:List Nat) (ws:List (List UInt8)) (h:[]∈ws):∀ c last,zAe order c last ws=none:=by
 induction ws with
 | nil=>simp at h
 | cons w ws ih=>
  intro c last;rw [zAe]
  rcases List.mem_cons.1 h with h | h
  ·subst h;rw [if_neg];rintro ⟨h1,_⟩;cases h1
  ·split
   ·exact ih h _ _
   ·rfl
theorem zQS (F:zv) (truth:Bool) (ss:List (Nat × Nat)) (hd:List UInt8) (tl:List (List UInt8)) (h:hd=[]∨[]∈tl):zo F truth ss hd tl=none:=by
 rcases h with h | h
 ·subst h;unfold zo;rw [if_neg (by simp),if_neg (by simp),if_neg (by simp),if_neg (by simp)]
 ·unfold zo
  split
  ·next hc=>
   obtain ⟨x,rfl⟩:=List.length_eq_one_iff.1 hc.2.2;have hx:x=[]:=(by simpa using h);subst hx;show axR F (cnt [] big)=none;rw [zGJ];rfl
  ·split
   ·unfold zDH;rw [zMn _ _ h];rfl
   ·split
    ·next hc=>
     obtain ⟨x,y,z,rfl⟩:=zG8 hc.2;show zF7 F truth ss (cnt x big) (cnt y big) (cnt z big)=none;unfold zF7;rw [if_pos];simp at h
     rcases h with h | h | h
     ·left;rw [h,zGJ];omega
     ·right;right;left;rw [h,zGJ];omega
     ·right;right;right;right;left;rw [h,zGJ];omega
    ·split
     ·next hc=>
      obtain ⟨x,rfl⟩:=List.length_eq_one_iff.1 hc.2;have hx:x=[]:=(by simpa using h);subst hx;show zCv F truth ss (cnt [] big)=none;rw [zGJ];rfl
     ·rfl
theorem zR9 {F:zv} {q:QS} (h:FQ F q) (hF:FOk F) (truth:Bool) (ss:List (Nat × Nat)) (hs:ss.length≤9000) (hSI:∀ c∈ss,SI F c) (row:List UInt8):zDb q (kd truth) ss row=zDZ F truth ss row:=by
 obtain ⟨hd,tl,hws⟩:∃ hd tl,zZ 32 row=hd :: tl:=by
  cases h:zZ 32 row with
  | nil=>simp [zZ] at h
  | cons a b=>exact ⟨a,b,rfl⟩
 rw [zH9 F truth ss row hd tl hws]
 by_cases h9:9000≤ss.length
 ·rw [if_pos (by omega)];unfold zDb;rw [if_pos h9]
 ·rw [if_neg (by omega)]
  cases hsp:zB4 row with
  | true=>rw [zLI q (kd truth) ss row hd tl h9 hsp hws,zSV h hF truth ss hs hSI]
  | false=>
   rw [zQS F truth ss hd tl (zHd row hd tl hws hsp)];unfold zDb;rw [if_neg h9,hsp];rfl
theorem zS2 {F:zv} {truth:Bool} {c:Nat × Nat} (hg:zEy (zBI F.cl) F.all (!truth) F.order c) (hb:Bd c):SI F c:=⟨hb,zII hg.apart,hg.vars⟩
theorem zNM {F:zv} (hF:FOk F) (truth:Bool) (ss:List (Nat × Nat)) (hg:∀ c∈ss,zEy (zBI F.cl) F.all (!truth) F.order c) (hb:∀ c∈ss,Bd c) (row:List UInt8) (c:Nat × Nat) (h:zDZ F truth ss row=some c):zEy (zBI F.cl) F.all (!truth) F.order c∧Bd c∧ss.length < 9000∨9000 < ss.length:=by
 unfold zDZ at h
 split at h
 ·cases h
 ·split at h
  ·cases h
  ·next h9=>
   by_cases hh:9000 < ss.length
   ·exact Or.inr hh
   ·exact Or.inl ⟨zIw hF truth ss _ _ _ hg h,zLh F truth ss _ _ c hF.bits hb h,by omega⟩
theorem zMC {F:zv} {q:QS} (h:FQ F q) (hF:FOk F) (truth:Bool) (rs:List (List UInt8)):∀ (ss:List (Nat × Nat)) (n:Nat),ss.length≤9000→(∀ c∈ss,zEy (zBI F.cl) F.all (!truth) F.order c)→(∀ c∈ss,Bd c)→zLb q (kd truth) ss n rs=zC3 F truth ss n rs:=by
 induction rs with
 | nil=>intro ss n _ _ _;rfl
 | cons r rs ih=>
  intro ss n hs hg hb;rw [zLb,zC3,zR9 h hF truth ss hs (fun c hc=>zS2 (hg c hc) (hb c hc)) r]
  cases hl:zDZ F truth ss r with
  | none=>rfl
  | some c=>
   dsimp only
   rcases zNM hF truth ss hg hb r c hl with ⟨h1,h2,h3⟩ | h9
   ·apply ih
    ·simp;omega
    ·intro c' hc'
     rcases List.mem_append.1 hc' with hc' | hc'
     ·exact hg c' hc'
     ·simp at hc';subst hc';exact h1
    ·intro c' hc'
     rcases List.mem_append.1 hc' with hc' | hc'
     ·exact hb c' hc'
     ·simp at hc';subst hc';exact h2
   ·omega
theorem zIC {F:zv} {q:QS} (h:FQ F q) (hF:FOk F) (l:List UInt8):zCM q l=match zw F l with
  | .inl (x,i)=>(0,x,i)
  | .inr (truth,_)=>(kd truth,0,0):=by
 unfold zCM zA1 zw
 by_cases hl:262144 < l.length
 ·rw [if_pos hl,if_pos hl]
 ·rw [if_neg hl,if_neg hl]
  cases hrows:(zU 10 l).1 with
  | nil=>rfl
  | cons r0 rs=>
   unfold zGA;dsimp only
   by_cases hr:r0=zA4∨r0=zCS
   ·rw [if_pos hr,if_pos hr];have hk:zFK r0=kd (r0 == zA4):=by
     unfold zFK kd
     by_cases e:r0=zA4
     ·rw [if_pos e,if_pos (by simpa using e)]
     ·rw [if_neg e,if_neg (by simpa using e)]
    unfold goQ;rw [hk,zMC h hF (r0 == zA4) rs [] 1 (by simp) (by simp) (by simp)]
    cases zC3 F (r0 == zA4) [] 1 rs with
    | inr i=>rfl
    | inl ss=>
     dsimp only;have he:zCs ss=zCX ss:=rfl;rw [he]
     by_cases hc:(zU 10 l).2=[]∧zCX ss=true
     ·rw [if_pos hc,if_pos ⟨by simpa using hc.1,hc.2⟩]
     ·rw [if_neg hc,if_neg (fun hh=>hc ⟨by simpa using hh.1,hh.2⟩)]
   ·rw [if_neg hr,if_neg hr]
theorem zHi (F:zv) (l:List UInt8) (x i:Nat) (h:zw F l=.inl (x,i)):0 < x:=by
 unfold zw at h
 split at h
 ·injection h with h;injection h with h1 h2;omega
 ·split at h
  ·injection h with h;injection h with h1 h2;omega
  ·split at h
   ·split at h
    ·injection h with h;injection h with h1 h2;omega
    ·split at h
     ·cases h
     ·injection h with h;injection h with h1 h2;omega
   ·injection h with h;injection h with h1 h2;omega
theorem zMu (bw b1 b2 lo:Nat) (st:RS) (q0:QS) (text proof:List UInt8) (c4 c5 c6:Value) (w:World) (hw:WAt w bw text (some ⟨b1,0,none⟩) (some ⟨b2,0,none⟩) proof c4 c5 c6)
  (hP:ProgAt lo w b1 (zK q0)) (hR:RefAt lo w b2 (zW st)) (hS:zEA st q0) (h24:q0.cl.length≤24) (hN:zCf q0) :
  Calls Tryz.prog 33 #[.pointer (some ⟨bw,0,none⟩)] w fun e w'=>e=.returned (.bool true)∧Below w.heap.size w w':=by
 obtain ⟨hFQ,hFO,hFW⟩:=zLP hS hN h24;have hQB:=zQN hN h24;have hce:=zIC hFQ hFO proof;have hbw:bw < w.heap.size:=zB hw;have k1:w.cell? ⟨bw,1,none⟩=some (.pointer (some ⟨b1,0,none⟩)):=zE hw rfl;have k3:w.cell? ⟨bw,3,none⟩=some (S proof):=zE hw rfl
 cases hpr:zw (zW st) proof with
 | inl xi=>
  obtain ⟨x,i⟩:=xi;rw [hpr] at hce;have HCE:Hid (zCM (zK q0) proof=(0,x,i)):=zF hce;have hx:=zHi _ _ _ _ hpr;have HPR:=zF hpr;clear hce hpr hFQ hFO
  go_enter Tryz.func33,Tryz.ntmps33
  go_wp2_with fail
  go_region_with (go_at_call 17;refine (zHL lo b1 (zK q0) proof _ (hP.later (Below.refl _ w).drew) hQB).mono ?_;rintro e w1 ⟨hb1,rfl⟩;rw [zA HCE];have hB1:Below w.heap.size w w1:=(Below.refl _ w).drew.trans hb1;dsimp only)
  all_goals
   have hw1:=hw.later hB1;have j2:w1.cell? ⟨bw,2,none⟩=some (.pointer (some ⟨b2,0,none⟩)):=zE hw1 rfl;have j3:w1.cell? ⟨bw,3,none⟩=some (S proof):=zE hw1 rfl;have hbw1:=zB hw1;have hR1:=hR.later hB1;go_wp2_with fail
   go_region_with (go_at_call 57;refine (zB2 lo b2 (zW st) proof _ (hR1.later (Below.refl _ w1).drew) hFW).mono ?_;rintro e w2 ⟨hb2,hp⟩;rw [zA HPR] at hp;have hp2:e=.returned (.tuple #[.int .i64 0,.int .i64 (x:Int),.int .i64 (i:Int),.int .i64 0]):=hp;subst hp2;clear hp;have hB2:Below w.heap.size w w2:=hB1.trans (((Below.refl _ w1).drew.trans hb2).mono hB1.size))
   all_goals
    have hxb:((x:Int) == 0)=false:=(by rw [beq_eq_false_iff_ne];omega);go_wp2_with fail;go_ret;exact ⟨rfl,hB2⟩
 | inr tt=>
  obtain ⟨truth,two⟩:=tt;rw [hpr] at hce;have hsd:=zGW hFO proof truth two hpr;have HSD:=zF hsd;have HPR:=zF hpr
  cases truth with
  | true=>
   have HCE:Hid (zCM (zK q0) proof=(2,0,0)):=zF hce;clear hce hpr hFQ hsd
   go_enter Tryz.func33,Tryz.ntmps33
   go_wp2_with fail
   go_region_with (go_at_call 17;refine (zHL lo b1 (zK q0) proof _ (hP.later (Below.refl _ w).drew) hQB).mono ?_;rintro e w1 ⟨hb1,rfl⟩;rw [zA HCE];have hB1:Below w.heap.size w w1:=(Below.refl _ w).drew.trans hb1;dsimp only)
   all_goals
    have hw1:=hw.later hB1;have j2:w1.cell? ⟨bw,2,none⟩=some (.pointer (some ⟨b2,0,none⟩)):=zE hw1 rfl;have j3:w1.cell? ⟨bw,3,none⟩=some (S proof):=zE hw1 rfl;have hbw1:=zB hw1;have hR1:=hR.later hB1;go_wp2_with fail
    go_region_with (go_at_call 57;refine (zB2 lo b2 (zW st) proof _ (hR1.later (Below.refl _ w1).drew) hFW).mono ?_;rintro e w2 ⟨hb2,hp⟩;rw [zA HPR] at hp;have hp2:e=.returned (.tuple #[.int .i64 2,.int .i64 0,.int .i64 0,.int .i64 (two:Int)]):=hp;subst hp2;clear hp;have hB2:Below w.heap.size w w2:=hB1.trans (((Below.refl _ w1).drew.trans hb2).mono hB1.size))
    all_goals
     have hw2:=hw.later hB2;have i2:w2.cell? ⟨bw,2,none⟩=some (.pointer (some ⟨b2,0,none⟩)):=zE hw2 rfl;have hbw2:=zB hw2;go_wp2_with fail;refine (zFj lo b2 (zW st) hFW.len hFW.names hFW.all hFW.bits hFW.cl w2 (hR.later hB2)).mono ?_;rintro e w3 ⟨rfl,hb3⟩;rw [zA HSD];have hB3:Below w.heap.size w w3:=hB2.trans (hb3.mono hB2.size);go_wp2_with fail;go_ret;exact ⟨rfl,hB3⟩
  | false=>
   have HCE:Hid (zCM (zK q0) proof=(1,0,0)):=zF hce;clear hce hpr hFQ hsd
   go_enter Tryz.func33,Tryz.ntmps33
   go_wp2_with fail
   go_region_with (go_at_call 17;refine (zHL lo b1 (zK q0) proof _ (hP.later (Below.refl _ w).drew) hQB).mono ?_;rintro e w1 ⟨hb1,rfl⟩;rw [zA HCE];have hB1:Below w.heap.size w w1:=(Below.refl _ w).drew.trans hb1;dsimp only)
   all_goals
    have hw1:=hw.later hB1;have j2:w1.cell? ⟨bw,2,none⟩=some (.pointer (some ⟨b2,0,none⟩)):=zE hw1 rfl;have j3:w1.cell? ⟨bw,3,none⟩=some (S proof):=zE hw1 rfl;have hbw1:=zB hw1;have hR1:=hR.later hB1;go_wp2_with fail
    go_region_with (go_at_call 57;refine (zB2 lo b2 (zW st) proof _ (hR1.later (Below.refl _ w1).drew) hFW).mono ?_;rintro e w2 ⟨hb2,hp⟩;rw [zA HPR] at hp;have hp2:e=.returned (.tuple #[.int .i64 1,.int .i64 0,.int .i64 0,.int .i64 (two:Int)]):=hp;subst hp2;clear hp;have hB2:Below w.heap.size w w2:=hB1.trans (((Below.refl _ w1).drew.trans hb2).mono hB1.size))
    all_goals
     have hw2:=hw.later hB2;have i2:w2.cell? ⟨bw,2,none⟩=some (.pointer (some ⟨b2,0,none⟩)):=zE hw2 rfl;have hbw2:=zB hw2;go_wp2_with fail;refine (zFj lo b2 (zW st) hFW.len hFW.names hFW.all hFW.bits hFW.cl w2 (hR.later hB2)).mono ?_;rintro e w3 ⟨rfl,hb3⟩;rw [zA HSD];have hB3:Below w.heap.size w w3:=hB2.trans (hb3.mono hB2.size);go_wp2_with fail;go_ret;exact ⟨rfl,hB3⟩
end Go.Proofs.YtgipjjhkhfihpaaGreatDoor
