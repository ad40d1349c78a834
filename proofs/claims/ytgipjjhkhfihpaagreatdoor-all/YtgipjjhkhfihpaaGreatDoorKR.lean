import Derived.Test.YtgipjjhkhfihpaaGreatDoorKQ
import Derived.Test.YtgipjjhkhfihpaaGreatDoorKM
import Derived.Test.YtgipjjhkhfihpaaGreatDoorKN
set_option maxRecDepth 100000
set_option maxHeartbeats 6400000
namespace Go.Proofs.YtgipjjhkhfihpaaGreatDoor
open Go.RowKit
theorem zJM {q:QS} (hq:QGood q) {u:Bool} {c:Nat × Nat} {v:Nat × Bool} (hv:v∈q.vars) (hb:Bd c) (hs:zCD q.cl c=true):Bd (zm q u c v)∧zCD q.cl (zm q u c v)=true∧∀ s w,L (zm q u c v) s w=true→L c s w=true:=by
 unfold zm;have hn:=hq.qb.names v hv
 split
 ·next h=>exact ⟨zBh _ _ hb,h.2,fun s w hw=>by rw [zBo _ _ hn.1 hn.2,Bool.and_eq_true] at hw;exact hw.1⟩
 ·exact ⟨hb,hs,fun _ _ h=>h⟩
theorem zIt {q:QS} (hq:QGood q) (u:Bool):∀ (vs:List (Nat × Bool)),(∀ v∈vs,v∈q.vars)→∀ c,Bd c→zCD q.cl c=true→Bd (vs.foldl (zm q u) c)∧zCD q.cl (vs.foldl (zm q u) c)=true∧∀ s w,L (vs.foldl (zm q u) c) s w=true→L c s w=true:=by
 intro vs
 induction vs with
 | nil=>intro _ c hb hs;exact ⟨hb,hs,fun _ _ h=>h⟩
 | cons v vs ih=>
  intro hv c hb hs;obtain ⟨h1,h2,h3⟩:=zJM hq (u:=u) (hv v (by simp)) hb hs;obtain ⟨i1,i2,i3⟩:=ih (fun w hw=>hv w (by simp [hw])) _ h1 h2;exact ⟨i1,i2,fun s w h=>h3 s w (i3 s w h)⟩
theorem zOW {q:QS} (hq:QGood q) {c:Nat × Nat} (hb:Bd c) (hs:zCD q.cl c=true):Bd (zAY q c)∧zCD q.cl (zAY q c)=true∧∀ s w,L (zAY q c) s w=true→L c s w=true:=by
 obtain ⟨h1,h2,h3⟩:=zIt hq true q.vars.reverse (fun v hv=>List.mem_reverse.1 hv) c hb hs;obtain ⟨i1,i2,i3⟩:=zIt hq false q.vars.reverse (fun v hv=>List.mem_reverse.1 hv) _ h1 h2;exact ⟨i1,i2,fun s w h=>h3 s w (i3 s w h)⟩
structure zM5 (C:SC) (S:SS) (path:Nat × Nat) (r:SS × (Nat × Nat)) (more:Nat):Prop where
 inv:SInv C r.1
 ext:Ext S r.1
 size:zAw r.1≤zAw S + more
 fact:r.2.1≠0→FactOk C.q r.1 path r.2
 zero:r.2.1=0→r.2.2=0
theorem zSU {C:SC} (hq:QGood C.q) {S:SS} (hS:SInv C S) {d:Nat} {path vals:Nat × Nat} (hpa:PathAt C.q d path) {ref:List Stp} {cs:List Nat} {ts:List (Int × Nat)} (ht:zFE C.q ref cs path ts vals) :
  zM5 C S path (zBT C S path vals) 2∧(zBT C S path vals).1.nodes=S.nodes∧(zCD C.q.cl vals=true→(zBT C S path vals).2.1≠0):=by
 obtain ⟨hv1,hv2,hv3,hv4⟩:=zEl hq hpa _ _ ht;unfold zBT
 cases hf:S.kept.find? (fun f=>f.1 == 2 && zDD (S.lits f) path) with
 | some f=>
  have hm:=List.mem_of_find?_eq_some hf;have hp:=List.find?_some hf;simp only [Bool.and_eq_true,beq_iff_eq] at hp;have hk:=hS.kept f hm;have h0:f.1≠0:=(by rw [hp.1];decide);refine ⟨⟨hS,Ext.refl _,Nat.le_add_right _ _,fun _=>⟨hk,fun s v hv=>?_⟩,fun h=>absurd h h0⟩,rfl,fun _=>h0⟩;have he:=(zDp _).1 hp.2 s v;rw [zDm,hv] at he;show L path (s == (f.1 == 2)) v=true;rw [hp.1,show (s == ((2:Nat) == 2))=s from by cases s<;>rfl]
  simpa using he
 | none=>
  dsimp only
  cases hs:zCD C.q.cl vals with
  | false=>
   rw [if_neg (by decide)];exact ⟨⟨hS,Ext.refl _,Nat.le_add_right _ _,fun h=>absurd rfl h,fun _=>rfl⟩,rfl,fun h=>by cases h⟩
  | true=>
   simp only [if_true];obtain ⟨s1,s2,s3⟩:=zOW hq hv2.bd hs;have hnew:POk C.q 2 (S.aff ++ [⟨2,0,0,0,zAY C.q vals⟩]):=hS.aff.snoc ⟨zKj hv2 s1 s3,Or.inr (Or.inl ⟨rfl,rfl,rfl,rfl,hv1.sub s3,s2⟩)⟩;have hlen:(S.aff ++ [(⟨2,0,0,0,zAY C.q vals⟩:Stp)]).length=S.aff.length + 1:=(by simp);have hla:zM (S.aff ++ [⟨2,0,0,0,zAY C.q vals⟩]) (S.aff ++ [(⟨2,0,0,0,zAY C.q vals⟩:Stp)]).length=zAY C.q vals:=(by rw [hlen,zD4]);obtain ⟨d1,⟨y,d2,d3,_⟩,d4,d5,d6⟩:=zKe hq 2 _ (S.aff ++ [(⟨2,0,0,0,zAY C.q vals⟩:Stp)]).length hnew (by omega) (Nat.le_refl _) (by rw [hla];exact hv1.sub s3);rw [hla] at d6;generalize zBz C.q 2 (S.aff ++ [⟨2,0,0,0,zAY C.q vals⟩]) (S.aff ++ [(⟨2,0,0,0,zAY C.q vals⟩:Stp)]).length=dd at *;have hpre:∃ x,dd.1=S.aff ++ x:=⟨[⟨2,0,0,0,zAY C.q vals⟩] ++ y,by rw [d2,List.append_assoc]⟩;have hgrow:SInv C { S with aff:=dd.1 }:=hS.growA hpre d1;have hext:Ext S { S with aff:=dd.1 }:=⟨⟨[],by simp⟩,hpre⟩;have hlits:({ S with aff:=dd.1 }:SS).lits (2,dd.2)=zAR 2 C.q.vars.reverse (zAY C.q vals):=d6;have hon:zG2 2 path (zAR 2 C.q.vars.reverse (zAY C.q vals)):=by
    intro s v hv;have hs:=zEo hq 2 _ _ _ hv;show L path (s == true) v=true;rw [show (s == true)=s from by cases s<;>rfl]
    rcases hv4 s v (s3 s v hs) with h | h
    ·exact h
    ·exfalso
     obtain ⟨⟨z,hz,hze,hzu⟩,h6,h7⟩:=h;obtain ⟨i,hi,rfl⟩:=List.mem_iff_getElem.1 hz;have hid:d≤i:=by
      rcases Nat.lt_or_ge i d with hlt | hge
      ·obtain ⟨t,ht⟩:=hpa.all i hi hlt;rw [hze] at ht
       cases t
       ·rw [h7] at ht;cases ht
       ·rw [h6] at ht;cases ht
      ·exact hge
     have hg:=zJr hq 2 d C.q.vars.length (Nat.le_refl _) (zAY C.q vals) (fun j hj hdj _ t htj=>by
      rcases hv4 t _ (s3 t _ htj) with h | h
      ·rw [hpa.off hq hj hdj] at h;cases h
      ·obtain ⟨⟨z,hz,hze2,hzu2⟩,_⟩:=h
       have:=zGs hq hz (List.getElem_mem hj) hze2
       rw [this] at hzu2;rw [hzu2];rfl) i hi hid hi s
     rw [List.take_length,hze] at hg;rw [hg] at hv;cases hv
   have hfact:FactIn C.q { S with aff:=dd.1 } (2,dd.2):=⟨Or.inr rfl,d4,d5,by rw [hlits];exact (hv1.sub s3).sub (fun s v=>zEo hq 2 _ s v),by rw [hlits];exact zIQ hq 2 _⟩;have hk:=zJ1 hgrow hfact;obtain ⟨k1,k2,k3⟩:=zFS C.room { S with aff:=dd.1 } (2,dd.2);have hke:=zGb C.room { S with aff:=dd.1 } (2,dd.2);refine ⟨⟨hk,hext.trans hke,?_,fun _=>⟨hfact.ext hke,by rw [hke.lits hfact.hi,hlits];exact hon⟩,fun h=>by cases h⟩,k3,fun _ h=>by cases h⟩;unfold zAw;rw [k1,k2];show S.ref.length + dd.1.length≤_;rw [d2];simp;omega
theorem zJn {ref:List Stp} {uni:Nat × Nat} {cs:List Nat} {vals:Nat × Nat} (h0:∀ s∈cs,1≤s) {s:Nat} (hs:s∈cs) (hc:zBj uni vals (zM ref s)=true):zBi ref uni cs vals≠0:=by
 unfold zBi
 cases hf:cs.find? (fun s=>zBj uni vals (zM ref s)) with
 | none=>rw [List.find?_eq_none] at hf;exact absurd hc (hf s hs)
 | some t=>
  have:=h0 t (List.mem_of_find?_eq_some hf)
  show t≠0;omega
theorem zRu {C:SC} (hq:QGood C.q) (hu:zFy C.q C.uni) {S:SS} (hS:SInv C S) {path:Nat × Nat} (hpa:PathAt C.q C.q.vars.length path) (hc:(zX C S path).conf=0):zCD C.q.cl (zX C S path).vals=true:=by
 have hfull:∀ c,LOk C.q c→∀ s v,L c s v=true→L path s v=true∨L path (!s) v=true:=by
  intro c hc s v hv;obtain ⟨x,hx,rfl⟩:=List.mem_map.1 (hc.vars s v hv);obtain ⟨i,hi,rfl⟩:=List.mem_iff_getElem.1 hx;obtain ⟨t,ht⟩:=hpa.all i hi hi
  cases s<;>cases t
  ·exact Or.inl ht
  ·exact Or.inr ht
  ·exact Or.inr ht
  ·exact Or.inl ht
 have hu0:(zAd S.ref C.uni (zg C.q S.kept) path).2=0:=by
  apply Classical.byContradiction
  intro hne;obtain ⟨v,s,h1,⟨x,hx,hxe,_⟩,h2,h3,_⟩:=zOB hq hu hS.ref hne;obtain ⟨i,hi,rfl⟩:=List.mem_iff_getElem.1 hx;obtain ⟨t,ht⟩:=hpa.all i hi hi;rw [hxe] at ht
  cases t
  ·rw [h3] at ht;cases ht
  ·rw [h2] at ht;cases ht
 have hun:zX C S path=if zBi S.ref C.uni (zg C.q S.kept) path≠0 then ⟨path,[],zBi S.ref C.uni (zg C.q S.kept) path⟩ else ⟨path,[],0⟩:=by
  unfold zX;rw [zAp,if_pos hu0]
 have hc0:zBi S.ref C.uni (zg C.q S.kept) path=0:=by
  apply Classical.byContradiction
  intro hne;rw [hun,if_pos hne] at hc;exact hne hc
 rw [hun,if_neg (by simp [hc0])];unfold zCD;rw [List.all_eq_true];intro c hcm;obtain ⟨i,hi,rfl⟩:=List.mem_iff_getElem.1 hcm
 cases hok:okC C.q.cl[i] path with
 | true=>rfl
 | false=>
  exfalso
  have hin:i + 1∈zg C.q S.kept:=by
   unfold zg;exact List.mem_append_left _ (List.mem_map.2 ⟨i,List.mem_range.2 hi,rfl⟩)
  refine zJn (fun s hs=>(zE1 hS hs).1) hin ?_ hc0;have hl:=hS.ref.lok (i + 1);rw [hS.ax i hi] at hl ⊢;have hme:zEr C.q.cl[i] path=false:=by
   unfold okC at hok;rw [Bool.or_eq_false_iff] at hok;exact hok.1
  have hcl:zHS C.q.cl[i]=false:=by
   unfold okC at hok;rw [Bool.or_eq_false_iff] at hok;exact hok.2
  unfold zBj zDK;rw [hme,hcl];simp only [Bool.not_false,Bool.and_self,Bool.true_and];rw [zDp];intro s v;rw [zDm,zES]
  cases hv:L C.q.cl[i] s v with
  | false=>rfl
  | true=>
   rcases hfull _ hl s v hv with h | h
   ·rw [(zCB _ _).2 ⟨s,v,hv,h⟩] at hme;cases hme
   ·rw [h];rfl
theorem zHI {C:SC} {S:SS} (h:SInv C S) (n:Nat):SInv C { S with nodes:=n }:=
 ⟨h.ref,h.len,h.ax,h.aff,fun f hf=>⟨(h.kept f hf).kind,(h.kept f hf).lo,(h.kept f hf).hi,(h.kept f hf).free,(h.kept f hf).red⟩,h.room,h.most⟩
def zDx:(SS × (Nat × Nat)) ⊕ (SS × (Nat × Nat))→SS × (Nat × Nat)
 | .inl r=>r
 | .inr r=>(r.1,(0,0))
def zSj {α β:Type}:α ⊕ β→Bool
 | .inl _=>false
 | .inr _=>true
theorem zKi {C:SC} (hq:QGood C.q) (hu:zFy C.q C.uni) {S:SS} (hS:SInv C S) {d:Nat} {path:Nat × Nat} (hpa:PathAt C.q d path) :
  zM5 C S path (zDx (zAa C S path)) (10 * ((zDx (zAa C S path)).1.nodes - S.nodes))∧
  (((zDx (zAa C S path)).1.nodes=S.nodes∧(0 < C.budget∧C.budget≤S.nodes)∧zAa C S path=.inl (S,(0,0)))∨
   ((zDx (zAa C S path)).1.nodes=S.nodes + 1∧¬ (0 < C.budget∧C.budget≤S.nodes)∧((zDx (zAa C S path)).2.1=0→zSj (zAa C S path)=true∧d≠C.q.vars.length))):=by
 have hvl:=hq.qb.vl
 by_cases hb:0 < C.budget∧C.budget≤S.nodes
 ·have e:zAa C S path=.inl (S,(0,0)):=(by unfold zAa;rw [if_pos hb]);rw [e];exact ⟨⟨hS,Ext.refl _,by simp [zDx],fun h=>absurd rfl h,fun _=>rfl⟩,Or.inl ⟨rfl,hb,rfl⟩⟩
 ·have hS1:=zHI hS (S.nodes + 1);have hx1:Ext S { S with nodes:=S.nodes + 1 }:=⟨⟨[],by simp⟩,⟨[],by simp⟩⟩;obtain ⟨ht,_,_⟩:=zIl hq hu hS1 path;have hex:(zX C { S with nodes:=S.nodes + 1 } path).conf≠0→_:=fun h=>zIR hq hu hS1 hpa h
  have hcu:=zSU hq hS1 hpa ht;have hlf:d=C.q.vars.length→(zX C { S with nodes:=S.nodes + 1 } path).conf=0→zCD C.q.cl (zX C { S with nodes:=S.nodes + 1 } path).vals=true:=fun hd h=>zRu hq hu hS1 (by rw [← hd];exact hpa) h
  unfold zAa;rw [if_neg hb];dsimp only;generalize zX C { S with nodes:=S.nodes + 1 } path=U at *;have hsz:zAw { S with nodes:=S.nodes + 1 }=zAw S:=rfl
  by_cases hc:U.conf≠0
  ·rw [if_pos hc];obtain ⟨a1,a2,a3,a4,a5,a6,_⟩:=hex hc;have hn:(zAW C { S with nodes:=S.nodes + 1 } U).1.nodes=S.nodes + 1:=a4;refine ⟨⟨a1,hx1.trans a2,?_,fun _=>a3,fun h=>?_⟩,Or.inr ⟨hn,hb,fun h=>?_⟩⟩
   ·show zAw (zAW C { S with nodes:=S.nodes + 1 } U).1≤zAw S + 10 * ((zAW C { S with nodes:=S.nodes + 1 } U).1.nodes - S.nodes);rw [hn];omega
   ·have h':(zAW C { S with nodes:=S.nodes + 1 } U).2.1=0:=h;rw [a6] at h';cases h'
   ·have h':(zAW C { S with nodes:=S.nodes + 1 } U).2.1=0:=h;rw [a6] at h';cases h'
  ·rw [if_neg hc];have hc0:U.conf=0:=(by omega);obtain ⟨b1,b2,b3⟩:=hcu;generalize zBT C { S with nodes:=S.nodes + 1 } path U.vals=r at *;have hn:r.1.nodes=S.nodes + 1:=b2
   by_cases hr:r.2.1≠0
   ·rw [if_pos hr];refine ⟨⟨b1.inv,hx1.trans b1.ext,?_,b1.fact,b1.zero⟩,Or.inr ⟨hn,hb,fun h=>absurd h hr⟩⟩;show zAw r.1≤zAw S + 10 * (r.1.nodes - S.nodes)
    have:=b1.size
    rw [hn];omega
   ·rw [if_neg hr];refine ⟨⟨b1.inv,hx1.trans b1.ext,?_,fun h=>absurd rfl h,fun _=>rfl⟩,Or.inr ⟨hn,hb,fun _=>⟨rfl,fun hd=>hr (b3 (hlf hd hc0))⟩⟩⟩;show zAw r.1≤zAw S + 10 * (r.1.nodes - S.nodes)
    have:=b1.size
    rw [hn];omega
theorem zJW (S:SS) (k:Nat) (p:List Stp):(S.put k p).proof k=p:=by
 unfold SS.put SS.proof;split<;>rfl
theorem zPM (S:SS) (k:Nat) (p:List Stp):(S.put k p).nodes=S.nodes:=by unfold SS.put;split<;>rfl
theorem zSd (S:SS) (k:Nat) (p:List Stp) (h:∃ x,p=S.proof k ++ x):Ext S (S.put k p):=by
 unfold SS.put;unfold SS.proof at h
 split
 ·next e=>rw [if_pos e] at h;exact ⟨⟨[],by simp⟩,h⟩
 ·next e=>rw [if_neg e] at h;exact ⟨h,⟨[],by simp⟩⟩
theorem zQF (S:SS) (k:Nat) (p:List Stp) (n:Nat) (h:p.length≤(S.proof k).length + n):zAw (S.put k p)≤zAw S + n:=by
 unfold SS.put zAw;unfold SS.proof at h
 split
 ·next e=>rw [if_pos e] at h;show S.ref.length + p.length≤_;omega
 ·next e=>rw [if_neg e] at h;show p.length + S.aff.length≤_;omega
theorem SInv.pok {C:SC} {S:SS} (h:SInv C S) {k:Nat} (hk:k=1∨k=2):POk C.q k (S.proof k):=by
 rcases hk with rfl | rfl
 ·exact h.ref
 ·exact h.aff
theorem zSL {C:SC} {S:SS} (h:SInv C S) {k:Nat} (hk:k=1∨k=2) {p:List Stp} (hp:∃ x,p=S.proof k ++ x) (hok:POk C.q k p):SInv C (S.put k p):=by
 rcases hk with rfl | rfl
 ·exact h.grow hp hok
 ·exact h.growA hp hok
theorem zKn {k:Nat} {path c:Nat × Nat} {v:Nat} {s:Bool} (h1:1≤v) (h8:v≤8) (h:zG2 k (zQ path (zAF v s)) c):∀ t u,L c t u=true→(u≠v→L path (t == (k == 2)) u=true):=by
 intro t u ht hne
 have:=h t u ht
 rw [zBH _ _ _ h1 h8,Bool.or_eq_true,Bool.and_eq_true] at this
 rcases this with h | ⟨_,h⟩
 ·exact h
 ·exact absurd (of_decide_eq_true h) hne
theorem zSi {q:QS} (hq:QGood q) {d:Nat} {path:Nat × Nat} (hpa:PathAt q d path) (hd:d < q.vars.length) {k:Nat} {c:Nat × Nat} {s:Bool} (h:zG2 k (zQ path (zAF q.vars[d].1 s)) c) (hh:zs c q.vars[d].1=true):L c (s == (k == 2)) q.vars[d].1=true:=by
 have hv:=zDt hq d hd;have key:∀ t,L c t q.vars[d].1=true→t=(s == (k == 2)):=by
  intro t ht
  have:=h t _ ht
  rw [zBH _ _ _ hv.1 hv.2,hpa.off hq hd (Nat.le_refl _),Bool.false_or,Bool.and_eq_true,beq_iff_eq] at this;have h2:=this.1
  revert h2
  generalize (k == 2)=b
  cases t<;>cases s<;>cases b<;>simp
 rw [zCl _ _ hv.1 hv.2,Bool.or_eq_true] at hh
 rcases hh with hh | hh
 ·rw [← key true hh];exact hh
 ·rw [← key false hh];exact hh
theorem zIu {C:SC} (hq:QGood C.q) {S:SS} {d:Nat} {path:Nat × Nat} (hpa:PathAt C.q (d + 1) path) (hd:d < C.q.vars.length) {f:Nat × Nat} (hf:FactOk C.q S path f) (hh:zs (S.lits f) C.q.vars[d].1=true):zAl f.1 C.q.vars[d].2=true:=
 zPC hq f.1 d hd _ hf.inn.red (fun i hi hdi s=>by
  cases hl:L (S.lits f) s C.q.vars[i].1 with
  | false=>rfl
  | true=>
   have:=hf.on s _ hl
   rw [hpa.off hq hi (by omega)] at this;cases this) hh
theorem zSB {C:SC} (hq:QGood C.q) {S:SS} (hS:SInv C S) {d:Nat} {path:Nat × Nat} (hpa:PathAt C.q d path) (hd:d < C.q.vars.length) {a b:Nat × Nat} {s:Bool}
  (ha:FactOk C.q S (zQ path (zAF C.q.vars[d].1 s)) a) (hb:FactOk C.q S (zQ path (zAF C.q.vars[d].1 (!s))) b) (hha:zs (S.lits a) C.q.vars[d].1=true) (hhb:zs (S.lits b) C.q.vars[d].1=true) :
  zM5 C S path (zCP C S a b C.q.vars[d].1) 2∧(zCP C S a b C.q.vars[d].1).1.nodes=S.nodes∧(zCP C S a b C.q.vars[d].1).2.1≠0:=by
 have hv:=zDt hq d hd;have p1:=zIu hq (hpa.next hq hd s) hd ha hha;have p2:=zIu hq (hpa.next hq hd (!s)) hd hb hhb;have hk:b.1=a.1:=by
  rcases ha.inn.kind with h1 | h1<;>rcases hb.inn.kind with h2 | h2<;>rw [h1] at p1 ⊢<;>rw [h2] at p2 ⊢<;>revert p1 p2<;>cases C.q.vars[d].2<;>simp [zAl]
 have hla:=zSi hq hpa hd ha.on hha;have hlb:=zSi hq hpa hd hb.on hhb;rw [hk] at hlb;have hlb':L (S.lits b) (!(s == (a.1 == 2))) C.q.vars[d].1=true:=by
  rw [show (!(s == (a.1 == 2)))=((!s) == (a.1 == 2)) from by generalize (a.1 == 2)=b;cases s<;>cases b<;>rfl];exact hlb
 have hsa:S.lits a=zM (S.proof a.1) a.2:=rfl;have hsb:S.lits b=zM (S.proof a.1) b.2:=(by unfold SS.lits;rw [hk]);have hbhi:=hb.inn.hi;rw [hk] at hbhi;have hres:∀ t u,L (zi (S.lits a) (S.lits b) C.q.vars[d].1) t u=true→L path (t == (a.1 == 2)) u=true:=by
  intro t u ht;rw [zCI _ _ _ hv.1 hv.2,Bool.and_eq_true,Bool.or_eq_true,Bool.not_eq_true'] at ht;have hne:u≠C.q.vars[d].1:=of_decide_eq_false ht.2
  rcases ht.1 with ht | ht
  ·exact zKn hv.1 hv.2 ha.on t u ht hne
  ·have:=zKn hv.1 hv.2 hb.on t u ht hne
   rwa [hk] at this
 have hfree:Free (zi (S.lits a) (S.lits b) C.q.vars[d].1):=hpa.free.flip (a.1 == 2) hres;have hfa:=ha.inn.free;have hfb:=hb.inn.free;rw [hsa] at hla hfa;rw [hsb] at hlb' hfb;rw [hsa,hsb] at hres hfree;obtain ⟨r1,⟨x,r2⟩,r3,r4,r5⟩:=zNz hq (hS.pok ha.inn.kind) ⟨ha.inn.lo,ha.inn.hi⟩ ⟨hb.inn.lo,hbhi⟩ ⟨_,List.getElem_mem hd,rfl,p1⟩ hfa hfb hla hlb' hfree;unfold zCP;dsimp only;generalize zCC (S.proof a.1) a.2 b.2 C.q.vars[d].1=r at *;obtain ⟨d1,⟨y,d2,d3,_⟩,d4,d5,d6⟩:=zKe hq a.1 r.1 r.2 r1 (by omega) (by omega) (by rw [r5];exact hfree);rw [r5] at d6;generalize zBz C.q a.1 r.1 r.2=dd at *;have hpre:∃ z,dd.1=S.proof a.1 ++ z:=⟨[x] ++ y,by rw [d2,r2,List.append_assoc]⟩;have hinv:=zSL hS ha.inn.kind hpre d1;have hext:=zSd S a.1 dd.1 hpre;have hlits:(S.put a.1 dd.1).lits (a.1,dd.2)=zAR a.1 C.q.vars.reverse (zi (zM (S.proof a.1) a.2) (zM (S.proof a.1) b.2) C.q.vars[d].1):=by
  unfold SS.lits;rw [zJW];exact d6
 have hon:zG2 a.1 path ((S.put a.1 dd.1).lits (a.1,dd.2)):=by
  intro t u ht;rw [hlits] at ht;exact hres t u (zEo hq a.1 _ _ _ ht)
 have hfact:FactIn C.q (S.put a.1 dd.1) (a.1,dd.2):=⟨ha.inn.kind,d4,by rw [zJW];exact d5,by rw [hlits];exact hfree.sub (fun s v=>zEo hq _ _ s v),by rw [hlits];exact zIQ hq _ _⟩;have hkk:=zJ1 hinv hfact;obtain ⟨k1,k2,k3⟩:=zFS C.room (S.put a.1 dd.1) (a.1,dd.2);have hke:=zGb C.room (S.put a.1 dd.1) (a.1,dd.2);have ha0:a.1≠0:=(by rcases ha.inn.kind with h | h<;>rw [h]<;>decide);refine ⟨⟨hkk,hext.trans hke,?_,fun _=>⟨hfact.ext hke,by rw [hke.lits hfact.hi];exact hon⟩,fun h=>absurd h ha0⟩,k3.trans (zPM _ _ _),ha0⟩;have hz:zAw ((S.put a.1 dd.1).keep C.room (a.1,dd.2))=zAw (S.put a.1 dd.1):=(by unfold zAw;rw [k1,k2]);rw [hz]
 apply zQF
 rw [d2,r2];simp;omega
structure LookOk (C:SC) (m:Nat) (path:Nat × Nat) (S:SS) (r:SS × (Nat × Nat)):Prop where
 inv:SInv C r.1
 ext:Ext S r.1
 fact:r.2.1≠0→FactOk C.q r.1 path r.2
 zero:r.2.1=0→r.2.2=0
 unknown:r.2.1=0→0 < C.budget∧C.budget≤r.1.nodes
 mono:S.nodes≤r.1.nodes
 some:¬ (0 < C.budget∧C.budget≤S.nodes)→S.nodes + 1≤r.1.nodes
 most:r.1.nodes + 1≤S.nodes + 2 ^ (m + 1)
 budget:0 < C.budget→S.nodes≤C.budget→r.1.nodes≤C.budget
 size:zAw r.1≤zAw S + 12 * (r.1.nodes - S.nodes)
theorem zMQ (q:QS) (d:Nat) (h:d < q.vars.length):q.vars.getD d (0,false)=q.vars[d]:=by
 rw [List.getD,List.getElem?_eq_getElem h];rfl
theorem zIT (S:SS) (f:Nat × Nat) (_h1:f.1=0) (h2:f.2=0) (v:Nat):zs (S.lits f) v=false:=by
 unfold SS.lits;rw [h2,zE4 _ _ (by omega)];unfold zs;simp
theorem FactOk.up {q:QS} (hq:QGood q) {S:SS} {d:Nat} (hd:d < q.vars.length) {path:Nat × Nat} {s:Bool} {f:Nat × Nat} (h:FactOk q S (zQ path (zAF q.vars[d].1 s)) f) (hh:zs (S.lits f) q.vars[d].1=false):FactOk q S path f:=by
 have hv:=zDt hq d hd;refine ⟨h.inn,fun t u ht=>?_⟩;refine zKn hv.1 hv.2 h.on t u ht (fun e=>?_);subst e;rw [zCl _ _ hv.1 hv.2,Bool.or_eq_false_iff] at hh
 cases t
 ·rw [hh.2] at ht;cases ht
 ·rw [hh.1] at ht;cases ht
theorem zKA {C:SC} (hq:QGood C.q) (hu:zFy C.q C.uni):∀ (m d:Nat) (path:Nat × Nat) (S:SS),SInv C S→PathAt C.q d path→d + m=C.q.vars.length→LookOk C m path S (z8 C m path d S):=by
 intro m
 induction m with
 | zero=>
  intro d path S hS hpa hdm;obtain ⟨n1,n2⟩:=zKi hq hu hS hpa;have hl:z8 C 0 path d S=zDx (zAa C S path):=by
   rw [z8]
   cases zAa C S path with
   | inl r=>rfl
   | inr r=>rfl
  rw [hl];generalize zDx (zAa C S path)=r at *;have hsz:=n1.size
  rcases n2 with ⟨h1,h2,h3⟩ | ⟨h1,h2,h3⟩
  ·exact ⟨n1.inv,n1.ext,n1.fact,n1.zero,fun _=>by rw [h1];exact h2,by omega,fun h=>absurd h2 h,by rw [h1];simp,fun _ h=>by omega,by omega⟩
  ·exact ⟨n1.inv,n1.ext,n1.fact,n1.zero,fun h=>absurd (by omega) (h3 h).2,by omega,fun _=>by omega,by rw [h1];simp,fun h4 h5=>by
    have:S.nodes < C.budget:=by
     apply Classical.byContradiction
     intro hh;exact h2 ⟨h4,by omega⟩
    omega,by omega⟩
 | succ m ih=>
  intro d path S hS hpa hdm;have hd:d < C.q.vars.length:=(by omega);obtain ⟨n1,n2⟩:=zKi hq hu hS hpa;have hpow:2 ^ (m + 1 + 1)=2 ^ (m + 1) + 2 ^ (m + 1):=(by rw [Nat.pow_succ 2 (m + 1)];omega);have hpos:0 < 2 ^ (m + 1):=Nat.pow_pos (by decide);rw [z8]
  cases hn:zAa C S path with
  | inl r=>
   rw [hn] at n1 n2;simp only [zDx] at n1 n2;dsimp only;have hsz:=n1.size
   rcases n2 with ⟨h1,h2,h3⟩ | ⟨h1,h2,h3⟩
   ·exact ⟨n1.inv,n1.ext,n1.fact,n1.zero,fun _=>by rw [h1];exact h2,by omega,fun h=>absurd h2 h,by omega,fun _ h=>by omega,by omega⟩
   ·exact ⟨n1.inv,n1.ext,n1.fact,n1.zero,fun h=>absurd (h3 h).1 (by simp [zSj]),by omega,fun _=>by omega,by omega,fun h4 h5=>by
     have:S.nodes < C.budget:=by
      apply Classical.byContradiction
      intro hh;exact h2 ⟨h4,by omega⟩
     omega,by omega⟩
  | inr r=>
   obtain ⟨S1,vals⟩:=r;rw [hn] at n1 n2;simp only [zDx] at n1 n2;dsimp only
   rcases n2 with ⟨_,_,h3⟩ | ⟨h1,h2,_⟩
   ·cases h3
   have hsz:=n1.size;have hbud:0 < C.budget→S.nodes≤C.budget→S1.nodes≤C.budget:=fun h4 h5=>by
    have:S.nodes < C.budget:=by
     apply Classical.byContradiction
     intro hh;exact h2 ⟨h4,by omega⟩
    omega
   have hS1:=n1.inv;have hE1:=n1.ext;dsimp only at hS1 hE1 hsz h1;rw [zMQ _ _ hd];obtain ⟨s,hs⟩:∃ s:Bool,(if zj vals (-(C.q.vars[d].1:Int)) then -(C.q.vars[d].1:Int) else (C.q.vars[d].1:Int))=zAF C.q.vars[d].1 s:=by
    split
    ·exact ⟨false,rfl⟩
    ·exact ⟨true,rfl⟩
   rw [hs,zI5];have la:=ih (d + 1) _ S1 hS1 (hpa.next hq hd s) (by omega);generalize z8 C m (zQ path (zAF C.q.vars[d].1 s)) (d + 1) S1=a at *;have la1:=la.mono;have la2:=la.most;have la3:=la.size
   cases hha:zs (a.1.lits a.2) C.q.vars[d].1 with
   | false=>
    simp only [Bool.false_eq_true,if_false];exact ⟨la.inv,hE1.trans la.ext,fun h=>(la.fact h).up hq hd hha,la.zero,la.unknown,by omega,fun _=>by omega,by omega,fun h4 h5=>la.budget h4 (hbud h4 h5),by omega⟩
   | true=>
    simp only [if_true];have ha0:a.2.1≠0:=fun h=>by rw [zIT _ _ h (la.zero h)] at hha;cases hha
    have hfa:=la.fact ha0;have lb:=ih (d + 1) _ a.1 la.inv (hpa.next hq hd (!s)) (by omega);generalize z8 C m (zQ path (zAF C.q.vars[d].1 (!s))) (d + 1) a.1=b at *;have lb1:=lb.mono;have lb2:=lb.most;have lb3:=lb.size
    cases hhb:zs (b.1.lits b.2) C.q.vars[d].1 with
    | false=>
     simp only [Bool.false_eq_true,if_false];exact ⟨lb.inv,(hE1.trans la.ext).trans lb.ext,fun h=>(lb.fact h).up hq hd hhb,lb.zero,lb.unknown,by omega,fun _=>by omega,by omega,fun h4 h5=>lb.budget h4 (la.budget h4 (hbud h4 h5)),by omega⟩
    | true=>
     simp only [if_true];have hb0:b.2.1≠0:=fun h=>by rw [zIT _ _ h (lb.zero h)] at hhb;cases hhb
     have hfb:=lb.fact hb0;have hfa':FactOk C.q b.1 (zQ path (zAF C.q.vars[d].1 s)) a.2:=⟨hfa.inn.ext lb.ext,by rw [lb.ext.lits hfa.inn.hi];exact hfa.on⟩;obtain ⟨j1,j2,j3⟩:=zSB hq lb.inv hpa hd hfa' hfb (by rw [lb.ext.lits hfa.inn.hi];exact hha) hhb;generalize zCP C b.1 a.2 b.2 C.q.vars[d].1=j at *;have jz:=j1.size;exact ⟨j1.inv,((hE1.trans la.ext).trans lb.ext).trans j1.ext,j1.fact,j1.zero,fun h=>absurd h j3,by omega,fun _=>by omega,by omega,fun h4 h5=>by rw [j2];exact lb.budget h4 (la.budget h4 (hbud h4 h5)),by omega⟩
structure CBd (C:SC):Prop where
 qg:QGood C.q
 uni:zFy C.q C.uni
 ub:C.uni.1 < 512∧C.uni.2 < 512
 budget:C.budget≤1048576
 room:C.room≤64
structure LIn (C:SC) (S:SS):Prop where
 inv:SInv C S
 size:zAw S≤100 + 12 * S.nodes
 nodes:S.nodes≤2000
theorem zQ7 {q:QS} {k:Nat} {p:List Stp} (h:POk q k p):∀ s∈p,s.lits.1 < 512∧s.lits.2 < 512:=by
 intro s hs;obtain ⟨i,hi,rfl⟩:=List.mem_iff_getElem.1 hs;exact (h i hi).1.bd
theorem zIb (S:SS):S.ref.length≤zAw S∧S.aff.length≤zAw S:=⟨Nat.le_add_right _ _,Nat.le_add_left _ _⟩
theorem LIn.bd {C:SC} {S:SS} (hC:CBd C) (h:LIn C S):SBd C S:=by
 have h1:=h.size;have h2:=h.nodes;have h3:=zIb S;have h4:=hC.room;have h5:=h.inv.room;have h6:=h.inv.most;refine ⟨hC.qg.qb,hC.ub,zQ7 h.inv.ref,zQ7 h.inv.aff,by omega,by omega,by omega,fun f hf=>?_,hC.budget,h4,by omega,by omega⟩;have hk:=h.inv.kept f hf;have hi:=hk.hi;refine ⟨by rcases hk.kind with e | e<;>omega,?_⟩;unfold SS.proof at hi
 split at hi<;>omega
def zBl (C:SC):Nat→Nat × Nat→Nat→Nat × Nat→SS→SS × (Nat × Nat)
 | 0,_,_,_,s=>(s,(0,0))
 | m + 1,path,depth,vals,s1=>
   let v:=(C.q.vars.getD depth (0,false)).1
   let side:Int:=if zj vals (-(v:Int)) then -(v:Int) else v
   let a:=z8 C m (zQ path side) (depth + 1) s1
   if zs (a.1.lits a.2) v then
    let b:=z8 C m (zQ path (-side)) (depth + 1) a.1
    if zs (b.1.lits b.2) v then zCP C b.1 a.2 b.2 v else b
   else a
def zDT (C:SC) (m:Nat) (path:Nat × Nat) (d:Nat):(SS × (Nat × Nat)) ⊕ (SS × (Nat × Nat))→SS × (Nat × Nat)
 | .inl r=>r
 | .inr r=>zBl C m path d r.2 r.1
theorem zRR (C:SC) (m:Nat) (path:Nat × Nat) (d:Nat) (S:SS):z8 C m path d S=zDT C m path d (zAa C S path):=by
 cases m with
 | zero=>rw [z8];cases zAa C S path<;>rfl
 | succ m=>rw [z8];cases zAa C S path<;>rfl
structure LookIn (C:SC) (m d:Nat) (path:Nat × Nat) (S:SS):Prop where
 lin:LIn C S
 path:PathAt C.q d path
 dm:d + m=C.q.vars.length
 most:S.nodes + 2 ^ (m + 1)≤2001
structure BranchIn (C:SC) (m d:Nat) (path vals:Nat × Nat) (S:SS):Prop where
 lin:LIn C S
 path:PathAt C.q d path
 vals:vals.1 < 512∧vals.2 < 512
 dm:d + m=C.q.vars.length
 most:S.nodes + 2 ^ (m + 1)≤2002
def LookSpec (m:Nat):Prop:=∀ (b:Nat) (C:SC) (S:SS) (V:SV) (path:Nat × Nat) (d:Nat) (w:World),CBd C→LookIn C m d path S→SAt w b C S V→
 Calls Tryz.prog 62 #[.pointer (some ⟨b,0,none⟩),zAj path,.int .i64 (d:Int)] w fun e w'=>e=.returned (zAv (z8 C m path d S).2)∧SPost b C (z8 C m path d S).1 V w w'
def zF5 (m:Nat):Prop:=∀ (b:Nat) (C:SC) (S:SS) (V:SV) (path vals:Nat × Nat) (d:Nat) (w:World),CBd C→BranchIn C m d path vals S→SAt w b C S V→
 Calls Tryz.prog 92 #[.pointer (some ⟨b,0,none⟩),zAj path,.int .i64 (d:Int),zAj vals] w fun e w'=>e=.returned (zAv (zBl C m path d vals S).2)∧SPost b C (zBl C m path d vals S).1 V w w'
theorem LookIn.lk {C:SC} (hC:CBd C) {m d:Nat} {path:Nat × Nat} {S:SS} (h:LookIn C m d path S):LookOk C m path S (z8 C m path d S):=zKA hC.qg hC.uni m d path S h.lin.inv h.path h.dm
theorem LookIn.out {C:SC} (hC:CBd C) {m d:Nat} {path:Nat × Nat} {S:SS} (h:LookIn C m d path S):LIn C (z8 C m path d S).1:=by
 have hk:=h.lk hC;have h1:=h.lin.size;have h2:=hk.size;have h3:=hk.mono;have h4:=hk.most;have h5:=h.most;generalize 2 ^ (m + 1)=X at *;exact ⟨hk.inv,by omega,by omega⟩
theorem BranchIn.near {C:SC} (hC:CBd C) {m d:Nat} {path vals:Nat × Nat} {S:SS} (h:BranchIn C (m + 1) d path vals S) (hd:d < C.q.vars.length) (s:Bool):LookIn C m (d + 1) (zQ path (zAF C.q.vars[d].1 s)) S:=by
 have h1:=h.dm;have h2:=h.most;refine ⟨h.lin,h.path.next hC.qg hd s,by omega,?_⟩;have hpow:2 ^ (m + 1 + 1)=2 ^ (m + 1) + 2 ^ (m + 1):=(by rw [Nat.pow_succ 2 (m + 1)];omega);have hpos:0 < 2 ^ (m + 1):=Nat.pow_pos (by decide);generalize 2 ^ (m + 1 + 1)=Y at *;generalize 2 ^ (m + 1)=X at *;omega
theorem BranchIn.far {C:SC} (hC:CBd C) {m d:Nat} {path vals:Nat × Nat} {S:SS} (h:BranchIn C (m + 1) d path vals S) (hd:d < C.q.vars.length) (s t:Bool):LookIn C m (d + 1) (zQ path (zAF C.q.vars[d].1 t)) (z8 C m (zQ path (zAF C.q.vars[d].1 s)) (d + 1) S).1:=by
 have h1:=h.dm;have h2:=h.most;have hn:=h.near hC hd s;have h3:=(hn.lk hC).most;refine ⟨hn.out hC,h.path.next hC.qg hd t,by omega,?_⟩;have hpow:2 ^ (m + 1 + 1)=2 ^ (m + 1) + 2 ^ (m + 1):=(by rw [Nat.pow_succ 2 (m + 1)];omega);generalize 2 ^ (m + 1 + 1)=Y at *;generalize 2 ^ (m + 1)=X at *;omega
theorem LookIn.node {C:SC} (_hC:CBd C) {m d:Nat} {path:Nat × Nat} {S:SS} (h:LookIn C m d path S) (_hb:¬ (0 < C.budget∧C.budget≤S.nodes)):LIn C { S with nodes:=S.nodes + 1 }:=by
 have h1:=h.lin.size;have h5:=h.most;have hpow:2 ^ (m + 1)=2 ^ m + 2 ^ m:=(by rw [Nat.pow_succ 2 m];omega);have hpos:0 < 2 ^ m:=Nat.pow_pos (by decide);generalize 2 ^ (m + 1)=X at *;generalize 2 ^ m=Y at *;refine ⟨zHI h.lin.inv _,?_,?_⟩
 ·show zAw S≤100 + 12 * (S.nodes + 1);omega
 ·show S.nodes + 1≤2000;omega
theorem zRC {C:SC} (hC:CBd C) {S:SS} (h:SInv C S) {d:Nat} {path:Nat × Nat} (hp:PathAt C.q d path):((zX C S path).vals.1 < 512∧(zX C S path).vals.2 < 512)∧zOI (zX C S path).trail∧(zX C S path).conf≤S.ref.length:=by
 obtain ⟨h1,h2,h3⟩:=zIl hC.qg hC.uni h path;obtain ⟨_,t2,_,_⟩:=zEl hC.qg hp _ _ h1;have hvl:=hC.qg.qb.vl;refine ⟨t2.bd,⟨by omega,?_⟩,?_⟩
 ·have key:∀ (ts:List (Int × Nat)) (vals:Nat × Nat),zFE C.q S.ref (zg C.q S.kept) path ts vals→∀ u∈ts,-8≤u.1∧u.1≤8:=by
   intro ts
   induction ts with
   | nil=>intro vals _ u hu;cases hu
   | cons t ts ih=>
    rintro vals ⟨pre,hpre,⟨v,s,ht,⟨x,hx,hxe,hxu⟩,_⟩,rfl⟩ u hu
    rcases List.mem_cons.1 hu with rfl | hu
    ·have hv:=hC.qg.qb.names x hx;rw [ht];unfold zAF
     split<;>omega
    ·exact ih pre hpre u hu
  intro u hu;exact key _ _ h1 u (List.mem_reverse.2 hu)
 ·by_cases h0:(zX C S path).conf=0
  ·omega
  ·exact (zE1 h (h3 h0).1).2
theorem zQG {C:SC} {S:SS} {path:Nat × Nat} (hb:0 < C.budget∧C.budget≤S.nodes):zAa C S path=.inl (S,(0,0)):=by unfold zAa;rw [if_pos hb]
theorem zO2 {C:SC} {S:SS} {path:Nat × Nat} (hb:¬ (0 < C.budget∧C.budget≤S.nodes)) (hc:(zX C { S with nodes:=S.nodes + 1 } path).conf≠0):zAa C S path=.inl (zAW C { S with nodes:=S.nodes + 1 } (zX C { S with nodes:=S.nodes + 1 } path)):=by
 unfold zAa;rw [if_neg hb];dsimp only;rw [if_pos hc]
theorem zRr {C:SC} {S:SS} {path:Nat × Nat} (hb:¬ (0 < C.budget∧C.budget≤S.nodes)) (hc:(zX C { S with nodes:=S.nodes + 1 } path).conf=0) (hr:(zBT C { S with nodes:=S.nodes + 1 } path (zX C { S with nodes:=S.nodes + 1 } path).vals).2.1≠0):zAa C S path=.inl (zBT C { S with nodes:=S.nodes + 1 } path (zX C { S with nodes:=S.nodes + 1 } path).vals):=by
 unfold zAa;rw [if_neg hb];dsimp only;rw [if_neg (fun h=>h hc),if_pos hr]
theorem zSc {C:SC} {S:SS} {path:Nat × Nat} (hb:¬ (0 < C.budget∧C.budget≤S.nodes)) (hc:(zX C { S with nodes:=S.nodes + 1 } path).conf=0) (hr:(zBT C { S with nodes:=S.nodes + 1 } path (zX C { S with nodes:=S.nodes + 1 } path).vals).2.1=0):zAa C S path=.inr ((zBT C { S with nodes:=S.nodes + 1 } path (zX C { S with nodes:=S.nodes + 1 } path).vals).1,(zX C { S with nodes:=S.nodes + 1 } path).vals):=by
 unfold zAa;rw [if_neg hb];dsimp only;rw [if_neg (fun h=>h hc),if_neg (fun h=>h hr)]
theorem LookIn.branch {C:SC} (hC:CBd C) {m d:Nat} {path:Nat × Nat} {S:SS} (h:LookIn C m d path S) {r:SS} {vals:Nat × Nat} (hn:zAa C S path=.inr (r,vals)) (hv:vals.1 < 512∧vals.2 < 512):BranchIn C m d path vals r:=by
 obtain ⟨n1,n2⟩:=zKi hC.qg hC.uni h.lin.inv h.path;rw [hn] at n1 n2;simp only [zDx] at n1 n2
 rcases n2 with ⟨_,_,h3⟩ | ⟨h1,h2,_⟩
 ·cases h3
 have hsz:=n1.size;have hi:=n1.inv;dsimp only at hsz hi;have h4:=h.lin.size;have h5:=h.most;have hpow:2 ^ (m + 1)=2 ^ m + 2 ^ m:=(by rw [Nat.pow_succ 2 m];omega);have hpos:0 < 2 ^ m:=Nat.pow_pos (by decide);refine ⟨⟨hi,by omega,?_⟩,h.path,hv,h.dm,?_⟩
 ·generalize 2 ^ (m + 1)=X at *;generalize 2 ^ m=Y at *;omega
 ·generalize 2 ^ (m + 1)=X at *;generalize 2 ^ m=Y at *;omega
theorem LookSpec.next {m:Nat} (h:LookSpec m) (b:Nat) (C:SC) (S:SS) (V:SV) (path:Nat × Nat) (d:Nat) (w:World) (hC:CBd C) (hi:LookIn C m (d + 1) path S) (hS:SAt w b C S V) :
 Calls Tryz.prog 62 #[.pointer (some ⟨b,0,none⟩),zAj path,.int .i64 ((d:Int) + 1)] w fun e w'=>e=.returned (zAv (z8 C m path (d + 1) S).2)∧SPost b C (z8 C m path (d + 1) S).1 V w w':=h b C S V path (d + 1) w hC hi hS
theorem zNB (C:SC) (m d:Nat) (path vals:Nat × Nat) (S:SS) (v:Nat) (x y:Int) (hv:(C.q.vars.getD d (0,false)).1=v) (hx:(if zj vals (-(v:Int)) then -(v:Int) else (v:Int))=x) (hy:-x=y) :
  zBl C (m + 1) path d vals S=if zs ((z8 C m (zQ path x) (d + 1) S).1.lits (z8 C m (zQ path x) (d + 1) S).2) v then
   (if zs ((z8 C m (zQ path y) (d + 1) (z8 C m (zQ path x) (d + 1) S).1).1.lits (z8 C m (zQ path y) (d + 1) (z8 C m (zQ path x) (d + 1) S).1).2) v then zCP C (z8 C m (zQ path y) (d + 1) (z8 C m (zQ path x) (d + 1) S).1).1 (z8 C m (zQ path x) (d + 1) S).2 (z8 C m (zQ path y) (d + 1) (z8 C m (zQ path x) (d + 1) S).1).2 v else z8 C m (zQ path y) (d + 1) (z8 C m (zQ path x) (d + 1) S).1)
   else z8 C m (zQ path x) (d + 1) S:=by
 rw [zBl];dsimp only;rw [hv,hx,hy]
theorem LookOk.kind {C:SC} {m:Nat} {path:Nat × Nat} {S:SS} {r:SS × (Nat × Nat)} (h:LookOk C m path S r) {v:Nat} (hh:zs (r.1.lits r.2) v=true):r.2.1=1∨r.2.1=2:=by
 have ha0:r.2.1≠0:=fun e=>by rw [zIT _ _ e (h.zero e)] at hh;cases hh
 exact (h.fact ha0).inn.kind
theorem LIn.plen {C:SC} {S:SS} (h:LIn C S) (k:Nat):(S.proof k).length≤99990:=by
 have h1:=h.size;have h2:=h.nodes;have h3:=zIb S;unfold SS.proof
 split<;>omega
theorem SAt.setNodes {w:World} {b:Nat} {C:SC} {S:SS} {V:SV} (h:SAt w b C S V) (n:Nat):SAt (w.setCell ⟨b,5,none⟩ (.int .i64 (n:Int))) b C { S with nodes:=n } V:=
 ⟨zI h.fb 5 _,zR h.oV (zT h.oV h.fb (by decide)) _,zR h.oC (zT h.oC h.fb (by decide)) _,zR h.oR (zT h.oR h.fb (by decide)) _,zR h.oA (zT h.oA h.fb (by decide)) _,
  h.oK.keep (T:=fun j=>j=b) ((Only.refl (fun j=>j=b) w).setCell (p:=⟨b,5,none⟩) (Or.inl rfl) _) (fun j hj e=>by subst e;obtain ⟨c,hc⟩:=h.oK.blk j hj;exact absurd (zc hc h.fb) (by decide)),h.ap⟩
theorem zOv (b:Nat) (C:SC) (S:SS) (V:SV) (f p:Nat × Nat) (w:World) (hS:SAt w b C S V) (hB:SBd C S) (hp:p.1 < 512∧p.2 < 512) :
  Calls Tryz.prog 116 #[.pointer (some ⟨b,0,none⟩),zAv f,zAj p] w fun e w'=>e=.returned (.bool (zDD (S.lits f) p))∧Below w.heap.size w w':=by
 obtain ⟨fk,fs⟩:=f;obtain ⟨p1,p2⟩:=p;have hlt:=hB.lits (fk,fs)
 go_enter Tryz.func116,Tryz.ntmps116
 go_wp2_with fail;generalize hw0:((w.alloc (.cells #[.int .i64 (fk:Int),.int .i64 (fs:Int)] 129)).alloc (.cells #[.int .i64 (p1:Int),.int .i64 (p2:Int)] 74))=u1;have hBw:Below w.heap.size w u1:=(by rw [← hw0];exact ((Below.refl _ _).alloc (Nat.le_refl _) _).alloc (by simp) _);have hfa:u1.heap[w.heap.size]?=some (.cells #[.int .i64 (fk:Int),.int .i64 (fs:Int)] 129 (0,0)):=(by rw [← hw0,heap_alloc_old _ _ (by simp)];exact zP (by simp));have hpa:u1.heap[w.heap.size + 1]?=some (.cells #[.int .i64 (p1:Int),.int .i64 (p2:Int)] 74 (0,0)):=(by rw [← hw0];exact zP (by simp));clear hw0;obtain ⟨cfa0,cfa1⟩:=zJ hfa;have lfa:=zB hfa;obtain ⟨cpa0,cpa1⟩:=zJ hpa;have lpa:=zB hpa;refine (zG1 b C S V (fk,fs) _ (hS.later hBw) hB).mono ?_;rintro e u2 ⟨rfl,b2⟩;replace hBw:=hBw.trans (b2.mono hBw.size);replace hfa:=zH b2 hfa;clear cfa0 cfa1;obtain ⟨cfa0,cfa1⟩:=zJ hfa;replace lfa:=zB hfa;replace hpa:=zH b2 hpa;clear cpa0 cpa1;obtain ⟨cpa0,cpa1⟩:=zJ hpa;replace lpa:=zB hpa;have HH:Hid (zDD (S.lits (fk,fs)) (p1,p2)=zCz (zAz (S.lits (fk,fs)) (p1,p2))):=zF rfl;have HHS:Hid (zDD (S.lits (fk,fs)) (p1,p2)=zDD (S.lits (fk,fs)) (p1,p2)):=zF rfl;generalize hea:S.lits (fk,fs)=c at *;have HEC:=zF hea;clear hea HHS;obtain ⟨c1,c2⟩:=c;have hm:=zDe (c1,c2) (p1,p2) hlt;go_wp2_with fail;generalize hw0:u2.alloc (.cells #[.int .i64 (c1:Int),.int .i64 (c2:Int)] 74)=u3;have b3:Below u2.heap.size u2 u3:=(by rw [← hw0];exact (Below.refl _ _).alloc (Nat.le_refl _) _);have hcu:u3.heap[u2.heap.size]?=some (.cells #[.int .i64 (c1:Int),.int .i64 (c2:Int)] 74 (0,0)):=(by rw [← hw0];exact heap_alloc_new _ _);clear hw0;replace hBw:=hBw.trans (b3.mono hBw.size);replace hfa:=zH b3 hfa;clear cfa0 cfa1;obtain ⟨cfa0,cfa1⟩:=zJ hfa;replace lfa:=zB hfa;replace hpa:=zH b3 hpa;clear cpa0 cpa1;obtain ⟨cpa0,cpa1⟩:=zJ hpa;replace lpa:=zB hpa;obtain ⟨ccu0,ccu1⟩:=zJ hcu;have lcu:=zB hcu;refine (zC5 c1 c2 p1 p2 _ hlt.1 hlt.2 hp.1 hp.2).mono ?_;rintro e u4 ⟨rfl,b4⟩;replace hBw:=hBw.trans (b4.mono hBw.size);replace hfa:=zH b4 hfa;clear cfa0 cfa1;obtain ⟨cfa0,cfa1⟩:=zJ hfa;replace lfa:=zB hfa;replace hpa:=zH b4 hpa;clear cpa0 cpa1;obtain ⟨cpa0,cpa1⟩:=zJ hpa;replace lpa:=zB hpa;replace hcu:=zH b4 hcu;clear ccu0 ccu1;obtain ⟨ccu0,ccu1⟩:=zJ hcu;replace lcu:=zB hcu;generalize hea:zAz (c1,c2) (p1,p2)=c at *;have HED:=zF hea;clear hea;obtain ⟨d1,d2⟩:=c;go_wp2_with fail;generalize hw0:u4.alloc (.cells #[.int .i64 (d1:Int),.int .i64 (d2:Int)] 74)=u5;have b5:Below u4.heap.size u4 u5:=(by rw [← hw0];exact (Below.refl _ _).alloc (Nat.le_refl _) _);have hle:u5.heap[u4.heap.size]?=some (.cells #[.int .i64 (d1:Int),.int .i64 (d2:Int)] 74 (0,0)):=(by rw [← hw0];exact heap_alloc_new _ _);clear hw0;replace hBw:=hBw.trans (b5.mono hBw.size);replace hfa:=zH b5 hfa;clear cfa0 cfa1;obtain ⟨cfa0,cfa1⟩:=zJ hfa;replace lfa:=zB hfa;replace hpa:=zH b5 hpa;clear cpa0 cpa1;obtain ⟨cpa0,cpa1⟩:=zJ hpa;replace lpa:=zB hpa;replace hcu:=zH b5 hcu;clear ccu0 ccu1;obtain ⟨ccu0,ccu1⟩:=zJ hcu;replace lcu:=zB hcu;obtain ⟨cle0,cle1⟩:=zJ hle;have lle:=zB hle;refine (zEh d1 d2 _ hm.1 hm.2).mono ?_;rintro e u6 ⟨rfl,b6⟩;replace hBw:=hBw.trans (b6.mono hBw.size);replace hfa:=zH b6 hfa;clear cfa0 cfa1;obtain ⟨cfa0,cfa1⟩:=zJ hfa;replace lfa:=zB hfa;replace hpa:=zH b6 hpa;clear cpa0 cpa1;obtain ⟨cpa0,cpa1⟩:=zJ hpa;replace lpa:=zB hpa;replace hcu:=zH b6 hcu;clear ccu0 ccu1;obtain ⟨ccu0,ccu1⟩:=zJ hcu;replace lcu:=zB hcu;replace hle:=zH b6 hle;clear cle0 cle1;obtain ⟨cle0,cle1⟩:=zJ hle;replace lle:=zB hle;go_wp2_with fail;go_ret;exact ⟨by rw [zA HEC,zA HH];rfl,hBw⟩
theorem zOf {α:Type} (P:α→Bool) (l:List α) (k:Nat) (h:k < l.length) (h0:(l.take k).find? P=none) (h1:P l[k]=true):l.find? P=some l[k]:=by
 have e:l=l.take k ++ l[k] :: l.drop (k + 1):=(by rw [← List.drop_eq_getElem_cons h,List.take_append_drop]);generalize l[k]=x at *;rw [e,List.find?_append,h0,Option.none_or,List.find?_cons,h1]
theorem zNO {α:Type} (P:α→Bool) (l:List α) (k:Nat) (h:k < l.length) (h0:(l.take k).find? P=none) (h1:P l[k]=false):(l.take (k + 1)).find? P=none:=by
 rw [List.take_succ_eq_append_getElem h,List.find?_append,h0,Option.none_or,List.find?_cons,h1];rfl
theorem zPT {C:SC} {S:SS} {path vals:Nat × Nat} {f:Nat × Nat} (h:S.kept.find? (fun f=>f.1 == 2 && zDD (S.lits f) path)=some f):zBT C S path vals=(S,f):=by
 unfold zBT;rw [h]
theorem zRW {C:SC} {S:SS} {path vals:Nat × Nat} (h:S.kept.find? (fun f=>f.1 == 2 && zDD (S.lits f) path)=none) (hs:zCD C.q.cl vals=false):zBT C S path vals=(S,(0,0)):=by
 unfold zBT;rw [h];dsimp only;rw [hs];rfl
theorem zQe {C:SC} {S:SS} {path vals:Nat × Nat} (h:S.kept.find? (fun f=>f.1 == 2 && zDD (S.lits f) path)=none) (hs:zCD C.q.cl vals=true):zBT C S path vals=(((S.put 2 (S.aff ++ [⟨2,0,0,0,zAY C.q vals⟩])).reduce C.q (2,S.aff.length + 1)).1.keep C.room ((S.put 2 (S.aff ++ [⟨2,0,0,0,zAY C.q vals⟩])).reduce C.q (2,S.aff.length + 1)).2,((S.put 2 (S.aff ++ [⟨2,0,0,0,zAY C.q vals⟩])).reduce C.q (2,S.aff.length + 1)).2):=by
 unfold zBT;rw [h];dsimp only;rw [hs];have e:(S.aff ++ [(⟨2,0,0,0,zAY C.q vals⟩:Stp)]).length=S.aff.length + 1:=(by simp);rw [if_pos rfl,e];unfold SS.reduce;dsimp only;rw [zEp,zOG];rfl
theorem zNe (q:QS) (c:Nat × Nat) (h:c.1 < 512∧c.2 < 512):(zAY q c).1 < 512∧(zAY q c).2 < 512:=zGG q false _ (zGG q true c h)
theorem zGp (b:Nat) (C:SC) (S:SS) (V:SV) (path vals:Nat × Nat) (w:World) (hS:SAt w b C S V) (hB:SBd C S) (hp:path.1 < 512∧path.2 < 512) (hv:vals.1 < 512∧vals.2 < 512) (hal:S.aff.length≤99990) :
  Calls Tryz.prog 91 #[.pointer (some ⟨b,0,none⟩),zAj path,zAj vals] w fun e w'=>e=.returned (zAv (zBT C S path vals).2)∧SPost b C (zBT C S path vals).1 V w w':=by
 obtain ⟨p1,p2⟩:=path;obtain ⟨v1,v2⟩:=vals;dsimp only at hp hv;obtain ⟨aK,cK,hKf⟩:=hS.oK.form;have hkl:=hB.kept;have hbw:=zB hS.fb;have hbE:Below w.heap.size w (((w.alloc (.cells #[.int .i64 (p1:Int),.int .i64 (p2:Int)] 74)).alloc (.cells #[.int .i64 (v1:Int),.int .i64 (v2:Int)] 74)).alloc (.cells #[.int .i64 0,.int .i64 0] 129)):=(((Below.refl _ _).alloc (Nat.le_refl _) _).alloc (by simp;try omega) _).alloc (by simp;try omega) _;have c11:(((w.alloc (.cells #[.int .i64 (p1:Int),.int .i64 (p2:Int)] 74)).alloc (.cells #[.int .i64 (v1:Int),.int .i64 (v2:Int)] 74)).alloc (.cells #[.int .i64 0,.int .i64 0] 129)).cell? ⟨b,11,none⟩=some (.slice aK S.kept.length cK):=by rw [hbE.cell (p:=⟨b,11,none⟩) hbw];rw [zC hS.fb];exact congrArg some hKf
 go_enter Tryz.func91,Tryz.ntmps91
 go_wp2_with fail;clear hbE;generalize hw0:(((w.alloc (.cells #[.int .i64 (p1:Int),.int .i64 (p2:Int)] 74)).alloc (.cells #[.int .i64 (v1:Int),.int .i64 (v2:Int)] 74)).alloc (.cells #[.int .i64 0,.int .i64 0] 129))=u1;have hb0:Below w.heap.size w u1:=(by rw [← hw0];exact (((Below.refl _ _).alloc (Nat.le_refl _) _).alloc (by simp;try omega) _).alloc (by simp;try omega) _);have hpa:u1.heap[w.heap.size]?=some (.cells #[.int .i64 (p1:Int),.int .i64 (p2:Int)] 74 (0,0)):=(by rw [← hw0,heap_alloc_old _ _ (by simp;try omega),heap_alloc_old _ _ (by simp;try omega)];exact zP (by simp));have npa:Far b V (w.heap.size):=hS.fresh (by omega);have hva:u1.heap[w.heap.size + 1]?=some (.cells #[.int .i64 (v1:Int),.int .i64 (v2:Int)] 74 (0,0)):=(by rw [← hw0,heap_alloc_old _ _ (by simp;try omega)];exact zP (by simp));have nva:Far b V (w.heap.size + 1):=hS.fresh (by omega);have hrs:u1.heap[w.heap.size + 2]?=some (.cells #[.int .i64 0,.int .i64 0] 129 (0,0)):=(by rw [← hw0];exact zP (by simp));have nrs:Far b V (w.heap.size + 2):=hS.fresh (by omega);clear hw0;have hM:SMoved b w u1 V V:=SMoved.of_below hb0;replace hS:=hS.later hb0;have lb:=zB hS.fb;obtain ⟨cpa0,cpa1⟩:=zJ hpa;have lpa:=zB hpa;obtain ⟨cva0,cva1⟩:=zJ hva;have lva:=zB hva;obtain ⟨crs0,crs1⟩:=zJ hrs;have lrs:=zB hrs;replace c11:u1.cell? ⟨b,11,none⟩=some (.slice aK S.kept.length cK):=by rw [zC hS.fb];exact congrArg some hKf
 go_loopg [18] (S.kept.length) (fun m i wx=>∃ (k:Nat),i=.int .i64 k∧k + m=S.kept.length∧(S.kept.take k).find? (fun f=>f.1 == 2 && zDD (S.lits f) (p1,p2))=none∧Below u1.heap.size u1 wx)
 case atStart=>exact ⟨0,rfl,by omega,rfl,Below.refl _ _⟩
 case round=>
  obtain ⟨k,rfl,hkm,hfi,hb⟩:=hrel;have HFI:=zF hfi;clear hfi;replace hM:=hM.trans (SMoved.of_below hb);replace hS:=hS.later hb;replace lb:=zB hS.fb;replace hpa:=zH hb hpa;clear cpa0 cpa1;obtain ⟨cpa0,cpa1⟩:=zJ hpa;replace lpa:=zB hpa;replace hva:=zH hb hva;clear cva0 cva1;obtain ⟨cva0,cva1⟩:=zJ hva;replace lva:=zB hva;replace hrs:=zH hb hrs;clear crs0 crs1;obtain ⟨crs0,crs1⟩:=zJ hrs;replace lrs:=zB hrs
  by_cases hlt:k < S.kept.length
  ·have hd3:decide ((k:Int) < (S.kept.length:Int))=true:=decide_eq_true (by omega);have hd4:decide (k < S.kept.length)=true:=decide_eq_true hlt;have hrowx:=hS.oK;rw [hKf] at hrowx;obtain ⟨g,off,cap,hVe,hg',hcell⟩:=hrowx.cell (by omega);injection hVe with hVe _ hV2;subst hVe hV2;obtain ⟨e0,e1⟩:=zAc S.kept k hlt;have hx0:=hcell _ _ e0;have hx1:=hcell _ _ e1;have HIT:=zF (fun h=>zOf (fun f=>f.1 == 2 && zDD (S.lits f) (p1,p2)) S.kept k hlt (zA HFI) h);have MISS:=zF (fun h=>zNO (fun f=>f.1 == 2 && zDD (S.lits f) (p1,p2)) S.kept k hlt (zA HFI) h);clear hcell e0 e1;generalize S.kept[k]=f at *;obtain ⟨fk,fs⟩:=f;dsimp only at *;rw [← Nat.add_assoc] at hx1
   by_cases hk2:fk=2
   ·subst hk2;go_wp2_with fail;have nfo:Far b V wr.heap.size:=hS.fresh (Nat.le_refl _);generalize hw0:wr.alloc (.cells #[.int .i64 2,.int .i64 (fs:Int)] 129)=u2;have b2:Below wr.heap.size wr u2:=(by rw [← hw0];exact (Below.refl _ _).alloc (Nat.le_refl _) _);have hfo:u2.heap[wr.heap.size]?=some (.cells #[.int .i64 2,.int .i64 (fs:Int)] 129 (0,0)):=(by rw [← hw0];exact heap_alloc_new _ _);clear hw0;replace hM:=hM.trans (SMoved.of_below b2);replace hS:=hS.later b2;replace lb:=zB hS.fb;replace hpa:=zH b2 hpa;clear cpa0 cpa1;obtain ⟨cpa0,cpa1⟩:=zJ hpa;replace lpa:=zB hpa;replace hva:=zH b2 hva;clear cva0 cva1;obtain ⟨cva0,cva1⟩:=zJ hva;replace lva:=zB hva;replace hrs:=zH b2 hrs;clear crs0 crs1;obtain ⟨crs0,crs1⟩:=zJ hrs;replace lrs:=zB hrs;obtain ⟨cfo0,cfo1⟩:=zJ hfo;have lfo:=zB hfo;refine (zOv b C S V (2,fs) (p1,p2) _ hS hB hp).mono ?_;rintro e u3 ⟨rfl,b3⟩;replace hM:=hM.trans (SMoved.of_below b3);replace hS:=hS.later b3;replace lb:=zB hS.fb;replace hpa:=zH b3 hpa;clear cpa0 cpa1;obtain ⟨cpa0,cpa1⟩:=zJ hpa;replace lpa:=zB hpa;replace hva:=zH b3 hva;clear cva0 cva1;obtain ⟨cva0,cva1⟩:=zJ hva;replace lva:=zB hva;replace hrs:=zH b3 hrs;clear crs0 crs1;obtain ⟨crs0,crs1⟩:=zJ hrs;replace lrs:=zB hrs;replace hfo:=zH b3 hfo;clear cfo0 cfo1;obtain ⟨cfo0,cfo1⟩:=zJ hfo;replace lfo:=zB hfo;replace hb:=hb.trans ((Below.trans b2 (b3.mono b2.size)).mono hb.size)
    cases hho:zDD (S.lits (2,fs)) (p1,p2) with
    | true=>
     have HX:Hid (zBT C S (p1,p2) (v1,v2)=(S,(2,fs))):=zF (zPT (zA HIT (by rw [hho];rfl)));clear hho;have z0:=zD hrs 0;have z1:=zD hrs 1;have hR:=zI (zI hrs 0 (.int .i64 2)) 1 (.int .i64 (fs:Int));have j0:=zC hR 0;have j1:=zC hR 1;go_wp2_with fail;refine bodyPost_ret (v:=zAv (2,fs)) (by simp [results,Tryz.results91,go_sem,j0,j1]) rfl ⟨by rw [zA HX],?_⟩;rw [zA HX];exact ⟨V,(hS.set nrs 0 _).set nrs 1 _,(hM.set (k:=w.heap.size + 2) (by omega) 0 _).set (k:=w.heap.size + 2) (by omega) 1 _⟩
    | false=>
     have HN:=zF (zA MISS (by rw [hho];rfl));clear hho;go_wp2_with fail
     go_roundg (gk - 1)
     case measure=>omega
     case rel=>exact ⟨k + 1,by go_num,by omega,zA HN,hb⟩
   ·have hq:((fk:Int) == 2)=false:=(by rw [beq_eq_false_iff_ne];omega);have hq2:(fk == 2)=false:=(by rw [beq_eq_false_iff_ne];exact hk2);have HN:=zF (zA MISS (by rw [hq2];rfl));have hA:Below u1.heap.size u1 (wr.alloc (.cells #[.int .i64 (fk:Int),.int .i64 (fs:Int)] 129)):=hb.trans (((Below.refl _ _).alloc (Nat.le_refl _) _).mono hb.size);clear hk2;go_wp2_with fail
    go_roundg (gk - 1)
    case measure=>omega
    case rel=>exact ⟨k + 1,by go_num,by omega,zA HN,hA⟩
  ·have hke:k=S.kept.length:=(by omega);have HNO:Hid (S.kept.find? (fun f=>f.1 == 2 && zDD (S.lits f) (p1,p2))=none):=zF (by have:=zA HFI;rwa [hke,List.take_length] at this);have hd3:decide ((k:Int) < (S.kept.length:Int))=false:=decide_eq_false (by omega);have hd4:decide (k < S.kept.length)=false:=decide_eq_false hlt;clear hke;go_wp2_with fail;have hu9:Below wr.heap.size wr wr.drew:=(Below.refl _ wr).drew
   go_region_with (go_at_call 117;refine (zGw 0 b C.q V.c v1 v2 _ (by rw [zC (hS.later hu9).fb];rfl) (hS.later hu9).oC hB.qb hv.1 hv.2).mono ?_;rintro e w4 ⟨rfl,hb4⟩;have hbz:Below wr.heap.size wr w4:=hu9.trans hb4)
   all_goals
    replace hM:=hM.trans (SMoved.of_below hbz);replace hS:=hS.later hbz;replace lb:=zB hS.fb;replace hpa:=zH hbz hpa;clear cpa0 cpa1;obtain ⟨cpa0,cpa1⟩:=zJ hpa;replace lpa:=zB hpa;replace hva:=zH hbz hva;clear cva0 cva1;obtain ⟨cva0,cva1⟩:=zJ hva;replace lva:=zB hva;replace hrs:=zH hbz hrs;clear crs0 crs1;obtain ⟨crs0,crs1⟩:=zJ hrs;replace lrs:=zB hrs
    cases hsat:zCD C.q.cl (v1,v2) with
    | false=>
     have HX:Hid (zBT C S (p1,p2) (v1,v2)=(S,(0,0))):=zF (zRW (zA HNO) hsat);clear hsat;have z0:=zD hrs 0;have z1:=zD hrs 1;have hR:=zI (zI hrs 0 (.int .i64 0)) 1 (.int .i64 0);have j0:=zC hR 0;have j1:=zC hR 1;go_wp2_with fail;refine bodyPost_ret (v:=zAv (0,0)) (by simp [results,Tryz.results91,go_sem,j0,j1]) rfl ⟨by rw [zA HX],?_⟩;rw [zA HX];exact ⟨V,(hS.set nrs 0 _).set nrs 1 _,(hM.set (k:=w.heap.size + 2) (by omega) 0 _).set (k:=w.heap.size + 2) (by omega) 1 _⟩
    | true=>
     have HX:=zF (zQe (path:=(p1,p2)) (zA HNO) hsat);have hcl:=zNe C.q (v1,v2) hv;clear hsat;go_wp2_with fail;refine (zM0 b C S V (v1,v2) _ hS hB hv).mono ?_;rintro e u2 ⟨rfl,b2⟩;replace hM:=hM.trans (SMoved.of_below b2);replace hS:=hS.later b2;replace lb:=zB hS.fb;replace hpa:=zH b2 hpa;clear cpa0 cpa1;obtain ⟨cpa0,cpa1⟩:=zJ hpa;replace lpa:=zB hpa;replace hva:=zH b2 hva;clear cva0 cva1;obtain ⟨cva0,cva1⟩:=zJ hva;replace lva:=zB hva;replace hrs:=zH b2 hrs;clear crs0 crs1;obtain ⟨crs0,crs1⟩:=zJ hrs;replace lrs:=zB hrs;generalize zAY C.q (v1,v2)=cu at *;obtain ⟨c1,c2⟩:=cu;dsimp only at hcl;go_wp2_with fail;have ncu:Far b V u2.heap.size:=hS.fresh (Nat.le_refl _);generalize hw0:u2.alloc (.cells #[.int .i64 (c1:Int),.int .i64 (c2:Int)] 74)=u3;have b3:Below u2.heap.size u2 u3:=(by rw [← hw0];exact (Below.refl _ _).alloc (Nat.le_refl _) _);have hcu:u3.heap[u2.heap.size]?=some (.cells #[.int .i64 (c1:Int),.int .i64 (c2:Int)] 74 (0,0)):=(by rw [← hw0];exact heap_alloc_new _ _);clear hw0;replace hM:=hM.trans (SMoved.of_below b3);replace hS:=hS.later b3;replace lb:=zB hS.fb;replace hpa:=zH b3 hpa;clear cpa0 cpa1;obtain ⟨cpa0,cpa1⟩:=zJ hpa;replace lpa:=zB hpa;replace hva:=zH b3 hva;clear cva0 cva1;obtain ⟨cva0,cva1⟩:=zJ hva;replace lva:=zB hva;replace hrs:=zH b3 hrs;clear crs0 crs1;obtain ⟨crs0,crs1⟩:=zJ hrs;replace lrs:=zB hrs;obtain ⟨ccu0,ccu1⟩:=zJ hcu;have lcu:=zB hcu;have hDr:Below u3.heap.size u3 u3.drew:=(Below.refl _ _).drew;have hSd:=hS.later hDr;have hMd:=hM.trans (SMoved.of_below hDr);have hB2:=hB.put (k:=2) (Or.inr rfl) (p:=S.aff ++ [⟨2,0,0,0,(c1,c2)⟩]) (by simp;omega) (fun s hs=>(List.mem_append.1 hs).elim (hB.aff s) (fun h=>by simp at h;subst h;exact hcl));have hl2:((S.put 2 (S.aff ++ [⟨2,0,0,0,(c1,c2)⟩])).proof 2).length≤99999:=by rw [zEp];simp;omega
     go_region_with (go_at_call 72;refine (zCZ 0 b 8 S.aff V.a ⟨2,0,0,0,(c1,c2)⟩ (zCc C S V) 126 _ hSd.fb rfl (by decide) hSd.oA (by omega) (Nat.zero_le _)).mono ?_;rintro e w5 ⟨v5,rfl,ho5,hf5,hn5,hm5⟩;obtain ⟨V2,hS2,hM2⟩:=hSd.put (kind:=2) (Or.inr rfl) (p:=S.aff ++ [⟨2,0,0,0,(c1,c2)⟩]) ⟨v5,(by simpa using ho5),hf5,hn5,hm5⟩;clear ho5 hf5 hn5 hm5;replace hM2:=(SMoved.of_below hDr).trans hM2)
     all_goals
      generalize S.put 2 (S.aff ++ [⟨2,0,0,0,(c1,c2)⟩])=S2 at *;clear hSd hMd hDr;replace hpa:=hM2.blk hpa npa;replace npa:=hM2.far lpa npa;replace hva:=hM2.blk hva nva;replace nva:=hM2.far lva nva;replace hrs:=hM2.blk hrs nrs;replace nrs:=hM2.far lrs nrs;replace hcu:=hM2.blk hcu ncu;replace ncu:=hM2.far lcu ncu;replace hM:=hM.trans hM2;replace hS:=hS2;clear hM2 hS2;replace lb:=zB hS.fb;clear cpa0 cpa1;obtain ⟨cpa0,cpa1⟩:=zJ hpa;replace lpa:=zB hpa;clear cva0 cva1;obtain ⟨cva0,cva1⟩:=zJ hva;replace lva:=zB hva;clear crs0 crs1;obtain ⟨crs0,crs1⟩:=zJ hrs;replace lrs:=zB hrs;clear ccu0 ccu1;obtain ⟨ccu0,ccu1⟩:=zJ hcu;replace lcu:=zB hcu;go_wp2_with fail;refine (zFI b C S2 V2 (2,S.aff.length + 1) _ hS hB2 (Or.inr rfl) (show S.aff.length + 1≤1048576 by omega)).mono ?_;rintro e u4 ⟨rfl,V3,hS2,hM2⟩;replace hpa:=hM2.blk hpa npa;replace npa:=hM2.far lpa npa;replace hva:=hM2.blk hva nva;replace nva:=hM2.far lva nva;replace hrs:=hM2.blk hrs nrs;replace nrs:=hM2.far lrs nrs;replace hcu:=hM2.blk hcu ncu;replace ncu:=hM2.far lcu ncu;replace hM:=hM.trans hM2;replace hS:=hS2;clear hM2;replace lb:=zB hS.fb;clear cpa0 cpa1;obtain ⟨cpa0,cpa1⟩:=zJ hpa;replace lpa:=zB hpa;clear cva0 cva1;obtain ⟨cva0,cva1⟩:=zJ hva;replace lva:=zB hva;clear crs0 crs1;obtain ⟨crs0,crs1⟩:=zJ hrs;replace lrs:=zB hrs;clear ccu0 ccu1;obtain ⟨ccu0,ccu1⟩:=zJ hcu;replace lcu:=zB hcu;have hB3:=zG5 hB2 (Or.inr rfl) (S.aff.length + 1) hl2;generalize S2.reduce C.q (2,S.aff.length + 1)=R at *;obtain ⟨S3,f1,f2⟩:=R;dsimp only at hS hB3 HX ⊢;go_wp2_with fail;have nfo:Far b V3 u4.heap.size:=hS.fresh (Nat.le_refl _);generalize hw0:u4.alloc (.cells #[.int .i64 (f1:Int),.int .i64 (f2:Int)] 129)=u5;have b5:Below u4.heap.size u4 u5:=(by rw [← hw0];exact (Below.refl _ _).alloc (Nat.le_refl _) _);have hfo:u5.heap[u4.heap.size]?=some (.cells #[.int .i64 (f1:Int),.int .i64 (f2:Int)] 129 (0,0)):=(by rw [← hw0];exact heap_alloc_new _ _);clear hw0;replace hM:=hM.trans (SMoved.of_below b5);replace hS:=hS.later b5;replace lb:=zB hS.fb;replace hpa:=zH b5 hpa;clear cpa0 cpa1;obtain ⟨cpa0,cpa1⟩:=zJ hpa;replace lpa:=zB hpa;replace hva:=zH b5 hva;clear cva0 cva1;obtain ⟨cva0,cva1⟩:=zJ hva;replace lva:=zB hva;replace hrs:=zH b5 hrs;clear crs0 crs1;obtain ⟨crs0,crs1⟩:=zJ hrs;replace lrs:=zB hrs;replace hcu:=zH b5 hcu;clear ccu0 ccu1;obtain ⟨ccu0,ccu1⟩:=zJ hcu;replace lcu:=zB hcu;obtain ⟨cfo0,cfo1⟩:=zJ hfo;have lfo:=zB hfo;refine (zHK b C S3 V3 (f1,f2) _ hS hB3).mono ?_;rintro e u6 ⟨rfl,V4,hS2,hM2⟩;replace hpa:=hM2.blk hpa npa;replace npa:=hM2.far lpa npa;replace hva:=hM2.blk hva nva;replace nva:=hM2.far lva nva;replace hrs:=hM2.blk hrs nrs;replace nrs:=hM2.far lrs nrs;replace hcu:=hM2.blk hcu ncu;replace ncu:=hM2.far lcu ncu;replace hfo:=hM2.blk hfo nfo;replace nfo:=hM2.far lfo nfo;replace hM:=hM.trans hM2;replace hS:=hS2;clear hM2;replace lb:=zB hS.fb;clear cpa0 cpa1;obtain ⟨cpa0,cpa1⟩:=zJ hpa;replace lpa:=zB hpa;clear cva0 cva1;obtain ⟨cva0,cva1⟩:=zJ hva;replace lva:=zB hva;clear crs0 crs1;obtain ⟨crs0,crs1⟩:=zJ hrs;replace lrs:=zB hrs;clear ccu0 ccu1;obtain ⟨ccu0,ccu1⟩:=zJ hcu;replace lcu:=zB hcu;clear cfo0 cfo1;obtain ⟨cfo0,cfo1⟩:=zJ hfo;replace lfo:=zB hfo;have z0:=zD hrs 0;have z1:=zD hrs 1;have hR:=zI (zI hrs 0 (.int .i64 (f1:Int))) 1 (.int .i64 (f2:Int));have j0:=zC hR 0;have j1:=zC hR 1;go_wp2_with fail;refine bodyPost_ret (v:=zAv (f1,f2)) (by simp [results,Tryz.results91,go_sem,j0,j1]) rfl ⟨by rw [zA HX],?_⟩;rw [zA HX];exact ⟨V4,(hS.set nrs 0 _).set nrs 1 _,(hM.set (k:=w.heap.size + 2) (by omega) 0 _).set (k:=w.heap.size + 2) (by omega) 1 _⟩
theorem zGK (b:Nat) (C:SC) (S:SS) (V:SV) (cs:List Nat) (aX:Option Addr) (cX base:Nat) (p:Nat × Nat) (w:World) (hS:SAt w b C S V) (hB:SBd C S) (hp:p.1 < 512∧p.2 < 512) (hX:w.ownsRow base 3 1 (.slice aX cs.length cX) cs.length (zu cs)) (hcl:cs.length≤1048576) :
  Calls Tryz.prog 111 #[.pointer (some ⟨b,0,none⟩),.slice aX cs.length cX,zAj p] w fun e w'=>e=.returned (zHe (zAd S.ref C.uni cs p))∧Below w.heap.size w w':=by
 obtain ⟨p1,p2⟩:=p;have hbw:=zB hS.fb;have hu:=hB.uni
 go_enter Tryz.func111,Tryz.ntmps111
 go_wp2_with fail
 go_loopg [14] (cs.length) (fun m i wx=>∃ (k:Nat),i=.int .i64 k∧k + m=cs.length∧Below w.heap.size w wx∧wx.heap[w.heap.size]?=some (.cells #[.int .i64 (p1:Int),.int .i64 (p2:Int)] 74 (0,0))∧wx.heap[w.heap.size + 1]?=some (.cells #[.int .i64 0,.int .i64 0] 177 (0,0))∧zAd S.ref C.uni cs (p1,p2)=zH4 S.ref (p1,p2) ((cs.drop k).find? (fun s=>zBA C.uni (p1,p2) (zM S.ref s))))
 case atStart=>exact ⟨0,rfl,by omega,((Below.refl _ _).alloc (Nat.le_refl _) _).alloc (by simp) _,by rw [heap_alloc_old _ _ (by simp)];exact heap_alloc_new _ _,zP (by simp),zIp _ _ _ _⟩
 case round=>
  obtain ⟨k,rfl,hkm,hBw,hva,hrs,hcf⟩:=hrel;have HCF:=zF hcf;clear hcf;have z0:=zD hrs 0;have z1:=zD hrs 1
  by_cases hlt:k < cs.length
  ·have HFD:=zF (zJV cs (fun s=>zBA C.uni (p1,p2) (zM S.ref s)) k hlt);obtain ⟨g,cap,hVe,_,hg',_,hcell⟩:=zS hX (by omega);injection hVe with hVe _ hV2;subst hVe hV2;have hck:wr.cell? ⟨g,k,none⟩=some (.int .i64 (cs[k]:Int)):=(by rw [hBw.cell (p:=⟨g,k,none⟩) hg'];exact hcell k _ (by simp [zu,hlt]));have lg:=Nat.lt_of_lt_of_le hg' hBw.size;clear hcell;have hlt9:=zAX S.ref hB.ref cs[k];generalize cs[k]=n at *;have cva0:wr.cell? ⟨w.heap.size,0,none⟩=some (.int .i64 (p1:Int)):=zE hva rfl;have cva1:wr.cell? ⟨w.heap.size,1,none⟩=some (.int .i64 (p2:Int)):=zE hva rfl;have lva:=zB hva;have crs0:wr.cell? ⟨w.heap.size + 1,0,none⟩=some (.int .i64 0):=zE hrs rfl;have crs1:wr.cell? ⟨w.heap.size + 1,1,none⟩=some (.int .i64 0):=zE hrs rfl;have lrs:=zB hrs;have hSr:=hS.later hBw;clear z0 z1;go_wp2_with fail;refine (zLO b C S V n (p1,p2) _ hSr hB hp).mono ?_;rintro e u1 ⟨rfl,b1⟩;replace hBw:=hBw.trans (b1.mono hBw.size);replace hva:=zH b1 hva;replace cva0:u1.cell? ⟨w.heap.size,0,none⟩=some (.int .i64 (p1:Int)):=zE hva rfl;replace cva1:u1.cell? ⟨w.heap.size,1,none⟩=some (.int .i64 (p2:Int)):=zE hva rfl;replace lva:=zB hva;replace hrs:=zH b1 hrs;replace crs0:u1.cell? ⟨w.heap.size + 1,0,none⟩=some (.int .i64 0):=zE hrs rfl;replace crs1:u1.cell? ⟨w.heap.size + 1,1,none⟩=some (.int .i64 0):=zE hrs rfl;replace lrs:=zB hrs;replace hSr:=hSr.later b1;have hl9:(zAM (zM S.ref n) (p1,p2)).1 < 512∧(zAM (zM S.ref n) (p1,p2)).2 < 512:=zDe (zM S.ref n) (zDj (p1,p2)) hlt9;have HIC2:Hid (∀ l op,zAM (zM S.ref n) (p1,p2)=l→zDK (zM S.ref n) (p1,p2)=op→zBA C.uni (p1,p2) (zM S.ref n)=(op && ((zAJ l).length == 1 && !((l.1 &&& C.uni.1) ||| (l.2 &&& C.uni.2) != 0)))∧zH4 S.ref (p1,p2) (some n)=((zAJ l).headD 0,n)):=zF (fun l op e1 e2=>by subst e1 e2;exact ⟨rfl,rfl⟩);generalize hel:zAM (zM S.ref n) (p1,p2)=l at *;generalize heo:zDK (zM S.ref n) (p1,p2)=op at *;have HIC3:=zF (zA HIC2 l op rfl rfl).1;have HSEL:=zF (zA HIC2 l op rfl rfl).2;clear hel heo HIC2 hlt9;obtain ⟨l1,l2⟩:=l;dsimp only at hl9 HIC3;go_wp2_with fail;generalize hw0:u1.alloc (.cells #[.int .i64 (l1:Int),.int .i64 (l2:Int)] 74)=u2;have b2:Below u1.heap.size u1 u2:=(by rw [← hw0];exact (Below.refl _ _).alloc (Nat.le_refl _) _);have hle:u2.heap[u1.heap.size]?=some (.cells #[.int .i64 (l1:Int),.int .i64 (l2:Int)] 74 (0,0)):=(by rw [← hw0];exact heap_alloc_new _ _);clear hw0;replace hBw:=hBw.trans (b2.mono hBw.size);replace hva:=zH b2 hva;replace cva0:u2.cell? ⟨w.heap.size,0,none⟩=some (.int .i64 (p1:Int)):=zE hva rfl;replace cva1:u2.cell? ⟨w.heap.size,1,none⟩=some (.int .i64 (p2:Int)):=zE hva rfl;replace lva:=zB hva;replace hrs:=zH b2 hrs;replace crs0:u2.cell? ⟨w.heap.size + 1,0,none⟩=some (.int .i64 0):=zE hrs rfl;replace crs1:u2.cell? ⟨w.heap.size + 1,1,none⟩=some (.int .i64 0):=zE hrs rfl;replace lrs:=zB hrs;replace hSr:=hSr.later b2;obtain ⟨cle0,cle1⟩:=zJ hle;have lle:=zB hle;refine (zLv l1 l2 _ hl9.1 hl9.2).mono ?_;rintro e u3 ⟨vL,rfl,hoL,b3⟩;replace hBw:=hBw.trans (b3.mono hBw.size);replace hva:=zH b3 hva;replace cva0:u3.cell? ⟨w.heap.size,0,none⟩=some (.int .i64 (p1:Int)):=zE hva rfl;replace cva1:u3.cell? ⟨w.heap.size,1,none⟩=some (.int .i64 (p2:Int)):=zE hva rfl;replace lva:=zB hva;replace hrs:=zH b3 hrs;replace crs0:u3.cell? ⟨w.heap.size + 1,0,none⟩=some (.int .i64 0):=zE hrs rfl;replace crs1:u3.cell? ⟨w.heap.size + 1,1,none⟩=some (.int .i64 0):=zE hrs rfl;replace lrs:=zB hrs;replace hle:=zH b3 hle;clear cle0 cle1;obtain ⟨cle0,cle1⟩:=zJ hle;replace lle:=zB hle;replace hSr:=hSr.later b3;have hLl:(zAJ (l1,l2)).length≤16:=zGf (l1,l2) 8 1;generalize hLL:zAJ (l1,l2)=LL at *;clear hLL;obtain ⟨aL,cL,rfl⟩:=zN hoL;have k2:u3.cell? ⟨b,2,none⟩=some (.int .i64 (C.uni.1:Int)):=zE hSr.fb rfl;have k3:u3.cell? ⟨b,3,none⟩=some (.int .i64 (C.uni.2:Int)):=zE hSr.fb rfl;have lb:=zB hSr.fb;have z0:=zD hrs 0;have z1:=zD hrs 1;have HNX:Hid (zBA C.uni (p1,p2) (zM S.ref n)=false→zAd S.ref C.uni cs (p1,p2)=zH4 S.ref (p1,p2) ((cs.drop (k + 1)).find? (fun s=>zBA C.uni (p1,p2) (zM S.ref s)))):=zF (fun h=>by rw [zA HCF,zA HFD,h];rfl);have HYS:Hid (zBA C.uni (p1,p2) (zM S.ref n)=true→zAd S.ref C.uni cs (p1,p2)=((LL).headD 0,n)):=zF (fun h=>by rw [zA HCF,zA HFD,h,if_pos rfl,zA HSEL]);go_wp2_with fail;obtain ⟨wo,rfl⟩:∃ wo,wo=wr:=⟨_,rfl⟩
   go_cut [41] (fun s41 wx=>s41=.bool (op && ((LL).length == 1 && !((l1 &&& C.uni.1) ||| (l2 &&& C.uni.2) != 0)))∧Below u3.heap.size u3 wx)
   case first=>
    have hlL:=cle0;clear HNX HYS HCF HFD HIC3 HSEL hva cva0 cva1 lva hrs crs0 crs1 lrs z0 z1 hSr hS hB hX hck lg hoL hBw b1 b2 b3 hle hp hcl
    cases op with
    | false=>
     go_quiet (fail)
     go_wp2_with fail
     go_meet
     exact ⟨rfl,below_drewN (Below.refl _ _) nq⟩
    | true=>
     by_cases h1:(LL).length=1
     ·obtain ⟨x,rfl⟩:=List.length_eq_one_iff.1 h1;clear h1 hLl;refine wp_region_any (by kernel_rfl) ?_
      try (change wpAny _ _ _ _ _ _ _ (World.drew _))
      refine wpAny_take (i:=0) (v:=.bool true) rfl (by kernel_rfl) (by kernel_rfl) (by kernel_rfl) (fun _ _ _ h=>h) (Or.inl ⟨by kernel_rfl,fun _=>by kernel_rfl⟩) ?_;refine wpAny_take (i:=1) (v:=.bool true) rfl (by kernel_rfl) (by kernel_rfl) (by kernel_rfl) (fun _ _ _ h=>h) (Or.inl ⟨by kernel_rfl,fun _=>by kernel_rfl⟩) ?_;refine wpAny_take (i:=2) (v:=.slice aL 1 cL) rfl (by kernel_rfl) (by kernel_rfl) (by kernel_rfl) (fun _ _ _ h=>h) (Or.inl ⟨by kernel_rfl,fun _=>by kernel_rfl⟩) ?_;refine wpAny_take (i:=3) (v:=.int .i64 1) rfl (by kernel_rfl) (by kernel_rfl) (by kernel_rfl) (fun _ _ _ h=>h) (Or.inl ⟨by kernel_rfl,fun _=>by kernel_rfl⟩) ?_;refine wpAny_take (i:=4) (v:=.bool true) rfl (by kernel_rfl) (by kernel_rfl) (by kernel_rfl) (fun _ _ _ h=>h) (Or.inl ⟨by kernel_rfl,fun _=>by kernel_rfl⟩) ?_;refine wpAny_take (i:=5) (v:=.bool true) rfl (by kernel_rfl) (by kernel_rfl) (by kernel_rfl) (fun _ _ _ h=>h) (Or.inl ⟨by kernel_rfl,fun _=>by kernel_rfl⟩) ?_;refine wpAny_take (i:=6) (v:=.bool true) rfl (by kernel_rfl) (by kernel_rfl) (by kernel_rfl) (fun _ _ _ h=>h) (Or.inl ⟨by kernel_rfl,fun _=>by kernel_rfl⟩) ?_;refine wpAny_take (i:=8) (v:=.pointer (some ⟨b,0,none⟩)) rfl (by kernel_rfl) (by kernel_rfl) (by kernel_rfl) (fun _ _ _ h=>h) (Or.inl ⟨by kernel_rfl,fun _=>by kernel_rfl⟩) ?_;refine wpAny_take (i:=9) (v:=.pointer (some ⟨b,0,none⟩)) rfl (by kernel_rfl) (by kernel_rfl) (by kernel_rfl) (fun _ _ _ h=>h) (Or.inl ⟨by kernel_rfl,fun _=>by kernel_rfl⟩) ?_;refine wpAny_take (i:=10) (v:=.pointer (some ⟨b,2,none⟩)) rfl (by kernel_rfl) (by kernel_rfl) (by kernel_rfl) (fun _ _ _ h=>h) (Or.inl ⟨by kernel_rfl,fun _=>by kernel_rfl⟩) ?_;refine wpAny_ready (rs:=[7,11]) (by kernel_rfl) (by simp) ?_;refine AllReady.cons rfl (fun K hK=>?_) (AllReady.cons rfl (fun K hK=>?_) AllReady.nil)
      ·go_simp
       refine hK _ _ ?_;clear hK K;refine wpAny_ready (rs:=[11]) (by kernel_rfl) (by simp) ?_;refine AllReady.cons rfl (fun K hK=>?_) AllReady.nil
       go_simp
       refine hK _ _ ?_;clear hK K;refine wpAny_ready (rs:=[12]) (by kernel_rfl) (by simp) ?_;refine AllReady.cons rfl (fun K hK=>?_) AllReady.nil
       go_simp
       go_wp2_with (go_at_call 131;refine (zEe l1 l2 C.uni.1 C.uni.2 _ hl9.1 hl9.2 hu.1 hu.2).mono ?_;rintro e v3 ⟨rfl,y3⟩;have x3:Below u3.heap.size u3 v3:=Below.trans (by first | exact Below.refl _ _ | exact (Below.refl _ _).drew | exact (Below.refl _ _).alloc (Nat.le_refl _) _ | exact ((Below.refl _ _).alloc (Nat.le_refl _) _).drew | exact ((Below.refl _ _).drew).alloc (Nat.le_refl _) _) (y3.mono (by simp)))
       try (refine hK _ _ ?_;clear hK K)
       refine wpAny_take (i:=13) (v:=.bool (!((l1 &&& C.uni.1) ||| (l2 &&& C.uni.2) != 0))) rfl (by kernel_rfl) (by kernel_rfl) (by kernel_rfl) (fun _ _ _ h=>h) (Or.inl ⟨by kernel_rfl,fun _=>by kernel_rfl⟩) ?_;refine wpAny_take (i:=14) (v:=.bool (!((l1 &&& C.uni.1) ||| (l2 &&& C.uni.2) != 0))) rfl (by kernel_rfl) (by kernel_rfl) (by kernel_rfl) (fun _ _ _ h=>h) (Or.inl ⟨by kernel_rfl,fun _=>by kernel_rfl⟩) ?_;refine wpAny_done (by kernel_rfl) ?_ _;go_wp2_with fail
       go_meet
       exact ⟨rfl,x3⟩
      ·go_simp
       refine hK _ _ ?_;clear hK K;refine wpAny_ready (rs:=[7]) (by kernel_rfl) (by simp) ?_;refine AllReady.cons rfl (fun K hK=>?_) AllReady.nil
       go_simp
       refine hK _ _ ?_;clear hK K;refine wpAny_ready (rs:=[12]) (by kernel_rfl) (by simp) ?_;refine AllReady.cons rfl (fun K hK=>?_) AllReady.nil
       go_simp
       go_wp2_with (go_at_call 131;refine (zEe l1 l2 C.uni.1 C.uni.2 _ hl9.1 hl9.2 hu.1 hu.2).mono ?_;rintro e v3 ⟨rfl,y3⟩;have x3:Below u3.heap.size u3 v3:=Below.trans (by first | exact Below.refl _ _ | exact (Below.refl _ _).drew | exact (Below.refl _ _).alloc (Nat.le_refl _) _ | exact ((Below.refl _ _).alloc (Nat.le_refl _) _).drew | exact ((Below.refl _ _).drew).alloc (Nat.le_refl _) _) (y3.mono (by simp)))
       try (refine hK _ _ ?_;clear hK K)
       refine wpAny_take (i:=13) (v:=.bool (!((l1 &&& C.uni.1) ||| (l2 &&& C.uni.2) != 0))) rfl (by kernel_rfl) (by kernel_rfl) (by kernel_rfl) (fun _ _ _ h=>h) (Or.inl ⟨by kernel_rfl,fun _=>by kernel_rfl⟩) ?_;refine wpAny_take (i:=14) (v:=.bool (!((l1 &&& C.uni.1) ||| (l2 &&& C.uni.2) != 0))) rfl (by kernel_rfl) (by kernel_rfl) (by kernel_rfl) (fun _ _ _ h=>h) (Or.inl ⟨by kernel_rfl,fun _=>by kernel_rfl⟩) ?_;refine wpAny_done (by kernel_rfl) ?_ _;go_wp2_with fail
       go_meet
       exact ⟨rfl,x3⟩
     ·have hq1:(((LL).length:Int) == 1)=false:=(by rw [beq_eq_false_iff_ne];omega);have HQ:Hid (((LL).length == 1)=false):=zF (by simpa using h1);clear h1
      go_quiet (fail)
      go_wp2_with fail
      go_meet
      exact ⟨by rw [zA HQ];rfl,below_drewN (Below.refl _ _) nq⟩
   case rest=>
   obtain ⟨rfl,hbc⟩:=hcut;have hBc:=hBw.trans (hbc.mono hBw.size);have hvc:=zH hbc hva;have hrc:=zH hbc hrs;have hoLc:=zO hoL hbc;rw [← zA HIC3]
   cases hiu:zBA C.uni (p1,p2) (zM S.ref n) with
   | false=>
    have HF:=zF (zA HNX hiu);clear hiu;go_wp2_with fail
    go_roundg (gk - 1)
    case measure=>omega
    case rel=>exact ⟨k + 1,by go_num,by omega,hBc,hvc,hrc,zA HF⟩
   | true=>
    have h1:(LL).length=1:=by
     have h2:=hiu;rw [zA HIC3] at h2;simp only [Bool.and_eq_true,beq_iff_eq] at h2;exact h2.2.1
    obtain ⟨x,hx⟩:=List.length_eq_one_iff.1 h1;obtain ⟨gL,capL,hVL,_,hgL',_,hcL⟩:=zS hoLc (by omega);injection hVL with hVL _ hVL2;subst hVL hVL2;have hL0:wc.cell? ⟨gL,0,none⟩=some (.int .i64 x):=hcL 0 _ (by rw [hx];rfl);have HF:Hid (zAd S.ref C.uni cs (p1,p2)=(x,n)):=zF (by rw [zA HYS hiu,hx];rfl);have lL:=hgL';have w0:wc.cell? ⟨w.heap.size + 1,0,none⟩=some (.int .i64 0):=zE hrc rfl;have w1:wc.cell? ⟨w.heap.size + 1,1,none⟩=some (.int .i64 0):=zE hrc rfl;have lrc:=zB hrc;have y0:=zD hrc 0;have y1:=zD hrc 1;have hR:=zI (zI hrc 0 (.int .i64 x)) 1 (.int .i64 (n:Int));have j0:=zC hR 0;have j1:=zC hR 1;rw [h1];clear hx hcL h1 hiu hoLc hoL;go_wp2_with fail;refine bodyPost_ret (v:=zHe (x,n)) (by simp [results,Tryz.results111,go_sem,j0,j1,zHe]) rfl ⟨by rw [zA HF],?_⟩;exact (hBc.setCell (p:=⟨w.heap.size + 1,0,none⟩) (Nat.le_succ _) _).setCell (p:=⟨w.heap.size + 1,1,none⟩) (Nat.le_succ _) _
  ·have hke:k=cs.length:=(by omega);have HF:Hid (zAd S.ref C.uni cs (p1,p2)=(0,0)):=zF (by rw [zA HCF,hke,List.drop_length];rfl);subst hke;have crs0:wr.cell? ⟨w.heap.size + 1,0,none⟩=some (.int .i64 0):=zE hrs rfl;have crs1:wr.cell? ⟨w.heap.size + 1,1,none⟩=some (.int .i64 0):=zE hrs rfl;have lrs:=zB hrs;have hR:=zI (zI hrs 0 (.int .i64 0)) 1 (.int .i64 0);have j0:=zC hR 0;have j1:=zC hR 1;go_wp2_with fail;refine bodyPost_ret (v:=zHe (0,0)) (by simp [results,Tryz.results111,go_sem,j0,j1,zHe]) rfl ⟨by rw [zA HF],?_⟩;exact (hBw.setCell (p:=⟨w.heap.size + 1,0,none⟩) (Nat.le_succ _) _).setCell (p:=⟨w.heap.size + 1,1,none⟩) (Nat.le_succ _) _
end Go.Proofs.YtgipjjhkhfihpaaGreatDoor
