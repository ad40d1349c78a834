import Derived.Test.YtgipjjhkhfihpaaGreatDoorKL
import Derived.Test.YtgipjjhkhfihpaaGreatDoorKJ
import Derived.Test.YtgipjjhkhfihpaaGreatDoorKE
import Derived.Test.YtgipjjhkhfihpaaGreatDoorKI
import Derived.Deep.DeepCutAuto
import Derived.Deep.RegionWith
import Derived.Deep.QuietTactic
import Derived.BigQuiet
import Derived.Test.YtgipjjhkhfihpaaGreatDoorKF
import Derived.Test.YtgipjjhkhfihpaaGreatDoorKK
import Derived.Test.YtgipjjhkhfihpaaGreatDoorKC
set_option maxRecDepth 100000
set_option maxHeartbeats 6400000
namespace Go.Proofs.YtgipjjhkhfihpaaGreatDoor
open Go.RowKit
abbrev zAB:=(Nat × Nat) × (Nat × Nat)
def zB5 (kind:Nat) (p:List Stp) (s:Stp):zAB:=
 if kind=1 then (zDj s.lits,zDj (zAz (zM p s.first) s.lits)) else (s.lits,zAz (zM p s.first) s.lits)
def zAQ (kind:Nat) (p:List Stp):List zAB:=(p.filter (fun s=>s.rule == 4)).map (zB5 kind p)
def zDB (v:Nat) (vals:Nat × Nat) (r:zAB):Bool:=zCz (zAz r.1 vals) && zs r.2 v
def zAx (rs:List zAB) (vals:Nat × Nat) (v:Nat):Bool:=match rs.find? (zDB v vals) with
 | some r=>zj r.2 (v:Int)
 | none=>false
def zBQ (vs:List Nat):List Bool→Nat × Nat
 | []=>(0,0)
 | b :: bs=>zQ (zBQ vs bs) (zAF (vs.getD bs.length 0) b)
theorem zIr (vs:List Nat) (hn:∀ v∈vs,1≤v∧v≤8):∀ (bs:List Bool),bs.length≤vs.length→∀ s v,L (zBQ vs bs) s v=true↔∃ j,j < bs.length∧vs.getD j 0=v∧bs.reverse.getD j false=s:=by
 intro bs
 induction bs with
 | nil=>intro _ s v;rw [zBQ,zDh];simp
 | cons b bs ih=>
  intro hl s v;have hl':bs.length < vs.length:=(by simp at hl;omega);have hv:=hn (vs.getD bs.length 0) (by rw [List.getD,List.getElem?_eq_getElem hl'];exact List.getElem_mem hl');rw [zBQ,zBH _ _ _ hv.1 hv.2,Bool.or_eq_true,ih (by omega) s v]
  constructor
  ·rintro (⟨j,h1,h2,h3⟩ | h)
   ·refine ⟨j,by simp;omega,h2,?_⟩;rw [List.reverse_cons,List.getD,List.getElem?_append_left (by simpa using h1)];exact h3
   ·simp only [Bool.and_eq_true,beq_iff_eq,decide_eq_true_eq] at h;refine ⟨bs.length,by simp,h.2.symm,?_⟩;rw [List.reverse_cons,List.getD,List.getElem?_append_right (by simp)];simp [h.1]
  ·rintro ⟨j,h1,h2,h3⟩
   by_cases e:j < bs.length
   ·refine Or.inl ⟨j,e,h2,?_⟩;rw [List.reverse_cons,List.getD,List.getElem?_append_left (by simpa using e)] at h3;exact h3
   ·have e2:j=bs.length:=(by simp at h1;omega);subst e2;rw [List.reverse_cons,List.getD,List.getElem?_append_right (by simp)] at h3;simp at h3;refine Or.inr ?_;rw [h2,h3];simp
theorem zSK {q:QS} (hq:QGood q) (k:Nat):∀ (n:Nat),n≤q.vars.length→∀ c s i (hi:i < q.vars.length),L c s q.vars[i].1=true→L (zAR k (q.vars.take n).reverse c) s q.vars[i].1=false→
  i < n∧zAl k q.vars[i].2=false∧∀ t j (hj:j < q.vars.length),j < n→L (zAR k (q.vars.take n).reverse c) t q.vars[j].1=true→j < i:=by
 have hne:∀ i j (hi:i < q.vars.length) (hj:j < q.vars.length),q.vars[i].1=q.vars[j].1→i=j:=fun i j hi hj e=>zFh hq hi hj e
 intro n
 induction n with
 | zero=>
  intro _ c s i hi h1 h2;rw [show zAR k (q.vars.take 0).reverse c=c from rfl,h1] at h2
  cases h2
 | succ n ih=>
  intro hn c s i hi h1 h2;have hnl:n < q.vars.length:=(by omega);obtain ⟨m1,m8⟩:=zDt hq n hnl;rw [zBs k q.vars n hnl c] at h2 ⊢
  by_cases hv:zs c q.vars[n].1=true
  ·rw [if_pos hv] at h2 ⊢
   by_cases hp:zAl k q.vars[n].2=true
   ·rw [if_pos hp,h1] at h2;cases h2
   ·rw [if_neg hp] at h2 ⊢;have hout:∀ t,L (zAR k (q.vars.take n).reverse (zAV c q.vars[n].1)) t q.vars[n].1=true→False:=fun t h=>by
     have h':=zDC hq k n (by omega) _ _ _ h;rw [zBo _ _ m1 m8] at h';simp at h'
    by_cases e:i=n
    ·subst e;refine ⟨by omega,by simpa using hp,fun t j hj hjn hl=>?_⟩
     by_cases e2:j=i
     ·subst e2;exact (hout t hl).elim
     ·omega
    ·have hcw:L (zAV c q.vars[n].1) s q.vars[i].1=true:=by
      rw [zBo _ _ m1 m8,h1];simp only [Bool.true_and,Bool.not_eq_true',decide_eq_false_iff_not];exact fun e'=>e (hne i n hi hnl e')
     obtain ⟨a1,a2,a3⟩:=ih (by omega) _ s i hi hcw h2;refine ⟨by omega,a2,fun t j hj hjn hl=>?_⟩
     by_cases e2:j=n
     ·subst e2;exact (hout t hl).elim
     ·exact a3 t j hj (by omega) hl
  ·rw [if_neg hv] at h2 ⊢;obtain ⟨a1,a2,a3⟩:=ih (by omega) c s i hi h1 h2;refine ⟨by omega,a2,fun t j hj hjn hl=>?_⟩
   by_cases e2:j=n
   ·subst e2;have h':=zDC hq k j (by omega) _ _ _ hl;rw [zCl _ _ m1 m8] at hv
    exfalso;apply hv
    cases t<;>rw [h']<;>simp
   ·exact a3 t j hj (by omega) hl
def sgn (kind:Nat) (s:Bool):Bool:=if kind=1 then !s else s
def zO3 (kind:Nat) (V c:Nat × Nat):Prop:=∀ s v,L c s v=true→L V (sgn kind s) v=true
theorem zRO (kind:Nat) (p:List Stp) (s:Stp) (t:Bool) (v:Nat):L (zB5 kind p s).1 (sgn kind t) v=L s.lits t v:=by
 unfold zB5 sgn
 split
 ·rw [zMw];simp
 ·rfl
theorem zHW (kind:Nat) (p:List Stp) (s:Stp) (t:Bool) (v:Nat):L (zB5 kind p s).2 (sgn kind t) v=(L (zM p s.first) t v && !L s.lits t v):=by
 unfold zB5 sgn
 split
 ·rw [zMw];simp [zDm]
 ·exact zDm _ _ _ _
theorem zGe (kind:Nat) (s:Bool):sgn kind (sgn kind s)=s:=by unfold sgn;split<;>simp
theorem zKy (kind:Nat) (p:List Stp) (s:Stp) (v:Nat) (V:Nat × Nat) (h1:1≤v) (h8:v≤8):zDB v V (zB5 kind p s)=true↔zO3 kind V s.lits∧∃ t,L (zM p s.first) t v=true∧L s.lits t v=false:=by
 unfold zDB;rw [Bool.and_eq_true,zDp,zCl _ _ h1 h8,Bool.or_eq_true]
 constructor
 ·rintro ⟨h2,h3⟩;refine ⟨fun t u ht=>?_,?_⟩
  ·have h:=h2 (sgn kind t) u;rw [zDm,zRO,ht] at h
   simpa using h
  ·rcases h3 with h3 | h3
   ·have h:=zHW kind p s (sgn kind true) v;rw [zGe,h3] at h;refine ⟨sgn kind true,?_⟩
    simpa using h.symm
   ·have h:=zHW kind p s (sgn kind false) v;rw [zGe,h3] at h;refine ⟨sgn kind false,?_⟩
    simpa using h.symm
 ·rintro ⟨h2,t,h3,h4⟩;refine ⟨fun a u=>?_,?_⟩
  ·have h:=zRO kind p s (sgn kind a) u;rw [zGe] at h;rw [zDm]
   cases ha:L (zB5 kind p s).1 a u with
   | false=>rfl
   | true=>
    rw [ha] at h;have h5:=h2 _ _ h.symm;rw [zGe] at h5;rw [h5];rfl
  ·have h:=zHW kind p s t v;rw [h3,h4] at h;generalize sgn kind t=a at h
   cases a
   ·exact Or.inr h
   ·exact Or.inl h
theorem zM4 (kind:Nat) (p:List Stp) (v:Nat) (V:Nat × Nat) (P:List Stp):((P.filter (fun s=>s.rule == 4)).map (zB5 kind p)).find? (zDB v V)=(P.find? (fun s=>s.rule == 4 && zDB v V (zB5 kind p s))).map (zB5 kind p):=by
 induction P with
 | nil=>rfl
 | cons s P ih=>
  rw [List.filter_cons,List.find?_cons]
  cases h:(s.rule == 4) with
  | true=>
   rw [if_pos rfl,List.map_cons,List.find?_cons,Bool.true_and]
   cases zDB v V (zB5 kind p s) with
   | true=>rfl
   | false=>exact ih
  | false=>
   rw [if_neg (by simp),Bool.false_and];exact ih
structure zNm (q:QS) (kind:Nat) (ss:List Stp):Prop where
 tags:Tags q kind ss
 lok:∀ s∈ss,LOk q s.lits
 free:∀ s∈ss,Free s.lits
def zLQ (q:QS) (kind:Nat) (rs:List zAB):List Bool→Prop
 | []=>True
 | b :: bs=>zLQ q kind rs bs∧(zAl kind (q.vars.getD bs.length (0,false)).2=false→b=zAx rs (zBQ (q.vars.map (·.1)) bs) (q.vars.getD bs.length (0,false)).1)
theorem zQE {q:QS} {kind:Nat} {rs:List zAB}:∀ {bs:List Bool},zLQ q kind rs bs→∀ i,i < bs.length→zAl kind (q.vars.getD i (0,false)).2=false→bs.reverse.getD i false=zAx rs (zBQ (q.vars.map (·.1)) (bs.drop (bs.length - i))) (q.vars.getD i (0,false)).1:=by
 intro bs
 induction bs with
 | nil=>intro _ i hi;simp at hi
 | cons b bs ih=>
  intro h i hi hp
  by_cases e:i < bs.length
  ·have:=ih h.1 i e hp
   rw [List.reverse_cons,List.getD,List.getElem?_append_left (by simpa using e)];rw [show (b :: bs).length - i=(bs.length - i) + 1 from by simp;omega,List.drop_succ_cons];exact this
  ·have e2:i=bs.length:=(by simp at hi;omega);subst e2;rw [List.reverse_cons,List.getD,List.getElem?_append_right (by simp)]
   simpa using h.2 hp
theorem zFD (ss:List Stp) (i n:Nat) (h1:1≤n) (h2:n≤(ss.take i).length):∃ j,∃ hj:j < ss.length,j < i∧zM (ss.take i) n=ss[j].lits∧zM ss n=ss[j].lits:=by
 have hl:n - 1 < ss.length∧n - 1 < i:=(by simp at h2;omega);refine ⟨n - 1,hl.1,hl.2,?_,?_⟩
 ·have h:=zBU (ss.take i) (n - 1) (by omega);rw [show n - 1 + 1=n from by omega] at h;rw [h,List.getElem_take]
 ·have h:=zBU ss (n - 1) hl.1
  rwa [show n - 1 + 1=n from by omega] at h
def zOA (q:QS) (kind:Nat) (V:Nat × Nat):Prop:=(kind=1∧∃ c∈q.cl,Free c∧zO3 1 V c)∨(kind=2∧∃ c,zCD q.cl c=true∧zO3 2 V c)
theorem zIz {ss:List Stp} {w:List UInt8} {a:Nat × Nat} (h:zDA (ze ss) w=some a):∃ n,1≤n∧n≤ss.length∧a=zM ss n:=by
 rw [zEz] at h
 cases hn:zl w ss.length with
 | none=>rw [hn] at h;cases h
 | some n=>rw [hn] at h;simp at h;exact ⟨n,(zCN hn).1,(zCN hn).2,h.symm⟩
theorem zNu {q:QS} {kind:Nat} {z:List UInt8} {v:Nat} (h:zGE q kind z=some v):1≤v∧v≤8:=by
 unfold zGE at h;have hd:=zB3 z
 split at h
 ·cases hf:zBY q.vars (dig z).toNat with
  | none=>rw [hf] at h;cases h
  | some x=>
   rw [hf] at h;simp only [Option.bind_some] at h
   split at h
   ·injection h with h;subst h;omega
   ·cases h
 ·cases h
theorem zRB {q:QS} (hq:QGood q) {kind:Nat} (hk:kind=1∨kind=2) {ss:List Stp} (hs:zNm q kind ss) {bs:List Bool} (hl:bs.length=q.vars.length) (hkeep:zLQ q kind (zAQ kind ss) bs) :
  ∀ i (hi:i < ss.length),zO3 kind (zBQ (q.vars.map (·.1)) bs) ss[i].lits→zOA q kind (zBQ (q.vars.map (·.1)) bs):=by
 have hnm:∀ v∈q.vars.map (·.1),1≤v∧v≤8:=fun v hv=>hq.name hv
 have hVL:=zIr (q.vars.map (·.1)) hnm bs (by simp [hl]);have hgd:∀ j (hj:j < q.vars.length),(q.vars.map (·.1)).getD j 0=q.vars[j].1:=fun j hj=>by simp [List.getD,hj]
 have hgd2:∀ j (hj:j < q.vars.length),q.vars.getD j (0,false)=q.vars[j]:=fun j hj=>by simp [List.getD,hj]
 intro i
 induction i using Nat.strongRecOn with
 | ind i ih=>
  intro hi hh
  by_cases hnw:zOA q kind (zBQ (q.vars.map (·.1)) bs)
  ·exact hnw
  have hmem:ss[i]∈ss:=List.getElem_mem hi
  rcases hs.tags i hi with ⟨h4,⟨f1,f2⟩,hred⟩ | ⟨hnr,tl,hax | hcu | hre⟩
  ·obtain ⟨j,hj,hji,hw1,hw2⟩:=zFD ss i _ f1 f2;refine ih j hji hj (fun s v hv=>?_)
   by_cases hin:L ss[i].lits s v=true
   ·exact hh s v hin
   ·have hin':L ss[i].lits s v=false:=(by simpa using hin);obtain ⟨x,hx,hxv⟩:=List.mem_map.1 ((hs.lok _ (List.getElem_mem hj)).vars s v hv);obtain ⟨k,hkl,hkx⟩:=List.mem_iff_getElem.1 hx;have hvk:q.vars[k].1=v:=(by rw [hkx];exact hxv);obtain ⟨v1,v8⟩:=zDt hq k hkl;rw [hvk] at v1 v8;rw [hw1] at hred;have hpos:=zSK hq kind q.vars.length (Nat.le_refl _) ss[j].lits s k hkl (by rw [hvk];exact hv) (by rw [List.take_length,← hred,hvk];exact hin');rw [List.take_length,← hred] at hpos;obtain ⟨_,hpv,hbef⟩:=hpos;have hans:=zQE hkeep k (by omega) (by rw [hgd2 k hkl];exact hpv);rw [hgd2 k hkl,hvk] at hans;have hVk:=zIr (q.vars.map (·.1)) hnm (bs.drop (bs.length - k)) (by simp;omega);have hsub:∀ t u,L (zBQ (q.vars.map (·.1)) (bs.drop (bs.length - k))) t u=true→L (zBQ (q.vars.map (·.1)) bs) t u=true:=fun t u ht=>by
     obtain ⟨m,m1,m2,m3⟩:=(hVk t u).1 ht;refine (hVL t u).2 ⟨m,?_,m2,?_⟩
     ·simp at m1;omega
     ·rw [← m3,List.reverse_drop,List.getD,List.getD,List.getElem?_take_of_lt (by simp at m1;omega)]
    have hfit:zO3 kind (zBQ (q.vars.map (·.1)) (bs.drop (bs.length - k))) ss[i].lits:=fun t u ht=>by
     obtain ⟨m,m1,m2,m3⟩:=(hVL _ _).1 (hh t u ht);have hml:m < q.vars.length:=(by omega);rw [hgd m hml] at m2;have hmk:=hbef t m hml hml (by rw [m2];exact ht);refine (hVk _ _).2 ⟨m,by simp;omega,by rw [hgd m hml];exact m2,?_⟩;rw [← m3,List.reverse_drop,List.getD,List.getD,List.getElem?_take_of_lt (by omega)]
    by_cases hearly:∃ e,∃ he:e < ss.length,e < i∧(ss[e].rule == 4 && zDB v (zBQ (q.vars.map (·.1)) (bs.drop (bs.length - k))) (zB5 kind ss ss[e]))=true
    ·obtain ⟨e,he,hei,hf⟩:=hearly;rw [Bool.and_eq_true] at hf;have hhe:=((zKy kind ss ss[e] v _ v1 v8).1 hf.2).1;exact (hnw (ih e hei he (fun s v h=>hsub _ _ (hhe s v h)))).elim
    ·have hfi:(ss[i].rule == 4 && zDB v (zBQ (q.vars.map (·.1)) (bs.drop (bs.length - k))) (zB5 kind ss ss[i]))=true:=by
      rw [Bool.and_eq_true];exact ⟨by simpa using h4,(zKy kind ss ss[i] v _ v1 v8).2 ⟨hfit,s,by rw [hw2];exact hv,hin'⟩⟩
     have hfind:ss.find? (fun s=>s.rule == 4 && zDB v (zBQ (q.vars.map (·.1)) (bs.drop (bs.length - k))) (zB5 kind ss s))=some ss[i]:=by
      rw [List.find?_eq_some_iff_getElem];refine ⟨hfi,i,hi,rfl,fun e he=>?_⟩
      cases hcc:(ss[e].rule == 4 && zDB v (zBQ (q.vars.map (·.1)) (bs.drop (bs.length - k))) (zB5 kind ss ss[e])) with
      | true=>exact (hearly ⟨e,by omega,he,hcc⟩).elim
      | false=>rfl
     have hwant:zAx (zAQ kind ss) (zBQ (q.vars.map (·.1)) (bs.drop (bs.length - k))) v=zj (zB5 kind ss ss[i]).2 (v:Int):=by
      unfold zAx zAQ;rw [zM4,hfind];rfl
     rw [hwant,show ((v:Nat):Int)=zAF v true from rfl,zBm _ _ _ v1 v8] at hans;have hth:=zHW kind ss ss[i] s v;rw [hw2,hv,hin'] at hth;have hfr:∀ t,L (zB5 kind ss ss[i]).2 t v=true→L (zB5 kind ss ss[i]).2 (!t) v=false:=fun t ht=>by
      have e1:=zHW kind ss ss[i] (sgn kind t) v;have e2:=zHW kind ss ss[i] (!sgn kind t) v;have e3:sgn kind (!sgn kind t)=!t:=(by unfold sgn;split<;>simp);rw [zGe,ht,hw2] at e1;rw [e3,hw2] at e2;rw [e2,(hs.free _ (List.getElem_mem hj)).not (s:=sgn kind t) (by
       have:=e1.symm;rw [Bool.and_eq_true] at this;exact this.1)]
      rfl
     refine (hVL _ _).2 ⟨k,by omega,by rw [hgd k hkl];exact hvk,?_⟩;rw [hans]
     cases hsg:sgn kind s with
     | true=>rw [hsg] at hth;exact hth
     | false=>rw [hsg] at hth;exact hfr false hth
  ·unfold zCb at hax
   split at hax
   ·next hk1=>
    split at hax
    ·next x=>
     cases hn:zl x q.cl.length with
     | none=>rw [hn] at hax;cases hax
     | some n=>
      rw [hn] at hax;simp only [Option.bind_some] at hax
      cases hc:q.cl[n - 1]? with
      | none=>rw [hc] at hax;cases hax
      | some c=>
       rw [hc] at hax;simp only [Option.bind_some] at hax
       split at hax
       ·cases hax
       ·injection hax with hax;subst hk1;exact (hnw (Or.inl ⟨rfl,c,List.mem_of_getElem? hc,by rw [hax];exact hs.free _ hmem,by rw [hax];exact hh⟩)).elim
    ·cases hax
   ·cases hax
  ·unfold zAt at hcu
   split at hcu
   ·next hk2=>
    cases hc:zFJ q.vars (0,0) 0 tl with
    | none=>rw [hc] at hcu;cases hcu
    | some c=>
     rw [hc] at hcu;simp only [Option.bind_some] at hcu
     split at hcu
     ·next hsat=>
      injection hcu with hcu;subst hk2;exact (hnw (Or.inr ⟨rfl,c,hsat,by rw [hcu];exact hh⟩)).elim
     ·cases hcu
   ·cases hcu
  ·unfold zE9 at hre
   split at hre
   ·next x y z=>
    cases ha:zDA (ze (ss.take i)) x with
    | none=>rw [ha] at hre;cases hre
    | some a=>
     cases hb:zDA (ze (ss.take i)) y with
     | none=>rw [ha,hb] at hre;cases hre
     | some b=>
      cases hp:zGE q kind z with
      | none=>rw [ha,hb,hp] at hre;cases hre
      | some v=>
       rw [ha,hb,hp] at hre;simp only [Option.bind_some] at hre;unfold zEX at hre
       split at hre
       ·next hab=>
        split at hre
        ·cases hre
        ·injection hre with hre;obtain ⟨n,n1,n2,rfl⟩:=zIz ha;obtain ⟨m,m1,m2,rfl⟩:=zIz hb;obtain ⟨ja,hja,hjai,ea,_⟩:=zFD ss i n n1 n2;obtain ⟨jb,hjb,hjbi,eb,_⟩:=zFD ss i m m1 m2;rw [ea,eb] at hre hab;obtain ⟨v1,v8⟩:=zNu hp;rw [show ((v:Nat):Int)=zAF v true from rfl,zBm _ _ _ v1 v8,zI5,zBm _ _ _ v1 v8] at hab;obtain ⟨h1,h2⟩:=hab;have hrest:∀ t u,u≠v→(L ss[ja].lits t u=true∨L ss[jb].lits t u=true)→L (zBQ (q.vars.map (·.1)) bs) (sgn kind t) u=true:=fun t u hu ho=>hh t u (by
          rw [← hre,zCI _ _ _ v1 v8]
          rcases ho with ho | ho<;>simp [ho,hu])
         obtain ⟨x',hx',hxv⟩:=List.mem_map.1 ((hs.lok _ (List.getElem_mem hja)).vars true v h1);obtain ⟨k,hkl,hkx⟩:=List.mem_iff_getElem.1 hx';have hvk:q.vars[k].1=v:=(by rw [hkx];exact hxv);have hval:=(hVL (bs.reverse.getD k false) v).2 ⟨k,by omega,by rw [hgd k hkl];exact hvk,rfl⟩
         by_cases hsg:bs.reverse.getD k false=sgn kind true
         ·refine (hnw (ih ja hjai hja (fun t u ht=>?_))).elim
          by_cases hu:u=v
          ·subst hu
           cases t with
           | true=>rw [← hsg];exact hval
           | false=>exact (hs.free _ (List.getElem_mem hja) u h1 ht).elim
          ·exact hrest t u hu (Or.inl ht)
         ·refine (hnw (ih jb hjbi hjb (fun t u ht=>?_))).elim
          by_cases hu:u=v
          ·subst hu
           cases t with
           | false=>
            have:sgn kind false=bs.reverse.getD k false:=by
             have e3:sgn kind false=!sgn kind true:=(by unfold sgn;split<;>rfl);rw [e3]
             revert hsg
             cases bs.reverse.getD k false<;>cases sgn kind true<;>simp
            rw [this];exact hval
           | true=>exact (hs.free _ (List.getElem_mem hjb) u ht h2).elim
          ·exact hrest t u hu (Or.inr ht)
       ·cases hre
   ·cases hre
structure GS where
 turn:Nat
 vals:Nat × Nat
abbrev BL:=List (List Nat × Bool)
def zIq (vals:Nat × Nat) (v:Nat) (b:Bool):Nat × Nat:=zQ vals (zAF v b)
def zDF (rs:List zAB) (vs:List Nat) (vals:Nat × Nat):Nat × Nat:=vs.foldl (fun vals v=>zIq vals v (zAx rs vals v)) vals
def zE7 (rs:List zAB) (bl:BL):Nat→GS→GS
 | 0,g=>g
 | m + 1,g=>if (bl.getD g.turn ([],false)).2=true then zE7 rs bl m ⟨g.turn + 1,zDF rs (bl.getD g.turn ([],false)).1 g.vals⟩ else g
def zEM (rs:List zAB) (bl:BL) (g:GS):GS:=zE7 rs bl (bl.length - g.turn) g
def zCr:List Nat→Nat→Nat→Nat × Nat→Nat × Nat
 | [],_,_,vals=>vals
 | v :: vs,bits,i,vals=>zCr vs bits (i + 1) (zIq vals v (bits.testBit i))
def zAh (rs:List zAB) (bl:BL) (g:GS) (bits:Nat):GS:=zEM rs bl ⟨g.turn + 1,zCr (bl.getD g.turn ([],false)).1 bits 0 g.vals⟩
def zPE (q:QS) (v:Nat):Bool:=match zBY q.vars v with
 | some x=>x.2
 | none=>false
def zBq (q:QS) (kind:Nat) (vs:List Nat):Bool:=match vs with
 | []=>false
 | v :: _=>zPE q v == (kind == 1)
def blW (q:QS) (kind:Nat):BL:=(zG q.vars).map (fun b=>(b,zBq q kind b))
def zBO (q:QS) (kind:Nat) (ss:List Stp):GS:=zEM (zAQ kind ss) (blW q kind) ⟨0,(0,0)⟩
def zCh (bs:List (List Nat)) (t:Nat):Nat:=(bs.take t).flatten.length
theorem zHP (bs:List (List Nat)) (t:Nat) (h:t < bs.length):zCh bs (t + 1)=zCh bs t + bs[t].length:=by
 unfold zCh;rw [List.take_succ_eq_append_getElem h,List.flatten_append];simp
theorem zSH (bs:List (List Nat)) (t i:Nat) (h:t < bs.length) (hi:i < bs[t].length):bs.flatten.getD (zCh bs t + i) 0=bs[t][i]:=by
 unfold zCh;have e:bs.flatten=(bs.take t).flatten ++ (bs[t] ++ (bs.drop (t + 1)).flatten):=by
  conv=>lhs;rw [← List.take_append_drop t bs,List.drop_eq_getElem_cons h]
  rw [List.flatten_append,List.flatten_cons]
 rw [e,List.getD,List.getElem?_append_right (by omega),show (bs.take t).flatten.length + i - (bs.take t).flatten.length=i from by omega,List.getElem?_append_left hi,List.getElem?_eq_getElem hi];rfl
theorem zIG (bs:List (List Nat)):zCh bs bs.length=bs.flatten.length:=by unfold zCh;rw [List.take_length]
theorem zN9 (bs:List (List Nat)) (t:Nat):zCh bs t≤bs.flatten.length:=by
 unfold zCh
 conv=>rhs;rw [← List.take_append_drop t bs,List.flatten_append]
 simp
theorem zL9 (vs:List (Nat × Bool)):∀ k,k≤vs.length→(zq vs k).1.flatten ++ (zq vs k).2=(vs.map (·.1)).take k:=by
 intro k
 induction k with
 | zero=>intro _;simp [zq]
 | succ k ih=>
  intro hk;have h:=ih (by omega);have hv:(vs.map (·.1)).take (k + 1)=(vs.map (·.1)).take k ++ [(vs.getD k (0,false)).1]:=by
   rw [List.take_succ_eq_append_getElem (by simp;omega)];simp [List.getD,show k < vs.length by omega]
  rw [zq,hv,← h]
  split
  ·simp [List.flatten_append]
  ·simp [List.append_assoc]
theorem zAA (vs:List (Nat × Bool)):(zG vs).flatten=vs.map (·.1):=by
 have h:=zL9 vs vs.length (Nat.le_refl _);rw [show (vs.map (·.1)).take vs.length=vs.map (·.1) from List.take_of_length_le (by simp)] at h;unfold zG
 split
 ·rw [List.flatten_append,← h];simp
 ·next h0=>
  have:(zq vs vs.length).2=[]:=List.eq_nil_of_length_eq_zero (by omega)
  rw [← h,this,List.append_nil]
def zJw (vs:List (Nat × Bool)) (b:List Nat) (u:Bool):Prop:=∀ v∈b,∃ x∈vs,x.1=v∧x.2=u
theorem zK4 (vs:List (Nat × Bool)):∀ k,k≤vs.length→(∀ b∈(zq vs k).1,b≠[]∧∃ u,zJw vs b u)∧(0 < k→(zq vs k).2≠[]∧zJw vs (zq vs k).2 (zEQ vs (k - 1))):=by
 intro k
 induction k with
 | zero=>intro _;exact ⟨fun b hb=>by simp [zq] at hb,fun h=>by omega⟩
 | succ k ih=>
  intro hk;obtain ⟨h1,h2⟩:=ih (by omega);have hx:vs.getD k (0,false)∈vs:=(by rw [List.getD,List.getElem?_eq_getElem (by omega:k < vs.length)];exact List.getElem_mem _);rw [zq]
  split
  ·next hn=>
   have hk0:0 < k:=(by unfold zDN at hn;simp at hn;exact hn.1);refine ⟨fun b hb=>?_,fun _=>⟨by simp,fun v hv=>?_⟩⟩
   ·rcases List.mem_append.1 hb with hb | hb
    ·exact h1 b hb
    ·simp at hb;subst hb;exact ⟨(h2 hk0).1,_,(h2 hk0).2⟩
   ·simp at hv;subst hv;exact ⟨_,hx,rfl,by simp [zEQ]⟩
  ·next hn=>
   refine ⟨h1,fun _=>⟨by simp,fun v hv=>?_⟩⟩
   rcases List.mem_append.1 hv with hv | hv
   ·by_cases hk0:0 < k
    ·have he:zEQ vs k=zEQ vs (k - 1):=by
      unfold zDN at hn;simp only [Bool.and_eq_true,decide_eq_true_eq,bne_iff_ne,ne_eq,not_and,Decidable.not_not] at hn;exact hn hk0
     obtain ⟨x,x1,x2,x3⟩:=(h2 hk0).2 v hv;exact ⟨x,x1,x2,by rw [Nat.add_sub_cancel,he];exact x3⟩
    ·have:k=0:=by omega
     subst this;simp [zq] at hv
   ·simp at hv;subst hv;exact ⟨_,hx,rfl,by simp [zEQ]⟩
theorem zB6 (vs:List (Nat × Bool)):∀ b∈zG vs,b≠[]∧∃ u,zJw vs b u:=by
 obtain ⟨h1,h2⟩:=zK4 vs vs.length (Nat.le_refl _);intro b hb;unfold zG at hb
 split at hb
 ·next h0=>
  rcases List.mem_append.1 hb with hb | hb
  ·exact h1 b hb
  ·simp at hb;subst hb;have hl:0 < vs.length:=by
    by_cases e:0 < vs.length
    ·exact e
    ·have:vs.length=0:=by omega
     rw [this] at h0;simp [zq] at h0
   exact ⟨(h2 hl).1,_,(h2 hl).2⟩
 ·exact h1 b hb
theorem zIB {q:QS} (hq:QGood q) {x:Nat × Bool} (hx:x∈q.vars):zPE q x.1=x.2:=by
 unfold zPE;have h:=hq.nodup
 revert h hx
 unfold zBY
 induction q.vars with
 | nil=>intro hx;simp at hx
 | cons y ys ih=>
  intro hx hn;rw [List.map_cons,List.nodup_cons] at hn;rw [List.find?_cons]
  by_cases e:y.1=x.1
  ·have:y=x:=by
    rcases List.mem_cons.1 hx with e2 | hx
    ·exact e2.symm
    ·exact absurd (by rw [e];exact List.mem_map_of_mem hx) hn.1
   subst this
   simp
  ·have hx':x∈ys:=by
    rcases List.mem_cons.1 hx with e2 | hx
    ·exact absurd (by rw [e2]) e
    ·exact hx
   have e3:(y.1 == x.1)=false:=(by simpa using e);rw [e3];exact ih hx' hn.2
theorem zK9 {q:QS} (hq:QGood q) {kind:Nat} (hk:kind=1∨kind=2) {b:List Nat} (hb:b∈zG q.vars) {x:Nat × Bool} (hx:x∈q.vars) (hxb:x.1∈b):zAl kind x.2=!zBq q kind b:=by
 obtain ⟨h0,u,hu⟩:=zB6 q.vars b hb;have hsame:∀ y∈q.vars,y.1∈b→y.2=u:=fun y hy hyb=>by
  obtain ⟨z,z1,z2,z3⟩:=hu _ hyb;rw [← z3,← zIB hq hy,← zIB hq z1,z2]
 match b,h0 with
 | v :: r,_=>
  obtain ⟨z,z1,z2,z3⟩:=hu v (by simp);show zAl kind x.2=!(zPE q v == (kind == 1));rw [← z2,zIB hq z1,z3,hsame x hx hxb];unfold zAl
  rcases hk with rfl | rfl<;>cases u<;>rfl
structure Run (q:QS) (kind:Nat) (rs:List zAB) (g:GS) (bs:List Bool):Prop where
 turn:g.turn≤(zG q.vars).length
 len:bs.length=zCh (zG q.vars) g.turn
 vals:g.vals=zBQ (q.vars.map (·.1)) bs
 keeps:zLQ q kind rs bs
theorem zGZ {q:QS} (t i:Nat) (h:t < (zG q.vars).length) (hi:i < (zG q.vars)[t].length):(q.vars.map (·.1)).getD (zCh (zG q.vars) t + i) 0=(zG q.vars)[t][i]:=by
 rw [← zAA];exact zSH _ t i h hi
theorem zFi {q:QS} (t i:Nat) (h:t < (zG q.vars).length) (hi:i < (zG q.vars)[t].length):zCh (zG q.vars) t + i < q.vars.length:=by
 have h1:=zHP (zG q.vars) t h;have h2:=zN9 (zG q.vars) (t + 1);rw [zAA,List.length_map] at h2;omega
theorem zSz {q:QS} (k:Nat) (hk:k < q.vars.length):q.vars.getD k (0,false)=q.vars[k]:=by simp [List.getD,hk]
theorem zFd {q:QS} (k:Nat) (hk:k < q.vars.length):(q.vars.map (·.1)).getD k 0=q.vars[k].1:=by simp [List.getD,hk]
structure Part (q:QS) (kind:Nat) (rs:List zAB) (t i:Nat) (vals:Nat × Nat) (bs:List Bool):Prop where
 len:bs.length=zCh (zG q.vars) t + i
 vals:vals=zBQ (q.vars.map (·.1)) bs
 keeps:zLQ q kind rs bs
theorem Part.next {q:QS} (hq:QGood q) {kind:Nat} (hk:kind=1∨kind=2) {rs:List zAB} {t i:Nat} {vals:Nat × Nat} {bs:List Bool} (h:Part q kind rs t i vals bs) (ht:t < (zG q.vars).length) (hi:i < (zG q.vars)[t].length)
  (b:Bool) (hb:zBq q kind (zG q.vars)[t]=true→b=zAx rs vals (zG q.vars)[t][i]):Part q kind rs t (i + 1) (zIq vals (zG q.vars)[t][i] b) (b :: bs):=by
 have hlt:=zFi t i ht hi;have hn:=zGZ t i ht hi;refine ⟨by simp [h.len];omega,?_,h.keeps,?_⟩
 ·show zQ vals (zAF (zG q.vars)[t][i] b)=zQ _ (zAF ((q.vars.map (·.1)).getD bs.length 0) b);rw [h.len,hn,h.vals]
 ·intro hp;rw [h.len,zSz _ hlt] at hp ⊢;have hx:(q.vars[zCh (zG q.vars) t + i]'hlt).1=(zG q.vars)[t][i]:=(by rw [← zFd _ hlt];exact hn);rw [hx,← h.vals];refine hb ?_;have hw:=zK9 hq hk (List.getElem_mem ht) (List.getElem_mem hlt) (by rw [hx];exact List.getElem_mem hi);rw [hp] at hw
  simpa using hw.symm
theorem Part.done {q:QS} {kind:Nat} {rs:List zAB} {t:Nat} {vals:Nat × Nat} {bs:List Bool} (ht:t < (zG q.vars).length) (h:Part q kind rs t (zG q.vars)[t].length vals bs):Run q kind rs ⟨t + 1,vals⟩ bs:=
 ⟨ht,by rw [zHP _ _ ht];exact h.len,h.vals,h.keeps⟩
theorem Run.part {q:QS} {kind:Nat} {rs:List zAB} {g:GS} {bs:List Bool} (h:Run q kind rs g bs):Part q kind rs g.turn 0 g.vals bs:=⟨h.len,h.vals,h.keeps⟩
theorem zQD {q:QS} (hq:QGood q) {kind:Nat} (hk:kind=1∨kind=2) {rs:List zAB} {t:Nat} (ht:t < (zG q.vars).length):∀ (m i:Nat) (vals:Nat × Nat) (bs:List Bool),i + m=(zG q.vars)[t].length→Part q kind rs t i vals bs→
  ∃ b2,Part q kind rs t (zG q.vars)[t].length (zDF rs ((zG q.vars)[t].drop i) vals) (b2 ++ bs):=by
 intro m
 induction m with
 | zero=>
  intro i vals bs h hp
  have:i=(zG q.vars)[t].length:=by omega
  subst this;rw [List.drop_length];exact ⟨[],hp⟩
 | succ m ih=>
  intro i vals bs h hp;have hi:i < (zG q.vars)[t].length:=(by omega);rw [List.drop_eq_getElem_cons hi];obtain ⟨b2,h2⟩:=ih (i + 1) _ _ (by omega) (hp.next hq hk ht hi (zAx rs vals (zG q.vars)[t][i]) (fun _=>rfl));exact ⟨b2 ++ [_],by rw [List.append_assoc];exact h2⟩
theorem zOl {q:QS} (hq:QGood q) {kind:Nat} (hk:kind=1∨kind=2) {rs:List zAB} {t:Nat} (ht:t < (zG q.vars).length) (hw:zBq q kind (zG q.vars)[t]=false) (bits:Nat):∀ (m i:Nat) (vals:Nat × Nat) (bs:List Bool),i + m=(zG q.vars)[t].length→Part q kind rs t i vals bs→
  ∃ b2,Part q kind rs t (zG q.vars)[t].length (zCr ((zG q.vars)[t].drop i) bits i vals) (b2 ++ bs)∧b2.length=m∧∀ j,j < m→b2.reverse.getD j false=bits.testBit (i + j):=by
 intro m
 induction m with
 | zero=>
  intro i vals bs h hp
  have:i=(zG q.vars)[t].length:=by omega
  subst this;rw [List.drop_length];exact ⟨[],hp,rfl,fun j hj=>by omega⟩
 | succ m ih=>
  intro i vals bs h hp;have hi:i < (zG q.vars)[t].length:=(by omega);rw [List.drop_eq_getElem_cons hi];obtain ⟨b2,h2,h3,h4⟩:=ih (i + 1) _ _ (by omega) (hp.next hq hk ht hi (bits.testBit i) (fun e=>by rw [hw] at e;cases e));refine ⟨b2 ++ [bits.testBit i],by rw [List.append_assoc];exact h2,by simp [h3],fun j hj=>?_⟩;rw [List.reverse_append]
  cases j with
  | zero=>rfl
  | succ j=>
   have:=h4 j (by omega)
   simp only [List.reverse_cons,List.reverse_nil,List.nil_append,List.cons_append,List.getD_cons_succ];rw [this];congr 1;omega
theorem zBB (q:QS) (kind:Nat):(blW q kind).length=(zG q.vars).length:=by unfold blW;simp
theorem zHN (q:QS) (kind t:Nat) (h:t < (zG q.vars).length):(blW q kind).getD t ([],false)=((zG q.vars)[t],zBq q kind (zG q.vars)[t]):=by
 unfold blW;simp [List.getD,h]
structure zHJ (q:QS) (kind:Nat) (g:GS):Prop where
 le:g.turn≤(zG q.vars).length
 lose:∀ h:g.turn < (zG q.vars).length,zBq q kind (zG q.vars)[g.turn]=false
theorem zOK {q:QS} (hq:QGood q) {kind:Nat} (hk:kind=1∨kind=2) {rs:List zAB}:∀ (m:Nat) (g:GS) (bs:List Bool),g.turn + m=(zG q.vars).length→Run q kind rs g bs→
  ∃ b2,Run q kind rs (zE7 rs (blW q kind) m g) (b2 ++ bs)∧zHJ q kind (zE7 rs (blW q kind) m g)∧g.turn≤(zE7 rs (blW q kind) m g).turn∧∀ j (hj:j < (zG q.vars).length),g.turn≤j→j < (zE7 rs (blW q kind) m g).turn→zBq q kind (zG q.vars)[j]=true:=by
 intro m
 induction m with
 | zero=>
  intro g bs h hr;exact ⟨[],hr,⟨hr.turn,fun h'=>absurd h' (by show ¬ g.turn < _;omega)⟩,Nat.le_refl _,fun j hj h1 h2=>by simp only [zE7] at h2;omega⟩
 | succ m ih=>
  intro g bs h hr;have ht:g.turn < (zG q.vars).length:=(by omega);rw [zE7,zHN q kind _ ht];dsimp only
  by_cases hw:zBq q kind (zG q.vars)[g.turn]=true
  ·rw [if_pos hw];obtain ⟨b1,h1⟩:=zQD hq hk ht (zG q.vars)[g.turn].length 0 g.vals bs (by omega) hr.part;rw [List.drop_zero] at h1;obtain ⟨b2,h2,h3,h4,h5⟩:=ih ⟨g.turn + 1,_⟩ _ (by show g.turn + 1 + m=_;omega) (h1.done ht);refine ⟨b2 ++ b1,by rw [List.append_assoc];exact h2,h3,by have:g.turn + 1≤_:=h4;omega,fun j hj g1 g2=>?_⟩
   by_cases e:j=g.turn
   ·subst e;exact hw
   ·exact h5 j hj (by show g.turn + 1≤j;omega) g2
  ·rw [if_neg hw];exact ⟨[],hr,⟨hr.turn,fun _=>by simpa using hw⟩,Nat.le_refl _,fun j hj h1 h2=>by omega⟩
theorem zQT (q:QS) (kind:Nat) (rs:List zAB):Run q kind rs ⟨0,(0,0)⟩ []:=⟨Nat.zero_le _,rfl,rfl,trivial⟩
def zCY (l:List zAB):List Value:=l.flatMap (fun r=>[Value.int .i64 (r.1.1:Int),Value.int .i64 (r.1.2:Int),Value.int .i64 (r.2.1:Int),Value.int .i64 (r.2.2:Int)])
theorem zKl (l:List zAB) (k j:Nat) (h:k < l.length) (hj:j < 4):(zCY l)[k * 4 + j]?=[Value.int .i64 (l[k].1.1:Int),Value.int .i64 (l[k].1.2:Int),Value.int .i64 (l[k].2.1:Int),Value.int .i64 (l[k].2.2:Int)][j]?:=by
 induction l generalizing k with
 | nil=>simp at h
 | cons a l ih=>
  cases k with
  | zero=>
   simp only [zCY,List.flatMap_cons,Nat.zero_mul,Nat.zero_add,List.getElem_cons_zero];rw [List.getElem?_append_left (by simpa using hj)]
  | succ k=>
   have:=ih k (by simpa using h)
   simp only [zCY,List.flatMap_cons] at this ⊢;rw [show (k + 1) * 4 + j=(k * 4 + j) + 4 from by omega,List.getElem?_append_right (by simp)]
   simpa using this
def zDV (l:BL) (hdrs:List Value):List Value:=(l.zip hdrs).flatMap (fun x=>[x.2,Value.bool x.1.2])
theorem zIS (l:BL) (hdrs:List Value) (k:Nat) (h:k < l.length) (hh:k < hdrs.length):(zDV l hdrs)[k * 2]?=some hdrs[k]∧(zDV l hdrs)[k * 2 + 1]?=some (.bool l[k].2):=by
 induction l generalizing k hdrs with
 | nil=>simp at h
 | cons a l ih=>
  match hdrs,hh with
  | b :: hs,hh=>
   cases k with
   | zero=>simp [zDV]
   | succ k=>
    have:=ih hs k (by simpa using h) (by simpa using hh)
    simp only [zDV,List.zip_cons_cons,List.flatMap_cons] at this ⊢;rw [show (k + 1) * 2=k * 2 + 2 from by omega,show k * 2 + 2 + 1=(k * 2 + 1) + 2 from by omega,List.getElem?_append_right (by simp),List.getElem?_append_right (by simp)]
    simpa using this
structure RBd (rs:List zAB):Prop where
 len:rs.length≤9000
 bits:∀ r∈rs,(r.1.1 < 512∧r.1.2 < 512)∧r.2.1 < 512∧r.2.2 < 512
structure GV where
 vB:Value
 vR:Value
 hdrs:List Value
structure GRows (w:World) (bl:BL) (rs:List zAB) (v:GV):Prop where
 oB:w.ownsRow 0 111 2 v.vB bl.length (zDV bl v.hdrs)
 oR:w.ownsRow 0 149 4 v.vR rs.length (zCY rs)
 len:v.hdrs.length=bl.length
 row:∀ j (hj:j < bl.length),w.ownsRow 0 3 1 (v.hdrs[j]'(by omega)) bl[j].1.length (zu bl[j].1)
structure GameAt (w:World) (b:Nat) (t:TypeId) (bl:BL) (rs:List zAB) (g:GS) (v:GV):Prop where
 fb:w.heap[b]?=some (.cells #[v.vB,v.vR,.int .i64 (g.turn:Int),.int .i64 (g.vals.1:Int),.int .i64 (g.vals.2:Int)] t (0,0))
 tt:t=76∨t=79
 rows:GRows w bl rs v
theorem GRows.keep {T:Nat→Prop} {w w':World} {bl:BL} {rs:List zAB} {v:GV} (h:GRows w bl rs v) (ho:Only T w w') (hT:∀ k cs e,w.heap[k]?=some (.cells cs e (0,0))→e=111∨e=149∨(e=3∧∃ j,∃ hj:j < v.hdrs.length,v.hdrs[j].ownBlock=some k)→¬ T k):GRows w' bl rs v:=by
 have hl:=h.len;refine ⟨zY h.oB ho (fun k hk=>?_),zY h.oR ho (fun k hk=>?_),h.len,fun j hj=>zY (h.row j hj) ho (fun k hk=>?_)⟩
 ·obtain ⟨c,hc⟩:=zr h.oB k hk;exact hT k _ _ hc (Or.inl rfl)
 ·obtain ⟨c,hc⟩:=zr h.oR k hk;exact hT k _ _ hc (Or.inr (Or.inl rfl))
 ·obtain ⟨c,hc⟩:=zr (h.row j hj) k hk;exact hT k _ _ hc (Or.inr (Or.inr ⟨rfl,j,by omega,hk⟩))
theorem GRows.later {w w':World} {bl:BL} {rs:List zAB} {v:GV} (h:GRows w bl rs v) (hb:Below w.heap.size w w'):GRows w' bl rs v:=
 h.keep (T:=fun _=>False) (Only.of_below hb) (fun _ _ _ _ _ h=>h)
theorem GameAt.later {w w':World} {b:Nat} {t:TypeId} {bl:BL} {rs:List zAB} {g:GS} {v:GV} (h:GameAt w b t bl rs g v) (hb:Below w.heap.size w w'):GameAt w' b t bl rs g v:=
 ⟨(hb.block b (zB h.fb)).trans h.fb,h.tt,h.rows.later hb⟩
theorem GameAt.rest {w w':World} {b:Nat} {t:TypeId} {bl:BL} {rs:List zAB} {g:GS} {v:GV} (h:GameAt w b t bl rs g v) (ho:Only (·=b) w w'):GRows w' bl rs v:=
 h.rows.keep ho (fun k cs e hk ht hkb=>by
  subst hkb;have he:=zc hk h.fb
  rcases h.tt with h1 | h1<;>rcases ht with h2 | h2 | ⟨h2,_⟩<;>(rw [he,h1] at h2;revert h2;decide))
theorem zQy (r1 r2 t1 t2 v p n:Nat) (w:World) (hr:(r1 < 512∧r2 < 512)∧t1 < 512∧t2 < 512) (hp:p < 512∧n < 512) :
  Calls Tryz.prog 104 #[.agg #[.int .i64 (r1:Int),.int .i64 (r2:Int),.int .i64 (t1:Int),.int .i64 (t2:Int)],.int .i64 (v:Int),zAj (p,n)] w fun e w'=>e=.returned (.bool (zDB v (p,n) ((r1,r2),(t1,t2))))∧Below w.heap.size w w':=by
 have HF:Hid (zDB v (p,n) ((r1,r2),(t1,t2))=(zCz (zAz (r1,r2) (p,n)) && zs (t1,t2) v)):=zF rfl
 go_enter Tryz.func104,Tryz.ntmps104
 go_wp2_with fail;generalize hw0:((w.alloc (.cells #[.int .i64 (r1:Int),.int .i64 (r2:Int),.int .i64 (t1:Int),.int .i64 (t2:Int)] 149)).alloc (.cells #[.int .i64 (p:Int),.int .i64 (n:Int)] 74))=u1;have hB:Below w.heap.size w u1:=(by rw [← hw0];exact ((Below.refl _ _).alloc (Nat.le_refl _) _).alloc (by simp) _);have hru:u1.heap[w.heap.size]?=some (.cells #[.int .i64 (r1:Int),.int .i64 (r2:Int),.int .i64 (t1:Int),.int .i64 (t2:Int)] 149 (0,0)):=(by rw [← hw0,heap_alloc_old _ _ (by simp)];exact zP (by simp));have hva:u1.heap[w.heap.size + 1]?=some (.cells #[.int .i64 (p:Int),.int .i64 (n:Int)] 74 (0,0)):=(by rw [← hw0];exact zP (by simp));clear hw0;obtain ⟨cru0,cru1,cru2,cru3⟩:=zAi hru;have lru:=zB hru;obtain ⟨cva0,cva1⟩:=zJ hva;have lva:=zB hva;refine (zC5 r1 r2 p n _ hr.1.1 hr.1.2 hp.1 hp.2).mono ?_;rintro e u2 ⟨rfl,b2⟩;replace hB:=hB.trans (b2.mono hB.size);replace hru:=zH b2 hru;clear cru0 cru1 cru2 cru3;obtain ⟨cru0,cru1,cru2,cru3⟩:=zAi hru;replace lru:=zB hru;replace hva:=zH b2 hva;clear cva0 cva1;obtain ⟨cva0,cva1⟩:=zJ hva;replace lva:=zB hva;have hm:=zDe (r1,r2) (p,n) hr.1;generalize hea:zAz (r1,r2) (p,n)=c at *;clear hea;obtain ⟨d1,d2⟩:=c;dsimp only at hm;go_wp2_with fail;generalize hw0:u2.alloc (.cells #[.int .i64 (d1:Int),.int .i64 (d2:Int)] 74)=u3;have b3:Below u2.heap.size u2 u3:=(by rw [← hw0];exact (Below.refl _ _).alloc (Nat.le_refl _) _);have hop:u3.heap[u2.heap.size]?=some (.cells #[.int .i64 (d1:Int),.int .i64 (d2:Int)] 74 (0,0)):=(by rw [← hw0];exact heap_alloc_new _ _);clear hw0;replace hB:=hB.trans (b3.mono hB.size);replace hru:=zH b3 hru;clear cru0 cru1 cru2 cru3;obtain ⟨cru0,cru1,cru2,cru3⟩:=zAi hru;replace lru:=zB hru;replace hva:=zH b3 hva;clear cva0 cva1;obtain ⟨cva0,cva1⟩:=zJ hva;replace lva:=zB hva;obtain ⟨cop0,cop1⟩:=zJ hop;have lop:=zB hop;refine (zEh d1 d2 _ hm.1 hm.2).mono ?_;rintro e u4 ⟨rfl,b4⟩;replace hB:=hB.trans (b4.mono hB.size);replace hru:=zH b4 hru;clear cru0 cru1 cru2 cru3;obtain ⟨cru0,cru1,cru2,cru3⟩:=zAi hru;replace lru:=zB hru;replace hva:=zH b4 hva;clear cva0 cva1;obtain ⟨cva0,cva1⟩:=zJ hva;replace lva:=zB hva;replace hop:=zH b4 hop;clear cop0 cop1;obtain ⟨cop0,cop1⟩:=zJ hop;replace lop:=zB hop
 cases hem:(d1 ||| d2 == 0) with
 | false=>
  have HF2:Hid (zDB v (p,n) ((r1,r2),(t1,t2))=false):=zF (by rw [zA HF];show ((d1 ||| d2 == 0) && _)=_;rw [hem];rfl);go_wp2_with fail;go_ret;exact ⟨by rw [zA HF2];rfl,hB⟩
 | true=>
  have HF2:Hid (zDB v (p,n) ((r1,r2),(t1,t2))=((t1 ||| t2) &&& zAD (v:Int) != 0)):=zF (by rw [zA HF];show ((d1 ||| d2 == 0) && _)=_;rw [hem];rfl);go_wp2_with fail;refine (zEk t1 t2 v _ hr.2.1 hr.2.2).mono ?_;rintro e u9 ⟨rfl,b9⟩;go_wp2_with fail;go_ret;exact ⟨by rw [zA HF2];rfl,hB.trans (b9.mono hB.size)⟩
theorem zMH (rs:List zAB) (vals:Nat × Nat) (v k:Nat) (h:k < rs.length):zAx (rs.drop k) vals v=if zDB v vals rs[k] then zj rs[k].2 (v:Int) else zAx (rs.drop (k + 1)) vals v:=by
 unfold zAx;rw [List.drop_eq_getElem_cons h,List.find?_cons]
 cases zDB v vals rs[k]<;>rfl
theorem zM6 (b:Nat) (t:TypeId) (bl:BL) (rs:List zAB) (g:GS) (gv:GV) (v:Nat) (w:World) (hG:GameAt w b t bl rs g gv) (hR:RBd rs) (hp:g.vals.1 < 512∧g.vals.2 < 512) (hv:v≤8) :
  Calls Tryz.prog 77 #[.pointer (some ⟨b,0,none⟩),.int .i64 (v:Int)] w fun e w'=>e=.returned (.bool (zAx rs g.vals v))∧Below w.heap.size w w':=by
 obtain ⟨turn,p,n⟩:=g;have hbw:=zB hG.fb;obtain ⟨aR,cR,hRf⟩:=zN hG.rows.oR;have hoR:=hG.rows.oR;rw [hRf] at hoR;have k1:w.cell? ⟨b,1,none⟩=some (.slice aR rs.length cR):=(by rw [zC hG.fb];exact congrArg some hRf);have hrl:=hR.len
 go_enter Tryz.func77,Tryz.ntmps77
 go_wp2_with fail
 go_loopg [12] (rs.length) (fun m i wx=>∃ (k:Nat),i=.int .i64 k∧k + m=rs.length∧zAx rs (p,n) v=zAx (rs.drop k) (p,n) v∧Below w.heap.size w wx)
 case atStart=>exact ⟨0,rfl,by omega,rfl,Below.refl _ _⟩
 case round=>
  obtain ⟨k,rfl,hk,hwt,hb⟩:=hrel;have hGr:=hG.later hb;have lb:=zB hGr.fb;have m3:wr.cell? ⟨b,3,none⟩=some (.int .i64 (p:Int)):=zE hGr.fb rfl;have m4:wr.cell? ⟨b,4,none⟩=some (.int .i64 (n:Int)):=zE hGr.fb rfl
  by_cases hlt:k < rs.length
  ·have HW:Hid (zAx rs (p,n) v=if zDB v (p,n) rs[k] then zj rs[k].2 (v:Int) else zAx (rs.drop (k + 1)) (p,n) v):=zF (by rw [hwt];exact zMH rs (p,n) v k hlt);have hbd:=hR.bits _ (List.getElem_mem hlt);obtain ⟨g,cap,hVe,hg,hg',_,hcell⟩:=zS hoR (by omega);injection hVe with hVe _ hV2;subst hVe hV2;have hc:∀ j (hj:j < 4) u,[Value.int .i64 (rs[k].1.1:Int),Value.int .i64 (rs[k].1.2:Int),Value.int .i64 (rs[k].2.1:Int),Value.int .i64 (rs[k].2.2:Int)][j]?=some u→wr.cell? ⟨g,k * 4 + j,none⟩=some u:=fun j hj u hu=>by
    rw [hb.cell (p:=⟨g,k * 4 + j,none⟩) hg'];exact hcell _ _ (by rw [zKl rs k j hlt hj];exact hu)
   have hx0:wr.cell? ⟨g,k * 4,none⟩=some (.int .i64 (rs[k].1.1:Int)):=hc 0 (by omega) _ rfl;have hx1:wr.cell? ⟨g,k * 4 + 1,none⟩=some (.int .i64 (rs[k].1.2:Int)):=hc 1 (by omega) _ rfl;have hx2:wr.cell? ⟨g,k * 4 + 2,none⟩=some (.int .i64 (rs[k].2.1:Int)):=hc 2 (by omega) _ rfl;have hx3:wr.cell? ⟨g,k * 4 + 3,none⟩=some (.int .i64 (rs[k].2.2:Int)):=hc 3 (by omega) _ rfl;have hgw:g < wr.heap.size:=Nat.lt_of_lt_of_le hg' hb.size;clear hc hcell hwt;generalize rs[k]=r at *;obtain ⟨⟨r1,r2⟩,t1,t2⟩:=r;dsimp only at *;go_wp2_with fail;have hA:Below wr.heap.size wr (wr.alloc (.cells #[.int .i64 (r1:Int),.int .i64 (r2:Int),.int .i64 (t1:Int),.int .i64 (t2:Int)] 149)):=(Below.refl _ _).alloc (Nat.le_refl _) _;have hru:=heap_alloc_new wr (.cells #[.int .i64 (r1:Int),.int .i64 (r2:Int),.int .i64 (t1:Int),.int .i64 (t2:Int)] 149);have hGa:=hGr.later hA;have hBa:=hb.trans (hA.mono hb.size);generalize wr.alloc (.cells #[.int .i64 (r1:Int),.int .i64 (r2:Int),.int .i64 (t1:Int),.int .i64 (t2:Int)] 149)=wa at *;obtain ⟨cru0,cru1,cru2,cru3⟩:=zAi hru;have lru:=zB hru;have lba:=zB hGa.fb;have n3:wa.cell? ⟨b,3,none⟩=some (.int .i64 (p:Int)):=zE hGa.fb rfl;have n4:wa.cell? ⟨b,4,none⟩=some (.int .i64 (n:Int)):=zE hGa.fb rfl;obtain ⟨wo,rfl⟩:∃ wo,wo=wr:=⟨_,rfl⟩
   go_cut [22] (fun s22 wx=>s22=.bool (zDB v (p,n) ((r1,r2),(t1,t2)))∧Below wa.heap.size wa wx)
   case first=>
    go_region_with (go_at_call 104;refine (zQy r1 r2 t1 t2 v p n _ hbd hp).mono ?_;rintro e v1 ⟨rfl,y1⟩;have x1:Below wa.heap.size wa v1:=Below.trans (by first | exact Below.refl _ _ | exact (Below.refl _ _).drew) (y1.mono (by simp)))
    all_goals
     go_wp2_with fail
     go_meet
     exact ⟨rfl,x1⟩
   case rest=>
   obtain ⟨rfl,hbc⟩:=hcut;have hBc:=hBa.trans (hbc.mono hBa.size);have hru2:=zH hbc hru;have d0:wc.cell? ⟨wo.heap.size,0,none⟩=some (.int .i64 (r1:Int)):=zE hru2 rfl;have d1:wc.cell? ⟨wo.heap.size,1,none⟩=some (.int .i64 (r2:Int)):=zE hru2 rfl;have d2:wc.cell? ⟨wo.heap.size,2,none⟩=some (.int .i64 (t1:Int)):=zE hru2 rfl;have d3:wc.cell? ⟨wo.heap.size,3,none⟩=some (.int .i64 (t2:Int)):=zE hru2 rfl;have lru2:=zB hru2
   cases hft:zDB v (p,n) ((r1,r2),(t1,t2)) with
   | true=>
    have HW2:Hid (zAx rs (p,n) v=zj (t1,t2) (v:Int)):=zF (by rw [zA HW,hft];rfl);go_wp2_with fail;refine (zCw t1 t2 (v:Int) _ hbd.2.1 hbd.2.2 (by omega) (by omega)).mono ?_;rintro e w9 ⟨rfl,b9⟩;go_wp2_with fail;go_ret;exact ⟨by rw [zA HW2];rfl,hBc.trans (b9.mono hBc.size)⟩
   | false=>
    have HW2:Hid (zAx rs (p,n) v=zAx (rs.drop (k + 1)) (p,n) v):=zF (by rw [zA HW,hft];rfl);go_wp2_with fail
    go_roundg (gk - 1)
    case measure=>omega
    case rel=>exact ⟨k + 1,by go_num,by omega,zA HW2,hBc⟩
  ·have hkl:k=rs.length:=(by omega);subst hkl;have HW:Hid (zAx rs (p,n) v=false):=zF (by rw [hwt,List.drop_length];rfl);clear hwt;go_wp2_with fail;go_ret;exact ⟨by rw [zA HW];rfl,hb⟩
theorem zOJ (b:Nat) (t:TypeId) (bl:BL) (rs:List zAB) (g:GS) (gv:GV) (v:Nat) (x:Bool) (w:World) (hG:GameAt w b t bl rs g gv) (hp:g.vals.1 < 512∧g.vals.2 < 512) (hv:v≤8) :
  Calls Tryz.prog 78 #[.pointer (some ⟨b,0,none⟩),.int .i64 (v:Int),.bool x] w fun e w'=>e=.returned (.tuple #[])∧GameAt w' b t bl rs ⟨g.turn,zIq g.vals v x⟩ gv∧Only (·=b) w w':=by
 obtain ⟨turn,p,n⟩:=g;dsimp only at hp;have lb:=zB hG.fb;have m3:w.cell? ⟨b,3,none⟩=some (.int .i64 (p:Int)):=zE hG.fb rfl;have m4:w.cell? ⟨b,4,none⟩=some (.int .i64 (n:Int)):=zE hG.fb rfl;have hwn:IntKind.i64.wrap (-(v:Int))=-(v:Int):=zDg v hv;have HS:Hid (zIq (p,n) v x=zQ (p,n) (zAF v x)):=zF rfl
 go_enter Tryz.func78,Tryz.ntmps78
 cases x with
 | true=>
  have HS2:Hid (zIq (p,n) v true=zQ (p,n) ((v:Int))):=zF rfl;go_wp2_with fail;refine (zCH p n ((v:Int)) _ hp.1 hp.2 (by omega) (by omega)).mono ?_;rintro e w1 ⟨rfl,hb1⟩;have hG1:=hG.later hb1;have lb1:=zB hG1.fb;have k3:w1.cell? ⟨b,3,none⟩=some (.int .i64 (p:Int)):=zE hG1.fb rfl;have k4:w1.cell? ⟨b,4,none⟩=some (.int .i64 (n:Int)):=zE hG1.fb rfl;have z3:=zD hG1.fb 3;have z4:=zD hG1.fb 4;generalize zQ (p,n) ((v:Int))=c at *;obtain ⟨d1,d2⟩:=c;go_wp2_with fail
  go_end0
  have ho:Only (·=b) w1 ((w1.setCell ⟨b,3,none⟩ (.int .i64 (d1:Int))).setCell ⟨b,4,none⟩ (.int .i64 (d2:Int))):=((Only.refl (·=b) w1).setCell (p:=⟨b,3,none⟩) (Or.inl rfl) _).setCell (p:=⟨b,4,none⟩) (Or.inl rfl) _;refine ⟨rfl,⟨?_,hG.tt,hG1.rest ho⟩,(Only.of_below hb1).trans ho⟩;rw [zA HS2];exact zI (zI hG1.fb 3 _) 4 _
 | false=>
  have HS2:Hid (zIq (p,n) v false=zQ (p,n) (-(v:Int))):=zF rfl;go_wp2_with fail;refine (zCH p n (-(v:Int)) _ hp.1 hp.2 (by omega) (by omega)).mono ?_;rintro e w1 ⟨rfl,hb1⟩;have hG1:=hG.later hb1;have lb1:=zB hG1.fb;have k3:w1.cell? ⟨b,3,none⟩=some (.int .i64 (p:Int)):=zE hG1.fb rfl;have k4:w1.cell? ⟨b,4,none⟩=some (.int .i64 (n:Int)):=zE hG1.fb rfl;have z3:=zD hG1.fb 3;have z4:=zD hG1.fb 4;generalize zQ (p,n) (-(v:Int))=c at *;obtain ⟨d1,d2⟩:=c;go_wp2_with fail
  go_end0
  have ho:Only (·=b) w1 ((w1.setCell ⟨b,3,none⟩ (.int .i64 (d1:Int))).setCell ⟨b,4,none⟩ (.int .i64 (d2:Int))):=((Only.refl (·=b) w1).setCell (p:=⟨b,3,none⟩) (Or.inl rfl) _).setCell (p:=⟨b,4,none⟩) (Or.inl rfl) _;refine ⟨rfl,⟨?_,hG.tt,hG1.rest ho⟩,(Only.of_below hb1).trans ho⟩;rw [zA HS2];exact zI (zI hG1.fb 3 _) 4 _
structure BBd (bl:BL):Prop where
 len:bl.length≤8
 row:∀ x∈bl,x.1.length≤8∧∀ v∈x.1,1≤v∧v≤8
theorem zIV (b:Nat) (t:TypeId) (bl:BL) (rs:List zAB) (g:GS) (gv:GV) (w:World) (hG:GameAt w b t bl rs g gv) (hR:RBd rs) (hB:BBd bl) (hp:g.vals.1 < 512∧g.vals.2 < 512) (ht:g.turn≤bl.length) :
  Calls Tryz.prog 51 #[.pointer (some ⟨b,0,none⟩)] w fun e w'=>e=.returned (.tuple #[])∧GameAt w' b t bl rs (zEM rs bl g) gv∧Only (·=b) w w':=by
 have lb:=zB hG.fb;have hbl:=hB.len
 go_enter Tryz.func51,Tryz.ntmps51
 go_wp2_with fail;have HB:=zF hB;clear hB
 go_loopg [] (bl.length + 1 - g.turn) (fun m wx=>∃ (g':GS),g'.turn≤bl.length∧m + g'.turn=bl.length + 1∧(g'.vals.1 < 512∧g'.vals.2 < 512)∧zEM rs bl g=zEM rs bl g'∧GameAt wx b t bl rs g' gv∧Only (·=b) w wx)
 case atStart=>exact ⟨g,ht,by omega,hp,rfl,hG,Only.refl _ _⟩
 case round=>
  obtain ⟨⟨turn,p,n⟩,hle,hm,hlt,hans,hGr,ho⟩:=hrel;dsimp only at hle hm hlt;have HA:=zF hans;clear hans;have lbr:=zB hGr.fb;obtain ⟨aB,cB,hBf⟩:=zN hGr.rows.oB;have c0:wr.cell? ⟨b,0,none⟩=some (.slice aB bl.length cB):=(by rw [zC hGr.fb];exact congrArg some hBf);have c2:wr.cell? ⟨b,2,none⟩=some (.int .i64 (turn:Int)):=zE hGr.fb rfl
  by_cases hl:turn < bl.length
  ·have hd1:decide ((turn:Int) < (bl.length:Int))=true:=decide_eq_true (by omega);have hd2:decide (turn < bl.length)=true:=decide_eq_true hl;have hhl:turn < gv.hdrs.length:=(by rw [hGr.rows.len];exact hl);obtain ⟨e0,e1⟩:=zIS bl gv.hdrs turn hl hhl;have hoB:=hGr.rows.oB;rw [hBf] at hoB;obtain ⟨gB,cap,hVe,hg,hg',_,hcell⟩:=zS hoB (by omega);injection hVe with hVe _ hV2;subst hVe hV2;have hx0:=hcell _ _ e0;have hx1:=hcell _ _ e1;have hrow:=hGr.rows.row turn hl;obtain ⟨aX,cX,hXf⟩:=zN hrow;rw [hXf] at hx0;have HAG:Hid (bl[turn].2=true→zEM rs bl ⟨turn,(p,n)⟩=zEM rs bl ⟨turn + 1,zDF rs bl[turn].1 (p,n)⟩):=zF (fun h=>by
    unfold zEM;rw [show bl.length - (GS.mk turn (p,n)).turn=(bl.length - (turn + 1)) + 1 from by show bl.length - turn=_;omega,zE7];rw [show bl.getD (GS.mk turn (p,n)).turn ([],false)=bl[turn] from by simp [List.getD,hl],if_pos h])
   have HAS:Hid (bl[turn].2=false→zEM rs bl ⟨turn,(p,n)⟩=⟨turn,(p,n)⟩):=zF (fun h=>by
    unfold zEM;rw [show bl.length - (GS.mk turn (p,n)).turn=(bl.length - (turn + 1)) + 1 from by show bl.length - turn=_;omega,zE7];rw [show bl.getD (GS.mk turn (p,n)).turn ([],false)=bl[turn] from by simp [List.getD,hl],if_neg (by rw [h];decide)])
   have hbd:=(zA HB).row _ (List.getElem_mem hl);have HRW:=zF hrow;clear hcell e0 e1 hrow hoB
   cases hw:bl[turn].2 with
   | true=>
    rw [hw] at hx1;have HF:Hid (zEM rs bl g=zEM rs bl ⟨turn + 1,zDF rs bl[turn].1 (p,n)⟩):=zF (by rw [zA HA];exact zA HAG hw);go_wp2_with fail
    go_quiet (fail)
    have b1:Below wr.heap.size wr (wr.drewN nq):=below_drewN (Below.refl _ _) nq;have hG1:=hGr.later b1;have ho1:Only (·=b) w (wr.drewN nq):=ho.trans (Only.of_below b1);have hgw:gB < (wr.drewN nq).heap.size:=Nat.lt_of_lt_of_le hg' b1.size;replace hx0:(wr.drewN nq).cell? ⟨gB,turn * 2,none⟩=_:=(b1.cell (p:=⟨gB,turn * 2,none⟩) hg').trans hx0;replace c0:(wr.drewN nq).cell? ⟨b,0,none⟩=_:=(b1.cell (p:=⟨b,0,none⟩) lbr).trans c0;replace c2:(wr.drewN nq).cell? ⟨b,2,none⟩=_:=(b1.cell (p:=⟨b,2,none⟩) lbr).trans c2;generalize wr.drewN nq=w1 at *;have lb1:=zB hG1.fb;clear hx1;go_wp2_with fail
    go_quiet (fail)
    have b2:Below w1.heap.size w1 (w1.drewN nq):=below_drewN (Below.refl _ _) nq;have hG2:=hG1.later b2;have ho2:Only (·=b) w (w1.drewN nq):=ho1.trans (Only.of_below b2);generalize w1.drewN nq=w2 at *;clear hG1 ho1 b2 b1 hgw lb1 hx0 c0 c2;go_wp2_with fail;obtain ⟨wo,rfl⟩:∃ wo,wo=wr:=⟨_,rfl⟩;obtain ⟨gko,rfl⟩:∃ x,x=gk:=⟨_,rfl⟩;obtain ⟨row,hrow⟩:∃ row,bl[turn].1=row:=⟨_,rfl⟩;rw [hrow] at hbd HF ⊢;have HRO:=zF hrow;clear hrow HAG HAS
    go_loopg [40] (row.length) (fun m i wx=>∃ (k:Nat) (vals:Nat × Nat),i=.int .i64 k∧k + m=row.length∧(vals.1 < 512∧vals.2 < 512)∧zDF rs row (p,n)=zDF rs (row.drop k) vals∧GameAt wx b t bl rs ⟨turn,vals⟩ gv∧Only (·=b) w wx)
    case atStart=>exact ⟨0,(p,n),rfl,by omega,hlt,rfl,hG2,ho2⟩
    case round=>
     obtain ⟨k,vals,rfl,hk,hv9,hab,hG3,ho3⟩:=hrel;have HAB:=zF hab;clear hab;have lb3:=zB hG3.fb
     by_cases hkl:k < row.length
     ·have hr3:=hG3.rows.row turn hl;rw [hXf] at hr3;have hvv:=hbd.2 _ (List.getElem_mem hkl);have hlen:bl[turn].1.length=row.length:=(by rw [zA HRO]);obtain ⟨gX,cap,hVe,hgx,hgx',_,hcell⟩:=zS hr3 (by omega);injection hVe with hVe hV1 hV2;subst hVe hV2;have hxk:wr.cell? ⟨gX,k,none⟩=some (.int .i64 (row[k]:Int)):=hcell _ _ (by rw [zA HRO];simp [zu,hkl]);have HST:Hid (zDF rs (row.drop k) vals=zDF rs (row.drop (k + 1)) (zIq vals row[k] (zAx rs vals row[k]))):=zF (by rw [List.drop_eq_getElem_cons hkl];rfl);clear hcell hr3;generalize row[k]=v at *;go_wp2_with fail;refine (zM6 b t bl rs ⟨turn,vals⟩ gv v _ hG3 hR hv9 hvv.2).mono ?_;rintro e w4 ⟨rfl,hb4⟩;have hG4:=hG3.later hb4;have ho4:=ho3.trans (Only.of_below hb4);dsimp only;generalize zAx rs vals v=wx at *;go_wp2_with fail;refine (zOJ b t bl rs ⟨turn,vals⟩ gv v wx _ hG4 hv9 hvv.2).mono ?_;rintro e w5 ⟨rfl,hG5,ho5⟩;have hv5:=zAZ vals (zAF v wx) hv9.1 hv9.2;go_wp2_with fail
      go_roundg (gk - 1)
      case measure=>omega
      case rel=>exact ⟨k + 1,zIq vals v wx,by go_num,by omega,hv5,by rw [zA HAB,zA HST],hG5,ho4.trans ho5⟩
     ·have hke:k=row.length:=(by omega);have HE:Hid (zDF rs row (p,n)=vals):=zF (by rw [zA HAB,hke,List.drop_length];rfl);have d2:wr.cell? ⟨b,2,none⟩=some (.int .i64 (turn:Int)):=zE hG3.fb rfl;have z2:=zD hG3.fb 2;have hdk:decide ((k:Int) < (row.length:Int))=false:=decide_eq_false (by omega);have ho6:Only (·=b) wr (wr.setCell ⟨b,2,none⟩ (.int .i64 ((turn:Int) + 1))):=(Only.refl (·=b) wr).setCell (p:=⟨b,2,none⟩) (Or.inl rfl) _;have hG6:GameAt (wr.setCell ⟨b,2,none⟩ (.int .i64 ((turn:Int) + 1))) b t bl rs ⟨turn + 1,vals⟩ gv:=⟨zI hG3.fb 2 _,hG3.tt,hG3.rest ho6⟩;have ho7:=ho3.trans ho6;have HG6:=zF hG6;have HO7:=zF ho7;clear hG6 ho6 ho7;go_wp2_with fail
      go_roundg (gko - 1)
      case measure=>omega
      case rel=>exact ⟨⟨turn + 1,vals⟩,by show turn + 1≤_;omega,by show _ + (turn + 1)=_;omega,hv9,by rw [zA HF,zA HE],zA HG6,zA HO7⟩
   | false=>
    rw [hw] at hx1;have HF:Hid (zEM rs bl g=⟨turn,(p,n)⟩):=zF (by rw [zA HA];exact zA HAS hw);go_wp2_with fail
    go_quiet (fail)
    have b1:Below wr.heap.size wr (wr.drewN nq):=below_drewN (Below.refl _ _) nq;have hG1:=hGr.later b1;have ho1:Only (·=b) w (wr.drewN nq):=ho.trans (Only.of_below b1);generalize wr.drewN nq=w1 at *;go_wp2_with fail
    go_end0
    exact ⟨rfl,by rw [zA HF];exact hG1,ho1⟩
  ·have hd1:decide ((turn:Int) < (bl.length:Int))=false:=decide_eq_false (by omega);have hd2:decide (turn < bl.length)=false:=decide_eq_false hl;have HF:Hid (zEM rs bl g=⟨turn,(p,n)⟩):=zF (by
    rw [zA HA];unfold zEM;rw [show bl.length - (GS.mk turn (p,n)).turn=0 from by show bl.length - turn=_;omega,zE7])
   go_wp2_with fail
   go_quiet (fail)
   have b1:Below wr.heap.size wr (wr.drewN nq):=below_drewN (Below.refl _ _) nq;have hG1:=hGr.later b1;have ho1:Only (·=b) w (wr.drewN nq):=ho.trans (Only.of_below b1);generalize wr.drewN nq=w1 at *;go_wp2_with fail
   go_end0
   exact ⟨rfl,by rw [zA HF];exact hG1,ho1⟩
def zBC (c:Nat × Nat) (v:Nat):Int:=if L c false v then -1 else if L c true v then 1 else 0
theorem zK1 {q:QS} (hq:QGood q) {kind:Nat} {rs:List zAB} {g:GS} {bs:List Bool} (h:Run q kind rs g bs) (s:Bool) (v:Nat):L g.vals s v=true↔∃ j,∃ hj:j < q.vars.length,j < bs.length∧q.vars[j].1=v∧bs.reverse.getD j false=s:=by
 have hle:bs.length≤q.vars.length:=by
  rw [h.len];have:=zN9 (zG q.vars) g.turn;rw [zAA,List.length_map] at this;exact this
 rw [h.vals,zIr _ (fun v hv=>hq.name hv) bs (by simpa using hle)]
 constructor
 ·rintro ⟨j,h1,h2,h3⟩;have hj:j < q.vars.length:=(by omega);exact ⟨j,hj,h1,by rw [← zFd j hj];exact h2,h3⟩
 ·rintro ⟨j,hj,h1,h2,h3⟩;exact ⟨j,h1,by rw [zFd j hj];exact h2,h3⟩
theorem zKp {q:QS} (hq:QGood q) {i j:Nat} (hi:i < q.vars.length) (hj:j < q.vars.length) (e:q.vars[i].1=q.vars[j].1):i=j:=zFh hq hi hj e
theorem zGO {q:QS} (hq:QGood q) {kind:Nat} {rs:List zAB} {g:GS} {bs:List Bool} (h:Run q kind rs g bs) {j:Nat} (hj:j < q.vars.length) (hb:j < bs.length):zBC g.vals q.vars[j].1=if bs.reverse.getD j false then 1 else -1:=by
 have hone:∀ s,L g.vals s q.vars[j].1=true↔bs.reverse.getD j false=s:=fun s=>by
  rw [zK1 hq h]
  constructor
  ·rintro ⟨i,hi,_,h2,h3⟩;rw [zKp hq hi hj h2] at h3;exact h3
  ·intro e;exact ⟨j,hj,hb,rfl,e⟩
 unfold zBC
 cases e:bs.reverse.getD j false with
 | true=>
  have h1:=(hone true).2 e;have h0:L g.vals false q.vars[j].1=false:=by
   cases hc:L g.vals false q.vars[j].1 with
   | false=>rfl
   | true=>have:=(hone false).1 hc;rw [e] at this;cases this
  rw [h0,h1];rfl
 | false=>
  have h1:=(hone false).2 e;rw [h1];rfl
theorem zID {q:QS} (hq:QGood q) {kind:Nat} {rs:List zAB} {g:GS} {bs:List Bool} (h:Run q kind rs g bs) {v:Nat} (hv:∀ j (hj:j < q.vars.length),j < bs.length→q.vars[j].1≠v):zBC g.vals v=0:=by
 have:∀ s,L g.vals s v=false:=fun s=>by
  cases hc:L g.vals s v with
  | false=>rfl
  | true=>
   obtain ⟨j,hj,h1,h2,_⟩:=(zK1 hq h s v).1 hc;exact absurd h2 (hv j hj h1)
 unfold zBC;rw [this,this];rfl
theorem zQr {q:QS} (hq:QGood q) {kind:Nat} {rs:List zAB} {g g':GS} {bs b2:List Bool} (h:Run q kind rs g bs) (h':Run q kind rs g' (b2 ++ bs)) (v:Nat):zBC g.vals v=0∨zBC g'.vals v=zBC g.vals v:=by
 by_cases e:∃ j,∃ hj:j < q.vars.length,j < bs.length∧q.vars[j].1=v
 ·obtain ⟨j,hj,h1,rfl⟩:=e;refine Or.inr ?_;rw [zGO hq h hj h1,zGO hq h' hj (by simp;omega),List.reverse_append,List.getD,List.getD,List.getElem?_append_left (by simpa using h1)]
 ·exact Or.inl (zID hq h (fun j hj h1 h2=>e ⟨j,hj,h1,h2⟩))
theorem zLF {q:QS} (hq:QGood q) {kind:Nat} (hk:kind=1∨kind=2) {rs:List zAB} {g:GS} {bs:List Bool} (h:Run q kind rs g bs) (hs:zHJ q kind g) (ht:g.turn < (zG q.vars).length) (bits:Nat) :
  ∃ b2,Run q kind rs (zAh rs (blW q kind) g bits) (b2 ++ bs)∧zHJ q kind (zAh rs (blW q kind) g bits)∧g.turn + 1≤(zAh rs (blW q kind) g bits).turn∧
   (∀ j (hj:j < (zG q.vars).length),g.turn + 1≤j→j < (zAh rs (blW q kind) g bits).turn→zBq q kind (zG q.vars)[j]=true)∧
   ∀ i (hi:i < (zG q.vars)[g.turn].length),zBC (zAh rs (blW q kind) g bits).vals (zG q.vars)[g.turn][i]=if bits.testBit i then 1 else -1:=by
 obtain ⟨b1,h1,h2,h3⟩:=zOl hq hk ht (hs.lose ht) bits (zG q.vars)[g.turn].length 0 g.vals bs (by omega) h.part;rw [List.drop_zero] at h1;obtain ⟨b2,r1,r2,r3,r4⟩:=zOK hq hk ((blW q kind).length - (g.turn + 1)) ⟨g.turn + 1,_⟩ _ (by show g.turn + 1 + _=_;rw [zBB];omega) (h1.done ht);have e:zAh rs (blW q kind) g bits=zE7 rs (blW q kind) ((blW q kind).length - (g.turn + 1)) ⟨g.turn + 1,zCr (zG q.vars)[g.turn] bits 0 g.vals⟩:=by
  unfold zAh zEM;rw [zHN q kind _ ht]
 rw [e];refine ⟨b2 ++ b1,by rw [List.append_assoc];exact r1,r2,r3,r4,fun i hi=>?_⟩;have hlt:=zFi g.turn i ht hi;have hx:(q.vars[zCh (zG q.vars) g.turn + i]'hlt).1=(zG q.vars)[g.turn][i]:=(by rw [← zFd _ hlt];exact zGZ g.turn i ht hi);have hl:=h.len;rw [← hx,zGO hq r1 hlt (by simp;omega)];rw [← List.append_assoc,List.reverse_append,List.getD,List.getElem?_append_right (by simp;omega)];have h4:=h3 i hi;rw [Nat.zero_add] at h4;rw [← h4,List.getD,show zCh (zG q.vars) g.turn + i - bs.reverse.length=i from by simp;omega,List.reverse_append,List.getElem?_append_left (by simp;omega)]
theorem zLX {q:QS} (hq:QGood q) {kind:Nat} (hk:kind=1∨kind=2) (ss:List Stp) :
  ∃ bs,Run q kind (zAQ kind ss) (zBO q kind ss) bs∧zHJ q kind (zBO q kind ss)∧∀ j (hj:j < (zG q.vars).length),j < (zBO q kind ss).turn→zBq q kind (zG q.vars)[j]=true:=by
 obtain ⟨b2,r1,r2,_,r4⟩:=zOK hq hk (rs:=zAQ kind ss) (blW q kind).length ⟨0,(0,0)⟩ [] (by show 0 + _=_;rw [zBB];omega) (zQT q kind _);exact ⟨b2 ++ [],r1,r2,fun j hj h=>r4 j hj (Nat.zero_le _) h⟩
theorem zIv {ss:List Stp} (h:zCs (ze ss)=true) (kind:Nat) (V:Nat × Nat):∃ i,∃ hi:i < ss.length,zO3 kind V ss[i].lits:=by
 rw [zHY,Bool.and_eq_true] at h;obtain ⟨h1,h2⟩:=h;have hp:0 < ss.length:=(by simpa using h1);obtain ⟨m,hm⟩:∃ m,ss.length=m + 1:=⟨ss.length - 1,by omega⟩;have e1:zM ss ss.length=(ss[m]'(by omega)).lits:=(by have h5:=zBU ss m (by omega);rwa [← hm] at h5);rw [e1] at h2;refine ⟨m,by omega,fun s v hl=>?_⟩;have he:zCz (ss[m]'(by omega)).lits=true:=h2;rw [(zDp _).1 he s v] at hl
 cases hl
theorem zSC {q:QS} (hq:QGood q) {kind:Nat} (hk:kind=1∨kind=2) {ss:List Stp} (hs:zNm q kind ss) (hc:zCs (ze ss)=true) {g:GS} {bs:List Bool} (h:Run q kind (zAQ kind ss) g bs) (ht:g.turn=(zG q.vars).length):zOA q kind g.vals:=by
 have hl:bs.length=q.vars.length:=(by rw [h.len,ht,zIG,zAA,List.length_map]);obtain ⟨i,hi,hh⟩:=zIv hc kind g.vals;rw [h.vals] at hh ⊢;exact zRB hq hk hs hl h.keeps i hi hh
theorem zLg {q:QS} (hq:QGood q) {kind:Nat} {rs:List zAB} {g:GS} {bs:List Bool} (h:Run q kind rs g bs) {v:Nat} (h0:L g.vals false v=true):L g.vals true v=false:=by
 cases hc:L g.vals true v with
 | false=>rfl
 | true=>
  obtain ⟨i,hi,_,i2,i3⟩:=(zK1 hq h _ _).1 h0;obtain ⟨j,hj,_,j2,j3⟩:=(zK1 hq h _ _).1 hc;rw [zKp hq hi hj (i2.trans j2.symm),j3] at i3
  cases i3
theorem zRv {q:QS} (hq:QGood q) {kind:Nat} {rs:List zAB} {g:GS} {bs:List Bool} (h:Run q kind rs g bs) (hw:zOA q kind g.vals):zBI q.cl g.vals.1=(kind == 2):=by
 rcases hw with ⟨rfl,c,hc,_,hh⟩ | ⟨rfl,c,hc,hh⟩
 ·show zBI q.cl g.vals.1=false
  cases hs:zBI q.cl g.vals.1 with
  | false=>rfl
  | true=>
   obtain ⟨v,⟨h1,h2⟩ | ⟨h1,h2⟩⟩:=(zLs _ _).1 ((zMA _ _).1 hs c hc)
   ·have:=zLg hq h (hh true v h1)
    rw [show L g.vals true v=g.vals.1.testBit v from rfl,h2] at this;cases this
   ·have:g.vals.1.testBit v=true:=hh false v h1
    rw [h2] at this;cases this
 ·show zBI q.cl g.vals.1=true;rw [zMA];intro x hx;unfold zCD at hc;have ho:=List.all_eq_true.1 hc x hx;unfold okC at ho;rw [Bool.or_eq_true] at ho;rw [zLs]
  rcases ho with ho | ho
  ·obtain ⟨s,v,h1,h2⟩:=(zCB x c).1 ho;have h3:L g.vals s v=true:=hh s v h2
   cases s with
   | true=>exact ⟨v,Or.inl ⟨h1,h3⟩⟩
   | false=>exact ⟨v,Or.inr ⟨h1,zLg hq h h3⟩⟩
  ·obtain ⟨v,h1,h2⟩:=(zJo x).1 ho
   cases hb:g.vals.1.testBit v with
   | true=>exact ⟨v,Or.inl ⟨h1,hb⟩⟩
   | false=>exact ⟨v,Or.inr ⟨h2,hb⟩⟩
theorem zQK {F:zv} {q:QS} (h:FQ F q) (hb:QB q):QGood q:=
 ⟨hb,h.nodup,fun c hc s v hl=>by
  rw [← h.order];refine h.vars c hc v ?_
  cases s with
  | true=>exact Or.inl hl
  | false=>exact Or.inr hl⟩
theorem zQA {F:zv} {q:QS} (h:FQ F q) (hF:FOk F) {l:List UInt8} {kind:Nat} {ss:List Stp} (hr:zA1 q l=.inr (kind,ze ss)) (ht:Tags q kind ss) (hb:SBs ss) :
  zNm q kind ss∧zCs (ze ss)=true∧∃ truth two,zw F l=.inr (truth,two)∧kind=kd truth:=by
 unfold zA1 at hr
 by_cases hl:262144 < l.length
 ·rw [if_pos hl] at hr;cases hr
 ·rw [if_neg hl] at hr
  cases hrows:(zU 10 l).1 with
  | nil=>rw [hrows] at hr;cases hr
  | cons r0 rs=>
   rw [hrows] at hr;unfold zGA at hr;dsimp only at hr
   by_cases hr0:r0=zA4∨r0=zCS
   ·rw [if_pos hr0] at hr;have hk:zFK r0=kd (r0 == zA4):=by
     unfold zFK kd
     by_cases e:r0=zA4
     ·rw [if_pos e,if_pos (by simpa using e)]
     ·rw [if_neg e,if_neg (by simpa using e)]
    unfold goQ at hr;rw [hk,zMC h hF (r0 == zA4) rs [] 1 (by simp) (by simp) (by simp)] at hr
    cases hrr:zC3 F (r0 == zA4) [] 1 rs with
    | inr i=>rw [hrr] at hr;cases hr
    | inl s2=>
     rw [hrr] at hr;dsimp only at hr
     split at hr
     ·next hc=>
      injection hr with hr;injection hr with e1 e2;subst e2;have hg:=zJP hF (r0 == zA4) rs [] 1 _ (by simp) hrr;have hmem:∀ s∈ss,s.lits∈ze ss:=fun s hs=>List.mem_map_of_mem hs
      refine ⟨⟨ht,fun s hs=>⟨hb.bits s hs,fun t v hv=>?_⟩,fun s hs v a b=>(hg _ (hmem s hs)).apart v a b⟩,hc.2,r0 == zA4,zJ0 rs,?_,e1.symm⟩
      ·rw [← h.order];refine (hg _ (hmem s hs)).vars v ?_
       cases t with
       | true=>exact Or.inl hv
       | false=>exact Or.inr hv
      ·unfold zw;rw [if_neg hl,hrows];dsimp only;rw [if_pos hr0,hrr];dsimp only;rw [if_pos ⟨by simpa using hc.1,hc.2⟩]
     ·cases hr
   ·rw [if_neg hr0] at hr;cases hr
def zBv (bl:BL) (g:GS) (bits:Int):Nat:=if bl.length≤g.turn then 7 else if bits < 0∨(2:Int) ^ (bl.getD g.turn ([],false)).1.length≤bits then 6 else 0
def zC2 (rs:List zAB) (bl:BL) (g:GS) (bits:Int):GS:=if zBv bl g bits=0 then zAh rs bl g bits.toNat else g
theorem zH6 (k:Nat) (h:k≤8):(2:Int) ^ k≤256:=by
 have:∀ k:Fin 9,(2:Int) ^ k.val≤256:=by decide
 exact this ⟨k,by omega⟩
theorem zG3 (k:Nat) (h:k≤8):wrap64 (2 ^ k)=(2:Int) ^ k:=by
 have h1:=zH6 k h;have h0:(0:Int)≤(2:Int) ^ k:=by
  have:∀ k:Fin 9,(0:Int)≤(2:Int) ^ k.val:=by decide
  exact this ⟨k,by omega⟩
 exact IntWalk.wrap64_in _ ⟨by omega,by omega⟩
theorem zKG (row:List Nat) (bits k:Nat) (vals:Nat × Nat) (h:k < row.length):zCr (row.drop k) bits k vals=zCr (row.drop (k + 1)) bits (k + 1) (zIq vals row[k] (bits.testBit k)):=by
 rw [List.drop_eq_getElem_cons h,zCr]
theorem zPy (b:Nat) (t:TypeId) (bl:BL) (rs:List zAB) (g:GS) (gv:GV) (bits:Int) (w:World) (hG:GameAt w b t bl rs g gv) (hR:RBd rs) (hB:BBd bl) (hp:g.vals.1 < 512∧g.vals.2 < 512) (ht:g.turn≤bl.length) (hbi:zE8 bits) :
  Calls Tryz.prog 83 #[.pointer (some ⟨b,0,none⟩),.int .i64 bits] w fun e w'=>e=.returned (.int .i64 (zBv bl g bits:Nat))∧GameAt w' b t bl rs (zC2 rs bl g bits) gv∧Only (·=b) w w':=by
 obtain ⟨turn,p,n⟩:=g;dsimp only at ht hp;have lb:=zB hG.fb;have hbl:=hB.len;obtain ⟨aB,cB,hBf⟩:=zN hG.rows.oB;have c0:w.cell? ⟨b,0,none⟩=some (.slice aB bl.length cB):=(by rw [zC hG.fb];exact congrArg some hBf);have c2:w.cell? ⟨b,2,none⟩=some (.int .i64 (turn:Int)):=zE hG.fb rfl
 by_cases hl:turn < bl.length
 ·have hd1:decide ((bl.length:Int)≤(turn:Int))=false:=decide_eq_false (by omega);have hd2:decide (bl.length≤turn)=false:=decide_eq_false (by omega);have hhl:turn < gv.hdrs.length:=(by rw [hG.rows.len];exact hl);obtain ⟨e0,e1⟩:=zIS bl gv.hdrs turn hl hhl;have hoB:=hG.rows.oB;rw [hBf] at hoB;obtain ⟨gB,cap,hVe,hg,hg',_,hcell⟩:=zS hoB (by omega);injection hVe with hVe _ hV2;subst hVe hV2;have hx0:=hcell _ _ e0;have hrow:=hG.rows.row turn hl;obtain ⟨aX,cX,hXf⟩:=zN hrow;rw [hXf] at hx0;clear hcell e0 e1
  go_enter Tryz.func83,Tryz.ntmps83
  go_wp2_with fail
  go_quiet (fail)
  have b1:Below w.heap.size w (w.drewN nq):=below_drewN (Below.refl _ _) nq;have hG1:=hG.later b1;replace hx0:(w.drewN nq).cell? ⟨gB,turn * 2,none⟩=_:=(b1.cell (p:=⟨gB,turn * 2,none⟩) hg').trans hx0;replace c0:(w.drewN nq).cell? ⟨b,0,none⟩=_:=(b1.cell (p:=⟨b,0,none⟩) lb).trans c0;replace c2:(w.drewN nq).cell? ⟨b,2,none⟩=_:=(b1.cell (p:=⟨b,2,none⟩) lb).trans c2;have hgw:gB < (w.drewN nq).heap.size:=Nat.lt_of_lt_of_le hg' b1.size;generalize w.drewN nq=w1 at *;have lb1:=zB hG1.fb;go_wp2_with fail
  go_quiet (fail)
  have b2:Below w1.heap.size w1 (w1.drewN nq):=below_drewN (Below.refl _ _) nq;have hG2:=hG1.later b2;have hb2:Below w.heap.size w (w1.drewN nq):=b1.trans (b2.mono b1.size);generalize w1.drewN nq=w2 at *;clear hG1 b2 b1 hgw lb1 hx0 c0 c2;have lb2:=zB hG2.fb;have hbd:=hB.row _ (List.getElem_mem hl);obtain ⟨row,hro⟩:∃ row,bl[turn].1=row:=⟨_,rfl⟩;have hrg:(bl.getD turn ([],false)).1=row:=(by rw [← hro];simp [List.getD,hl]);have HMG:Hid (zBv bl ⟨turn,(p,n)⟩ bits=if bits < 0∨(2:Int) ^ row.length≤bits then 6 else 0):=zF (by
   unfold zBv;rw [if_neg (by show ¬ bl.length≤turn;omega)];rw [← hrg])
  have HMW:Hid (zAh rs bl ⟨turn,(p,n)⟩ bits.toNat=zEM rs bl ⟨turn + 1,zCr row bits.toNat 0 (p,n)⟩):=zF (by unfold zAh;rw [← hrg]);rw [hro] at hbd ⊢;have HRO:=zF hro;clear hro hrg;have hlr:=hbd.1;have hw64:wrap64 (2 ^ row.length)=(2:Int) ^ row.length:=zG3 row.length hlr
  by_cases h0:bits < 0
  ·have hd3:decide (bits < 0)=true:=decide_eq_true h0;have HE:Hid (zBv bl ⟨turn,(p,n)⟩ bits=6):=zF (by rw [zA HMG,if_pos (Or.inl h0)]);have HF:Hid (zC2 rs bl ⟨turn,(p,n)⟩ bits=⟨turn,(p,n)⟩):=zF (by unfold zC2;rw [zA HE];rfl);clear h0;go_wp2_with fail;go_ret;exact ⟨by rw [zA HE];rfl,by rw [zA HF];exact hG2,Only.of_below hb2⟩
  ·have hd3:decide (bits < 0)=false:=decide_eq_false h0
   by_cases h1:(2:Int) ^ row.length≤bits
   ·have hd4:decide ((2:Int) ^ row.length≤bits)=true:=decide_eq_true h1;have HE:Hid (zBv bl ⟨turn,(p,n)⟩ bits=6):=zF (by rw [zA HMG,if_pos (Or.inr h1)]);have HF:Hid (zC2 rs bl ⟨turn,(p,n)⟩ bits=⟨turn,(p,n)⟩):=zF (by unfold zC2;rw [zA HE];rfl);clear h0 h1;go_wp2_with fail;go_ret;exact ⟨by rw [zA HE];rfl,by rw [zA HF];exact hG2,Only.of_below hb2⟩
   ·have hd4:decide ((2:Int) ^ row.length≤bits)=false:=decide_eq_false h1;have HE:Hid (zBv bl ⟨turn,(p,n)⟩ bits=0):=zF (by rw [zA HMG,if_neg (fun h=>h.elim h0 h1)]);have HF:Hid (zC2 rs bl ⟨turn,(p,n)⟩ bits=zEM rs bl ⟨turn + 1,zCr row bits.toNat 0 (p,n)⟩):=zF (by unfold zC2;rw [zA HE,if_pos rfl,zA HMW]);have hp9:(2:Int) ^ row.length≤256:=zH6 row.length hlr;obtain ⟨bn,rfl⟩:∃ bn:Nat,bits=(bn:Int):=⟨bits.toNat,by omega⟩;have hbn:bn < 512:=(by omega);clear h0 h1;go_wp2_with fail;clear hw64 hd4 hd3 hp9
    go_loopg [40] (row.length) (fun m i wx=>∃ (k:Nat) (vals:Nat × Nat),i=.int .i64 k∧k + m=row.length∧(vals.1 < 512∧vals.2 < 512)∧zCr row bn 0 (p,n)=zCr (row.drop k) bn k vals∧GameAt wx b t bl rs ⟨turn,vals⟩ gv∧Only (·=b) w wx)
    case atStart=>exact ⟨0,(p,n),rfl,by omega,hp,rfl,hG2,Only.of_below hb2⟩
    case round=>
     obtain ⟨k,vals,rfl,hk,hv9,hab,hG3,ho3⟩:=hrel;have HAB:=zF hab;clear hab;have lb3:=zB hG3.fb
     by_cases hkl:k < row.length
     ·have hr3:=hG3.rows.row turn hl;rw [hXf] at hr3;have hvv:=hbd.2 _ (List.getElem_mem hkl);have hlen:bl[turn].1.length=row.length:=(by rw [zA HRO]);obtain ⟨gX,cap,hVe,hgx,hgx',_,hcell⟩:=zS hr3 (by omega);injection hVe with hVe hV1 hV2;subst hVe hV2;have hxk:wr.cell? ⟨gX,k,none⟩=some (.int .i64 (row[k]:Int)):=hcell _ _ (by rw [zA HRO];simp [zu,hkl]);have HST:=zF (zKG row bn k vals hkl);have hsb:=zCx bn k hbn (by omega);clear hcell hr3;generalize row[k]=v at *;generalize htb:bn.testBit k=x at *;go_wp2_with fail;refine (zOJ b t bl rs ⟨turn,vals⟩ gv v x _ hG3 hv9 hvv.2).mono ?_;rintro e w5 ⟨rfl,hG5,ho5⟩;have hv5:=zAZ vals (zAF v x) hv9.1 hv9.2;go_wp2_with fail
      go_roundg (gk - 1)
      case measure=>omega
      case rel=>exact ⟨k + 1,zIq vals v x,by go_num,by omega,hv5,by rw [zA HAB,zA HST],hG5,ho3.trans ho5⟩
     ·have hke:k=row.length:=(by omega);have HE2:Hid (zCr row bn 0 (p,n)=vals):=zF (by rw [zA HAB,hke,List.drop_length];rfl);have d2:wr.cell? ⟨b,2,none⟩=some (.int .i64 (turn:Int)):=zE hG3.fb rfl;have z2:=zD hG3.fb 2;have hdk:decide ((k:Int) < (row.length:Int))=false:=decide_eq_false (by omega);have ho6:Only (·=b) wr (wr.setCell ⟨b,2,none⟩ (.int .i64 ((turn:Int) + 1))):=(Only.refl (·=b) wr).setCell (p:=⟨b,2,none⟩) (Or.inl rfl) _;have hG6:GameAt (wr.setCell ⟨b,2,none⟩ (.int .i64 ((turn:Int) + 1))) b t bl rs ⟨turn + 1,vals⟩ gv:=⟨zI hG3.fb 2 _,hG3.tt,hG3.rest ho6⟩;have ho7:=ho3.trans ho6;have HG6:=zF hG6;have HO7:=zF ho7;clear hG6 ho6 ho7;go_wp2_with fail;refine (zIV b t bl rs ⟨turn + 1,vals⟩ gv _ (zA HG6) hR hB hv9 (by show turn + 1≤_;omega)).mono ?_;rintro e w8 ⟨rfl,hG8,ho8⟩;have HE3:Hid (zC2 rs bl ⟨turn,(p,n)⟩ (bn:Int)=zEM rs bl ⟨turn + 1,vals⟩):=zF (by rw [zA HF,Int.toNat_natCast,zA HE2]);go_wp2_with fail;go_ret;exact ⟨by rw [zA HE];rfl,by rw [zA HE3];exact hG8,(zA HO7).trans ho8⟩
 ·have hd1:decide ((bl.length:Int)≤(turn:Int))=true:=decide_eq_true (by omega);have hd2:decide (bl.length≤turn)=true:=decide_eq_true (by omega);have HE:Hid (zBv bl ⟨turn,(p,n)⟩ bits=7):=zF (by unfold zBv;rw [if_pos (by show bl.length≤turn;omega)]);have HG:Hid (zC2 rs bl ⟨turn,(p,n)⟩ bits=⟨turn,(p,n)⟩):=zF (by unfold zC2;rw [zA HE];rfl)
  go_enter Tryz.func83,Tryz.ntmps83
  go_wp2_with fail
  go_quiet (fail)
  have b1:Below w.heap.size w (w.drewN nq):=below_drewN (Below.refl _ _) nq;have hG1:=hG.later b1;generalize w.drewN nq=w1 at *;go_wp2_with fail;go_ret;exact ⟨by rw [zA HE];rfl,by rw [zA HG];exact hG1,Only.of_below b1⟩
def zCo (c:Nat × Nat) (k:Nat):List Value:=(List.range 8).map (fun i=>Value.int .i64 (if i < k then zBC c (i + 1) else 0))
theorem zM2 (c:Nat × Nat):(zCo c 0).toArray=#[.int .i64 0,.int .i64 0,.int .i64 0,.int .i64 0,.int .i64 0,.int .i64 0,.int .i64 0,.int .i64 0]:=rfl
theorem zD0 (c:Nat × Nat) (k i:Nat) (hi:i < 8):(zCo c k).toArray[i]?=some (.int .i64 (if i < k then zBC c (i + 1) else 0)):=by
 unfold zCo;simp [hi]
theorem zG9 (c:Nat × Nat) (k:Nat) (hk:k < 8):(zCo c k).toArray.set! k (.int .i64 (zBC c (k + 1)))=(zCo c (k + 1)).toArray:=by
 apply Array.ext
 ·simp [zCo]
 ·intro i h1 h2;have hi:i < 8:=(by simpa [zCo] using h2);have e2:=zD0 c (k + 1) i hi;rw [Array.getElem?_eq_getElem h2] at e2;injection e2 with e2;rw [e2]
  by_cases e:i=k
  ·subst e;simp [Array.set!]
  ·have e1:=zD0 c k i hi;rw [Array.getElem?_eq_getElem (by simpa [zCo] using hi)] at e1;injection e1 with e1;simp only [Array.set!];rw [Array.getElem_setIfInBounds_ne (by simpa [zCo] using hi) (fun h=>e h.symm),e1]
   by_cases h:i < k
   ·rw [if_pos h,if_pos (by omega)]
   ·rw [if_neg h,if_neg (by omega)]
theorem zMV (c:Nat × Nat) (k:Nat) (h0:zBC c (k + 1)=0):zCo c k=zCo c (k + 1):=by
 unfold zCo
 apply List.map_congr_left
 intro i _
 by_cases e:i=k
 ·subst e;rw [if_neg (by omega),if_pos (by omega),h0]
 ·by_cases h:i < k
  ·rw [if_pos h,if_pos (by omega)]
  ·rw [if_neg h,if_neg (by omega)]
theorem zLz (b:Nat) (t:TypeId) (bl:BL) (rs:List zAB) (g:GS) (gv:GV) (w:World) (hG:GameAt w b t bl rs g gv) (hp:g.vals.1 < 512∧g.vals.2 < 512) :
  Calls Tryz.prog 60 #[.pointer (some ⟨b,0,none⟩)] w fun e w'=>∃ k,e=.returned (.slice (some ⟨k,0,none⟩) 8 8)∧w.heap.size≤k∧w'.heap[k]?=some (.cells (zCo g.vals 8).toArray 3 (0,0))∧Below w.heap.size w w':=by
 obtain ⟨turn,p,n⟩:=g;dsimp only at hp;have lb:=zB hG.fb;have hmk:∀ w:World,(Instr.makeSlice 25 (.int .i64 8) (.int .i64 8)).run Tryz.prog w=.ok (.slice (some ⟨w.heap.size,0,none⟩) 8 8) (w.alloc (.cells #[.int .i64 0,.int .i64 0,.int .i64 0,.int .i64 0,.int .i64 0,.int .i64 0,.int .i64 0,.int .i64 0] 3)):=fun _=>by kernel_rfl
 go_enter Tryz.func60,Tryz.ntmps60
 go_wp2_with fail;clear hmk
 go_loopg [8] 8 (fun m i wx=>∃ (k:Nat),i=.int .i64 k∧k + m=8∧Below w.heap.size w wx∧wx.heap[w.heap.size]?=some (.cells (zCo (p,n) k).toArray 3 (0,0)))
 case atStart=>exact ⟨0,rfl,by omega,(Below.refl _ _).alloc (Nat.le_refl _) _,by rw [zM2];exact heap_alloc_new _ _⟩
 case round=>
  obtain ⟨k,rfl,hk,hb,hblk⟩:=hrel;have hGr:=hG.later hb;have lbr:=zB hGr.fb;have lk:=zB hblk
  by_cases hlt:k < 8
  ·have HV:Hid (zBC (p,n) (k + 1)=if zj (p,n) (-(k:Int) - 1) then -1 else if zj (p,n) ((k:Int) + 1) then 1 else 0):=zF (by
    unfold zBC;rw [← zBm (p,n) (k + 1) false (by omega) (by omega),← zBm (p,n) (k + 1) true (by omega) (by omega)];rw [show zAF (k + 1) false=-(k:Int) - 1 from by unfold zAF;simp;omega,show zAF (k + 1) true=(k:Int) + 1 from by unfold zAF;simp])
   have m3:wr.cell? ⟨b,3,none⟩=some (.int .i64 (p:Int)):=zE hGr.fb rfl;have m4:wr.cell? ⟨b,4,none⟩=some (.int .i64 (n:Int)):=zE hGr.fb rfl;have hd:decide ((k:Int) < 8)=true:=decide_eq_true (by omega);have hwn:IntKind.i64.wrap (-(k:Int))=-(k:Int):=zDg k (by omega);go_wp2_with fail;refine (zCw p n ((k:Int) + 1) _ hp.1 hp.2 (by omega) (by omega)).mono ?_;rintro e w1 ⟨rfl,hb1⟩;have hG1:=hGr.later hb1;have hblk1:=(hb1.block _ lk).trans hblk;have hB1:=hb.trans (hb1.mono hb.size);have lb1:=zB hG1.fb;have l1:=zB hblk1;have n3:w1.cell? ⟨b,3,none⟩=some (.int .i64 (p:Int)):=zE hG1.fb rfl;have n4:w1.cell? ⟨b,4,none⟩=some (.int .i64 (n:Int)):=zE hG1.fb rfl;have j0:w1.cell? ⟨w.heap.size,k,none⟩=some (.int .i64 0):=(by rw [zC hblk1,zD0 _ _ _ hlt,if_neg (by omega)]);have z0:=zD hblk1 k;have hne:b≠w.heap.size:=by omega
   cases h1:zj (p,n) ((k:Int) + 1) with
   | true=>
    have hblk2:=zI hblk1 k (.int .i64 1);have hB2:=hB1.setCell (p:=⟨w.heap.size,k,none⟩) (Nat.le_refl _) (.int .i64 1);have hfb2:(w1.setCell ⟨w.heap.size,k,none⟩ (.int .i64 1)).heap[b]?=_:=(Below.heap_setCell _ _ _ _ hne).trans hG1.fb;have q3:(w1.setCell ⟨w.heap.size,k,none⟩ (.int .i64 1)).cell? ⟨b,3,none⟩=some (.int .i64 (p:Int)):=zE hfb2 rfl;have q4:(w1.setCell ⟨w.heap.size,k,none⟩ (.int .i64 1)).cell? ⟨b,4,none⟩=some (.int .i64 (n:Int)):=zE hfb2 rfl;have lb2:=zB hfb2;go_wp2_with fail;refine (zCw p n (-(k:Int) - 1) _ hp.1 hp.2 (by omega) (by omega)).mono ?_;rintro e w3 ⟨rfl,hb3⟩;have hblk3:=zH hb3 hblk2;have hB3:=hB2.trans (hb3.mono hB2.size);have l3:=zB hblk3;have i0:w3.cell? ⟨w.heap.size,k,none⟩=some (.int .i64 1):=(by rw [zC hblk3,Array.getElem?_setIfInBounds_self_of_lt (by simp [zCo];omega)]);have z3:=zD hblk3 k
    cases h2:zj (p,n) (-(k:Int) - 1) with
    | true=>
     have HX:Hid (zBC (p,n) (k + 1)=-1):=zF (by rw [zA HV,h2];rfl);have HB4:=zF (zI hblk3 k (.int .i64 (-1)));have HBB:=zF (hB3.setCell (p:=⟨w.heap.size,k,none⟩) (Nat.le_refl _) (.int .i64 (-1)));go_wp2_with fail
     go_roundg (gk - 1)
     case measure=>omega
     case rel=>exact ⟨k + 1,by go_num,by omega,zA HBB,by rw [← zG9 _ _ hlt,zA HX];have h:=zA HB4;rw [show ((zCo (p,n) k).toArray.setIfInBounds k (Value.int .i64 1)).setIfInBounds k (Value.int .i64 (-1))=(zCo (p,n) k).toArray.setIfInBounds k (Value.int .i64 (-1)) from by simp] at h;exact h⟩
    | false=>
     have HX:Hid (zBC (p,n) (k + 1)=1):=zF (by rw [zA HV,h2,h1];rfl);go_wp2_with fail
     go_roundg (gk - 1)
     case measure=>omega
     case rel=>exact ⟨k + 1,by go_num,by omega,hB3,by rw [← zG9 _ _ hlt,zA HX];exact hblk3⟩
   | false=>
    go_wp2_with fail;refine (zCw p n (-(k:Int) - 1) _ hp.1 hp.2 (by omega) (by omega)).mono ?_;rintro e w3 ⟨rfl,hb3⟩;have hblk3:=zH hb3 hblk1;have hB3:=hB1.trans (hb3.mono hB1.size);have l3:=zB hblk3;have i0:w3.cell? ⟨w.heap.size,k,none⟩=some (.int .i64 0):=(by rw [zC hblk3,zD0 _ _ _ hlt,if_neg (by omega)]);have z3:=zD hblk3 k
    cases h2:zj (p,n) (-(k:Int) - 1) with
    | true=>
     have HX:Hid (zBC (p,n) (k + 1)=-1):=zF (by rw [zA HV,h2];rfl);have HB4:=zF (zI hblk3 k (.int .i64 (-1)));have HBB:=zF (hB3.setCell (p:=⟨w.heap.size,k,none⟩) (Nat.le_refl _) (.int .i64 (-1)));go_wp2_with fail
     go_roundg (gk - 1)
     case measure=>omega
     case rel=>exact ⟨k + 1,by go_num,by omega,zA HBB,by rw [← zG9 _ _ hlt,zA HX];have h:=zA HB4;exact h⟩
    | false=>
     have HX:Hid (zBC (p,n) (k + 1)=0):=zF (by rw [zA HV,h2,h1];rfl);go_wp2_with fail
     go_roundg (gk - 1)
     case measure=>omega
     case rel=>exact ⟨k + 1,by go_num,by omega,hB3,by rw [← zMV _ _ (zA HX)];exact hblk3⟩
  ·have hk8:k=8:=(by omega);subst hk8;go_wp2_with fail;go_ret;exact ⟨_,rfl,Nat.le_refl _,hblk,hb⟩
theorem zOb (b:Nat) (t:TypeId) (bl:BL) (rs:List zAB) (g:GS) (gv:GV) (w:World) (hG:GameAt w b t bl rs g gv) :
  Calls Tryz.prog 59 #[.pointer (some ⟨b,0,none⟩)] w fun e w'=>e=.returned (.int .i64 (g.turn:Int))∧w'=w:=by
 have lb:=zB hG.fb;have c2:w.cell? ⟨b,2,none⟩=some (.int .i64 (g.turn:Int)):=zE hG.fb rfl
 go_enter Tryz.func59,Tryz.ntmps59
 go_wp2_with fail;go_ret;exact ⟨rfl,rfl⟩
end Go.Proofs.YtgipjjhkhfihpaaGreatDoor
