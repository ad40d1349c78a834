import Derived.Test.YtgipjjhkhfihpaaGreatDoorKU
import Derived.Test.YtgipjjhkhfihpaaGreatDoorKW
import Derived.Test.YtgipjjhkhfihpaaGreatDoorKS
import Derived.Test.YtgipjjhkhfihpaaGreatDoorKT
import Derived.Test.YtgipjjhkhfihpaaGreatDoorKV
import Derived.Shelf.Strconv.Itoa3
import Derived.Ground.NamesProg
import Derived.Test.YtgipjjhkhfihpaaGreatDoorKF
import Derived.Test.YtgipjjhkhfihpaaGreatDoorKL
import Derived.Test.YtgipjjhkhfihpaaGreatDoorKQ
import Derived.Lib.AppendIntMem
import Derived.Lib.ItoaLen
import Derived.Test.YtgipjjhkhfihpaaGreatDoorKO
import Derived.Lib.AppendStr
set_option maxRecDepth 100000
set_option maxHeartbeats 6400000
namespace Go.Proofs.YtgipjjhkhfihpaaGreatDoor
open Go.RowKit
def zC9 (u:Nat) (s:Bool):Nat × Nat:=if s then (2 ^ u,0) else (0,2 ^ u)
theorem zFY (u:Nat) (s t:Bool) (v:Nat):L (zC9 u s) t v=(t == s && decide (v=u)):=by
 unfold zC9
 cases s<;>cases t<;>simp [L,Nat.testBit_two_pow,eq_comm]
theorem zH8:∀ p:Fin 512,p.val≠0→p.val &&& (p.val - 1)=0→∃ v:Fin 9,p.val=2 ^ v.val:=by decide +kernel
theorem zP9:∀ (u:Fin 9),1≤u.val→(zAJ (zC9 u.val true)=[(u.val:Int)]∧zEx (zC9 u.val true).1 (zC9 u.val true).2=true)∧(zAJ (zC9 u.val false)=[-(u.val:Int)]∧zEx (zC9 u.val false).1 (zC9 u.val false).2=true):=by decide +kernel
theorem zJp (u:Nat) (s:Bool) (h1:1≤u) (h8:u≤8):zAJ (zC9 u s)=[zAF u s]∧zEx (zC9 u s).1 (zC9 u s).2=true:=by
 have:=zP9 ⟨u,by omega⟩ h1
 cases s
 ·exact this.2
 ·exact this.1
structure VOk (q:QS) (vals:Nat × Nat):Prop where
 free:Free vals
 lok:LOk q vals
theorem zPB {q:QS} {uni:Nat × Nat} {t n:Nat} (hv:VOk q (t,n)) {c:Nat × Nat} (hd:zC0 t n c=true):zBj uni (t,n) c=true:=by
 unfold zC0 at hd;rw [Bool.and_eq_true,beq_iff_eq,beq_iff_eq] at hd;have hl:zAM c (t,n)=(0,0):=by
  show (zb c.1 n,zb c.2 t)=(0,0);rw [hd.1,hd.2]
 have hall:∀ s v,L c s v=true→L (t,n) (!s) v=true:=by
  intro s v hs
  have:=zES c (t,n) s v
  rw [hl,zDh,hs] at this
  simpa using this.symm
 unfold zBj zDK;have h1:zEr c (t,n)=false:=by
  cases h:zEr c (t,n) with
  | false=>rfl
  | true=>
   obtain ⟨s,v,a,b⟩:=(zCB _ _).1 h;have h2:=hall s v a
   cases s
   ·exact (hv.free v h2 b).elim
   ·exact (hv.free v b h2).elim
 have h2:zHS c=false:=by
  rw [zGm];intro v a b;exact hv.free v (hall false v b) (hall true v a)
 have h3:zCz (zAz (0,0) uni)=true:=(zDp _).2 (fun s v=>by rw [zDm,zDh];rfl);rw [h1,h2,hl,h3];rfl
theorem zJk {q:QS} (hq:QGood q) {F:zv} (hF:FQ F q) {uni:Nat × Nat} (hu:zFy q uni) {t n:Nat} (hv:VOk q (t,n)) {c:Nat × Nat} (hc:LOk q c) (hnd:zC0 t n c=false):zBf F.all t n c=zBA uni (t,n) c∧(zBA uni (t,n) c=true→∃ u s,1≤u∧u≤8∧zAM c (t,n)=zC9 u s):=by
 have hll:LOk q (zAM c (t,n)):=zKj hc ⟨zDY _ _ hc.bd.1,zDY _ _ hc.bd.2⟩ (fun s v h=>by rw [zES,Bool.and_eq_true] at h;exact h.1);have hback:zBA uni (t,n) c=true→∃ u s,1≤u∧u≤8∧zAM c (t,n)=zC9 u s:=by
  intro h;unfold zBA at h;rw [Bool.and_eq_true,Bool.and_eq_true,beq_iff_eq] at h;obtain ⟨u,s,h1,h8,_,hL,hone⟩:=zLm h.2.1;refine ⟨u,s,h1,h8,zJe (fun t' v=>?_)⟩;rw [zFY]
  cases hh:L (zAM c (t,n)) t' v with
  | true=>
   have hn:=hq.name (hll.vars t' v hh);obtain ⟨rfl,rfl⟩:=hone t' v hn.1 hn.2 hh
   simp
  | false=>
   by_cases e:v=u
   ·subst e
    by_cases e2:t'=s
    ·subst e2;rw [hL] at hh;cases hh
    ·simp [e2]
   ·simp [e]
 refine ⟨?_,hback⟩;have hopen:∀ u s,1≤u→u≤8→zAM c (t,n)=zC9 u s→(zDK c (t,n)=true↔(zb c.1 n &&& t=0∧zb c.2 t &&& n=0)):=by
  intro u s h1 h8 hl;have e1:zb c.1 n=(zC9 u s).1:=congrArg Prod.fst hl;have e2:zb c.2 t=(zC9 u s).2:=congrArg Prod.snd hl;have hm:(zb c.1 n &&& t=0∧zb c.2 t &&& n=0)↔L (t,n) s u=false:=by
   rw [e1,e2]
   cases s
   ·simp only [zC9,Bool.false_eq_true,if_false,Nat.zero_and,true_and,L];rw [Nat.and_comm,← Bool.not_eq_true,← zCy,bne_iff_ne,Decidable.not_not]
   ·simp only [zC9,if_true,Nat.zero_and,and_true,L];rw [Nat.and_comm,← Bool.not_eq_true,← zCy,bne_iff_ne,Decidable.not_not]
  rw [hm];have hin:L c s u=true∧L (t,n) (!s) u=false:=by
   have:=zES c (t,n) s u
   rw [hl,zFY] at this;simp at this;exact ⟨this.1,this.2⟩
  have hoth:∀ r v,L c r v=true→(v=u∧r=s)∨L (t,n) (!r) v=true:=by
   intro r v hr
   have:=zES c (t,n) r v
   rw [hl,zFY,hr] at this
   cases hh:L (t,n) (!r) v with
   | true=>exact Or.inr rfl
   | false=>rw [hh] at this;simp at this;exact Or.inl ⟨this.2,this.1⟩
  unfold zDK;rw [Bool.and_eq_true,Bool.not_eq_true',Bool.not_eq_true',zGm]
  constructor
  ·rintro ⟨h3,_⟩
   cases hh:L (t,n) s u with
   | false=>rfl
   | true=>rw [(zCB _ _).2 ⟨s,u,hin.1,hh⟩] at h3;cases h3
  ·intro h3
   constructor
   ·cases hme:zEr c (t,n) with
    | false=>rfl
    | true=>
     obtain ⟨r,v,a,b⟩:=(zCB _ _).1 hme
     rcases hoth r v a with ⟨rfl,rfl⟩ | h4
     ·rw [h3] at b;cases b
     ·cases r
      ·exact (hv.free v h4 b).elim
      ·exact (hv.free v b h4).elim
   ·intro v a b
    rcases hoth true v a with ⟨rfl,rfl⟩ | h4
    ·rcases hoth false v b with ⟨_,h5⟩ | h5
     ·cases h5
     ·have:L (t,n) true v=true:=h5
      rw [h3] at this;cases this
    ·rcases hoth false v b with ⟨rfl,rfl⟩ | h5
     ·have:L (t,n) false v=true:=h4
      rw [h3] at this;cases this
     ·exact hv.free v h5 h4
 have huni:∀ u s,1≤u→u≤8→zAM c (t,n)=zC9 u s→(zEr (zAM c (t,n)) uni=false↔(zb c.1 n ||| zb c.2 t) &&& F.all=0):=by
  intro u s h1 h8 hl;have e1:zb c.1 n=(zC9 u s).1:=congrArg Prod.fst hl;have e2:zb c.2 t=(zC9 u s).2:=congrArg Prod.snd hl;have hmem:u∈q.vars.map (·.1):=hll.vars s u (by rw [hl,zFY];simp);obtain ⟨x,hx,hxe⟩:=List.mem_map.1 hmem;have hor:(zb c.1 n ||| zb c.2 t)=2 ^ u:=(by rw [e1,e2];cases s<;>simp [zC9]);rw [hor,Nat.and_comm];have hk:F.all.testBit u=x.2:=(by rw [← hxe];exact hF.kinds x hx);have hz:(F.all &&& 2 ^ u=0)↔x.2=false:=(by rw [← hk,← Bool.not_eq_true,← zCy,bne_iff_ne,Decidable.not_not]);rw [hz,hl,← Bool.not_eq_true,zCB]
  constructor
  ·intro h
   cases hx2:x.2 with
   | false=>rfl
   | true=>exact absurd ⟨s,u,by rw [zFY];simp,(hu s u).2 ⟨x,hx,hxe,hx2⟩⟩ h
  ·rintro h ⟨r,v,a,b⟩;rw [zFY,Bool.and_eq_true,beq_iff_eq,decide_eq_true_eq] at a;obtain ⟨rfl,rfl⟩:=a;obtain ⟨y,hy,hye,hyu⟩:=(hu r v).1 b
   have:=zGs hq hy hx (by rw [hye];exact hxe.symm)
   rw [this,h] at hyu;cases hyu
 have hsing:∀ u s,1≤u→u≤8→zAM c (t,n)=zC9 u s→zBf F.all t n c=zBA uni (t,n) c:=by
  intro u s h1 h8 hl;obtain ⟨l1,l2⟩:=zJp u s h1 h8;have e1:zb c.1 n=(zC9 u s).1:=congrArg Prod.fst hl;have e2:zb c.2 t=(zC9 u s).2:=congrArg Prod.snd hl;have ho:=hopen u s h1 h8 hl;have hun:=huni u s h1 h8 hl;unfold zBf zBA;rw [show zEx (zb c.1 n) (zb c.2 t)=true from by rw [e1,e2];exact l2,show (zAJ (zAM c (t,n))).length=1 from by rw [hl,l1];rfl];rw [Bool.eq_iff_iff];simp only [Bool.true_and,Bool.and_eq_true,beq_iff_eq,Bool.not_eq_true',beq_self_eq_true];rw [ho,← hun]
  constructor
  ·rintro ⟨a,b,d⟩;exact ⟨⟨b,d⟩,a⟩
  ·rintro ⟨⟨b,d⟩,a⟩;exact ⟨a,b,d⟩
 cases hi:zBA uni (t,n) c with
 | true=>
  obtain ⟨u,s,h1,h8,hl⟩:=hback hi;rw [hsing u s h1 h8 hl];exact hi
 | false=>
  cases hc2:zBf F.all t n c with
  | false=>rfl
  | true=>
   exfalso
   unfold zBf zEx at hc2;simp only [Bool.and_eq_true,Bool.or_eq_true,beq_iff_eq] at hc2;obtain ⟨⟨p1,p2,p3⟩,_⟩:=hc2;have hnz:zb c.1 n≠0∨zb c.2 t≠0:=by
    unfold zC0 at hnd;rw [Bool.and_eq_false_iff,beq_eq_false_iff_ne,beq_eq_false_iff_ne] at hnd;exact hnd
   have hex:∃ u s,zAM c (t,n)=zC9 u s:=by
    rcases p3 with h | h
    ·have hne:zb c.2 t≠0:=by
      rcases hnz with h5 | h5
      ·exact absurd h h5
      ·exact h5
     obtain ⟨v,hv2⟩:=zH8 ⟨zb c.2 t,zDY _ _ hc.bd.2⟩ hne p2;exact ⟨v.val,false,by show (zb c.1 n,zb c.2 t)=(0,2 ^ v.val);rw [h];exact congrArg _ hv2⟩
    ·have hne:zb c.1 n≠0:=by
      rcases hnz with h5 | h5
      ·exact h5
      ·exact absurd h h5
     obtain ⟨v,hv2⟩:=zH8 ⟨zb c.1 n,zDY _ _ hc.bd.1⟩ hne p1;exact ⟨v.val,true,by show (zb c.1 n,zb c.2 t)=(2 ^ v.val,0);rw [h];exact congrArg (fun z=>(z,0)) hv2⟩
   obtain ⟨u,s,hl⟩:=hex;have hn:=hq.name (hll.vars s u (by rw [hl,zFY];simp))
   have:=hsing u s hn.1 hn.2 hl
   rw [hi] at this;unfold zBf zEx at this
   simp_all
def zNR (q:QS) (vals:Nat × Nat):Nat:=(q.vars.filter (fun x=>!L vals true x.1 && !L vals false x.1)).length
theorem zSJ {q:QS} (hq:QGood q) {vals:Nat × Nat} {x:Nat × Bool} (hx:x∈q.vars) (h1:L vals true x.1=false) (h2:L vals false x.1=false) (s:Bool):zNR q (zQ vals (zAF x.1 s)) < zNR q vals:=by
 have hn:=hq.qb.names x hx;unfold zNR;have e:q.vars.filter (fun y=>!L (zQ vals (zAF x.1 s)) true y.1 && !L (zQ vals (zAF x.1 s)) false y.1)=(q.vars.filter (fun y=>!L vals true y.1 && !L vals false y.1)).filter (fun y=>!L (zQ vals (zAF x.1 s)) true y.1 && !L (zQ vals (zAF x.1 s)) false y.1):=by
  rw [List.filter_filter]
  apply List.filter_congr
  intro y _;rw [zBH _ _ _ hn.1 hn.2,zBH _ _ _ hn.1 hn.2]
  cases L vals true y.1<;>cases L vals false y.1<;>simp
 rw [e];refine List.length_filter_lt_length_iff_exists.2 ⟨x,List.mem_filter.2 ⟨hx,by rw [h1,h2];rfl⟩,?_⟩;rw [zBH _ _ _ hn.1 hn.2,zBH _ _ _ hn.1 hn.2]
 cases s<;>simp
theorem zPw (cl:List (Nat × Nat)) (all:Nat):∀ f k t n,k≤(zCe cl all f k t n).2:=by
 intro f
 induction f with
 | zero=>intro k t n;exact Nat.le_refl _
 | succ f ih=>
  intro k t n;rw [zCe]
  split
  ·exact Nat.le_refl _
  ·split
   ·exact Nat.le_refl _
   ·exact Nat.le_trans (Nat.le_succ k) (ih _ _ _)
theorem zQq {q:QS}:(zg q []).map (zM (z7 q.cl))=q.cl:=by
 unfold zg;simp only [List.filter_nil,List.map_nil,List.append_nil,List.map_map]
 apply List.ext_getElem
 ·simp
 ·intro i h1 h2;simp only [List.getElem_map,List.getElem_range,Function.comp];rw [zBU _ i (by rw [zBx];exact h2),zFl q.cl i h2]
theorem zQf {q:QS}:∀ s∈zg q [],1≤s:=by
 intro s hs;unfold zg at hs;simp only [List.filter_nil,List.map_nil,List.append_nil,List.mem_map] at hs;obtain ⟨i,_,rfl⟩:=hs;omega
theorem zOx {q:QS} (hq:QGood q) {F:zv} (hF:FQ F q) {uni:Nat × Nat} (hu:zFy q uni):∀ (f k t n m:Nat) (trail:List (Int × Nat)),VOk q (t,n)→zNR q (t,n) < m→(zCe q.cl F.all f k t n).1=true→
  (zAp (z7 q.cl) uni (zg q []) m (t,n) trail).conf≠0∧(zAp (z7 q.cl) uni (zg q []) m (t,n) trail).trail.length + k≤trail.length + (zCe q.cl F.all f k t n).2:=by
 intro f
 induction f with
 | zero=>intro k t n m trail _ _ h;cases h
 | succ f ih=>
  intro k t n m trail hv hm h;obtain ⟨m,rfl⟩:∃ m',m=m' + 1:=⟨m - 1,by omega⟩;have hge:=zPw q.cl F.all (f + 1) k t n;rw [zAp]
  by_cases hcf:zBi (z7 q.cl) uni (zg q []) (t,n)≠0
  ·rw [if_pos hcf];exact ⟨hcf,by show trail.length + k≤_;omega⟩
  ·rw [if_neg hcf];have hnoconf:∀ c∈q.cl,zBj uni (t,n) c=false:=by
    intro c hc
    cases hh:zBj uni (t,n) c with
    | false=>rfl
    | true=>
     exfalso
     apply hcf
     rw [← zQq] at hc;obtain ⟨s,hs,rfl⟩:=List.mem_map.1 hc;exact zJn zQf hs hh
   have hnd:∀ c∈q.cl,zC0 t n c=false:=by
    intro c hc
    cases hh:zC0 t n c with
    | false=>rfl
    | true=>have:=zPB (uni:=uni) hv hh;rw [hnoconf c hc] at this;cases this
   have hany:q.cl.any (zC0 t n)=false:=(by rw [List.any_eq_false];intro c hc;rw [hnd c hc];decide);have hF1:zCe q.cl F.all (f + 1) k t n=match q.cl.find? (zBf F.all t n) with
    | none=>(false,k)
    | some c=>zCe q.cl F.all f (k + 1) (t ||| zb c.1 n) (n ||| zb c.2 t):=by rw [zCe,hany];rfl
   rw [hF1] at h ⊢;have hlok:∀ c∈q.cl,LOk q c:=fun c hc=>⟨hq.qb.bits c hc,hq.vars c hc⟩
   have hfind:q.cl.find? (zBf F.all t n)=q.cl.find? (zBA uni (t,n)):=by
    have:∀ l:List (Nat × Nat),(∀ c∈l,c∈q.cl)→l.find? (zBf F.all t n)=l.find? (zBA uni (t,n)):=by
     intro l
     induction l with
     | nil=>intro _;rfl
     | cons c l il=>
      intro hl;rw [List.find?_cons,List.find?_cons,(zJk hq hF hu hv (hlok c (hl c (by simp))) (hnd c (hl c (by simp)))).1,il (fun x hx=>hl x (by simp [hx]))]
    exact this q.cl (fun _ h=>h)
   cases hfd:q.cl.find? (zBf F.all t n) with
   | none=>rw [hfd] at h;cases h
   | some c=>
    rw [hfd] at h;dsimp only at h ⊢;rw [hfind] at hfd;have hcm:=List.mem_of_find?_eq_some hfd;have hci:=List.find?_some hfd;have hcs:∃ s,(zg q []).find? (fun s=>zBA uni (t,n) (zM (z7 q.cl) s))=some s∧zM (z7 q.cl) s=c:=by
     have h5:=hfd;rw [← zQq (q:=q),List.find?_map] at h5
     cases hg:(zg q []).find? (zBA uni (t,n) ∘ zM (z7 q.cl)) with
     | none=>rw [hg] at h5;cases h5
     | some s=>rw [hg] at h5;injection h5 with h5;exact ⟨s,hg,h5⟩
    obtain ⟨s,hs1,hs2⟩:=hcs;have hspos:=zQf s (List.mem_of_find?_eq_some hs1);obtain ⟨u,sg,hu1,hu8,hl⟩:=(zJk hq hF hu hv (hlok c hcm) (hnd c hcm)).2 hci;have hun:zAd (z7 q.cl) uni (zg q []) (t,n)=(zAF u sg,s):=by
     unfold zAd;rw [hs1];dsimp only;rw [hs2,hl,(zJp u sg hu1 hu8).1];rfl
    rw [hun,if_neg (by show ¬ s=0;omega)];dsimp only;have e1:zb c.1 n=(zC9 u sg).1:=congrArg Prod.fst hl;have e2:zb c.2 t=(zC9 u sg).2:=congrArg Prod.snd hl;have hw:zQ (t,n) (zAF u sg)=(t ||| zb c.1 n,n ||| zb c.2 t):=by
     rw [e1,e2]
     apply zJe
     intro r v;rw [zBH _ _ _ hu1 hu8]
     cases sg<;>cases r<;>simp [L,zC9,Nat.testBit_two_pow,eq_comm]
    have hnone:L (t,n) true u=false∧L (t,n) false u=false∧∃ x∈q.vars,x.1=u:=by
     have h6:=zES c (t,n) sg u;rw [hl,zFY] at h6;simp at h6;have h7:L (t,n) sg u=false:=by
      unfold zBA zDK at hci;rw [Bool.and_eq_true,Bool.and_eq_true,Bool.not_eq_true'] at hci
      cases hh:L (t,n) sg u with
      | false=>rfl
      | true=>have h9:=hci.1.1;rw [(zCB _ _).2 ⟨sg,u,h6.1,hh⟩] at h9;cases h9
     obtain ⟨x,hx,hxe⟩:=List.mem_map.1 ((hlok c hcm).vars sg u h6.1);refine ⟨?_,?_,x,hx,hxe⟩
     ·cases sg
      ·exact h6.2
      ·exact h7
     ·cases sg
      ·exact h7
      ·exact h6.2
    obtain ⟨hn1,hn2,x,hx,hxe⟩:=hnone;have hv':VOk q (zQ (t,n) (zAF u sg)):=by
     refine ⟨zHT hu1 hu8 hv.free (by cases sg<;>assumption),zKK _ _ hv.lok.bd,fun r v hr=>?_⟩;rw [zBH _ _ _ hu1 hu8,Bool.or_eq_true,Bool.and_eq_true] at hr
     rcases hr with hr | ⟨_,hr⟩
     ·exact hv.lok.vars r v hr
     ·rw [of_decide_eq_true hr,← hxe];exact List.mem_map_of_mem hx
    have hlt:zNR q (zQ (t,n) (zAF u sg)) < zNR q (t,n):=by
     have:=zSJ hq hx (by rw [hxe];exact hn1) (by rw [hxe];exact hn2) sg
     rwa [hxe] at this
    rw [hw] at hv' hlt ⊢
    have:=ih (k + 1) _ _ m (trail ++ [(zAF u sg,s)]) hv' (by omega) h
    refine ⟨this.1,?_⟩;have h8:=this.2;simp only [List.length_append,List.length_cons,List.length_nil] at h8;omega
theorem zRi {C:SC} {m:Nat} {path:Nat × Nat} {d:Nat} {s:SS} {r:SS × (Nat × Nat)} (h:zAa C s path=.inl r):z8 C m path d s=r:=by
 cases m with
 | zero=>rw [z8,h]
 | succ m=>rw [z8,h]
theorem zLH (cl:List (Nat × Nat)):twos (z7 cl)=0:=by
 unfold twos z7;rw [List.length_eq_zero_iff,List.filter_eq_nil_iff];intro s hs;obtain ⟨c,_,rfl⟩:=List.mem_map.1 hs
 simp
theorem zKr {F:zv} {q:QS} (hq:QGood q) (hF:FQ F q) (budget room:Nat) (h:(zBn F).1=true):(zAC q budget room).2.1=1∧(zAC q budget room).1.nodes=1∧twos (zAC q budget room).1.ref≤(zBn F).2:=by
 have hun:zBn F=zCe q.cl F.all 1024 0 0 0:=(by unfold zBn;rw [hF.cl]);rw [hun] at h ⊢;have hz:VOk q (0,0):=⟨fun v a=>(by rw [zDh] at a;cases a),zKo q⟩;have hlt:zNR q (0,0) < q.vars.length + 1:=Nat.lt_succ_of_le (List.length_filter_le _ _);obtain ⟨h1,h2⟩:=zOx hq hF (zIP hq) 1024 0 0 0 (q.vars.length + 1) [] hz hlt h;have hS1:=zHI (zG7 hq budget room) 1;have hU:zX (zAo q budget room) { zAf q with nodes:=1 } (0,0)=zAp (z7 q.cl) (zDL q.vars (0,0)) (zg q []) (q.vars.length + 1) (0,0) []:=rfl;have hc:(zX (zAo q budget room) { zAf q with nodes:=1 } (0,0)).conf≠0:=(by rw [hU];exact h1);have hex:=zIR (C:=zAo q budget room) hq (zIP hq) hS1 (zHA q) hc;have hn:zAa (zAo q budget room) (zAf q) (0,0)=.inl (zAW (zAo q budget room) { zAf q with nodes:=1 } (zX (zAo q budget room) { zAf q with nodes:=1 } (0,0))):=by
  have hb:¬ (0 < (zAo q budget room).budget∧(zAo q budget room).budget≤(zAf q).nodes):=by
   show ¬ (0 < budget∧budget≤0);omega
  rw [zAa,if_neg hb];dsimp only;exact if_pos hc
 have hl:zAC q budget room=zAW (zAo q budget room) { zAf q with nodes:=1 } (zX (zAo q budget room) { zAf q with nodes:=1 } (0,0)):=zRi hn;rw [hl];refine ⟨hex.2.2.2.2.2.1,hex.2.2.2.1,?_⟩;have h3:=hex.2.2.2.2.2.2;have h4:twos ({ zAf q with nodes:=1 }:SS).ref=0:=zLH q.cl;rw [h4] at h3;have h5:(zX (zAo q budget room) { zAf q with nodes:=1 } (0,0)).trail.length≤(zCe q.cl F.all 1024 0 0 0).2:=by
  rw [hU]
  simpa using h2
 rw [Nat.zero_add] at h3;exact Nat.le_trans h3 h5
structure Vd where
 kind:Nat
 nodes:Nat
 lemmas:Nat
 text:List UInt8
def zEj (q:QS) (budget room:Nat):Vd:=
 let r:=zAC q budget room
 ⟨r.2.1,r.1.nodes,r.1.most,if r.2.1=0 then [] else zDM (r.2.1 == 2) (z6 (r.1.proof r.2.1) r.2.2)⟩
theorem zQh:∀ m,LookSpec m:=by
 intro m
 induction m with
 | zero=>exact zFL 0 zLy
 | succ m ih=>exact zFL (m + 1) (zLe m ih)
theorem zQR (vs:List (Nat × Bool)) (u:Nat × Nat) (h:u.1 < 512∧u.2 < 512):(zDL vs u).1 < 512∧(zDL vs u).2 < 512:=by
 unfold zDL
 induction vs generalizing u with
 | nil=>exact h
 | cons v vs ih=>
  rw [List.foldl_cons]
  apply ih
  split
  ·have h1:=zAZ u v.1 h.1 h.2;exact zAZ _ _ h1.1 h1.2
  ·exact h
theorem zON {q:QS} (hq:QGood q) {budget room:Nat} (hb:budget≤1048576) (hr:room≤64):CBd (zAo q budget room):=⟨hq,zIP hq,zQR _ _ ⟨by decide,by decide⟩,hb,hr⟩
theorem zLS {q:QS} (hq:QGood q) (budget room:Nat):LookIn (zAo q budget room) q.vars.length 0 (0,0) (zAf q):=by
 have h1:=hq.qb.vl;have h2:=hq.qb.cl;refine ⟨⟨zG7 hq budget room,?_,Nat.zero_le _⟩,zHA _,Nat.zero_add _,?_⟩
 ·show (z7 q.cl).length + 0≤100 + 12 * 0;rw [zBx];omega
 ·have h3:2 ^ (q.vars.length + 1)≤2 ^ 9:=Nat.pow_le_pow_right (by decide) (by omega);have h4:(2:Nat) ^ 9=512:=(by decide);show 0 + 2 ^ (q.vars.length + 1)≤2001;omega
def zBe (r:SS × (Nat × Nat)):Nat × List Stp:=if r.2.1=1 then (1,z6 r.1.ref r.2.2) else if r.2.1=2 then (2,z6 r.1.aff r.2.2) else (0,[])
theorem zOa {C:SC} {m:Nat} {path:Nat × Nat} {S:SS} {r:SS × (Nat × Nat)} (h:LookOk C m path S r):r.2.1=0∨r.2.1=1∨r.2.1=2:=by
 by_cases h0:r.2.1=0
 ·exact Or.inl h0
 ·exact Or.inr (h.fact h0).inn.kind
def zPY (r:SS × (Nat × Nat)) (w:World) (e:Ending) (w':World):Prop:=∃ v,e=.returned (.agg #[.int .i64 (r.2.1:Int),.int .i64 (r.1.nodes:Int),.int .i64 (r.1.most:Int),.int .i64 ((zBe r).1:Int),v])∧w'.ownsRow w.heap.size 134 6 v (zBe r).2.length (zAk (zBe r).2)∧Below w.heap.size w w'
theorem zNS (q:QS) (aV aC:Option Addr) (cV cC budget room:Nat) (w:World) (hoV:w.ownsRow 0 139 2 (.slice aV q.vars.length cV) q.vars.length (zd q.vars)) (hoC:w.ownsRow 0 74 2 (.slice aC q.cl.length cC) q.cl.length (zAK q.cl)) (hq:QGood q) (hbu:budget≤1048576) (hro:room≤64) :
  Calls Tryz.prog 41 #[.agg #[.slice aV q.vars.length cV,.slice aC q.cl.length cC],.int .i64 (budget:Int),.int .i64 (room:Int)] w fun e w'=>zPY (zAC q budget room) w e w':=by
 have hvl:=hq.qb.vl;have hcl:=hq.qb.cl;have hcb:=zON hq hbu hro;have hin:=zLS hq budget room;have hlk:=hin.lk hcb;have hlo:=hin.out hcb;have HSM:Hid (zAC q budget room=z8 (zAo q budget room) q.vars.length (0,0) 0 (zAf q)):=zF rfl
 go_enter Tryz.func41,Tryz.ntmps41
 go_wp2_with fail;generalize hw0:((w.alloc (.cells #[.slice aV q.vars.length cV,.slice aC q.cl.length cC] 60)).alloc (.cells #[.int .i64 0,.int .i64 0,.int .i64 0,.int .i64 0,.slice none 0 0] 97))=u1;have hB:Below w.heap.size w u1:=(by rw [← hw0];exact ((Below.refl _ _).alloc (Nat.le_refl _) _).alloc (by simp;try omega) _);have hfo:u1.heap[w.heap.size]?=some (.cells #[.slice aV q.vars.length cV,.slice aC q.cl.length cC] 60 (0,0)):=(by rw [← hw0,heap_alloc_old _ _ (by simp;try omega)];exact zP (by simp));have hrs:u1.heap[w.heap.size + 1]?=some (.cells #[.int .i64 0,.int .i64 0,.int .i64 0,.int .i64 0,.slice none 0 0] 97 (0,0)):=(by rw [← hw0];exact zP (by simp));clear hw0;obtain ⟨cfo0,cfo1⟩:=zJ hfo;have lfo:=zB hfo;obtain ⟨crs0,crs1,crs2,crs3,crs4⟩:=zGc hrs;have lrs:=zB hrs;have hoV1:=zO hoV hB;have hoC1:=zO hoC hB;refine (zPh q aV aC cV cC budget room _ hoV1 hoC1 hq.qb hbu hro).mono ?_;rintro e u2 ⟨b0,V,rfl,hS0,hVv,hVc,hfr,hfa,hfk,b2⟩;replace hB:=hB.trans (b2.mono hB.size);replace hrs:=zH b2 hrs;have hrl:w.heap.size + 1 < u1.heap.size:=lrs;clear hfo cfo0 cfo1 lfo crs0 crs1 crs2 crs3 crs4 lrs;obtain ⟨aR,cR,hVR⟩:=zN hS0.oR;obtain ⟨aA,cA,hVA⟩:=zN hS0.oA;obtain ⟨aK,cK,hVK⟩:=hS0.oK.form;have HCS:Hid (zCc (zAo q budget room) (zAf q) V=#[.slice aV q.vars.length cV,.slice aC q.cl.length cC,.int .i64 ((zAo q budget room).uni.1:Int),.int .i64 ((zAo q budget room).uni.2:Int),.int .i64 (budget:Int),.int .i64 0,.int .i64 1,.slice aR (zAf q).ref.length cR,.int .i64 2,.slice aA (zAf q).aff.length cA,.int .i64 (room:Int),.slice aK (zAf q).kept.length cK,.int .i64 0]):=zF (by simp only [zCc,hVv,hVc,hVR,hVA,hVK];rfl);rw [zA HCS];obtain ⟨C,hCe⟩:∃ X,X=zAo q budget room:=⟨_,rfl⟩;obtain ⟨S,hSe⟩:∃ X,X=zAf q:=⟨_,rfl⟩;have hCq:C.q=q:=(by rw [hCe];rfl);rw [← hCe] at hcb hin hlk hlo HSM hS0 HCS ⊢;rw [← hSe] at hin hlk hlo HSM hS0 HCS ⊢;clear hCe hSe;obtain ⟨⟨n1,n2⟩,hne⟩:∃ X,X=C.uni:=⟨_,rfl⟩;rw [← hne] at HCS ⊢;clear hne;dsimp only at HCS ⊢;generalize hLR:S.ref.length=lr at *;generalize hLA:S.aff.length=la at *;generalize hLK:S.kept.length=lk at *;go_wp2_with fail;have hA3:Below u2.heap.size u2 (u2.alloc (.cells #[.slice aV q.vars.length cV,.slice aC q.cl.length cC,.int .i64 (n1:Int),.int .i64 (n2:Int),.int .i64 (budget:Int),.int .i64 0,.int .i64 1,.slice aR lr cR,.int .i64 2,.slice aA la cA,.int .i64 (room:Int),.slice aK lk cK,.int .i64 0] 126)):=(Below.refl _ _).alloc (Nat.le_refl _) _;have hSb:(u2.alloc (.cells #[.slice aV q.vars.length cV,.slice aC q.cl.length cC,.int .i64 (n1:Int),.int .i64 (n2:Int),.int .i64 (budget:Int),.int .i64 0,.int .i64 1,.slice aR lr cR,.int .i64 2,.slice aA la cA,.int .i64 (room:Int),.slice aK lk cK,.int .i64 0] 126)).heap[u2.heap.size]?=some (.cells (zCc C S V) 126 (0,0)):=(by rw [zA HCS];exact heap_alloc_new _ _);have hS9:=hS0.later hA3;have hS:SAt (u2.alloc (.cells #[.slice aV q.vars.length cV,.slice aC q.cl.length cC,.int .i64 (n1:Int),.int .i64 (n2:Int),.int .i64 (budget:Int),.int .i64 0,.int .i64 1,.slice aR lr cR,.int .i64 2,.slice aA la cA,.int .i64 (room:Int),.slice aK lk cK,.int .i64 0] 126)) u2.heap.size C S V:=⟨hSb,hS9.oV,hS9.oC,hS9.oR,hS9.oA,hS9.oK,hS9.ap⟩;have hl2:w.heap.size + 1 < u2.heap.size:=zB hrs;replace hrs:=(hA3.block _ hl2).trans hrs;replace hB:=hB.trans (hA3.mono hB.size);have nrs:Far u2.heap.size V (w.heap.size + 1):=⟨by omega,fun e=>(by rw [hVv] at e;have:=(hoV.lt _ e).2;omega),fun e=>(by rw [hVc] at e;have:=(hoC.lt _ e).2;omega),fun e=>(by have:=hfr _ e;omega),fun e=>(by have:=hfa _ e;omega),fun e=>(by have:=hfk _ e;omega)⟩;have HFR:Hid ((∀ k,V.r.ownBlock=some k→w.heap.size≤k)∧(∀ k,V.a.ownBlock=some k→w.heap.size≤k)∧(∀ k,V.k.ownBlock=some k→w.heap.size≤k)):=zF ⟨fun k hk=>(by have:=hfr _ hk;omega),fun k hk=>(by have:=hfa _ hk;omega),fun k hk=>(by have:=hfk _ hk;omega)⟩;clear hSb hS9 hS0 HCS hfr hfa hfk hVR hVA hVK;generalize (u2.alloc (.cells #[.slice aV q.vars.length cV,.slice aC q.cl.length cC,.int .i64 (n1:Int),.int .i64 (n2:Int),.int .i64 (budget:Int),.int .i64 0,.int .i64 1,.slice aR lr cR,.int .i64 2,.slice aA la cA,.int .i64 (room:Int),.slice aK lk cK,.int .i64 0] 126))=u3 at *;clear hA3;refine (zQh q.vars.length u2.heap.size C S V (0,0) 0 _ hcb hin hS).mono ?_;rintro e u4 ⟨rfl,V2,hS2,hM2⟩;have lrs:=zB hrs;replace hrs:=hM2.blk hrs nrs;replace nrs:=hM2.far lrs nrs;have hB4:=hM2.only.under hB (Nat.le_refl _) (fun k hk=>by
  rcases hk with hk | hk | hk | hk
  ·omega
  ·exact (zA HFR).1 k hk
  ·exact (zA HFR).2.1 k hk
  ·exact (zA HFR).2.2 k hk)
 replace hB:=hB4;replace hS:=hS2;clear hB4 hS2 hM2 lrs HFR;generalize z8 C q.vars.length (0,0) 0 S=R at *;obtain ⟨S4,f1,f2⟩:=R;have hki:=zOa hlk;have hpl1:=hlo.plen 1;have hpl2:=hlo.plen 2;dsimp only at hS hlo hki hpl1 hpl2 ⊢;have HSX:Hid (zAC q budget room=(S4,f1,f2)):=HSM;have cb5:u4.cell? ⟨u2.heap.size,5,none⟩=some (.int .i64 (S4.nodes:Int)):=zE hS.fb rfl;have cb12:u4.cell? ⟨u2.heap.size,12,none⟩=some (.int .i64 (S4.most:Int)):=zE hS.fb rfl;have lb:=zB hS.fb
 rcases hki with hki | hki | hki
 ·have hd1:((f1:Int) == 1)=false:=(by rw [beq_eq_false_iff_ne];omega);have hn1:(f1 == 1)=false:=(by rw [beq_eq_false_iff_ne];omega);have hd2:((f1:Int) == 2)=false:=(by rw [beq_eq_false_iff_ne];omega);have hn2:(f1 == 2)=false:=(by rw [beq_eq_false_iff_ne];omega);have HSP:Hid (zBe (S4,f1,f2)=(0,[])):=zF (by unfold zBe;rw [if_neg (show ¬ f1=1 by omega),if_neg (show ¬ f1=2 by omega)]);clear hki;have hA5:Below u4.heap.size u4 ((u4.alloc (.cells #[.int .i64 (f1:Int),.int .i64 (f2:Int)] 129)).alloc (.cells #[.int .i64 (f1:Int),.int .i64 (S4.nodes:Int),.int .i64 (S4.most:Int),.int .i64 0,.slice none 0 0] 97)):=((Below.refl _ _).alloc (Nat.le_refl _) _).alloc (by simp) _;have hrs5:=zH hA5 hrs;have hB5:=hB.trans (hA5.mono hB.size)
  go_wp2_with (refine wpList_store_row rfl 97 _ _ rfl (w.heap.size + 1) _ rfl rfl 97 _ hrs5 (by kernel_rfl) rfl (by simp [Value.oneCell']) ?_)
  refine bodyPost_ret (v:=.agg #[.int .i64 (f1:Int),.int .i64 (S4.nodes:Int),.int .i64 (S4.most:Int),.int .i64 0,.slice none 0 0]) (results_cell_row rfl _ _ (w.heap.size + 1) 97 _ (0,0) _ rfl (setRow_heap _ _ _ _ _ _ hrs5) Tryz.underlying97 rfl (by kernel_rfl)) rfl ?_;rw [zA HSX];refine ⟨.slice none 0 0,by rw [zA HSP];rfl,by rw [zA HSP];exact World.ownsRow_nil _ _ _ _,below_setRow hB5 (Nat.le_succ _) _⟩
 ·have hd1:((f1:Int) == 1)=true:=(by rw [beq_iff_eq];omega);have hn1:(f1 == 1)=true:=(by rw [beq_iff_eq];exact hki);have hd2:((f1:Int) == 2)=false:=(by rw [beq_eq_false_iff_ne];omega);have hn2:(f1 == 2)=false:=(by rw [beq_eq_false_iff_ne];omega);have HSP:Hid (zBe (S4,f1,f2)=(1,z6 S4.ref f2)):=zF (by unfold zBe;rw [if_pos (show f1=1 from hki)]);clear hki;have hA5:Below u4.heap.size u4 ((u4.alloc (.cells #[.int .i64 (f1:Int),.int .i64 (f2:Int)] 129)).alloc (.cells #[.int .i64 (f1:Int),.int .i64 (S4.nodes:Int),.int .i64 (S4.most:Int),.int .i64 0,.slice none 0 0] 97)):=((Below.refl _ _).alloc (Nat.le_refl _) _).alloc (by simp) _;have hrs5:=zH hA5 hrs;have hB5:=hB.trans (hA5.mono hB.size);have hfd:((u4.alloc (.cells #[.int .i64 (f1:Int),.int .i64 (f2:Int)] 129)).alloc (.cells #[.int .i64 (f1:Int),.int .i64 (S4.nodes:Int),.int .i64 (S4.most:Int),.int .i64 0,.slice none 0 0] 97)).heap[u4.heap.size]?=some (.cells #[.int .i64 (f1:Int),.int .i64 (f2:Int)] 129 (0,0)):=(by rw [heap_alloc_old _ _ (by simp)];exact zP (by simp));have han:((u4.alloc (.cells #[.int .i64 (f1:Int),.int .i64 (f2:Int)] 129)).alloc (.cells #[.int .i64 (f1:Int),.int .i64 (S4.nodes:Int),.int .i64 (S4.most:Int),.int .i64 0,.slice none 0 0] 97)).heap[u4.heap.size + 1]?=some (.cells #[.int .i64 (f1:Int),.int .i64 (S4.nodes:Int),.int .i64 (S4.most:Int),.int .i64 0,.slice none 0 0] 97 (0,0)):=zP (by simp);have hS5:=hS.later hA5;go_wp2_with fail;have hz45:u4.heap.size + 2=((u4.alloc (.cells #[.int .i64 (f1:Int),.int .i64 (f2:Int)] 129)).alloc (.cells #[.int .i64 (f1:Int),.int .i64 (S4.nodes:Int),.int .i64 (S4.most:Int),.int .i64 0,.slice none 0 0] 97)).heap.size:=(by simp);generalize ((u4.alloc (.cells #[.int .i64 (f1:Int),.int .i64 (f2:Int)] 129)).alloc (.cells #[.int .i64 (f1:Int),.int .i64 (S4.nodes:Int),.int .i64 (S4.most:Int),.int .i64 0,.slice none 0 0] 97))=u5 at *;refine (zJm u2.heap.size 6 (zCc C S4 V2) 126 S4.ref V2.r 1 f2 _ (hS5.pat (Or.inl rfl)) (by have:=hpl1;exact Nat.le_trans this (by decide))).mono ?_;rintro e u6 ⟨v6,rfl,ho6,b6⟩;replace hrs5:=zH b6 hrs5;replace han:=zH b6 han;replace hB5:=hB5.trans (b6.mono hB5.size);obtain ⟨a6,c6,rfl⟩:=zN ho6;generalize hSL:z6 S4.ref f2=sl at *;have z3:=zD han 3;have z4:=zD han 4;obtain ⟨-,-,-,q3,q4⟩:=zGc han;have lan:=zB han;have hanS:((u6.setCell ⟨u4.heap.size + 1,3,none⟩ (.int .i64 1)).setCell ⟨u4.heap.size + 1,4,none⟩ (.slice a6 sl.length c6)).heap[u4.heap.size + 1]?=some (.cells #[.int .i64 (f1:Int),.int .i64 (S4.nodes:Int),.int .i64 (S4.most:Int),.int .i64 1,.slice a6 sl.length c6] 97 (0,0)):=zI (zI han 3 (.int .i64 1)) 4 (.slice a6 sl.length c6);have hl4:w.heap.size + 1 < u4.heap.size:=zB hrs;have hrsS:=zf (zf hrs5 (c:=u4.heap.size + 1) (by omega) 3 (.int .i64 1)) (c:=u4.heap.size + 1) (by omega) 4 (.slice a6 sl.length c6);have hne:(Value.slice a6 sl.length c6).ownBlock≠some (u4.heap.size + 1):=fun e=>(by have:=zA0 ho6 e;omega)
  have hne2:(Value.slice a6 sl.length c6).ownBlock≠some (w.heap.size + 1):=fun e=>(by have:=zA0 ho6 e;omega)
  have hoS:=zR (zR ho6 (p:=⟨u4.heap.size + 1,3,none⟩) hne (.int .i64 1)) (p:=⟨u4.heap.size + 1,4,none⟩) hne (.slice a6 sl.length c6);have hBS:=(hB5.setCell (p:=⟨u4.heap.size + 1,3,none⟩) (show w.heap.size≤u4.heap.size + 1 by omega) (.int .i64 1)).setCell (p:=⟨u4.heap.size + 1,4,none⟩) (show w.heap.size≤u4.heap.size + 1 by omega) (.slice a6 sl.length c6)
  go_wp2_with (first | (refine wpList_load_row rfl 97 _ rfl (u4.heap.size + 1) rfl 97 _ (0,0) _ hanS Tryz.underlying97 rfl (by kernel_rfl) ?_) | (refine wpList_store_row rfl 97 _ _ rfl (w.heap.size + 1) _ rfl rfl 97 _ hrsS (by kernel_rfl) rfl (by simp [Value.oneCell']) ?_))
  refine bodyPost_ret (v:=.agg #[.int .i64 (f1:Int),.int .i64 (S4.nodes:Int),.int .i64 (S4.most:Int),.int .i64 1,.slice a6 sl.length c6]) (results_cell_row rfl _ _ (w.heap.size + 1) 97 _ (0,0) _ rfl (setRow_heap _ _ _ _ _ _ hrsS) Tryz.underlying97 rfl (by kernel_rfl)) rfl ?_;rw [zA HSX];refine ⟨.slice a6 sl.length c6,by rw [zA HSP];rfl,?_,below_setRow hBS (Nat.le_succ _) _⟩;rw [zA HSP];exact zAG (zY hoS (zFN _ (w.heap.size + 1) _) (fun k hk e=>hne2 (by rw [hk,e]))) (by omega)
 ·have hd1:((f1:Int) == 1)=false:=(by rw [beq_eq_false_iff_ne];omega);have hn1:(f1 == 1)=false:=(by rw [beq_eq_false_iff_ne];omega);have hd2:((f1:Int) == 2)=true:=(by rw [beq_iff_eq];omega);have hn2:(f1 == 2)=true:=(by rw [beq_iff_eq];exact hki);have HSP:Hid (zBe (S4,f1,f2)=(2,z6 S4.aff f2)):=zF (by unfold zBe;rw [if_neg (show ¬ f1=1 by omega),if_pos (show f1=2 from hki)]);clear hki;have hA5:Below u4.heap.size u4 ((u4.alloc (.cells #[.int .i64 (f1:Int),.int .i64 (f2:Int)] 129)).alloc (.cells #[.int .i64 (f1:Int),.int .i64 (S4.nodes:Int),.int .i64 (S4.most:Int),.int .i64 0,.slice none 0 0] 97)):=((Below.refl _ _).alloc (Nat.le_refl _) _).alloc (by simp) _;have hrs5:=zH hA5 hrs;have hB5:=hB.trans (hA5.mono hB.size);have hfd:((u4.alloc (.cells #[.int .i64 (f1:Int),.int .i64 (f2:Int)] 129)).alloc (.cells #[.int .i64 (f1:Int),.int .i64 (S4.nodes:Int),.int .i64 (S4.most:Int),.int .i64 0,.slice none 0 0] 97)).heap[u4.heap.size]?=some (.cells #[.int .i64 (f1:Int),.int .i64 (f2:Int)] 129 (0,0)):=(by rw [heap_alloc_old _ _ (by simp)];exact zP (by simp));have han:((u4.alloc (.cells #[.int .i64 (f1:Int),.int .i64 (f2:Int)] 129)).alloc (.cells #[.int .i64 (f1:Int),.int .i64 (S4.nodes:Int),.int .i64 (S4.most:Int),.int .i64 0,.slice none 0 0] 97)).heap[u4.heap.size + 1]?=some (.cells #[.int .i64 (f1:Int),.int .i64 (S4.nodes:Int),.int .i64 (S4.most:Int),.int .i64 0,.slice none 0 0] 97 (0,0)):=zP (by simp);have hS5:=hS.later hA5;go_wp2_with fail;have hz45:u4.heap.size + 2=((u4.alloc (.cells #[.int .i64 (f1:Int),.int .i64 (f2:Int)] 129)).alloc (.cells #[.int .i64 (f1:Int),.int .i64 (S4.nodes:Int),.int .i64 (S4.most:Int),.int .i64 0,.slice none 0 0] 97)).heap.size:=(by simp);generalize ((u4.alloc (.cells #[.int .i64 (f1:Int),.int .i64 (f2:Int)] 129)).alloc (.cells #[.int .i64 (f1:Int),.int .i64 (S4.nodes:Int),.int .i64 (S4.most:Int),.int .i64 0,.slice none 0 0] 97))=u5 at *;refine (zJm u2.heap.size 8 (zCc C S4 V2) 126 S4.aff V2.a 2 f2 _ (hS5.pat (Or.inr rfl)) (by have:=hpl2;exact Nat.le_trans this (by decide))).mono ?_;rintro e u6 ⟨v6,rfl,ho6,b6⟩;replace hrs5:=zH b6 hrs5;replace han:=zH b6 han;replace hB5:=hB5.trans (b6.mono hB5.size);obtain ⟨a6,c6,rfl⟩:=zN ho6;generalize hSL:z6 S4.aff f2=sl at *;have z3:=zD han 3;have z4:=zD han 4;obtain ⟨-,-,-,q3,q4⟩:=zGc han;have lan:=zB han;have hanS:((u6.setCell ⟨u4.heap.size + 1,3,none⟩ (.int .i64 2)).setCell ⟨u4.heap.size + 1,4,none⟩ (.slice a6 sl.length c6)).heap[u4.heap.size + 1]?=some (.cells #[.int .i64 (f1:Int),.int .i64 (S4.nodes:Int),.int .i64 (S4.most:Int),.int .i64 2,.slice a6 sl.length c6] 97 (0,0)):=zI (zI han 3 (.int .i64 2)) 4 (.slice a6 sl.length c6);have hl4:w.heap.size + 1 < u4.heap.size:=zB hrs;have hrsS:=zf (zf hrs5 (c:=u4.heap.size + 1) (by omega) 3 (.int .i64 2)) (c:=u4.heap.size + 1) (by omega) 4 (.slice a6 sl.length c6);have hne:(Value.slice a6 sl.length c6).ownBlock≠some (u4.heap.size + 1):=fun e=>(by have:=zA0 ho6 e;omega)
  have hne2:(Value.slice a6 sl.length c6).ownBlock≠some (w.heap.size + 1):=fun e=>(by have:=zA0 ho6 e;omega)
  have hoS:=zR (zR ho6 (p:=⟨u4.heap.size + 1,3,none⟩) hne (.int .i64 2)) (p:=⟨u4.heap.size + 1,4,none⟩) hne (.slice a6 sl.length c6);have hBS:=(hB5.setCell (p:=⟨u4.heap.size + 1,3,none⟩) (show w.heap.size≤u4.heap.size + 1 by omega) (.int .i64 2)).setCell (p:=⟨u4.heap.size + 1,4,none⟩) (show w.heap.size≤u4.heap.size + 1 by omega) (.slice a6 sl.length c6)
  go_wp2_with (first | (refine wpList_load_row rfl 97 _ rfl (u4.heap.size + 1) rfl 97 _ (0,0) _ hanS Tryz.underlying97 rfl (by kernel_rfl) ?_) | (refine wpList_store_row rfl 97 _ _ rfl (w.heap.size + 1) _ rfl rfl 97 _ hrsS (by kernel_rfl) rfl (by simp [Value.oneCell']) ?_))
  refine bodyPost_ret (v:=.agg #[.int .i64 (f1:Int),.int .i64 (S4.nodes:Int),.int .i64 (S4.most:Int),.int .i64 2,.slice a6 sl.length c6]) (results_cell_row rfl _ _ (w.heap.size + 1) 97 _ (0,0) _ rfl (setRow_heap _ _ _ _ _ _ hrsS) Tryz.underlying97 rfl (by kernel_rfl)) rfl ?_;rw [zA HSX];refine ⟨.slice a6 sl.length c6,by rw [zA HSP];rfl,?_,below_setRow hBS (Nat.le_succ _) _⟩;rw [zA HSP];exact zAG (zY hoS (zFN _ (w.heap.size + 1) _) (fun k hk e=>hne2 (by rw [hk,e]))) (by omega)
end Go.Proofs.YtgipjjhkhfihpaaGreatDoor
namespace Go.Proofs
open Go.Shelf
def Tryz.laysItoa_ren:Go.Shelf.Ren:=⟨fun | 171=>94 | 243=>121 | 246=>137 | 283=>141 | 284=>142 | 285=>143 | 286=>144 | 129=>146 | 317=>145 | 318=>147 | 319=>148 | 320=>149 | 337=>150 | 338=>151 | n=>n,fun | 3=>3 | 9=>9 | 2=>2 | 4=>4 | 171=>199 | 0=>0 | 53=>200 | 37=>114 | 5=>5 | 173=>203 | 212=>206 | 51=>207 | 20=>20 | 213=>208 | 46=>209 | 232=>212 | 233=>213 | n=>n,fun | 17=>0 | 18=>1 | 19=>2 | n=>n⟩
theorem Tryz.laysItoa:Go.Proofs.LaysM.n171 Tryz.prog Tryz.laysItoa_ren:={
 mixed:=by kernel_rfl
 f129:=Tryz.func146.trans (congrArg some (by kernel_rfl))
 f171:=Tryz.func94.trans (congrArg some (by kernel_rfl))
 f243:=Tryz.func121.trans (congrArg some (by kernel_rfl))
 f246:=Tryz.func137.trans (congrArg some (by kernel_rfl))
 f283:=Tryz.func141.trans (congrArg some (by kernel_rfl))
 f284:=Tryz.func142.trans (congrArg some (by kernel_rfl))
 f285:=Tryz.func143.trans (congrArg some (by kernel_rfl))
 f286:=Tryz.func144.trans (congrArg some (by kernel_rfl))
 f317:=Tryz.func145.trans (congrArg some (by kernel_rfl))
 f318:=Tryz.func147.trans (congrArg some (by kernel_rfl))
 f319:=Tryz.func148.trans (congrArg some (by kernel_rfl))
 f320:=Tryz.func149.trans (congrArg some (by kernel_rfl))
 f337:=Tryz.func150.trans (congrArg some (by kernel_rfl))
 f338:=Tryz.func151.trans (congrArg some (by kernel_rfl))
 t0:=Tryz.underlying0
 a0:=Tryz.isAgg0
 z0:=Tryz.sizeOf0
 v0:=Tryz.zeroValue0
 t2:=Tryz.underlying2
 a2:=Tryz.isAgg2
 z2:=Tryz.sizeOf2
 v2:=Tryz.zeroValue2
 t3:=Tryz.underlying3
 a3:=Tryz.isAgg3
 z3:=Tryz.sizeOf3
 v3:=Tryz.zeroValue3
 t4:=Tryz.underlying4
 a4:=Tryz.isAgg4
 z4:=Tryz.sizeOf4
 v4:=Tryz.zeroValue4
 t5:=Tryz.underlying5
 a5:=Tryz.isAgg5
 z5:=Tryz.sizeOf5
 v5:=Tryz.zeroValue5
 t9:=Tryz.underlying9
 a9:=Tryz.isAgg9
 z9:=Tryz.sizeOf9
 v9:=Tryz.zeroValue9
 t20:=Tryz.underlying20
 a20:=Tryz.isAgg20
 z20:=Tryz.sizeOf20
 v20:=Tryz.zeroValue20
 t37:=Tryz.underlying114
 a37:=Tryz.isAgg114
 z37:=Tryz.sizeOf114
 v37:=Tryz.zeroValue114
 t46:=Tryz.underlying209
 a46:=Tryz.isAgg209
 z46:=Tryz.sizeOf209
 v46:=Tryz.zeroValue209
 t51:=Tryz.underlying207
 a51:=Tryz.isAgg207
 z51:=Tryz.sizeOf207
 v51:=Tryz.zeroValue207
 t53:=Tryz.underlying200
 a53:=Tryz.isAgg200
 z53:=Tryz.sizeOf200
 v53:=Tryz.zeroValue200
 t171:=Tryz.underlying199
 a171:=Tryz.isAgg199
 z171:=Tryz.sizeOf199
 v171:=Tryz.zeroValue199
 t173:=Tryz.underlying203
 a173:=Tryz.isAgg203
 z173:=Tryz.sizeOf203
 v173:=Tryz.zeroValue203
 t212:=Tryz.underlying206
 a212:=Tryz.isAgg206
 z212:=Tryz.sizeOf206
 v212:=Tryz.zeroValue206
 t213:=Tryz.underlying208
 a213:=Tryz.isAgg208
 z213:=Tryz.sizeOf208
 t232:=Tryz.underlying212
 a232:=Tryz.isAgg212
 z232:=Tryz.sizeOf212
 v232:=Tryz.zeroValue212
 t233:=Tryz.underlying213
 a233:=Tryz.isAgg213
 z233:=Tryz.sizeOf213
 v233:=Tryz.zeroValue213
 g17:=by kernel_rfl
 g18:=by kernel_rfl
 g19:=by kernel_rfl
 i0:=by kernel_rfl
 i2:=by kernel_rfl
 i3:=by kernel_rfl
 i4:=by kernel_rfl
 i5:=by kernel_rfl
 i9:=by kernel_rfl
 i20:=by kernel_rfl
 i37:=by kernel_rfl
 i46:=by kernel_rfl
 i51:=by kernel_rfl
 i53:=by kernel_rfl
 i171:=by kernel_rfl
 i173:=by kernel_rfl
 i212:=by kernel_rfl
 i232:=by kernel_rfl
 i233:=by kernel_rfl
 m17:=by kernel_rfl
 m18:=by kernel_rfl
 m19:=by kernel_rfl }
end Go.Proofs
namespace Go.Proofs.YtgipjjhkhfihpaaGreatDoor
open Go.RowKit
def TabAt (w:World):Prop:=Lib.TabIs Tryz.prog w "internal/strconv.uint64pow10" .u64 Lib.pow10Tab
theorem zMv (w:World) (k:Nat) (os:Array Obj):Below w.heap.size w (Sort.grow (w.drewN k) os):=by
 have h:=below_drewN (Below.refl w.heap.size w) k;refine ⟨h.os,h.tape,h.output,?_,fun i hi=>?_⟩
 ·have h2:=h.size;show w.heap.size≤((w.drewN k).heap ++ os).size;rw [Array.size_append];omega
 ·show ((w.drewN k).heap ++ os)[i]?=_;rw [Array.getElem?_append_left (Nat.lt_of_lt_of_le hi h.size)];exact h.block i hi
theorem zEV (n:Int) (h0:-9223372036854775808≤n) (h1:n≤9223372036854775807) (w:World) (ht:TabAt w) :
  Calls Tryz.prog 94 #[.int .i64 n] w fun e w'=>e=.returned (.string ⟨(Lib.itoa n).toArray⟩)∧Below w.heap.size w w':=
 (Any.strconv_Itoa Tryz.laysItoa n h0 h1 w ht).mono fun e w' ⟨he,k,os,hw⟩=>⟨he,by rw [hw];exact zMv w k os⟩
theorem TabAt.later {w w':World} (h:TabAt w) (hb:Below w.heap.size w w'):TabAt w':=Lib.tabBelow_of_tabIs h w' hb
def zGn (s:Stp):List UInt8:=[114,32] ++ Lib.itoa s.first ++ [32] ++ Lib.itoa s.second ++ [32] ++ Lib.itoa s.var ++ [10]
theorem zJB (a b c:List UInt8):ByteArray.mk #[114,32] ++ ByteArray.mk a.toArray ++ ByteArray.mk #[32] ++ ByteArray.mk b.toArray ++ ByteArray.mk #[32] ++ ByteArray.mk c.toArray ++ ByteArray.mk #[10]=ByteArray.mk ([114,32] ++ a ++ [32] ++ b ++ [32] ++ c ++ [10]).toArray:=by
 rw [show (ByteArray.mk #[114,32])=ByteArray.mk ([114,32]:List UInt8).toArray from rfl,show (ByteArray.mk #[32])=ByteArray.mk ([32]:List UInt8).toArray from rfl,show (ByteArray.mk #[10])=ByteArray.mk ([10]:List UInt8).toArray from rfl];simp only [zBV]
theorem zGR (s:Stp) (w:World) (ht:TabAt w) (h1:s.first≤1048576) (h2:s.second≤1048576) (h3:s.var≤1048576) :
  Calls Tryz.prog 96 #[zCi s] w fun e w'=>e=.returned (.string ⟨(zGn s).toArray⟩)∧Below w.heap.size w w':=by
 obtain ⟨sr,sf,ss,sv,l1,l2⟩:=s;dsimp only at h1 h2 h3 ⊢;have HR:Hid (zGn ⟨sr,sf,ss,sv,(l1,l2)⟩=[114,32] ++ Lib.itoa (sf:Int) ++ [32] ++ Lib.itoa (ss:Int) ++ [32] ++ Lib.itoa (sv:Int) ++ [10]):=zF rfl
 go_enter Tryz.func96,Tryz.ntmps96
 go_wp2_with fail;generalize hw0:(w.alloc (.cells #[.int .i64 (sr:Int),.int .i64 (sf:Int),.int .i64 (ss:Int),.int .i64 (sv:Int),.int .i64 (l1:Int),.int .i64 (l2:Int)] 134))=u1;have hB:Below w.heap.size w u1:=(by rw [← hw0];exact (Below.refl _ _).alloc (Nat.le_refl _) _);have hst:u1.heap[w.heap.size]?=some (.cells #[.int .i64 (sr:Int),.int .i64 (sf:Int),.int .i64 (ss:Int),.int .i64 (sv:Int),.int .i64 (l1:Int),.int .i64 (l2:Int)] 134 (0,0)):=(by rw [← hw0];exact zP (by simp));clear hw0;obtain ⟨cst0,cst1,cst2,cst3,cst4,cst5⟩:=zAH hst;have lst:=zB hst;have ht0:=ht.later hB;refine (zEV (sf:Int) (by omega) (by omega) _ ht0).mono ?_;rintro e u2 ⟨rfl,b2⟩;replace hB:=hB.trans (b2.mono hB.size);replace hst:=zH b2 hst;clear cst0 cst1 cst2 cst3 cst4 cst5;obtain ⟨cst0,cst1,cst2,cst3,cst4,cst5⟩:=zAH hst;replace lst:=zB hst;have hx0:=Lib.itoa_length_le (sf:Int) (by omega) (by omega);generalize Lib.itoa (sf:Int)=x0 at *;go_wp2_with fail;have ht1:=ht.later hB;refine (zEV (ss:Int) (by omega) (by omega) _ ht1).mono ?_;rintro e u3 ⟨rfl,b3⟩;replace hB:=hB.trans (b3.mono hB.size);replace hst:=zH b3 hst;clear cst0 cst1 cst2 cst3 cst4 cst5;obtain ⟨cst0,cst1,cst2,cst3,cst4,cst5⟩:=zAH hst;replace lst:=zB hst;have hx1:=Lib.itoa_length_le (ss:Int) (by omega) (by omega);generalize Lib.itoa (ss:Int)=x1 at *;go_wp2_with fail;have ht2:=ht.later hB;refine (zEV (sv:Int) (by omega) (by omega) _ ht2).mono ?_;rintro e u4 ⟨rfl,b4⟩;replace hB:=hB.trans (b4.mono hB.size);replace hst:=zH b4 hst;clear cst0 cst1 cst2 cst3 cst4 cst5;obtain ⟨cst0,cst1,cst2,cst3,cst4,cst5⟩:=zAH hst;replace lst:=zB hst;have hx2:=Lib.itoa_length_le (sv:Int) (by omega) (by omega);generalize Lib.itoa (sv:Int)=x2 at *;go_wp2_with fail;have HE:=zF (zJB x0 x1 x2);go_ret;exact ⟨by rw [zA HE,zA HR];rfl,hB⟩
def zBK (l:List Int):List UInt8:=l.flatMap (fun x=>32 :: Lib.itoa x)
theorem zI7 (l:List Int) (x:Int):zBK (l ++ [x])=zBK l ++ 32 :: Lib.itoa x:=by simp [zBK]
def zIJ (s:Stp):List UInt8:=[99] ++ zBK (zAJ s.lits) ++ [10]
theorem zMX (a b:List UInt8):ByteArray.mk ([99] ++ a).toArray ++ (ByteArray.mk #[32] ++ ByteArray.mk b.toArray)=ByteArray.mk ([99] ++ (a ++ 32 :: b)).toArray:=by
 rw [show (ByteArray.mk #[32])=ByteArray.mk ([32]:List UInt8).toArray from rfl,zBV,zBV];simp
theorem zQI (a:List UInt8):ByteArray.mk ([99] ++ a).toArray ++ ByteArray.mk #[10]=ByteArray.mk ([99] ++ a ++ [10]).toArray:=by
 rw [show (ByteArray.mk #[10])=ByteArray.mk ([10]:List UInt8).toArray from rfl,zBV]
theorem zRn (l:List Int) (k:Nat) (h:k < l.length):(zHm l)[k]?=some (.int .i64 l[k]):=by simp [zHm,h]
theorem zOj (c:Nat × Nat):∀ x∈zAJ c,-8≤x∧x≤8:=zHo c 8 1 (by decide) (by decide)
theorem zKV (s:Stp) (w:World) (ht:TabAt w) (hl:s.lits.1 < 512∧s.lits.2 < 512) :
  Calls Tryz.prog 95 #[zCi s] w fun e w'=>e=.returned (.string ⟨(zIJ s).toArray⟩)∧Below w.heap.size w w':=by
 obtain ⟨sr,sf,ss,sv,l1,l2⟩:=s;dsimp only at hl ⊢;have HR:Hid (zIJ ⟨sr,sf,ss,sv,(l1,l2)⟩=[99] ++ zBK (zAJ (l1,l2)) ++ [10]):=zF rfl;have hbd:=zOj (l1,l2);have hll:(zAJ (l1,l2)).length≤16:=zGf (l1,l2) 8 1
 go_enter Tryz.func95,Tryz.ntmps95
 go_wp2_with fail;generalize hw0:(w.alloc (.cells #[.int .i64 (sr:Int),.int .i64 (sf:Int),.int .i64 (ss:Int),.int .i64 (sv:Int),.int .i64 (l1:Int),.int .i64 (l2:Int)] 134))=u1;have hB:Below w.heap.size w u1:=(by rw [← hw0];exact (Below.refl _ _).alloc (Nat.le_refl _) _);have hst:u1.heap[w.heap.size]?=some (.cells #[.int .i64 (sr:Int),.int .i64 (sf:Int),.int .i64 (ss:Int),.int .i64 (sv:Int),.int .i64 (l1:Int),.int .i64 (l2:Int)] 134 (0,0)):=(by rw [← hw0];exact zP (by simp));clear hw0;obtain ⟨cst0,cst1,cst2,cst3,cst4,cst5⟩:=zAH hst;have lst:=zB hst;refine (zLv l1 l2 _ hl.1 hl.2).mono ?_;rintro e u2 ⟨vL,rfl,hrow,b2⟩;replace hB:=hB.trans (b2.mono hB.size);replace hst:=zH b2 hst;clear cst0 cst1 cst2 cst3 cst4 cst5;obtain ⟨cst0,cst1,cst2,cst3,cst4,cst5⟩:=zAH hst;replace lst:=zB hst;generalize zAJ (l1,l2)=ls at *;have HBD:=zF hbd;clear hbd;obtain ⟨aL,cL,rfl⟩:=zN hrow;go_wp2_with fail
 go_loopg [3,10] (ls.length) (fun m sv i wx=>∃ (k:Nat) (bs:List UInt8),sv=.string ⟨bs.toArray⟩∧i=.int .i64 k∧k + m=ls.length∧bs=[99] ++ zBK (ls.take k)∧bs.length≤1 + 22 * k∧Below w.heap.size w wx∧Below u2.heap.size u2 wx)
 case atStart=>exact ⟨0,[99],rfl,rfl,by omega,rfl,by decide,hB,Below.refl _ _⟩
 case round=>
  obtain ⟨k,bs,rfl,rfl,hkm,hbs,hbl,hbw,hbu⟩:=hrel;have HBS:=zF hbs;clear hbs
  by_cases hlt:k < ls.length
  ·have hd3:decide ((k:Int) < (ls.length:Int))=true:=decide_eq_true (by omega);have hd4:decide (k < ls.length)=true:=decide_eq_true hlt;obtain ⟨g,cap,hVe,_,hg',_,hcell⟩:=zS (zO hrow hbu) (by omega);injection hVe with hVe _ hV2;subst hVe hV2;have hx:=hcell _ _ (zRn ls k hlt);have hb8:=zA HBD _ (List.getElem_mem hlt);have HTK:=zF (List.take_succ_eq_append_getElem hlt);clear hcell;generalize ls[k]=x at *;have htr:=ht.later hbw;have hxl:=Lib.itoa_length_le x (by omega) (by omega);go_wp2_with fail;refine (zEV x (by omega) (by omega) _ htr).mono ?_;rintro e u9 ⟨rfl,b9⟩;have HSN:=zF (zI7 (ls.take k) x);generalize Lib.itoa x=y at *;have HE:=zF (zMX (zBK (ls.take k)) y);rw [← zA HBS] at HE;have HN:Hid ([99] ++ (zBK (ls.take k) ++ 32 :: y)=[99] ++ zBK (ls.take (k + 1))):=zF (by rw [zA HTK,zA HSN]);go_wp2_with fail
   go_roundg (gk - 1)
   case measure=>omega
   case rel=>exact ⟨k + 1,[99] ++ (zBK (ls.take k) ++ 32 :: y),by rw [zA HE],by go_num,by omega,zA HN,by rw [← List.append_assoc,← zA HBS,List.length_append,List.length_cons];omega,hbw.trans (b9.mono hbw.size),hbu.trans (b9.mono hbu.size)⟩
  ·have hd3:decide ((k:Int) < (ls.length:Int))=false:=decide_eq_false (by omega);have hd4:decide (k < ls.length)=false:=decide_eq_false hlt;have HN:Hid (bs=[99] ++ zBK ls):=zF (by rw [zA HBS,List.take_of_length_le (by omega)]);have HE:=zF (zQI (zBK ls));rw [← zA HN] at HE;go_wp2_with fail;go_ret;exact ⟨by rw [zA HE,zA HR,← zA HN];rfl,hbw⟩
structure zJY (s:Stp):Prop where
 first:s.first≤1048576
 second:s.rule=3→s.second≤1048576
 var:s.rule=3→s.var≤1048576
 lits:s.lits.1 < 512∧s.lits.2 < 512
theorem zNo (l:List Int):∀ x:List UInt8,zDa (x :: l.map Lib.itoa)=x ++ zBK l:=by
 induction l with
 | nil=>intro x;simp [zDa,zBK]
 | cons a l ih=>
  intro x;rw [List.map_cons];show x ++ 32 :: zDa (Lib.itoa a :: l.map Lib.itoa)=_;rw [ih];simp [zBK]
theorem zGk (n:Nat):Lib.itoa (n:Int)=Lib.decDigits n:=zGr n
theorem zRm (c:UInt8) (s:Stp) (h:zCd s=[[c],Lib.decDigits s.first]):zA2 s ++ [10]=[c,32] ++ Lib.itoa (s.first:Int) ++ [10]:=by
 unfold zA2;rw [h,zGk];simp [zDa]
theorem zRf (s:Stp) (h:s.rule=3):zA2 s ++ [10]=zGn s:=by
 unfold zA2 zCd zGn;rw [if_neg (by omega),if_neg (by omega),if_pos h,zGk,zGk,zGk];simp [zDa]
theorem zO5 (s:Stp) (h:s.rule=2):zA2 s ++ [10]=zIJ s:=by
 unfold zA2 zCd zIJ;rw [if_neg (by omega),if_pos h,zNo]
theorem zJS (c:UInt8) (a:List UInt8):ByteArray.mk #[c,32] ++ ByteArray.mk a.toArray ++ ByteArray.mk #[10]=ByteArray.mk ([c,32] ++ a ++ [10]).toArray:=by
 rw [show (ByteArray.mk #[c,32])=ByteArray.mk ([c,32]:List UInt8).toArray from rfl,show (ByteArray.mk #[10])=ByteArray.mk ([10]:List UInt8).toArray from rfl];simp only [zBV]
theorem zLp (s:Stp) (w:World) (ht:TabAt w) (hs:zJY s) :
  Calls Tryz.prog 64 #[zCi s] w fun e w'=>e=.returned (.string ⟨(zA2 s ++ [10]).toArray⟩)∧Below w.heap.size w w':=by
 obtain ⟨h1,h2,h3,h4⟩:=hs;have HC:=zF (zKV s);have HRL:=zF (zGR s);have HL2:=zF (zO5 s);have HL3:=zF (zRf s);have HO:=zF (fun c h=>zRm c s h);have HWP:Hid (zCd s=if s.rule=1 then [[97],Lib.decDigits s.first] else if s.rule=2 then [99] :: (zAJ s.lits).map Lib.itoa else if s.rule=3 then [[114],Lib.decDigits s.first,Lib.decDigits s.second,Lib.decDigits s.var] else [[100],Lib.decDigits s.first]):=zF rfl;obtain ⟨sr,sf,ss,sv,l1,l2⟩:=s;dsimp only at h1 h2 h3 h4 HC HRL HL2 HL3 HO HWP ⊢
 rcases (show sr=1∨sr=2∨sr=3∨(sr≠1∧sr≠2∧sr≠3) by omega) with hr | hr | hr | hr
 ·have HF:Hid (zA2 ⟨sr,sf,ss,sv,(l1,l2)⟩ ++ [10]=[97,32] ++ Lib.itoa (sf:Int) ++ [10]):=zF (zA HO 97 (by rw [zA HWP,if_pos hr]));have hd1:((sr:Int) == 1)=true:=(by rw [beq_iff_eq];omega);have hn1:(sr == 1)=true:=(by rw [beq_iff_eq];exact hr);have hd2:((sr:Int) == 2)=false:=(by rw [beq_eq_false_iff_ne];omega);have hn2:(sr == 2)=false:=(by rw [beq_eq_false_iff_ne];omega);have hd3:((sr:Int) == 3)=false:=(by rw [beq_eq_false_iff_ne];omega);have hn3:(sr == 3)=false:=(by rw [beq_eq_false_iff_ne];omega);clear hr HL2 HL3 HO HWP h2 h3
  go_enter Tryz.func64,Tryz.ntmps64
  go_wp2_with fail;generalize hw0:(w.alloc (.cells #[.int .i64 (sr:Int),.int .i64 (sf:Int),.int .i64 (ss:Int),.int .i64 (sv:Int),.int .i64 (l1:Int),.int .i64 (l2:Int)] 134))=u1;have hB:Below w.heap.size w u1:=(by rw [← hw0];exact (Below.refl _ _).alloc (Nat.le_refl _) _);have hst:u1.heap[w.heap.size]?=some (.cells #[.int .i64 (sr:Int),.int .i64 (sf:Int),.int .i64 (ss:Int),.int .i64 (sv:Int),.int .i64 (l1:Int),.int .i64 (l2:Int)] 134 (0,0)):=(by rw [← hw0];exact zP (by simp));clear hw0;obtain ⟨cst0,cst1,cst2,cst3,cst4,cst5⟩:=zAH hst;have lst:=zB hst;have ht0:=ht.later hB;have hxl:=Lib.itoa_length_le (sf:Int) (by omega) (by omega);refine (zEV (sf:Int) (by omega) (by omega) _ ht0).mono ?_;rintro e u2 ⟨rfl,b2⟩;replace hB:=hB.trans (b2.mono hB.size);replace hst:=zH b2 hst;clear cst0 cst1 cst2 cst3 cst4 cst5;obtain ⟨cst0,cst1,cst2,cst3,cst4,cst5⟩:=zAH hst;replace lst:=zB hst;generalize Lib.itoa (sf:Int)=x at *;have HE:=zF (zJS 97 x);go_wp2_with fail;go_ret;exact ⟨by rw [zA HE,zA HF];rfl,hB⟩
 ·have HF:Hid (zA2 ⟨sr,sf,ss,sv,(l1,l2)⟩ ++ [10]=zIJ ⟨sr,sf,ss,sv,(l1,l2)⟩):=zF (zA HL2 hr);have hd1:((sr:Int) == 1)=false:=(by rw [beq_eq_false_iff_ne];omega);have hn1:(sr == 1)=false:=(by rw [beq_eq_false_iff_ne];omega);have hd2:((sr:Int) == 2)=true:=(by rw [beq_iff_eq];omega);have hn2:(sr == 2)=true:=(by rw [beq_iff_eq];exact hr);have hd3:((sr:Int) == 3)=false:=(by rw [beq_eq_false_iff_ne];omega);have hn3:(sr == 3)=false:=(by rw [beq_eq_false_iff_ne];omega);clear hr HL2 HL3 HO HWP h2 h3
  go_enter Tryz.func64,Tryz.ntmps64
  go_wp2_with fail;generalize hw0:(w.alloc (.cells #[.int .i64 (sr:Int),.int .i64 (sf:Int),.int .i64 (ss:Int),.int .i64 (sv:Int),.int .i64 (l1:Int),.int .i64 (l2:Int)] 134))=u1;have hB:Below w.heap.size w u1:=(by rw [← hw0];exact (Below.refl _ _).alloc (Nat.le_refl _) _);have hst:u1.heap[w.heap.size]?=some (.cells #[.int .i64 (sr:Int),.int .i64 (sf:Int),.int .i64 (ss:Int),.int .i64 (sv:Int),.int .i64 (l1:Int),.int .i64 (l2:Int)] 134 (0,0)):=(by rw [← hw0];exact zP (by simp));clear hw0;obtain ⟨cst0,cst1,cst2,cst3,cst4,cst5⟩:=zAH hst;have lst:=zB hst;have ht0:=ht.later hB;refine (zA HC _ ht0 h4).mono ?_;rintro e u2 ⟨rfl,b2⟩;replace hB:=hB.trans (b2.mono hB.size);replace hst:=zH b2 hst;clear cst0 cst1 cst2 cst3 cst4 cst5;obtain ⟨cst0,cst1,cst2,cst3,cst4,cst5⟩:=zAH hst;replace lst:=zB hst;go_wp2_with fail;go_ret;exact ⟨by rw [zA HF];rfl,hB⟩
 ·have HF:Hid (zA2 ⟨sr,sf,ss,sv,(l1,l2)⟩ ++ [10]=zGn ⟨sr,sf,ss,sv,(l1,l2)⟩):=zF (zA HL3 hr);replace h2:=h2 hr;replace h3:=h3 hr;have hd1:((sr:Int) == 1)=false:=(by rw [beq_eq_false_iff_ne];omega);have hn1:(sr == 1)=false:=(by rw [beq_eq_false_iff_ne];omega);have hd2:((sr:Int) == 2)=false:=(by rw [beq_eq_false_iff_ne];omega);have hn2:(sr == 2)=false:=(by rw [beq_eq_false_iff_ne];omega);have hd3:((sr:Int) == 3)=true:=(by rw [beq_iff_eq];omega);have hn3:(sr == 3)=true:=(by rw [beq_iff_eq];exact hr);clear hr HL2 HL3 HO HWP
  go_enter Tryz.func64,Tryz.ntmps64
  go_wp2_with fail;generalize hw0:(w.alloc (.cells #[.int .i64 (sr:Int),.int .i64 (sf:Int),.int .i64 (ss:Int),.int .i64 (sv:Int),.int .i64 (l1:Int),.int .i64 (l2:Int)] 134))=u1;have hB:Below w.heap.size w u1:=(by rw [← hw0];exact (Below.refl _ _).alloc (Nat.le_refl _) _);have hst:u1.heap[w.heap.size]?=some (.cells #[.int .i64 (sr:Int),.int .i64 (sf:Int),.int .i64 (ss:Int),.int .i64 (sv:Int),.int .i64 (l1:Int),.int .i64 (l2:Int)] 134 (0,0)):=(by rw [← hw0];exact zP (by simp));clear hw0;obtain ⟨cst0,cst1,cst2,cst3,cst4,cst5⟩:=zAH hst;have lst:=zB hst;have ht0:=ht.later hB;refine (zA HRL _ ht0 h1 h2 h3).mono ?_;rintro e u2 ⟨rfl,b2⟩;replace hB:=hB.trans (b2.mono hB.size);replace hst:=zH b2 hst;clear cst0 cst1 cst2 cst3 cst4 cst5;obtain ⟨cst0,cst1,cst2,cst3,cst4,cst5⟩:=zAH hst;replace lst:=zB hst;go_wp2_with fail;go_ret;exact ⟨by rw [zA HF];rfl,hB⟩
 ·have HF:Hid (zA2 ⟨sr,sf,ss,sv,(l1,l2)⟩ ++ [10]=[100,32] ++ Lib.itoa (sf:Int) ++ [10]):=zF (zA HO 100 (by rw [zA HWP,if_neg hr.1,if_neg hr.2.1,if_neg hr.2.2]));have hd1:((sr:Int) == 1)=false:=(by rw [beq_eq_false_iff_ne];omega);have hn1:(sr == 1)=false:=(by rw [beq_eq_false_iff_ne];omega);have hd2:((sr:Int) == 2)=false:=(by rw [beq_eq_false_iff_ne];omega);have hn2:(sr == 2)=false:=(by rw [beq_eq_false_iff_ne];omega);have hd3:((sr:Int) == 3)=false:=(by rw [beq_eq_false_iff_ne];omega);have hn3:(sr == 3)=false:=(by rw [beq_eq_false_iff_ne];omega);clear hr HL2 HL3 HO HWP h2 h3
  go_enter Tryz.func64,Tryz.ntmps64
  go_wp2_with fail;generalize hw0:(w.alloc (.cells #[.int .i64 (sr:Int),.int .i64 (sf:Int),.int .i64 (ss:Int),.int .i64 (sv:Int),.int .i64 (l1:Int),.int .i64 (l2:Int)] 134))=u1;have hB:Below w.heap.size w u1:=(by rw [← hw0];exact (Below.refl _ _).alloc (Nat.le_refl _) _);have hst:u1.heap[w.heap.size]?=some (.cells #[.int .i64 (sr:Int),.int .i64 (sf:Int),.int .i64 (ss:Int),.int .i64 (sv:Int),.int .i64 (l1:Int),.int .i64 (l2:Int)] 134 (0,0)):=(by rw [← hw0];exact zP (by simp));clear hw0;obtain ⟨cst0,cst1,cst2,cst3,cst4,cst5⟩:=zAH hst;have lst:=zB hst;have ht0:=ht.later hB;have hxl:=Lib.itoa_length_le (sf:Int) (by omega) (by omega);refine (zEV (sf:Int) (by omega) (by omega) _ ht0).mono ?_;rintro e u2 ⟨rfl,b2⟩;replace hB:=hB.trans (b2.mono hB.size);replace hst:=zH b2 hst;clear cst0 cst1 cst2 cst3 cst4 cst5;obtain ⟨cst0,cst1,cst2,cst3,cst4,cst5⟩:=zAH hst;replace lst:=zB hst;generalize Lib.itoa (sf:Int)=x at *;have HE:=zF (zJS 100 x);go_wp2_with fail;go_ret;exact ⟨by rw [zA HE,zA HF];rfl,hB⟩
def zAs (l:List UInt8):List Value:=l.map fun b=>Value.int .u8 b.toNat
theorem zFs (l:List UInt8):Lib.strCells ⟨l.toArray⟩=zAs l:=by simp [Lib.strCells,zAs]
theorem zE5 (a b:List UInt8):zAs (a ++ b)=zAs a ++ zAs b:=by simp [zAs]
def zEN (truth:Bool):List UInt8:=zGo truth ++ [10]
def zBy (truth:Bool) (p:List Stp):List UInt8:=zEN truth ++ p.flatMap (fun s=>zA2 s ++ [10])
theorem zJf (truth:Bool) (p:List Stp):zBy truth p=zDM truth p:=by
 unfold zBy zDM zFv zEN;simp [List.flatMap_map]
theorem zHl (truth:Bool) (p:List Stp) (s:Stp):zBy truth (p ++ [s])=zBy truth p ++ (zA2 s ++ [10]):=by simp [zBy]
theorem zQ5 (b o:Nat) (cells:Array Value) (t:TypeId) (p:List Stp) (vS:Value) (kind:Nat) (w:World) (hP:PAt w b o cells t p vS kind) (hk:kind=1∨kind=2) (ht:TabAt w) (hbd:∀ s∈p,zJY s) (hlen:∀ s∈p,(zA2 s).length≤400) (hl:p.length≤100000) :
  Calls Tryz.prog 42 #[.pointer (some ⟨b,o,none⟩)] w fun e w'=>e=.returned (.string ⟨(zDM (kind == 2) p).toArray⟩)∧Below w.heap.size w w':=by
 obtain ⟨aS,cS,rfl⟩:=zN hP.own;have hbw:=zB hP.fb;have ck1:w.cell? ⟨b,o,none⟩=some (.int .i64 (kind:Int)):=(by rw [zC hP.fb];exact hP.ck);have cs1:w.cell? ⟨b,o + 1,none⟩=some (.slice aS p.length cS):=(by rw [zC hP.fb];exact hP.cs);obtain ⟨i1,hi1,hz10,hz11,hz12⟩:=info_parts (show (Tryz.prog.info? 5).map (fun i=>(i.zero,i.size,i.bytes))=some (some (.int .u8 0),1,1) by kernel_rfl)
 rcases hk with hk | hk
 ·skip
  have hd1:((kind:Int) == 2)=false:=(by rw [beq_eq_false_iff_ne];omega);have hd2:(kind == 2)=false:=(by rw [beq_eq_false_iff_ne];omega);clear hk;have HTT:Hid (zDM false p=zBy false p):=zF (by rw [zJf])
  go_enter Tryz.func42,Tryz.ntmps42
  go_wp2_with (at_builtin;refine Lib.wpList_append_own_string _ rfl _ _ 114 9 rfl w.heap.size 5 i1 Tryz.underlying114 Tryz.underlying9 hi1 hz10 hz11 hz12 _ 0 [] rfl (World.ownsRow_nil _ _ _ _) _ rfl (by decide) (by decide) (Nat.le_refl _) ?_;intro v1 w1 hown1 hgrow1 hnn1;have hown2:w1.ownsRow w.heap.size 5 1 v1 (zEN false).length (zAs (zEN false)):=hown1;have hB1:Below w.heap.size w w1:=za (Below.refl _ _) hgrow1 (World.ownsRow_nil w w.heap.size 5 1) (Nat.le_refl _) (Nat.le_refl _);obtain ⟨a1,c1,rfl⟩:=zN hown2;have cs2:w1.cell? ⟨b,o + 1,none⟩=some (.slice aS p.length cS):=(by rw [hB1.cell (p:=⟨b,o + 1,none⟩) hbw];exact cs1);have lb1:b < w1.heap.size:=Nat.lt_of_lt_of_le hbw hB1.size;clear hown1 hgrow1 hnn1)
  go_loopg [4,21] (p.length) (fun m tv i wx=>∃ (k:Nat) (acc:List UInt8),i=.int .i64 k∧k + m=p.length∧acc=zBy false (p.take k)∧acc.length≤12 + 401 * k∧wx.ownsRow w.heap.size 5 1 tv acc.length (zAs acc)∧Below w.heap.size w wx)
  case atStart=>exact ⟨0,zEN false,rfl,by omega,by simp [zBy],by decide,hown2,hB1⟩
  case round=>
   clear cs2 lb1 hown2 hB1;obtain ⟨k,acc,rfl,hkm,hac,hal,hown,hB⟩:=hrel;have HAC:=zF hac;clear hac;obtain ⟨aV,cV,rfl⟩:=zN hown;have hPr:=hP.later hB;have hbs:=hB.size
   by_cases hlt:k < p.length
   ·have hd3:decide ((k:Int) < (p.length:Int))=true:=decide_eq_true (by omega);have hd4:decide (k < p.length)=true:=decide_eq_true hlt;obtain ⟨g2,cap,hVe,_,hg2',_,hcell⟩:=zS hPr.own (by omega);injection hVe with hVe _ hV2;subst hVe hV2;have e0:wr.cell? ⟨g2,k * 6,none⟩=some (.int .i64 (p[k].rule:Int)):=hcell _ _ (zh p k 0 hlt (by omega));have e1:wr.cell? ⟨g2,k * 6 + 1,none⟩=some (.int .i64 (p[k].first:Int)):=hcell _ _ (zh p k 1 hlt (by omega));have e2:wr.cell? ⟨g2,k * 6 + 2,none⟩=some (.int .i64 (p[k].second:Int)):=hcell _ _ (zh p k 2 hlt (by omega));have e3:wr.cell? ⟨g2,k * 6 + 3,none⟩=some (.int .i64 (p[k].var:Int)):=hcell _ _ (zh p k 3 hlt (by omega));have e4:wr.cell? ⟨g2,k * 6 + 4,none⟩=some (.int .i64 (p[k].lits.1:Int)):=hcell _ _ (zh p k 4 hlt (by omega));have e5:wr.cell? ⟨g2,k * 6 + 5,none⟩=some (.int .i64 (p[k].lits.2:Int)):=hcell _ _ (zh p k 5 hlt (by omega));have hsb:=hbd _ (List.getElem_mem hlt);have hsl:=hlen _ (List.getElem_mem hlt);have HTK:Hid (zBy false (p.take (k + 1))=zBy false (p.take k) ++ (zA2 p[k] ++ [10])):=zF (by rw [List.take_succ_eq_append_getElem hlt,zHl]);clear hcell;generalize p[k]=st at *;obtain ⟨sr,sf,ss,sv,l1,l2⟩:=st;dsimp only at e0 e1 e2 e3 e4 e5;go_wp2_with fail;have hA:Below wr.heap.size wr (wr.alloc (.cells #[.int .i64 (sr:Int),.int .i64 (sf:Int),.int .i64 (ss:Int),.int .i64 (sv:Int),.int .i64 (l1:Int),.int .i64 (l2:Int)] 134)):=(Below.refl _ _).alloc (Nat.le_refl _) _;have hBA:=hB.trans (hA.mono hB.size);refine (zLp ⟨sr,sf,ss,sv,(l1,l2)⟩ _ (ht.later hBA) hsb).mono ?_;rintro e u5 ⟨rfl,b5⟩;have hB5:=hBA.trans (b5.mono hBA.size);have hA5:Below wr.heap.size wr u5:=hA.trans (b5.mono hA.size);have hown5:=zO hown hA5;have hbs5:=hB5.size;clear hBA hA b5 e0 e1 e2 e3 e4 e5;have hsl2:(zA2 ⟨sr,sf,ss,sv,(l1,l2)⟩ ++ [10]).length≤401:=(by rw [List.length_append];exact Nat.add_le_add_right hsl 1);generalize zA2 ⟨sr,sf,ss,sv,(l1,l2)⟩ ++ [10]=ln at *;have hszl:(ByteArray.mk ln.toArray).size=ln.length:=(by simp [ByteArray.size]);have HBV:Hid (zAs acc ++ Lib.strCells ⟨ln.toArray⟩=zAs (acc ++ ln)):=zF (by rw [zFs,zE5])
    go_wp2_with (at_builtin;refine Lib.wpList_append_own_string _ rfl _ _ 114 9 rfl w.heap.size 5 i1 Tryz.underlying114 Tryz.underlying9 hi1 hz10 hz11 hz12 _ acc.length (zAs acc) rfl hown5 ⟨ln.toArray⟩ rfl (by unfold maxLen;rw [hszl];omega) (by rw [hszl];omega) hbs5 ?_;intro v6 w6 hown6 hgrow6 hnn6)
    have hB6:Below w.heap.size w w6:=za hB5 hgrow6 hown5 (Nat.le_refl _) hbs5;rw [hszl,zA HBV] at hown6;obtain ⟨a6,c6,rfl⟩:=zN hown6;go_wp2_with fail
    go_roundg (gk - 1)
    case measure=>omega
    case rel=>exact ⟨k + 1,acc ++ ln,by go_num,by omega,by rw [zA HTK,zA HAC],by rw [List.length_append];omega,by rw [List.length_append];exact hown6,hB6⟩
   ·have hd3:decide ((k:Int) < (p.length:Int))=false:=decide_eq_false (by omega);have hd4:decide (k < p.length)=false:=decide_eq_false hlt;have HF:Hid (acc=zBy false p):=zF (by rw [zA HAC,List.take_of_length_le (by omega)]);have hpos:0 < acc.length:=(by rw [zA HF];unfold zBy;rw [List.length_append];exact Nat.lt_of_lt_of_le (show 0 < (zEN false).length by decide) (Nat.le_add_right _ _));obtain ⟨g3,cap3,hVe,_,hg3',_,hcell⟩:=zS hown hpos;injection hVe with hVe _ hV2;subst hVe hV2;have hcv:=run_convert_bytes_back (P:=Tryz.prog) wr 114 9 5 ⟨g3,0,none⟩ cV acc Tryz.underlying114 Tryz.underlying5 Tryz.underlying9 (fun j hj=>by
     rw [show (⟨g3,0,none⟩:Addr).add j=⟨g3,j,none⟩ from by unfold Addr.add;split<;>simp_all];exact hcell j _ (by simp [zAs,hj]))
    clear hcell;go_wp2_with fail;go_ret;exact ⟨by rw [zA HTT,← zA HF];rfl,hB⟩
 ·skip
  have hd1:((kind:Int) == 2)=true:=(by rw [beq_iff_eq];omega);have hd2:(kind == 2)=true:=(by rw [beq_iff_eq];omega);clear hk;have HTT:Hid (zDM true p=zBy true p):=zF (by rw [zJf])
  go_enter Tryz.func42,Tryz.ntmps42
  go_wp2_with (at_builtin;refine Lib.wpList_append_own_string _ rfl _ _ 114 9 rfl w.heap.size 5 i1 Tryz.underlying114 Tryz.underlying9 hi1 hz10 hz11 hz12 _ 0 [] rfl (World.ownsRow_nil _ _ _ _) _ rfl (by decide) (by decide) (Nat.le_refl _) ?_;intro v1 w1 hown1 hgrow1 hnn1;have hown2:w1.ownsRow w.heap.size 5 1 v1 (zEN true).length (zAs (zEN true)):=hown1;have hB1:Below w.heap.size w w1:=za (Below.refl _ _) hgrow1 (World.ownsRow_nil w w.heap.size 5 1) (Nat.le_refl _) (Nat.le_refl _);obtain ⟨a1,c1,rfl⟩:=zN hown2;have cs2:w1.cell? ⟨b,o + 1,none⟩=some (.slice aS p.length cS):=(by rw [hB1.cell (p:=⟨b,o + 1,none⟩) hbw];exact cs1);have lb1:b < w1.heap.size:=Nat.lt_of_lt_of_le hbw hB1.size;clear hown1 hgrow1 hnn1)
  go_loopg [4,21] (p.length) (fun m tv i wx=>∃ (k:Nat) (acc:List UInt8),i=.int .i64 k∧k + m=p.length∧acc=zBy true (p.take k)∧acc.length≤12 + 401 * k∧wx.ownsRow w.heap.size 5 1 tv acc.length (zAs acc)∧Below w.heap.size w wx)
  case atStart=>exact ⟨0,zEN true,rfl,by omega,by simp [zBy],by decide,hown2,hB1⟩
  case round=>
   clear cs2 lb1 hown2 hB1;obtain ⟨k,acc,rfl,hkm,hac,hal,hown,hB⟩:=hrel;have HAC:=zF hac;clear hac;obtain ⟨aV,cV,rfl⟩:=zN hown;have hPr:=hP.later hB;have hbs:=hB.size
   by_cases hlt:k < p.length
   ·have hd3:decide ((k:Int) < (p.length:Int))=true:=decide_eq_true (by omega);have hd4:decide (k < p.length)=true:=decide_eq_true hlt;obtain ⟨g2,cap,hVe,_,hg2',_,hcell⟩:=zS hPr.own (by omega);injection hVe with hVe _ hV2;subst hVe hV2;have e0:wr.cell? ⟨g2,k * 6,none⟩=some (.int .i64 (p[k].rule:Int)):=hcell _ _ (zh p k 0 hlt (by omega));have e1:wr.cell? ⟨g2,k * 6 + 1,none⟩=some (.int .i64 (p[k].first:Int)):=hcell _ _ (zh p k 1 hlt (by omega));have e2:wr.cell? ⟨g2,k * 6 + 2,none⟩=some (.int .i64 (p[k].second:Int)):=hcell _ _ (zh p k 2 hlt (by omega));have e3:wr.cell? ⟨g2,k * 6 + 3,none⟩=some (.int .i64 (p[k].var:Int)):=hcell _ _ (zh p k 3 hlt (by omega));have e4:wr.cell? ⟨g2,k * 6 + 4,none⟩=some (.int .i64 (p[k].lits.1:Int)):=hcell _ _ (zh p k 4 hlt (by omega));have e5:wr.cell? ⟨g2,k * 6 + 5,none⟩=some (.int .i64 (p[k].lits.2:Int)):=hcell _ _ (zh p k 5 hlt (by omega));have hsb:=hbd _ (List.getElem_mem hlt);have hsl:=hlen _ (List.getElem_mem hlt);have HTK:Hid (zBy true (p.take (k + 1))=zBy true (p.take k) ++ (zA2 p[k] ++ [10])):=zF (by rw [List.take_succ_eq_append_getElem hlt,zHl]);clear hcell;generalize p[k]=st at *;obtain ⟨sr,sf,ss,sv,l1,l2⟩:=st;dsimp only at e0 e1 e2 e3 e4 e5;go_wp2_with fail;have hA:Below wr.heap.size wr (wr.alloc (.cells #[.int .i64 (sr:Int),.int .i64 (sf:Int),.int .i64 (ss:Int),.int .i64 (sv:Int),.int .i64 (l1:Int),.int .i64 (l2:Int)] 134)):=(Below.refl _ _).alloc (Nat.le_refl _) _;have hBA:=hB.trans (hA.mono hB.size);refine (zLp ⟨sr,sf,ss,sv,(l1,l2)⟩ _ (ht.later hBA) hsb).mono ?_;rintro e u5 ⟨rfl,b5⟩;have hB5:=hBA.trans (b5.mono hBA.size);have hA5:Below wr.heap.size wr u5:=hA.trans (b5.mono hA.size);have hown5:=zO hown hA5;have hbs5:=hB5.size;clear hBA hA b5 e0 e1 e2 e3 e4 e5;have hsl2:(zA2 ⟨sr,sf,ss,sv,(l1,l2)⟩ ++ [10]).length≤401:=(by rw [List.length_append];exact Nat.add_le_add_right hsl 1);generalize zA2 ⟨sr,sf,ss,sv,(l1,l2)⟩ ++ [10]=ln at *;have hszl:(ByteArray.mk ln.toArray).size=ln.length:=(by simp [ByteArray.size]);have HBV:Hid (zAs acc ++ Lib.strCells ⟨ln.toArray⟩=zAs (acc ++ ln)):=zF (by rw [zFs,zE5])
    go_wp2_with (at_builtin;refine Lib.wpList_append_own_string _ rfl _ _ 114 9 rfl w.heap.size 5 i1 Tryz.underlying114 Tryz.underlying9 hi1 hz10 hz11 hz12 _ acc.length (zAs acc) rfl hown5 ⟨ln.toArray⟩ rfl (by unfold maxLen;rw [hszl];omega) (by rw [hszl];omega) hbs5 ?_;intro v6 w6 hown6 hgrow6 hnn6)
    have hB6:Below w.heap.size w w6:=za hB5 hgrow6 hown5 (Nat.le_refl _) hbs5;rw [hszl,zA HBV] at hown6;obtain ⟨a6,c6,rfl⟩:=zN hown6;go_wp2_with fail
    go_roundg (gk - 1)
    case measure=>omega
    case rel=>exact ⟨k + 1,acc ++ ln,by go_num,by omega,by rw [zA HTK,zA HAC],by rw [List.length_append];omega,by rw [List.length_append];exact hown6,hB6⟩
   ·have hd3:decide ((k:Int) < (p.length:Int))=false:=decide_eq_false (by omega);have hd4:decide (k < p.length)=false:=decide_eq_false hlt;have HF:Hid (acc=zBy true p):=zF (by rw [zA HAC,List.take_of_length_le (by omega)]);have hpos:0 < acc.length:=(by rw [zA HF];unfold zBy;rw [List.length_append];exact Nat.lt_of_lt_of_le (show 0 < (zEN true).length by decide) (Nat.le_add_right _ _));obtain ⟨g3,cap3,hVe,_,hg3',_,hcell⟩:=zS hown hpos;injection hVe with hVe _ hV2;subst hVe hV2;have hcv:=run_convert_bytes_back (P:=Tryz.prog) wr 114 9 5 ⟨g3,0,none⟩ cV acc Tryz.underlying114 Tryz.underlying5 Tryz.underlying9 (fun j hj=>by
     rw [show (⟨g3,0,none⟩:Addr).add j=⟨g3,j,none⟩ from by unfold Addr.add;split<;>simp_all];exact hcell j _ (by simp [zAs,hj]))
    clear hcell;go_wp2_with fail;go_ret;exact ⟨by rw [zA HTT,← zA HF];rfl,hB⟩
theorem zSl {q:QS} (hq:QB q) {k:Nat} {p:List Stp} {s:Stp} (h:zRV q k p s) (hp:p.length≤100000):zJY s:=by
 obtain ⟨h1,h2⟩:=h;have hcl:=hq.cl;refine ⟨?_,fun h3=>?_,fun h3=>?_,h1.bd⟩
 ·rcases h2 with ⟨_,_,_,h4,_⟩ | ⟨_,_,h4,_⟩ | ⟨_,h4,_⟩ | ⟨_,h4,_⟩
  ·omega
  ·omega
  ·omega
  ·omega
 ·rcases h2 with ⟨h4,_⟩ | ⟨h4,_⟩ | ⟨_,_,h4,_⟩ | ⟨h4,_⟩
  ·omega
  ·omega
  ·omega
  ·omega
 ·rcases h2 with ⟨h4,_⟩ | ⟨h4,_⟩ | ⟨_,_,_,⟨x,hx,h4,_⟩,_⟩ | ⟨h4,_⟩
  ·omega
  ·omega
  ·have:=hq.names x hx;omega
  ·omega
theorem zQM {q:QS} (hq:QB q) {k:Nat} {p:List Stp} (hp:POk q k p) {last:Nat} (h1:1≤last) (hl:last≤p.length) (hf:Free (zM p last)) (hpl:p.length≤90000):(∀ s∈z6 p last,zJY s)∧(∀ s∈z6 p last,(zA2 s).length≤400)∧(z6 p last).length≤100000:=by
 obtain ⟨s1,s2,s3,_⟩:=zLZ hp h1 hl hf;have hb:∀ s∈z6 p last,zJY s:=by
  intro s hs;obtain ⟨i,hi,rfl⟩:=List.mem_iff_getElem.1 hs;exact zSl hq (s1 i hi) (by rw [List.length_take];omega)
 have hst:∀ s∈z6 p last,(s.rule≠2→s.first < 1000000)∧(s.rule=3→s.second < 1000000∧s.var < 1000000):=by
  intro s hs;obtain ⟨i,hi,rfl⟩:=List.mem_iff_getElem.1 hs;have h:=(s1 i hi).2;have hcl:=hq.cl;have ht:((z6 p last).take i).length≤100000:=by rw [List.length_take];omega
  rcases h with ⟨h4,_,_,h5,_⟩ | ⟨h4,_⟩ | ⟨_,h4,h5,⟨x,hx,h6,_⟩,_⟩ | ⟨h4,h5,_⟩
  ·exact ⟨fun _=>by omega,fun e=>by omega⟩
  ·exact ⟨fun e=>absurd h4 e,fun e=>by omega⟩
  ·have:=hq.names x hx
   exact ⟨fun _=>by omega,fun _=>⟨by omega,by omega⟩⟩
  ·exact ⟨fun _=>by omega,fun e=>by omega⟩
 refine ⟨hb,fun s hs=>?_,by omega⟩
 have:=zEZ (s2 s hs) (hst s hs).1 (hst s hs).2
 omega
end Go.Proofs.YtgipjjhkhfihpaaGreatDoor
