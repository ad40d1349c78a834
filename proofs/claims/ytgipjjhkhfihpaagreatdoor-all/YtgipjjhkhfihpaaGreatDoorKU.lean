import Derived.Test.YtgipjjhkhfihpaaGreatDoorKT
import Derived.Test.YtgipjjhkhfihpaaGreatDoorKQ
import Derived.Laws.Tables
import Derived.Laws.Rows
import Derived.Laws.CopyOwn
import Derived.Test.YtgipjjhkhfihpaaGreatDoorKO
import Derived.Test.YtgipjjhkhfihpaaGreatDoorKL
import Derived.Laws.MakeOwn
set_option maxRecDepth 100000
set_option maxHeartbeats 6400000
namespace Go.Proofs.YtgipjjhkhfihpaaGreatDoor
open Go.RowKit
theorem zFb (ws:List (List UInt8)) (k:Nat) (h:∀ w∈ws,w.length≤k):(zDa ws).length≤(k + 1) * ws.length:=by
 induction ws with
 | nil=>simp [zDa]
 | cons w ws ih=>
  have h1:=h w (by simp);have h2:=ih (fun x hx=>h x (by simp [hx]))
  cases ws with
  | nil=>simp [zDa];omega
  | cons x ws=>
   show (w ++ 32 :: zDa (x :: ws)).length≤_;simp only [List.length_append,List.length_cons] at h2 ⊢;rw [Nat.mul_add (k + 1) (ws.length + 1) 1];omega
theorem zJH {c:Nat × Nat} (hf:Free c):∀ k v,1≤v→v + k≤9→(zAP c k v).length≤k:=by
 intro k
 induction k with
 | zero=>intro v _ _;simp [zAP]
 | succ k ih=>
  intro v h1 h9;have hp:zj c (v:Int)=L c true v:=zBm c v true h1 (by omega);have hn:zj c (-(v:Int))=L c false v:=zBm c v false h1 (by omega)
  have:=ih (v + 1) (by omega) (by omega)
  rw [zAP,hp,hn]
  cases e1:L c true v with
  | true=>
   have e2:=hf.not e1;simp only [Bool.not_true] at e2;rw [e2];simp;omega
  | false=>
   cases e2:L c false v with
   | true=>simp;omega
   | false=>simp;omega
theorem zEZ {s:Stp} (hf:Free s.lits) (h1:s.rule≠2→s.first < 1000000) (h2:s.rule=3→s.second < 1000000∧s.var < 1000000):(zA2 s).length≤28:=by
 unfold zA2 zCd
 split
 ·have d1:=zCg _ (h1 (by omega))
  have:=zFb [[97],Lib.decDigits s.first] 6 (by simp;exact d1)
  simp at this;omega
 ·split
  ·have hl:=zJH hf 8 1 (by omega) (by omega)
   have:=zFb ([99] :: (zAJ s.lits).map Lib.itoa) 2 (by
    intro w hw
    rcases List.mem_cons.1 hw with rfl | hw
    ·simp
    ·obtain ⟨z,hz,rfl⟩:=List.mem_map.1 hw;obtain ⟨u,t,hu1,hu8,rfl,_⟩:=(zEv _ _).1 hz;have hd:=zCu u (by omega)
     cases t with
     | true=>rw [zGr,hd];simp
     | false=>rw [zG4 u hu1,hd];simp)
   have e:(zAJ s.lits).length≤8:=hl;simp only [List.length_cons,List.length_map] at this;omega
  ·have d1:=zCg _ (h1 (by assumption))
   split
   ·next h3=>
    have d2:=zCg _ (h2 h3).1;have d3:=zCg _ (h2 h3).2
    have:=zFb [[114],Lib.decDigits s.first,Lib.decDigits s.second,Lib.decDigits s.var] 6 (by simp;exact ⟨d1,d2,d3⟩)
    simp at this;omega
   ·have:=zFb [[100],Lib.decDigits s.first] 6 (by simp;exact d1)
    simp at this;omega
theorem zPQ (m:List (List UInt8)) (k:Nat) (h:∀ r∈m,r.length≤k):(zFv m).length≤(k + 1) * m.length:=by
 induction m with
 | nil=>simp [zFv]
 | cons r m ih=>
  have h1:=h r (by simp);have h2:=ih (fun x hx=>h x (by simp [hx]));simp only [zFv,List.flatMap_cons,List.length_append,List.length_cons,List.length_nil] at h2 ⊢;rw [Nat.mul_add];omega
theorem zP4 (ws:List (List UInt8)) (x:UInt8) (hx:x≠32) (h:∀ w∈ws,x∉w):x∉zDa ws:=by
 induction ws with
 | nil=>simp [zDa]
 | cons w ws ih=>
  have h1:=h w (by simp);have h2:=ih (fun y hy=>h y (by simp [hy]))
  cases ws with
  | nil=>exact h1
  | cons y ws=>
   show x∉w ++ 32 :: zDa (y :: ws);rw [List.mem_append,List.mem_cons];rintro (h3 | h3 | h3)
   ·exact h1 h3
   ·exact hx h3
   ·exact h2 h3
theorem zKP {q:QS} (hq:QGood q) {F:zv} (hF:FQ F q) (hO:FOk F) {truth:Bool} {p:List Stp} (hp:POk q (kd truth) p) (hf:∀ s∈p,Free s.lits) (hl:p.length≤9000) (i:Nat) (hi:i < p.length):zDZ F truth ((p.take i).map (·.lits)) (zA2 p[i])=some p[i].lits∧zFp (zA2 p[i])=(p[i].rule == 3)∧(10:UInt8)∉zA2 p[i]:=by
 obtain ⟨hd,tl,h1,h2,h3,h4⟩:=zNc hq hF hO (p:=p.take i) (by simp;omega) (hp i hi) (hf _ (List.getElem_mem hi));have hc:zZ 32 (zA2 p[i])=hd :: tl:=by
  unfold zA2;rw [zPs _ (by rw [h1];simp) (fun w hw=>(h4 w hw).1),h1]
 refine ⟨?_,?_,zP4 _ _ (by decide) (fun w hw=>(h4 w hw).2)⟩
 ·rw [zH9 F truth _ _ hd tl hc,if_neg (by simp;omega)];exact h2
 ·unfold zFp;rw [hc]
  by_cases e:p[i].rule=3
  ·rw [h3.2 e,e];rfl
  ·have:hd≠[114]:=fun h=>e (h3.1 h)
   rw [show (p[i].rule == 3)=false from by simpa using e]
   simpa using this
theorem zSA {q:QS} (hq:QGood q) {F:zv} (hF:FQ F q) (hO:FOk F) {truth:Bool} {p:List Stp} (hp:POk q (kd truth) p) (hf:∀ s∈p,Free s.lits) (hl:p.length≤9000):∀ (m i n:Nat),i + m=p.length→zC3 F truth ((p.take i).map (·.lits)) n ((p.drop i).map zA2)=.inl (p.map (·.lits)):=by
 intro m
 induction m with
 | zero=>
  intro i n h;rw [List.drop_eq_nil_of_le (by omega),List.take_of_length_le (by omega)];rfl
 | succ m ih=>
  intro i n h;have hi:i < p.length:=(by omega);rw [List.drop_eq_getElem_cons hi,List.map_cons,zC3,(zKP hq hF hO hp hf hl i hi).1]
  have:=ih (i + 1) (n + 1) (by omega)
  rw [List.take_succ_eq_append_getElem hi,List.map_append] at this;exact this
theorem zSp {q:QS} (hq:QGood q) {F:zv} (hF:FQ F q) (hO:FOk F) {truth:Bool} {p:List Stp} (hp:POk q (kd truth) p) (hf:∀ s∈p,Free s.lits) (hl:p.length≤9000):zJ0 (p.map zA2)=twos p:=by
 unfold zJ0 twos;rw [List.filter_map,List.length_map]
 congr 1
 apply List.filter_congr
 intro s hs;obtain ⟨i,hi,rfl⟩:=List.mem_iff_getElem.1 hs;exact (zKP hq hF hO hp hf hl i hi).2.1
theorem zKv {q:QS} (hq:QGood q) {F:zv} (hF:FQ F q) (hO:FOk F) {truth:Bool} {p:List Stp} (hp:POk q (kd truth) p) (hf:∀ s∈p,Free s.lits) (hl:p.length≤9000) (hlast:∃ s,p.getLast?=some s∧s.lits=(0,0)):zw F (zDM truth p)=.inr (truth,twos p):=by
 have hno:∀ r∈zGo truth :: p.map zA2,(10:UInt8)∉r:=by
  intro r hr
  rcases List.mem_cons.1 hr with rfl | hr
  ·cases truth<;>decide
  ·obtain ⟨s,hs,rfl⟩:=List.mem_map.1 hr;obtain ⟨i,hi,rfl⟩:=List.mem_iff_getElem.1 hs;exact (zKP hq hF hO hp hf hl i hi).2.2
 have hcut:zU 10 (zDM truth p)=(zGo truth :: p.map zA2,[]):=by
  unfold zU zDM;rw [zRY _ hno []];rfl
 have hlen:∀ r∈zGo truth :: p.map zA2,r.length≤28:=by
  intro r hr
  rcases List.mem_cons.1 hr with rfl | hr
  ·cases truth<;>decide
  ·obtain ⟨s,hs,rfl⟩:=List.mem_map.1 hr;obtain ⟨i,hi,rfl⟩:=List.mem_iff_getElem.1 hs;have htl:(p.take i).length≤9000:=(by simp;omega);have hclen:=hF.clen
   rcases (hp i hi).2 with ⟨h1,_,_,h4,_⟩ | ⟨h1,_⟩ | ⟨_,h2,h3,⟨x,hx,hxe,_⟩,_⟩ | ⟨h1,h2,_⟩
   ·exact zEZ (hf _ hs) (fun _=>by omega) (fun h=>by omega)
   ·exact zEZ (hf _ hs) (fun h=>absurd h1 h) (fun h=>by omega)
   ·have hv:=hq.qb.names x hx;exact zEZ (hf _ hs) (fun _=>by omega) (fun _=>⟨by omega,by omega⟩)
   ·exact zEZ (hf _ hs) (fun _=>by omega) (fun h=>by omega)
 have hlong:¬ 262144 < (zDM truth p).length:=by
  have:=zPQ _ 28 hlen
  simp only [List.length_cons,List.length_map] at this;unfold zDM;omega
 unfold zw;rw [if_neg hlong,hcut];dsimp only;have hh:zGo truth=zA4∨zGo truth=zCS:=(by cases truth<;>simp [zGo]);have hb:(zGo truth == zA4)=truth:=(by cases truth<;>decide);rw [if_pos hh,hb];have hr:=zSA hq hF hO hp hf hl p.length 0 1 (by omega);simp only [List.take_zero,List.map_nil,List.drop_zero] at hr;rw [hr];dsimp only;have he:zCX (p.map (·.lits))=true:=by
  obtain ⟨s,h1,h2⟩:=hlast;unfold zCX;rw [List.getLast?_map,h1];show (s.lits.1 ||| s.lits.2 == 0)=true;rw [h2];rfl
 rw [if_pos ⟨rfl,he⟩,zSp hq hF hO hp hf hl]
theorem zBx (cl:List (Nat × Nat)):(z7 cl).length=cl.length:=by simp [z7]
theorem zFl (cl:List (Nat × Nat)) (i:Nat) (h:i < cl.length):(z7 cl)[i]'(by rw [zBx];exact h)=⟨1,i + 1,0,0,cl[i]⟩:=by
 simp [z7]
theorem zOe {q:QS} (hq:QGood q):POk q 1 (z7 q.cl):=by
 intro i hi;have h:i < q.cl.length:=(by rw [zBx] at hi;exact hi);rw [zFl q.cl i h];have hm:=List.getElem_mem h;refine ⟨⟨hq.qb.bits _ hm,fun s v hv=>hq.vars _ hm s v hv⟩,Or.inl ⟨rfl,rfl,by show 1≤i + 1;omega,by show i + 1≤_;omega,rfl,?_⟩⟩;show q.cl[i]=q.cl.getD (i + 1 - 1) (0,0);rw [Nat.add_sub_cancel,List.getD,List.getElem?_eq_getElem h];rfl
theorem zG7 {q:QS} (hq:QGood q) (budget room:Nat):SInv (zAo q budget room) (zAf q):=by
 refine ⟨zOe hq,by show q.cl.length≤(z7 q.cl).length;rw [zBx];exact Nat.le_refl _,fun i hi=>?_,zOH _ _,fun f hf=>(by cases hf),Nat.zero_le _,Nat.zero_le _⟩;have h:i < q.cl.length:=hi;show zM (z7 q.cl) (i + 1)=q.cl[i];rw [zBU _ i (by rw [zBx];exact h),zFl q.cl i h]
theorem zIP {q:QS} (hq:QGood q):zFy q (zDL q.vars (0,0)):=by
 have key:∀ (vs:List (Nat × Bool)) (u:Nat × Nat),(∀ x∈vs,1≤x.1∧x.1≤8)→∀ s v,L (zDL vs u) s v=true↔(L u s v=true∨∃ x∈vs,x.1=v∧x.2=true):=by
  intro vs
  induction vs with
  | nil=>intro u _ s v;simp [zDL]
  | cons y vs ih=>
   intro u hn s v;have hy:=hn y (by simp);show L (zDL vs (if y.2 then zQ (zQ u y.1) (-(y.1:Int)) else u)) s v=true↔_;rw [ih _ (fun x hx=>hn x (by simp [hx]))]
   cases hu:y.2 with
   | false=>
    simp only [Bool.false_eq_true,if_false]
    constructor
    ·rintro (h | ⟨x,hx,h1,h2⟩)
     ·exact Or.inl h
     ·exact Or.inr ⟨x,by simp [hx],h1,h2⟩
    ·rintro (h | ⟨x,hx,h1,h2⟩)
     ·exact Or.inl h
     ·rcases List.mem_cons.1 hx with rfl | hx
      ·rw [hu] at h2;cases h2
      ·exact Or.inr ⟨x,hx,h1,h2⟩
   | true=>
    simp only [if_true];have e1:((y.1:Nat):Int)=zAF y.1 true:=rfl;have e2:-((y.1:Nat):Int)=zAF y.1 false:=rfl;rw [e2,zBH _ _ _ hy.1 hy.2,e1,zBH _ _ _ hy.1 hy.2]
    constructor
    ·rintro (h | ⟨x,hx,h1,h2⟩)
     ·simp only [Bool.or_eq_true,Bool.and_eq_true,decide_eq_true_eq] at h
      rcases h with (h | h) | h
      ·exact Or.inl h
      ·exact Or.inr ⟨y,by simp,h.2.symm,hu⟩
      ·exact Or.inr ⟨y,by simp,h.2.symm,hu⟩
     ·exact Or.inr ⟨x,by simp [hx],h1,h2⟩
    ·rintro (h | ⟨x,hx,h1,h2⟩)
     ·exact Or.inl (by rw [h];rfl)
     ·rcases List.mem_cons.1 hx with rfl | hx
      ·left
       subst h1
       cases s<;>simp
      ·exact Or.inr ⟨x,hx,h1,h2⟩
 intro s v;rw [key q.vars (0,0) hq.qb.names s v,zDh]
 simp
structure zS3 (F:zv) (q:QS) (budget room:Nat) (r:SS × (Nat × Nat)):Prop where
 kind:r.2.1=0∨r.2.1=1∨r.2.1=2
 unknown:r.2.1=0→0 < budget∧r.1.nodes=budget
 one:1≤r.1.nodes
 most:r.1.nodes + 1≤2 ^ (q.vars.length + 1)
 upto:0 < budget→r.1.nodes≤budget
 lemmas:r.1.most≤room
 inv:SInv (zAo q budget room) r.1
 size:zAw r.1≤24 + 12 * r.1.nodes
 proof:r.2.1≠0→1≤r.2.2∧r.2.2≤(r.1.proof r.2.1).length∧zw F (zDM (r.2.1 == 2) (z6 (r.1.proof r.2.1) r.2.2))=.inr (r.2.1 == 2,twos (z6 (r.1.proof r.2.1) r.2.2))∧twos (z6 (r.1.proof r.2.1) r.2.2)≤twos (r.1.proof r.2.1)
theorem zQw {F:zv} {q:QS} (hq:QGood q) (hF:FQ F q) (hO:FOk F) (budget room:Nat):zS3 F q budget room (zAC q budget room):=by
 have hl:=zKA (C:=zAo q budget room) hq (zIP hq) q.vars.length 0 (0,0) (zAf q) (zG7 hq budget room) (zHA q) (by simp;rfl);unfold zAC;generalize z8 (zAo q budget room) q.vars.length (0,0) 0 (zAf q)=r at *;have h0:(zAf q).nodes=0:=rfl;have hsz:zAw (zAf q)≤24:=by
  show (z7 q.cl).length + 0≤24;rw [zBx]
  have:=hq.qb.cl
  omega
 have hvl:=hq.qb.vl;have hone:1≤r.1.nodes:=by
  have:=hl.some (by rintro ⟨h1,h2⟩;rw [h0] at h2;have:(zAo q budget room).budget=budget:=rfl;omega)
  rw [h0] at this;omega
 have hmost:=hl.most;rw [h0] at hmost;have hsize:=hl.size;rw [h0] at hsize;have hp512:2 ^ (q.vars.length + 1)≤512:=by
  have:2 ^ (q.vars.length + 1)≤2 ^ 9:=Nat.pow_le_pow_right (by decide) (by omega)
  simpa using this
 have hkind:r.2.1=0∨r.2.1=1∨r.2.1=2:=by
  by_cases h:r.2.1=0
  ·exact Or.inl h
  ·exact Or.inr (hl.fact h).inn.kind
 refine ⟨hkind,fun h=>?_,hone,by omega,fun h=>hl.budget h (by rw [h0];omega),hl.inv.most,hl.inv,by omega,fun h=>?_⟩
 ·have h1:=hl.unknown h;have h2:=hl.budget h1.1 (by rw [h0];exact Nat.zero_le _);exact ⟨h1.1,Nat.le_antisymm h2 h1.2⟩
 ·have hf:=hl.fact h;have hlits:r.1.lits r.2=(0,0):=by
   apply zJe
   intro s v;rw [zDh]
   cases hh:L (r.1.lits r.2) s v with
   | false=>rfl
   | true=>have:=hf.on s v hh;rw [zDh] at this;cases this
  have hk:r.2.1=kd (r.2.1 == 2):=by
   rcases hf.inn.kind with e | e<;>rw [e]<;>rfl
  have hpok:POk q (kd (r.2.1 == 2)) (r.1.proof r.2.1):=by
   have:=hl.inv.pok hf.inn.kind
   rw [← hk];exact this
  obtain ⟨s1,s2,s3,s4,s,s5,s6⟩:=zLZ hpok hf.inn.lo hf.inn.hi hf.inn.free;have hplen:(r.1.proof r.2.1).length≤9000:=by
   have:(r.1.proof r.2.1).length≤zAw r.1:=by
    unfold SS.proof zAw
    split<;>omega
   omega
  refine ⟨hf.inn.lo,hf.inn.hi,zKv hq hF hO s1 s2 (by omega) ⟨s,s5,s6.trans hlits⟩,s4⟩
def zOo (q:QS) (vV vC:Value) (budget room:Nat) (w:World) (e:Ending) (w':World):Prop:=
 ∃ b V,e=.returned (.agg (zCc (zAo q budget room) (zAf q) V))∧SAt w' b (zAo q budget room) (zAf q) V∧V.v=vV∧V.c=vC∧(∀ k,V.r.ownBlock=some k→w.heap.size≤k)∧(∀ k,V.a.ownBlock=some k→w.heap.size≤k)∧(∀ k,V.k.ownBlock=some k→w.heap.size≤k)∧Below w.heap.size w w'
theorem Moved.fresh {w:World} {v v':Value} (h:Moved w v v') (hv:v=.slice none 0 0) {k n:Nat} (hk:v'.ownBlock=some k) (hn:n≤w.heap.size):n≤k:=by
 rcases h with h | ⟨j,h,hj⟩
 ·rw [h,hv] at hk;cases hk
 ·rw [h] at hk;injection hk with hk;omega
theorem Only.under {T:Nat→Prop} {n:Nat} {w w0 w':World} (ho:Only T w0 w') (hb:Below n w w0) (hn:n≤w.heap.size) (hT:∀ k,T k→n≤k):Below n w w':=
 ⟨ho.os.trans hb.os,ho.tape.trans hb.tape,ho.output.trans hb.output,Nat.le_trans hb.size ho.size,fun i hi=>(ho.block i (by have:=hb.size;omega) (fun h=>by have:=hT i h;omega)).trans (hb.block i hi)⟩
theorem zFN (w:World) (g:Nat) (cs:Array Value):Only (·=g) w (w.setRow g cs):=⟨rfl,rfl,rfl,by simp,fun _ _ hne=>setRow_other _ _ _ _ hne⟩
theorem SAt.setUni {w:World} {b:Nat} {C:SC} {S:SS} {V:SV} (h:SAt w b C S V) (u:Nat × Nat):SAt ((w.setCell ⟨b,2,none⟩ (.int .i64 (u.1:Int))).setCell ⟨b,3,none⟩ (.int .i64 (u.2:Int))) b { C with uni:=u } S V:=by
 have h1:=zI h.fb 2 (.int .i64 (u.1:Int));have ho:Only (fun j=>j=b) w ((w.setCell ⟨b,2,none⟩ (.int .i64 (u.1:Int))).setCell ⟨b,3,none⟩ (.int .i64 (u.2:Int))):=((Only.refl (fun j=>j=b) w).setCell (p:=⟨b,2,none⟩) (Or.inl rfl) _).setCell (p:=⟨b,3,none⟩) (Or.inl rfl) _;refine ⟨zI h1 3 _,zY h.oV ho ?_,zY h.oC ho ?_,zY h.oR ho ?_,zY h.oA ho ?_,h.oK.keep ho ?_,h.ap⟩
 ·intro k hk e;subst e;exact zT h.oV h.fb (by decide) hk
 ·intro k hk e;subst e;exact zT h.oC h.fb (by decide) hk
 ·intro k hk e;subst e;exact zT h.oR h.fb (by decide) hk
 ·intro k hk e;subst e;exact zT h.oA h.fb (by decide) hk
 ·intro k hk e;subst e;obtain ⟨c,hc⟩:=h.oK.blk k hk;exact absurd (zc hc h.fb) (by decide)
theorem zK5 (cl:List (Nat × Nat)) (k:Nat) (h:k < cl.length):(z7 cl).take (k + 1)=(z7 cl).take k ++ [⟨1,k + 1,0,0,cl[k]⟩]:=by
 have hl:k < (z7 cl).length:=(by rw [zBx];exact h);rw [List.take_succ_eq_append_getElem hl,zFl cl k h]
def zSk (u:Nat × Nat) (v:Nat × Bool):Nat × Nat:=if v.2 then zQ (zQ u v.1) (-(v.1:Int)) else u
theorem zNY (vs:List (Nat × Bool)) (k:Nat) (h:k < vs.length):zDL (vs.take (k + 1)) (0,0)=zSk (zDL (vs.take k) (0,0)) vs[k]:=by
 unfold zDL zSk;rw [List.take_succ_eq_append_getElem h,List.foldl_append];rfl
theorem zPh (q:QS) (aV aC:Option Addr) (cV cC budget room:Nat) (w:World) (hoV:w.ownsRow 0 139 2 (.slice aV q.vars.length cV) q.vars.length (zd q.vars)) (hoC:w.ownsRow 0 74 2 (.slice aC q.cl.length cC) q.cl.length (zAK q.cl)) (hq:QB q) (_hbu:budget≤1048576) (_hro:room≤64) :
  Calls Tryz.prog 61 #[.agg #[.slice aV q.vars.length cV,.slice aC q.cl.length cC],.int .i64 (budget:Int),.int .i64 (room:Int)] w fun e w'=>zOo q (.slice aV q.vars.length cV) (.slice aC q.cl.length cC) budget room w e w':=by
 have hvl:=hq.vl;have hcl:=hq.cl;have HAL:=zF (zBx q.cl)
 go_enter Tryz.func61,Tryz.ntmps61
 go_wp2_with fail;generalize hw0:(((w.alloc (.cells #[.slice aV q.vars.length cV,.slice aC q.cl.length cC] 60)).alloc (.cells #[.slice none 0 0,.slice none 0 0,.int .i64 0,.int .i64 0,.int .i64 0,.int .i64 0,.int .i64 0,.slice none 0 0,.int .i64 0,.slice none 0 0,.int .i64 0,.slice none 0 0,.int .i64 0] 126)).alloc (.cells #[.slice aV q.vars.length cV,.slice aC q.cl.length cC,.int .i64 0,.int .i64 0,.int .i64 (budget:Int),.int .i64 0,.int .i64 1,.slice none 0 0,.int .i64 2,.slice none 0 0,.int .i64 (room:Int),.slice none 0 0,.int .i64 0] 126))=u1;have hB:Below w.heap.size w u1:=(by rw [← hw0];exact (((Below.refl _ _).alloc (Nat.le_refl _) _).alloc (by simp;try omega) _).alloc (by simp;try omega) _);have hfo:u1.heap[w.heap.size]?=some (.cells #[.slice aV q.vars.length cV,.slice aC q.cl.length cC] 60 (0,0)):=(by rw [← hw0,heap_alloc_old _ _ (by simp;try omega),heap_alloc_old _ _ (by simp;try omega)];exact zP (by simp));have hrs:u1.heap[w.heap.size + 1]?=some (.cells #[.slice none 0 0,.slice none 0 0,.int .i64 0,.int .i64 0,.int .i64 0,.int .i64 0,.int .i64 0,.slice none 0 0,.int .i64 0,.slice none 0 0,.int .i64 0,.slice none 0 0,.int .i64 0] 126 (0,0)):=(by rw [← hw0,heap_alloc_old _ _ (by simp;try omega)];exact zP (by simp));have hss:u1.heap[w.heap.size + 2]?=some (.cells #[.slice aV q.vars.length cV,.slice aC q.cl.length cC,.int .i64 0,.int .i64 0,.int .i64 (budget:Int),.int .i64 0,.int .i64 1,.slice none 0 0,.int .i64 2,.slice none 0 0,.int .i64 (room:Int),.slice none 0 0,.int .i64 0] 126 (0,0)):=(by rw [← hw0];exact zP (by simp));clear hw0;obtain ⟨cfo0,cfo1⟩:=zJ hfo;have lfo:=zB hfo;obtain ⟨crs0,crs1,crs2,crs3,crs4,crs5,crs6,crs7,crs8,crs9,crs10,crs11,crs12⟩:=zRg hrs;have lrs:=zB hrs;obtain ⟨css0,css1,css2,css3,css4,css5,css6,css7,css8,css9,css10,css11,css12⟩:=zRg hss;have lss:=zB hss;have hS:SAt u1 (w.heap.size + 2) ⟨q,(0,0),budget,room⟩ ⟨0,[],[],[],0⟩ ⟨.slice aV q.vars.length cV,.slice aC q.cl.length cC,.slice none 0 0,.slice none 0 0,.slice none 0 0⟩:=
  ⟨hss,zO hoV hB,zO hoC hB,World.ownsRow_nil _ _ _ _,World.ownsRow_nil _ _ _ _,⟨rfl,Or.inl ⟨rfl,none,rfl,fun k hk=>(by cases hk)⟩⟩,fun k hk=>(by cases hk)⟩
 have nfo:Far (w.heap.size + 2) ⟨.slice aV q.vars.length cV,.slice aC q.cl.length cC,.slice none 0 0,.slice none 0 0,.slice none 0 0⟩ w.heap.size:=⟨by omega,fun e=>(by have:=(hoV.lt _ e).2;omega),fun e=>(by have:=(hoC.lt _ e).2;omega),fun e=>(by cases e),fun e=>(by cases e),fun e=>(by cases e)⟩;have nrs:Far (w.heap.size + 2) ⟨.slice aV q.vars.length cV,.slice aC q.cl.length cC,.slice none 0 0,.slice none 0 0,.slice none 0 0⟩ (w.heap.size + 1):=⟨by omega,fun e=>(by have:=(hoV.lt _ e).2;omega),fun e=>(by have:=(hoC.lt _ e).2;omega),fun e=>(by cases e),fun e=>(by cases e),fun e=>(by cases e)⟩;obtain ⟨V0,hV0⟩:∃ X:SV,X=⟨.slice aV q.vars.length cV,.slice aC q.cl.length cC,.slice none 0 0,.slice none 0 0,.slice none 0 0⟩:=⟨_,rfl⟩;rw [← hV0] at hS nfo nrs;have v1:V0.v=.slice aV q.vars.length cV:=(by rw [hV0]);have v2:V0.c=.slice aC q.cl.length cC:=(by rw [hV0]);have v3:V0.r=.slice none 0 0:=(by rw [hV0]);have v4:V0.a=.slice none 0 0:=(by rw [hV0]);have v5:V0.k=.slice none 0 0:=(by rw [hV0]);have HV:=zF (And.intro v1 (And.intro v2 (And.intro v3 (And.intro v4 v5))));clear v1 v2 v3 v4 v5 hV0
 go_loopg [25] (q.cl.length) (fun m i wx=>∃ (k:Nat) (V:SV),i=.int .i64 k∧k + m=q.cl.length∧SAt wx (w.heap.size + 2) ⟨q,(0,0),budget,room⟩ ⟨0,(z7 q.cl).take k,[],[],0⟩ V∧SMoved (w.heap.size + 2) u1 wx V0 V)
 case atStart=>exact ⟨0,V0,rfl,by omega,hS,SMoved.of_below (Below.refl _ _)⟩
 case round=>
  obtain ⟨k,V,rfl,hkm,hSr,hMr⟩:=hrel;have hfor:=hMr.blk hfo nfo;have lfor:=zB hfor;have lbr:=zB hSr.fb;have lrr:=zB (hMr.blk hrs nrs)
  by_cases hlt:k < q.cl.length
  ·have hd3:decide ((k:Int) < (q.cl.length:Int))=true:=decide_eq_true (by omega);have hd4:decide (k < q.cl.length)=true:=decide_eq_true hlt;have hoCr:=hSr.oC;rw [hMr.c,(zA HV).2.1] at hoCr;obtain ⟨g,cap,hVe,_,hg',_,hcell⟩:=zS hoCr (show 0 < q.cl.length by omega);injection hVe with hVe _ hV2;subst hVe hV2;obtain ⟨e0,e1⟩:=zAc q.cl k hlt;have hx0:=hcell _ _ e0;have hx1:=hcell _ _ e1;clear hcell e0 e1;have HAX:=zF (zK5 q.cl k hlt);have hlk:((z7 q.cl).take k).length=k:=(by rw [List.length_take,zA HAL];omega);have HLK:=zF hlk;clear hlk;generalize q.cl[k]=cl at *;obtain ⟨l1,l2⟩:=cl;dsimp only at hx0 hx1 HAX;go_wp2_with fail;have hA:Below wr.heap.size wr (wr.alloc (.cells #[.int .i64 (l1:Int),.int .i64 (l2:Int)] 74)):=(Below.refl _ _).alloc (Nat.le_refl _) _;have hSd:=hSr.later hA;refine (zCZ 0 (w.heap.size + 2) 6 ((z7 q.cl).take k) V.r ⟨1,k + 1,0,0,(l1,l2)⟩ (zCc ⟨q,(0,0),budget,room⟩ ⟨0,(z7 q.cl).take k,[],[],0⟩ V) 126 _ hSd.fb rfl (by decide) hSd.oR (by rw [zA HLK];omega) (Nat.zero_le _)).mono ?_;rintro e w5 ⟨v5,rfl,ho5,hf5,hn5,hm5⟩;obtain ⟨V2,hS2,hM2⟩:=hSd.put (kind:=1) (Or.inl rfl) (p:=(z7 q.cl).take k ++ [⟨1,k + 1,0,0,(l1,l2)⟩]) ⟨v5,(by rw [List.length_append];exact ho5),hf5,hn5,hm5⟩;clear ho5 hf5 hn5 hm5;go_wp2_with fail
   go_roundg (gk - 1)
   case measure=>omega
   case rel=>exact ⟨k + 1,V2,by go_num,by omega,by rw [zA HAX];exact hS2,(hMr.trans (SMoved.of_below hA)).trans hM2⟩
  ·have hd3:decide ((k:Int) < (q.cl.length:Int))=false:=decide_eq_false (by omega);have hd4:decide (k < q.cl.length)=false:=decide_eq_false hlt;have HFU:Hid ((z7 q.cl).take k=z7 q.cl):=zF (List.take_of_length_le (by rw [zA HAL];omega));have HSF:SAt wr (w.heap.size + 2) ⟨q,(0,0),budget,room⟩ ⟨0,z7 q.cl,[],[],0⟩ V:=(by rw [← zA HFU];exact hSr);have cf0:wr.cell? ⟨w.heap.size,0,none⟩=some (.slice aV q.vars.length cV):=zE hfor rfl;clear hSr HFU;go_wp2_with fail;obtain ⟨wo,rfl⟩:∃ wo,wo=wr:=⟨_,rfl⟩;clear cf0 lfor lbr lrr hd3 hd4 hkm hlt
   go_loopg [40] (q.vars.length) (fun m i wx=>∃ (k:Nat) (V:SV) (u:Nat × Nat),i=.int .i64 k∧k + m=q.vars.length∧u=zDL (q.vars.take k) (0,0)∧u.1 < 512∧u.2 < 512∧SAt wx (w.heap.size + 2) ⟨q,u,budget,room⟩ ⟨0,z7 q.cl,[],[],0⟩ V∧SMoved (w.heap.size + 2) u1 wx V0 V)
   case atStart=>exact ⟨0,V,(0,0),rfl,by omega,rfl,by decide,by decide,HSF,hMr⟩
   case round=>
    clear hMr HSF hfor;obtain ⟨k,V,un,rfl,hkm,hun,hu1,hu2,hSr,hMr⟩:=hrel;have HUN:=zF hun;clear hun;obtain ⟨x1,x2⟩:=un;dsimp only at hu1 hu2;have lbr:=zB hSr.fb
    by_cases hlt:k < q.vars.length
    ·have hd3:decide ((k:Int) < (q.vars.length:Int))=true:=decide_eq_true (by omega);have hd4:decide (k < q.vars.length)=true:=decide_eq_true hlt;have hoVr:=hSr.oV;rw [hMr.v,(zA HV).1] at hoVr;obtain ⟨g,cap,hVe,_,hg',_,hcell⟩:=zS hoVr (show 0 < q.vars.length by omega);injection hVe with hVe _ hV2;subst hVe hV2;obtain ⟨e0,e1⟩:=zCG q.vars k hlt;have hx0:=hcell _ _ e0;have hx1:=hcell _ _ e1;clear hcell e0 e1;have HUT:=zF (zNY q.vars k hlt);have hnm:=hq.names _ (List.getElem_mem hlt);generalize q.vars[k]=vr at *;obtain ⟨vn,vu⟩:=vr;dsimp only at hx0 hx1 HUT hnm
     cases vu with
     | false=>
      have hA:Below wr.heap.size wr (wr.alloc (.cells #[.int .i64 (vn:Int),.bool false] 139)):=(Below.refl _ _).alloc (Nat.le_refl _) _;have HU2:Hid ((x1,x2)=zDL (q.vars.take (k + 1)) (0,0)):=zF (by rw [zA HUT,← zA HUN];rfl);go_wp2_with fail
      go_roundg (gk - 1)
      case measure=>omega
      case rel=>exact ⟨k + 1,V,(x1,x2),by go_num,by omega,zA HU2,hu1,hu2,hSr.later hA,hMr.trans (SMoved.of_below hA)⟩
     | true=>
      have HU2:Hid (zQ (zQ (x1,x2) vn) (-(vn:Int))=zDL (q.vars.take (k + 1)) (0,0)):=zF (by rw [zA HUT,← zA HUN];rfl);have hA:Below wr.heap.size wr (wr.alloc (.cells #[.int .i64 (vn:Int),.bool true] 139)):=(Below.refl _ _).alloc (Nat.le_refl _) _;have hva:=heap_alloc_new wr (.cells #[.int .i64 (vn:Int),.bool true] 139);replace hMr:=hMr.trans (SMoved.of_below hA);replace hSr:=hSr.later hA;have d2:(wr.alloc (.cells #[.int .i64 (vn:Int),.bool true] 139)).cell? ⟨w.heap.size + 1 + 1,2,none⟩=some (.int .i64 (x1:Int)):=zE hSr.fb rfl;have d3:(wr.alloc (.cells #[.int .i64 (vn:Int),.bool true] 139)).cell? ⟨w.heap.size + 1 + 1,3,none⟩=some (.int .i64 (x2:Int)):=zE hSr.fb rfl;have lb2:w.heap.size + 1 + 1 < wr.heap.size + 1:=(by omega);go_wp2_with fail;generalize (wr.alloc (.cells #[.int .i64 (vn:Int),.bool true] 139))=u5 at *;refine (zCH x1 x2 (vn:Int) _ hu1 hu2 (by omega) (by omega)).mono ?_;rintro e u6 ⟨rfl,b6⟩;replace hMr:=hMr.trans (SMoved.of_below b6);replace hSr:=hSr.later b6;replace hva:=zH b6 hva;have hw9:(zQ (x1,x2) vn).1 < 512∧(zQ (x1,x2) vn).2 < 512:=zAZ (x1,x2) vn hu1 hu2;generalize zQ (x1,x2) (vn:Int)=y at *;obtain ⟨y1,y2⟩:=y;dsimp only at hw9 ⊢;have hA7:Below u6.heap.size u6 (u6.alloc (.cells #[.int .i64 (y1:Int),.int .i64 (y2:Int)] 74)):=(Below.refl _ _).alloc (Nat.le_refl _) _;have hbo:=heap_alloc_new u6 (.cells #[.int .i64 (y1:Int),.int .i64 (y2:Int)] 74);have hva7:=zH hA7 hva;have lva7:=zB hva7;have v7:(u6.alloc (.cells #[.int .i64 (y1:Int),.int .i64 (y2:Int)] 74)).cell? ⟨wr.heap.size,0,none⟩=some (.int .i64 (vn:Int)):=zE hva7 rfl;go_wp2_with fail;refine (zCH y1 y2 (-(vn:Int)) _ hw9.1 hw9.2 (by omega) (by omega)).mono ?_;rintro e u8 ⟨rfl,b8⟩;have hb78:Below u6.heap.size u6 u8:=hA7.trans (b8.mono hA7.size);replace hMr:=hMr.trans (SMoved.of_below hb78);replace hSr:=hSr.later hb78;have hw8:(zQ (y1,y2) (-(vn:Int))).1 < 512∧(zQ (y1,y2) (-(vn:Int))).2 < 512:=zAZ (y1,y2) (-(vn:Int)) hw9.1 hw9.2;generalize zQ (y1,y2) (-(vn:Int))=zz at *;obtain ⟨z1,z2⟩:=zz;dsimp only at hw8 ⊢;have f2:=zD hSr.fb 2;have f3:=zD hSr.fb 3;have d22:u8.cell? ⟨w.heap.size + 1 + 1,2,none⟩=some (.int .i64 (x1:Int)):=zE hSr.fb rfl;have d33:u8.cell? ⟨w.heap.size + 1 + 1,3,none⟩=some (.int .i64 (x2:Int)):=zE hSr.fb rfl;have lb8:w.heap.size + 1 + 1 < u8.heap.size:=zB hSr.fb;go_wp2_with fail
      go_roundg (gk - 1)
      case measure=>omega
      case rel=>exact ⟨k + 1,V,(z1,z2),by go_num,by omega,zA HU2,hw8.1,hw8.2,hSr.setUni (z1,z2),(hMr.setB 2 _).setB 3 _⟩
    ·have hd3:decide ((k:Int) < (q.vars.length:Int))=false:=decide_eq_false (by omega);have hd4:decide (k < q.vars.length)=false:=decide_eq_false hlt;have HFU:Hid (zDL q.vars (0,0)=(x1,x2)):=zF (by rw [zA HUN,List.take_of_length_le (show q.vars.length≤k by omega)]);have hrr:=hMr.blk hrs nrs;have lrr:=zB hrr;obtain ⟨aR,cR,hVR⟩:=zN hSr.oR;obtain ⟨aA,cA,hVA⟩:=zN hSr.oA;obtain ⟨aK,cK,hVK⟩:=hSr.oK.form;have hVv:=hMr.v.trans (zA HV).1;have hVc:=hMr.c.trans (zA HV).2.1;have HCS:Hid (zCc ⟨q,(x1,x2),budget,room⟩ ⟨0,z7 q.cl,[],[],0⟩ V=#[.slice aV q.vars.length cV,.slice aC q.cl.length cC,.int .i64 (x1:Int),.int .i64 (x2:Int),.int .i64 (budget:Int),.int .i64 0,.int .i64 1,.slice aR (z7 q.cl).length cR,.int .i64 2,.slice aA 0 cA,.int .i64 (room:Int),.slice aK 0 cK,.int .i64 0]):=zF (by simp only [zCc,hVv,hVc,hVR,hVA,hVK];rfl);have hfb2:wr.heap[w.heap.size + 2]?=some (.cells #[.slice aV q.vars.length cV,.slice aC q.cl.length cC,.int .i64 (x1:Int),.int .i64 (x2:Int),.int .i64 (budget:Int),.int .i64 0,.int .i64 1,.slice aR (z7 q.cl).length cR,.int .i64 2,.slice aA 0 cA,.int .i64 (room:Int),.slice aK 0 cK,.int .i64 0] 126 (0,0)):=(by rw [← zA HCS];exact hSr.fb);have HRW:=zF (setRow_heap wr (w.heap.size + 1) _ #[.slice aV q.vars.length cV,.slice aC q.cl.length cC,.int .i64 (x1:Int),.int .i64 (x2:Int),.int .i64 (budget:Int),.int .i64 0,.int .i64 1,.slice aR (z7 q.cl).length cR,.int .i64 2,.slice aA 0 cA,.int .i64 (room:Int),.slice aK 0 cK,.int .i64 0] _ _ hrr);have HRO:=zF (zFN wr (w.heap.size + 1) #[.slice aV q.vars.length cV,.slice aC q.cl.length cC,.int .i64 (x1:Int),.int .i64 (x2:Int),.int .i64 (budget:Int),.int .i64 0,.int .i64 1,.slice aR (z7 q.cl).length cR,.int .i64 2,.slice aA 0 cA,.int .i64 (room:Int),.slice aK 0 cK,.int .i64 0])
     go_wp2_with (first | (refine wpList_load_row rfl 126 _ rfl (w.heap.size + 2) rfl 126 _ (0,0) _ hfb2 Tryz.underlying126 rfl (by kernel_rfl) ?_) | (refine wpList_store_row rfl 126 _ _ rfl (w.heap.size + 1) _ rfl rfl 126 _ hrr (by kernel_rfl) rfl (by simp [Value.oneCell']) ?_))
     refine bodyPost_ret (v:=.agg #[.slice aV q.vars.length cV,.slice aC q.cl.length cC,.int .i64 (x1:Int),.int .i64 (x2:Int),.int .i64 (budget:Int),.int .i64 0,.int .i64 1,.slice aR (z7 q.cl).length cR,.int .i64 2,.slice aA 0 cA,.int .i64 (room:Int),.slice aK 0 cK,.int .i64 0]) (results_cell_row rfl _ _ (w.heap.size + 1) 126 _ (0,0) _ rfl (zA HRW) Tryz.underlying126 rfl (by kernel_rfl)) rfl ?_;have hlu:w.heap.size≤u1.heap.size:=hB.size;have hbel:=hMr.only.under hB (Nat.le_refl _) (fun k hk=>by
      rcases hk with hk | hk | hk | hk
      ·omega
      ·rw [(zA HV).2.2.1] at hk;cases hk
      ·rw [(zA HV).2.2.2.1] at hk;cases hk
      ·rw [(zA HV).2.2.2.2] at hk;cases hk)
     refine ⟨w.heap.size + 2,V,?_,?_,hVv,hVc,fun k hk=>hMr.r.fresh (zA HV).2.2.1 hk hlu,fun k hk=>hMr.a.fresh (zA HV).2.2.2.1 hk hlu,fun k hk=>hMr.k.fresh (zA HV).2.2.2.2 hk hlu,below_setRow hbel (Nat.le_succ _) _⟩
     ·show _=Ending.returned (.agg (zCc ⟨q,zDL q.vars (0,0),budget,room⟩ ⟨0,z7 q.cl,[],[],0⟩ V));rw [zA HFU,zA HCS]
     ·show SAt _ _ ⟨q,zDL q.vars (0,0),budget,room⟩ ⟨0,z7 q.cl,[],[],0⟩ V;rw [zA HFU];exact hSr.only (zA HRO) (hMr.far lrs nrs)
def zA8 (l:List Bool):List Value:=l.map Value.bool
theorem zCm (l:List Bool) (i:Nat) (b:Bool):(zA8 l).toArray.setIfInBounds i (.bool b)=(zA8 (l.set i b)).toArray:=by
 simp [zA8]
theorem zBd (l:List Bool) (i:Nat) (h:i < l.length):(zA8 l).toArray[i]?=some (.bool (l.getD i false)):=by
 simp [zA8,List.getElem?_eq_getElem h]
theorem zKu (z:Value) (n:Nat):madeCells #[z] n=(List.replicate n z).toArray:=by
 apply Array.ext
 ·simp [madeCells]
 ·intro i h1 h2;simp [madeCells,Nat.mod_one]
def zNF (p:List Stp) (last:Nat) (w:World) (e:Ending) (w':World):Prop:=∃ g,e=.returned (.slice (some ⟨g,0,none⟩) (p.length + 1) (p.length + 1))∧w.heap.size≤g∧w'.heap[g]?=some (.cells (zA8 (zBP p last)).toArray 4 (0,0))∧Below w.heap.size w w'
theorem zKE (p:List Stp) (last i:Nat) (m:List Bool):(zC8 p last i m).length=m.length:=by
 unfold zC8 zy;dsimp only
 split<;>split<;>split<;>simp
theorem zLx (p:List Stp) (last i:Nat) (mk M:List Bool) (st:Stp) (hM:(if i + 1=last then mk.set (i + 1) true else mk)=M) (hi:i < p.length) (hst:p[i]=st) :
  zC8 p last (i + 1) mk=if M.getD (i + 1) false=true∧st.rule≠1 then zy true (i + 1) st.second (zy true (i + 1) st.first M) else M:=by
 have hg:p.getD (i + 1 - 1) ⟨0,0,0,0,(0,0)⟩=st:=by
  rw [Nat.add_sub_cancel,List.getD_eq_getElem?_getD,List.getElem?_eq_getElem hi];exact hst
 unfold zC8;dsimp only;rw [hM,hg]
 by_cases h1:M.getD (i + 1) false=true
 ·by_cases h2:st.rule≠1
  ·rw [if_pos ⟨h1,h2⟩,h1,decide_eq_true h2];rfl
  ·rw [if_neg (fun h=>h2 h.2),decide_eq_false h2,Bool.and_false];unfold zy;rw [if_neg (fun h=>by cases h.1),if_neg (fun h=>by cases h.1)]
 ·rw [if_neg (fun h=>h1 h.1)];have h3:M.getD (i + 1) false=false:=(by simpa using h1);rw [h3,Bool.false_and];unfold zy;rw [if_neg (fun h=>by cases h.1),if_neg (fun h=>by cases h.1)]
theorem zE3 (i n:Nat) (m:List Bool) (h0:0 < n) (h1:n < i):zy true i n m=m.set n true:=by unfold zy;rw [if_pos ⟨rfl,h0,h1⟩]
theorem zBu (i n:Nat) (m:List Bool) (h:¬ (0 < n∧n < i)):zy true i n m=m:=by unfold zy;rw [if_neg (fun hh=>h hh.2)]
theorem zCQ {w:World} {c k:Nat} (u:Value) {b:Nat} (hne:c≠b) (o:Nat):(w.setCell ⟨c,k,none⟩ u).cell? ⟨b,o,none⟩=w.cell? ⟨b,o,none⟩:=by
 unfold World.cell?
 have:(w.setCell ⟨c,k,none⟩ u).heap[b]?=w.heap[b]?:=by simp [World.setCell,Array.getElem?_modify,hne]
 rw [this]
theorem zMs (b o:Nat) (cells:Array Value) (t:TypeId) (p:List Stp) (vS:Value) (kind last:Nat) (w:World) (hP:PAt w b o cells t p vS kind) (hl:p.length≤100000) :
  Calls Tryz.prog 93 #[.pointer (some ⟨b,o,none⟩),.int .i64 (last:Int)] w fun e w'=>zNF p last w e w':=by
 obtain ⟨aS,cS,rfl⟩:=zN hP.own;have hbw:=zB hP.fb;have cs1:w.cell? ⟨b,o + 1,none⟩=some (.slice aS p.length cS):=(by rw [zC hP.fb];exact hP.cs);have hmk:∀ w:World,(Instr.makeSlice 154 (.int .i64 ((p.length:Int) + 1)) (.int .i64 ((p.length:Int) + 1))).run Tryz.prog w=.ok (.slice (some ⟨w.heap.size,0,none⟩) (p.length + 1) (p.length + 1)) (w.alloc (.cells (zA8 (List.replicate (p.length + 1) false)).toArray 4)):=fun w=>by
  obtain ⟨i1,hi1,hz10,hz11,hz12⟩:=info_parts (show (Tryz.prog.info? 4).map (fun i=>(i.zero,i.size,i.bytes))=some (some (.bool false),1,1) by kernel_rfl);have h:=run_makeSlice (P:=Tryz.prog) w 154 4 i1 (.bool false) Tryz.underlying154 hi1 hz10 .i64 .i64 ((p.length + 1:Nat):Int) ((p.length + 1:Nat):Int) (by omega) (by omega) (by rw [hz11];simp;omega) (by rw [hz12];omega) (by omega);rw [hz11,Int.toNat_natCast,Nat.mul_one] at h;rw [show (Value.bool false).cells=#[.bool false] from rfl,zKu] at h;have e2:zA8 (List.replicate (p.length + 1) false)=List.replicate (p.length + 1) (Value.bool false):=(by simp [zA8]);rw [e2];exact h
 go_enter Tryz.func93,Tryz.ntmps93
 go_wp2_with fail;have h0:(w.alloc (.cells (zA8 (List.replicate (p.length + 1) false)).toArray 4)).cell? ⟨b,o + 1,none⟩=some (.slice aS p.length cS):=(by rw [((Below.refl w.heap.size w).alloc (Nat.le_refl _) _).cell (p:=⟨b,o + 1,none⟩) hbw];exact cs1);go_wp2_with fail
 go_loopg [6] (p.length + 1) (fun m iv wx=>∃ (k:Nat) (mk:List Bool),iv=.int .i64 (k:Int)∧k + 1≤m∧m≤k + 1∧k≤p.length∧mk.length=p.length + 1∧zBP p last=zBg p last k mk∧Below w.heap.size w wx∧wx.heap[w.heap.size]?=some (.cells (zA8 mk).toArray 4 (0,0)))
 case atStart=>exact ⟨p.length,List.replicate (p.length + 1) false,rfl,by omega,by omega,by omega,by simp,rfl,(Below.refl _ _).alloc (Nat.le_refl _) _,heap_alloc_new _ _⟩
 case round=>
  obtain ⟨k,mk,rfl,hkm,hkm2,hkl,hml,hmk2,hb,hg⟩:=hrel;have HMK:=zF hmk2;clear hmk2;have HML:=zF hml;clear hml;have hlg:=zB hg;have hPr:=hP.later hb;have cr1:wr.cell? ⟨b,o + 1,none⟩=some (.slice aS p.length cS):=(by rw [zC hPr.fb];exact hPr.cs);have lbr:=zB hPr.fb
  cases k with
  | zero=>
   have HF:Hid (zBP p last=mk):=zF (by rw [zA HMK];rfl);have hd0:decide ((0:Int) < (0:Int))=false:=(by decide);go_wp2_with fail;go_ret;exact ⟨w.heap.size,rfl,Nat.le_refl _,by rw [zA HF];exact hg,hb⟩
  | succ i=>
   have hd0:decide ((0:Int) < ((i + 1:Nat):Int))=true:=decide_eq_true (by omega);have HST:Hid (zBP p last=zBg p last i (zC8 p last (i + 1) mk)):=zF (by rw [zA HMK];rfl);clear HMK;have hi:i < p.length:=(by omega);obtain ⟨g2,cap,hVe,_,hg2',_,hcell⟩:=zS hPr.own (by omega);injection hVe with hVe _ hV2;subst hVe hV2;obtain ⟨st,hst⟩:∃ X,p[i]=X:=⟨_,rfl⟩;obtain ⟨HMS⟩:Nonempty (Hid (∀ M,(if i + 1=last then mk.set (i + 1) true else mk)=M→zC8 p last (i + 1) mk=if M.getD (i + 1) false=true∧st.rule≠1 then zy true (i + 1) st.second (zy true (i + 1) st.first M) else M)):=⟨zF (fun M hM=>zLx p last i mk M st hM hi hst)⟩;have e0:wr.cell? ⟨g2,i * 6,none⟩=some (.int .i64 (p[i].rule:Int)):=hcell _ _ (zh p i 0 hi (by omega));have e1:wr.cell? ⟨g2,i * 6 + 1,none⟩=some (.int .i64 (p[i].first:Int)):=hcell _ _ (zh p i 1 hi (by omega));have e2:wr.cell? ⟨g2,i * 6 + 2,none⟩=some (.int .i64 (p[i].second:Int)):=hcell _ _ (zh p i 2 hi (by omega));have e3:wr.cell? ⟨g2,i * 6 + 3,none⟩=some (.int .i64 (p[i].var:Int)):=hcell _ _ (zh p i 3 hi (by omega));have e4:wr.cell? ⟨g2,i * 6 + 4,none⟩=some (.int .i64 (p[i].lits.1:Int)):=hcell _ _ (zh p i 4 hi (by omega));have e5:wr.cell? ⟨g2,i * 6 + 5,none⟩=some (.int .i64 (p[i].lits.2:Int)):=hcell _ _ (zh p i 5 hi (by omega));rw [hst] at e0 e1 e2 e3 e4 e5;clear hst hcell;obtain ⟨sr,sf,ss,sv,l1,l2⟩:=st;dsimp only at *;have hgne:g2≠w.heap.size:=by
    intro e;subst e;exact absurd (zT hPr.own hg (by decide)) (fun h=>h rfl)
   have hd2:decide ((i:Int) < (p.length:Int))=true:=decide_eq_true (by omega);have hd3:decide (i < p.length)=true:=decide_eq_true hi
   by_cases hil:i + 1=last
   ·skip
    have hd1:(((i + 1:Nat):Int) == (last:Int))=true:=(by rw [beq_iff_eq];omega);have hd1':((i:Int) + 1 == (last:Int))=true:=(by rw [beq_iff_eq];omega);have HIL:=zF hil;clear hil;have cL:wr.cell? ⟨w.heap.size,i + 1,none⟩=some (.bool (mk.getD (i + 1) false)):=(by rw [zC hg];exact zBd _ _ (by rw [zA HML];omega));have zL:=zD hg (i + 1);have hgL:=zI hg (i + 1) (.bool true);rw [zCm] at hgL;have hbL:=hb.setCell (p:=⟨w.heap.size,i + 1,none⟩) (Nat.le_refl _) (.bool true);have hdn0:decide ((i:Int) + 1 < (p.length:Int) + 1)=true:=decide_eq_true (by omega);have hdn20:decide (i + 1 < p.length + 1)=true:=decide_eq_true (by omega);have k0:=(zCQ (w:=wr) (c:=w.heap.size) (k:=i + 1) (.bool true) (fun e=>hgne e.symm) (i * 6)).trans e0;have k1:=(zCQ (w:=wr) (c:=w.heap.size) (k:=i + 1) (.bool true) (fun e=>hgne e.symm) (i * 6 + 1)).trans e1;have k2:=(zCQ (w:=wr) (c:=w.heap.size) (k:=i + 1) (.bool true) (fun e=>hgne e.symm) (i * 6 + 2)).trans e2;have k3:=(zCQ (w:=wr) (c:=w.heap.size) (k:=i + 1) (.bool true) (fun e=>hgne e.symm) (i * 6 + 3)).trans e3;have k4:=(zCQ (w:=wr) (c:=w.heap.size) (k:=i + 1) (.bool true) (fun e=>hgne e.symm) (i * 6 + 4)).trans e4;have k5:=(zCQ (w:=wr) (c:=w.heap.size) (k:=i + 1) (.bool true) (fun e=>hgne e.symm) (i * 6 + 5)).trans e5;have hbne:w.heap.size≠b:=(by omega);have kr1:=(zCQ (w:=wr) (c:=w.heap.size) (k:=i + 1) (.bool true) hbne (o + 1)).trans cr1;have HM2:Hid (zBP p last=zBg p last i (if (mk.set (i + 1) true).getD (i + 1) false=true∧sr≠1 then zy true (i + 1) ss (zy true (i + 1) sf (mk.set (i + 1) true)) else (mk.set (i + 1) true))):=zF (by rw [zA HST,zA HMS (mk.set (i + 1) true) (if_pos (zA HIL))]);have HML2:Hid ((mk.set (i + 1) true).length=p.length + 1):=zF (by rw [List.length_set];exact zA HML);have hA:Below (wr.setCell ⟨w.heap.size,i + 1,none⟩ (.bool true)).heap.size (wr.setCell ⟨w.heap.size,i + 1,none⟩ (.bool true)) ((wr.setCell ⟨w.heap.size,i + 1,none⟩ (.bool true)).alloc (.cells #[.int .i64 (sr:Int),.int .i64 (sf:Int),.int .i64 (ss:Int),.int .i64 (sv:Int),.int .i64 (l1:Int),.int .i64 (l2:Int)] 134)):=(Below.refl _ _).alloc (Nat.le_refl _) _;have hgY:=zH hA hgL;have hbY:=hbL.trans (hA.mono hbL.size);have hsY:=heap_alloc_new (wr.setCell ⟨w.heap.size,i + 1,none⟩ (.bool true)) (.cells #[.int .i64 (sr:Int),.int .i64 (sf:Int),.int .i64 (ss:Int),.int .i64 (sv:Int),.int .i64 (l1:Int),.int .i64 (l2:Int)] 134);have hszX:(wr.setCell ⟨w.heap.size,i + 1,none⟩ (.bool true)).heap.size=wr.heap.size:=(by simp [World.setCell]);rw [hszX] at hsY;have nY:((wr.setCell ⟨w.heap.size,i + 1,none⟩ (.bool true)).alloc (.cells #[.int .i64 (sr:Int),.int .i64 (sf:Int),.int .i64 (ss:Int),.int .i64 (sv:Int),.int .i64 (l1:Int),.int .i64 (l2:Int)] 134)).cell? ⟨w.heap.size,i + 1,none⟩=some (.bool ((mk.set (i + 1) true).getD (i + 1) false)):=(by rw [zC hgY];exact zBd _ _ (by rw [zA HML2];omega));have q0:((wr.setCell ⟨w.heap.size,i + 1,none⟩ (.bool true)).alloc (.cells #[.int .i64 (sr:Int),.int .i64 (sf:Int),.int .i64 (ss:Int),.int .i64 (sv:Int),.int .i64 (l1:Int),.int .i64 (l2:Int)] 134)).cell? ⟨wr.heap.size,0,none⟩=some (.int .i64 (sr:Int)):=zE hsY rfl;have q1:((wr.setCell ⟨w.heap.size,i + 1,none⟩ (.bool true)).alloc (.cells #[.int .i64 (sr:Int),.int .i64 (sf:Int),.int .i64 (ss:Int),.int .i64 (sv:Int),.int .i64 (l1:Int),.int .i64 (l2:Int)] 134)).cell? ⟨wr.heap.size,1,none⟩=some (.int .i64 (sf:Int)):=zE hsY rfl;have q2:((wr.setCell ⟨w.heap.size,i + 1,none⟩ (.bool true)).alloc (.cells #[.int .i64 (sr:Int),.int .i64 (sf:Int),.int .i64 (ss:Int),.int .i64 (sv:Int),.int .i64 (l1:Int),.int .i64 (l2:Int)] 134)).cell? ⟨wr.heap.size,2,none⟩=some (.int .i64 (ss:Int)):=zE hsY rfl;have lsY:=zB hsY;have lgY:=zB hgY;obtain ⟨MM,hMM⟩:∃ Z,(mk.set (i + 1) true)=Z:=⟨_,rfl⟩;rw [hMM] at HM2 HML2 hgY nY;clear hMM;have hdn:decide ((i:Int) + 1 < (p.length:Int) + 1)=true:=decide_eq_true (by omega);have hdn2:decide (i + 1 < p.length + 1)=true:=decide_eq_true (by omega)
    cases hnb:MM.getD (i + 1) false with
    | false=>
     rw [hnb] at nY;have HF:Hid (zBP p last=zBg p last i MM):=zF (by rw [zA HM2,if_neg (fun h=>by rw [hnb] at h;cases h.1)]);clear hnb;go_wp2_with fail
     go_roundg (gk - 1)
     case measure=>omega
     case rel=>exact ⟨i,MM,by go_num,by omega,by omega,by omega,zA HML2,zA HF,hbY,hgY⟩
    | true=>
     rw [hnb] at nY
     by_cases hr1:sr=1
     ·have hd5:((sr:Int) == 1)=true:=(by rw [beq_iff_eq];omega);have HF:Hid (zBP p last=zBg p last i MM):=zF (by rw [zA HM2,if_neg (fun h=>h.2 hr1)]);clear hnb hr1;go_wp2_with fail
      go_roundg (gk - 1)
      case measure=>omega
      case rel=>exact ⟨i,MM,by go_num,by omega,by omega,by omega,zA HML2,zA HF,hbY,hgY⟩
     ·have hd5:((sr:Int) == 1)=false:=(by rw [beq_eq_false_iff_ne];omega);have HF:Hid (zBP p last=zBg p last i (zy true (i + 1) ss (zy true (i + 1) sf MM))):=zF (by rw [zA HM2,if_pos ⟨hnb,hr1⟩]);clear hnb hr1;go_wp2_with fail;generalize ((wr.setCell ⟨w.heap.size,i + 1,none⟩ (.bool true)).alloc (.cells #[.int .i64 (sr:Int),.int .i64 (sf:Int),.int .i64 (ss:Int),.int .i64 (sv:Int),.int .i64 (l1:Int),.int .i64 (l2:Int)] 134))=wy at *;obtain ⟨wo,hwo⟩:∃ wo,wo=(wr.setCell ⟨w.heap.size,i + 1,none⟩ (.bool true)):=⟨_,rfl⟩;obtain ⟨go,rfl⟩:∃ go,go=gk:=⟨_,rfl⟩
      go_loopg [55] 2 (fun m iv wx=>∃ (N:List Bool),N.length=p.length + 1∧Below w.heap.size w wx∧wx.heap[w.heap.size]?=some (.cells (zA8 N).toArray 4 (0,0))∧((iv=.int .i64 0∧m=2∧zBP p last=zBg p last i (zy true (i + 1) ss (zy true (i + 1) sf N)))∨(iv=.int .i64 1∧m=1∧zBP p last=zBg p last i (zy true (i + 1) ss N))∨(iv=.int .i64 2∧m=0∧zBP p last=zBg p last i N)))
      case atStart=>exact ⟨MM,zA HML2,hbY,hgY,Or.inl ⟨rfl,rfl,zA HF⟩⟩
      case round=>
       obtain ⟨N,hNl,hbN,hgN,hN⟩:=hrel;have hix0:∀ w:World,(Instr.index 186 (.agg #[.int .i64 (sf:Int),.int .i64 (ss:Int)]) (.int .i64 0)).run Tryz.prog w=.ok (.int .i64 (sf:Int)) w:=fun w=>by kernel_rfl
       have hix1:∀ w:World,(Instr.index 186 (.agg #[.int .i64 (sf:Int),.int .i64 (ss:Int)]) (.int .i64 1)).run Tryz.prog w=.ok (.int .i64 (ss:Int)) w:=fun w=>by kernel_rfl
       have HNL:=zF hNl;have lgN:=zB hgN
       rcases hN with ⟨rfl,hm,hN⟩ | ⟨rfl,hm,hN⟩ | ⟨rfl,hm,hN⟩
       ·have HN:=zF hN;clear hN hNl
        rcases (show sf=0∨(0 < sf∧sf < i + 1)∨(0 < sf∧¬ sf < i + 1) by omega) with hx | hx | hx
        ·have g1:decide ((0:Int) < (sf:Int))=false:=decide_eq_false (by omega);have g1n:decide (0 < sf)=false:=decide_eq_false (by omega);have HO:=zF (zBu (i + 1) sf N (by omega));clear hx;go_wp2_with fail
         go_roundg (gk - 1)
         case measure=>omega
         case rel=>exact ⟨N,zA HNL,hbN,hgN,Or.inr (Or.inl ⟨rfl,by omega,by rw [zA HN,zA HO]⟩)⟩
        ·have g1:decide ((0:Int) < (sf:Int))=true:=decide_eq_true (by omega);have g1n:decide (0 < sf)=true:=decide_eq_true (by omega);have g2':decide ((sf:Int) < (i:Int) + 1)=true:=decide_eq_true (by omega);have g2n:decide (sf < i + 1)=true:=decide_eq_true (by omega);have hxl:sf < p.length + 1:=(by omega);have g3:decide ((sf:Int) < (p.length:Int) + 1)=true:=decide_eq_true (by omega);have g4:decide (sf < p.length + 1)=true:=decide_eq_true (by omega);have HO:=zF (zE3 (i + 1) sf N hx.1 hx.2);clear hx;have cx:wr.cell? ⟨w.heap.size,sf,none⟩=some (.bool (N.getD sf false)):=(by rw [zC hgN];exact zBd _ _ (by rw [zA HNL];exact of_decide_eq_true g4));have zx:=zD hgN sf;have hgS:=zI hgN sf (.bool true);rw [zCm] at hgS;go_wp2_with fail
         go_roundg (gk - 1)
         case measure=>omega
         case rel=>exact ⟨N.set sf true,by rw [List.length_set];exact zA HNL,hbN.setCell (p:=⟨w.heap.size,sf,none⟩) (Nat.le_refl _) _,hgS,Or.inr (Or.inl ⟨rfl,by omega,by rw [zA HN,zA HO]⟩)⟩
        ·have g1:decide ((0:Int) < (sf:Int))=true:=decide_eq_true (by omega);have g1n:decide (0 < sf)=true:=decide_eq_true (by omega);have g2':decide ((sf:Int) < (i:Int) + 1)=false:=decide_eq_false (by omega);have g2n:decide (sf < i + 1)=false:=decide_eq_false (by omega);have HO:=zF (zBu (i + 1) sf N (by omega));clear hx;go_wp2_with fail
         go_roundg (gk - 1)
         case measure=>omega
         case rel=>exact ⟨N,zA HNL,hbN,hgN,Or.inr (Or.inl ⟨rfl,by omega,by rw [zA HN,zA HO]⟩)⟩
       ·have HN:=zF hN;clear hN hNl
        rcases (show ss=0∨(0 < ss∧ss < i + 1)∨(0 < ss∧¬ ss < i + 1) by omega) with hx | hx | hx
        ·have g1:decide ((0:Int) < (ss:Int))=false:=decide_eq_false (by omega);have g1n:decide (0 < ss)=false:=decide_eq_false (by omega);have HO:=zF (zBu (i + 1) ss N (by omega));clear hx;go_wp2_with fail
         go_roundg (gk - 1)
         case measure=>omega
         case rel=>exact ⟨N,zA HNL,hbN,hgN,Or.inr (Or.inr ⟨rfl,by omega,by rw [zA HN,zA HO]⟩)⟩
        ·have g1:decide ((0:Int) < (ss:Int))=true:=decide_eq_true (by omega);have g1n:decide (0 < ss)=true:=decide_eq_true (by omega);have g2':decide ((ss:Int) < (i:Int) + 1)=true:=decide_eq_true (by omega);have g2n:decide (ss < i + 1)=true:=decide_eq_true (by omega);have hxl:ss < p.length + 1:=(by omega);have g3:decide ((ss:Int) < (p.length:Int) + 1)=true:=decide_eq_true (by omega);have g4:decide (ss < p.length + 1)=true:=decide_eq_true (by omega);have HO:=zF (zE3 (i + 1) ss N hx.1 hx.2);clear hx;have cx:wr.cell? ⟨w.heap.size,ss,none⟩=some (.bool (N.getD ss false)):=(by rw [zC hgN];exact zBd _ _ (by rw [zA HNL];exact of_decide_eq_true g4));have zx:=zD hgN ss;have hgS:=zI hgN ss (.bool true);rw [zCm] at hgS;go_wp2_with fail
         go_roundg (gk - 1)
         case measure=>omega
         case rel=>exact ⟨N.set ss true,by rw [List.length_set];exact zA HNL,hbN.setCell (p:=⟨w.heap.size,ss,none⟩) (Nat.le_refl _) _,hgS,Or.inr (Or.inr ⟨rfl,by omega,by rw [zA HN,zA HO]⟩)⟩
        ·have g1:decide ((0:Int) < (ss:Int))=true:=decide_eq_true (by omega);have g1n:decide (0 < ss)=true:=decide_eq_true (by omega);have g2':decide ((ss:Int) < (i:Int) + 1)=false:=decide_eq_false (by omega);have g2n:decide (ss < i + 1)=false:=decide_eq_false (by omega);have HO:=zF (zBu (i + 1) ss N (by omega));clear hx;go_wp2_with fail
         go_roundg (gk - 1)
         case measure=>omega
         case rel=>exact ⟨N,zA HNL,hbN,hgN,Or.inr (Or.inr ⟨rfl,by omega,by rw [zA HN,zA HO]⟩)⟩
       ·have HN:=zF hN;clear hN hNl;go_wp2_with fail
        go_roundg (go - 1)
        case measure=>omega
        case rel=>exact ⟨i,N,by go_num,by omega,by omega,by omega,zA HNL,zA HN,hbN,hgN⟩
   ·skip
    have hd1:(((i + 1:Nat):Int) == (last:Int))=false:=(by rw [beq_eq_false_iff_ne];omega);have hd1':((i:Int) + 1 == (last:Int))=false:=(by rw [beq_eq_false_iff_ne];omega);have HIL:=zF hil;clear hil;have HM2:Hid (zBP p last=zBg p last i (if (mk).getD (i + 1) false=true∧sr≠1 then zy true (i + 1) ss (zy true (i + 1) sf (mk)) else (mk))):=zF (by rw [zA HST,zA HMS (mk) (if_neg (zA HIL))]);have HML2:Hid ((mk).length=p.length + 1):=HML;have hA:Below wr.heap.size wr (wr.alloc (.cells #[.int .i64 (sr:Int),.int .i64 (sf:Int),.int .i64 (ss:Int),.int .i64 (sv:Int),.int .i64 (l1:Int),.int .i64 (l2:Int)] 134)):=(Below.refl _ _).alloc (Nat.le_refl _) _;have hgY:=zH hA hg;have hbY:=hb.trans (hA.mono hb.size);have hsY:=heap_alloc_new wr (.cells #[.int .i64 (sr:Int),.int .i64 (sf:Int),.int .i64 (ss:Int),.int .i64 (sv:Int),.int .i64 (l1:Int),.int .i64 (l2:Int)] 134);have hszX:wr.heap.size=wr.heap.size:=rfl;rw [hszX] at hsY;have nY:(wr.alloc (.cells #[.int .i64 (sr:Int),.int .i64 (sf:Int),.int .i64 (ss:Int),.int .i64 (sv:Int),.int .i64 (l1:Int),.int .i64 (l2:Int)] 134)).cell? ⟨w.heap.size,i + 1,none⟩=some (.bool ((mk).getD (i + 1) false)):=(by rw [zC hgY];exact zBd _ _ (by rw [zA HML2];omega));obtain ⟨q0,q1,q2,-,-,-⟩:=zAH hsY;have lsY:=zB hsY;have lgY:=zB hgY;obtain ⟨MM,hMM⟩:∃ Z,(mk)=Z:=⟨_,rfl⟩;rw [hMM] at HM2 HML2 hgY nY;clear hMM;have hdn:decide ((i:Int) + 1 < (p.length:Int) + 1)=true:=decide_eq_true (by omega);have hdn2:decide (i + 1 < p.length + 1)=true:=decide_eq_true (by omega)
    cases hnb:MM.getD (i + 1) false with
    | false=>
     rw [hnb] at nY;have HF:Hid (zBP p last=zBg p last i MM):=zF (by rw [zA HM2,if_neg (fun h=>by rw [hnb] at h;cases h.1)]);clear hnb;go_wp2_with fail
     go_roundg (gk - 1)
     case measure=>omega
     case rel=>exact ⟨i,MM,by go_num,by omega,by omega,by omega,zA HML2,zA HF,hbY,hgY⟩
    | true=>
     rw [hnb] at nY
     by_cases hr1:sr=1
     ·have hd5:((sr:Int) == 1)=true:=(by rw [beq_iff_eq];omega);have HF:Hid (zBP p last=zBg p last i MM):=zF (by rw [zA HM2,if_neg (fun h=>h.2 hr1)]);clear hnb hr1;go_wp2_with fail
      go_roundg (gk - 1)
      case measure=>omega
      case rel=>exact ⟨i,MM,by go_num,by omega,by omega,by omega,zA HML2,zA HF,hbY,hgY⟩
     ·have hd5:((sr:Int) == 1)=false:=(by rw [beq_eq_false_iff_ne];omega);have HF:Hid (zBP p last=zBg p last i (zy true (i + 1) ss (zy true (i + 1) sf MM))):=zF (by rw [zA HM2,if_pos ⟨hnb,hr1⟩]);clear hnb hr1;go_wp2_with fail;generalize (wr.alloc (.cells #[.int .i64 (sr:Int),.int .i64 (sf:Int),.int .i64 (ss:Int),.int .i64 (sv:Int),.int .i64 (l1:Int),.int .i64 (l2:Int)] 134))=wy at *;obtain ⟨wo,hwo⟩:∃ wo,wo=wr:=⟨_,rfl⟩;obtain ⟨go,rfl⟩:∃ go,go=gk:=⟨_,rfl⟩
      go_loopg [55] 2 (fun m iv wx=>∃ (N:List Bool),N.length=p.length + 1∧Below w.heap.size w wx∧wx.heap[w.heap.size]?=some (.cells (zA8 N).toArray 4 (0,0))∧((iv=.int .i64 0∧m=2∧zBP p last=zBg p last i (zy true (i + 1) ss (zy true (i + 1) sf N)))∨(iv=.int .i64 1∧m=1∧zBP p last=zBg p last i (zy true (i + 1) ss N))∨(iv=.int .i64 2∧m=0∧zBP p last=zBg p last i N)))
      case atStart=>exact ⟨MM,zA HML2,hbY,hgY,Or.inl ⟨rfl,rfl,zA HF⟩⟩
      case round=>
       obtain ⟨N,hNl,hbN,hgN,hN⟩:=hrel;have hix0:∀ w:World,(Instr.index 186 (.agg #[.int .i64 (sf:Int),.int .i64 (ss:Int)]) (.int .i64 0)).run Tryz.prog w=.ok (.int .i64 (sf:Int)) w:=fun w=>by kernel_rfl
       have hix1:∀ w:World,(Instr.index 186 (.agg #[.int .i64 (sf:Int),.int .i64 (ss:Int)]) (.int .i64 1)).run Tryz.prog w=.ok (.int .i64 (ss:Int)) w:=fun w=>by kernel_rfl
       have HNL:=zF hNl;have lgN:=zB hgN
       rcases hN with ⟨rfl,hm,hN⟩ | ⟨rfl,hm,hN⟩ | ⟨rfl,hm,hN⟩
       ·have HN:=zF hN;clear hN hNl
        rcases (show sf=0∨(0 < sf∧sf < i + 1)∨(0 < sf∧¬ sf < i + 1) by omega) with hx | hx | hx
        ·have g1:decide ((0:Int) < (sf:Int))=false:=decide_eq_false (by omega);have g1n:decide (0 < sf)=false:=decide_eq_false (by omega);have HO:=zF (zBu (i + 1) sf N (by omega));clear hx;go_wp2_with fail
         go_roundg (gk - 1)
         case measure=>omega
         case rel=>exact ⟨N,zA HNL,hbN,hgN,Or.inr (Or.inl ⟨rfl,by omega,by rw [zA HN,zA HO]⟩)⟩
        ·have g1:decide ((0:Int) < (sf:Int))=true:=decide_eq_true (by omega);have g1n:decide (0 < sf)=true:=decide_eq_true (by omega);have g2':decide ((sf:Int) < (i:Int) + 1)=true:=decide_eq_true (by omega);have g2n:decide (sf < i + 1)=true:=decide_eq_true (by omega);have hxl:sf < p.length + 1:=(by omega);have g3:decide ((sf:Int) < (p.length:Int) + 1)=true:=decide_eq_true (by omega);have g4:decide (sf < p.length + 1)=true:=decide_eq_true (by omega);have HO:=zF (zE3 (i + 1) sf N hx.1 hx.2);clear hx;have cx:wr.cell? ⟨w.heap.size,sf,none⟩=some (.bool (N.getD sf false)):=(by rw [zC hgN];exact zBd _ _ (by rw [zA HNL];exact of_decide_eq_true g4));have zx:=zD hgN sf;have hgS:=zI hgN sf (.bool true);rw [zCm] at hgS;go_wp2_with fail
         go_roundg (gk - 1)
         case measure=>omega
         case rel=>exact ⟨N.set sf true,by rw [List.length_set];exact zA HNL,hbN.setCell (p:=⟨w.heap.size,sf,none⟩) (Nat.le_refl _) _,hgS,Or.inr (Or.inl ⟨rfl,by omega,by rw [zA HN,zA HO]⟩)⟩
        ·have g1:decide ((0:Int) < (sf:Int))=true:=decide_eq_true (by omega);have g1n:decide (0 < sf)=true:=decide_eq_true (by omega);have g2':decide ((sf:Int) < (i:Int) + 1)=false:=decide_eq_false (by omega);have g2n:decide (sf < i + 1)=false:=decide_eq_false (by omega);have HO:=zF (zBu (i + 1) sf N (by omega));clear hx;go_wp2_with fail
         go_roundg (gk - 1)
         case measure=>omega
         case rel=>exact ⟨N,zA HNL,hbN,hgN,Or.inr (Or.inl ⟨rfl,by omega,by rw [zA HN,zA HO]⟩)⟩
       ·have HN:=zF hN;clear hN hNl
        rcases (show ss=0∨(0 < ss∧ss < i + 1)∨(0 < ss∧¬ ss < i + 1) by omega) with hx | hx | hx
        ·have g1:decide ((0:Int) < (ss:Int))=false:=decide_eq_false (by omega);have g1n:decide (0 < ss)=false:=decide_eq_false (by omega);have HO:=zF (zBu (i + 1) ss N (by omega));clear hx;go_wp2_with fail
         go_roundg (gk - 1)
         case measure=>omega
         case rel=>exact ⟨N,zA HNL,hbN,hgN,Or.inr (Or.inr ⟨rfl,by omega,by rw [zA HN,zA HO]⟩)⟩
        ·have g1:decide ((0:Int) < (ss:Int))=true:=decide_eq_true (by omega);have g1n:decide (0 < ss)=true:=decide_eq_true (by omega);have g2':decide ((ss:Int) < (i:Int) + 1)=true:=decide_eq_true (by omega);have g2n:decide (ss < i + 1)=true:=decide_eq_true (by omega);have hxl:ss < p.length + 1:=(by omega);have g3:decide ((ss:Int) < (p.length:Int) + 1)=true:=decide_eq_true (by omega);have g4:decide (ss < p.length + 1)=true:=decide_eq_true (by omega);have HO:=zF (zE3 (i + 1) ss N hx.1 hx.2);clear hx;have cx:wr.cell? ⟨w.heap.size,ss,none⟩=some (.bool (N.getD ss false)):=(by rw [zC hgN];exact zBd _ _ (by rw [zA HNL];exact of_decide_eq_true g4));have zx:=zD hgN ss;have hgS:=zI hgN ss (.bool true);rw [zCm] at hgS;go_wp2_with fail
         go_roundg (gk - 1)
         case measure=>omega
         case rel=>exact ⟨N.set ss true,by rw [List.length_set];exact zA HNL,hbN.setCell (p:=⟨w.heap.size,ss,none⟩) (Nat.le_refl _) _,hgS,Or.inr (Or.inr ⟨rfl,by omega,by rw [zA HN,zA HO]⟩)⟩
        ·have g1:decide ((0:Int) < (ss:Int))=true:=decide_eq_true (by omega);have g1n:decide (0 < ss)=true:=decide_eq_true (by omega);have g2':decide ((ss:Int) < (i:Int) + 1)=false:=decide_eq_false (by omega);have g2n:decide (ss < i + 1)=false:=decide_eq_false (by omega);have HO:=zF (zBu (i + 1) ss N (by omega));clear hx;go_wp2_with fail
         go_roundg (gk - 1)
         case measure=>omega
         case rel=>exact ⟨N,zA HNL,hbN,hgN,Or.inr (Or.inr ⟨rfl,by omega,by rw [zA HN,zA HO]⟩)⟩
       ·have HN:=zF hN;clear hN hNl;go_wp2_with fail
        go_roundg (go - 1)
        case measure=>omega
        case rel=>exact ⟨i,N,by go_num,by omega,by omega,by omega,zA HNL,zA HN,hbN,hgN⟩
end Go.Proofs.YtgipjjhkhfihpaaGreatDoor
