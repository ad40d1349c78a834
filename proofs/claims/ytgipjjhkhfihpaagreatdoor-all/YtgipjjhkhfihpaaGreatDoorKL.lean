import Derived.Test.YtgipjjhkhfihpaaGreatDoorKF
import Derived.Test.YtgipjjhkhfihpaaGreatDoorKG
import Derived.Test.YtgipjjhkhfihpaaGreatDoorKD
set_option maxRecDepth 100000
set_option maxHeartbeats 6400000
namespace Go.Proofs.YtgipjjhkhfihpaaGreatDoor
open Go.RowKit
def zEr (a b:Nat × Nat):Bool:=(a.1 &&& b.1) ||| (a.2 &&& b.2) != 0
def zHS (a:Nat × Nat):Bool:=a.1 &&& a.2 != 0
def zCz (a:Nat × Nat):Bool:=a.1 ||| a.2 == 0
def zAz (a b:Nat × Nat):Nat × Nat:=(zb a.1 b.1,zb a.2 b.2)
def zDj (a:Nat × Nat):Nat × Nat:=(a.2,a.1)
def zCC (p:List Stp) (a b v:Nat):List Stp × Nat:=
 if zj (zM p a) v then (p ++ [⟨3,a,b,v,zi (zM p a) (zM p b) v⟩],p.length + 1)
 else (p ++ [⟨3,b,a,v,zi (zM p b) (zM p a) v⟩],p.length + 1)
def zBz (q:QS) (kind:Nat) (p:List Stp) (n:Nat):List Stp × Nat:=
 if zAR kind q.vars.reverse (zM p n)=zM p n then (p,n) else (p ++ [⟨4,n,0,0,zAR kind q.vars.reverse (zM p n)⟩],p.length + 1)
structure SS where
 nodes:Nat
 ref:List Stp
 aff:List Stp
 kept:List (Nat × Nat)
 most:Nat
structure SC where
 q:QS
 uni:Nat × Nat
 budget:Nat
 room:Nat
def SS.proof (s:SS) (kind:Nat):List Stp:=if kind=2 then s.aff else s.ref
def SS.lits (s:SS) (f:Nat × Nat):Nat × Nat:=zM (s.proof f.1) f.2
def SS.put (s:SS) (kind:Nat) (p:List Stp):SS:=if kind=2 then { s with aff:=p } else { s with ref:=p }
def zDi (room:Nat) (kept:List (Nat × Nat)) (f:Nat × Nat):List (Nat × Nat):=if room=0 then kept else if room≤kept.length then kept.drop 1 ++ [f] else kept ++ [f]
def zHD (room:Nat) (kept:List (Nat × Nat)) (f:Nat × Nat) (most:Nat):Nat:=if room=0 then most else if most < (zDi room kept f).length then (zDi room kept f).length else most
def SS.store (room:Nat) (s:SS) (f:Nat × Nat):SS:={ s with kept:=zDi room s.kept f,most:=zHD room s.kept f s.most }
def SS.keep (room:Nat) (s:SS) (f:Nat × Nat):SS:=if zCz (s.lits f) then s else s.store room f
def SS.reduce (q:QS) (s:SS) (f:Nat × Nat):SS × (Nat × Nat):=(s.put f.1 (zBz q f.1 (s.proof f.1) f.2).1,(f.1,(zBz q f.1 (s.proof f.1) f.2).2))
def zg (q:QS) (kept:List (Nat × Nat)):List Nat:=(List.range q.cl.length).map (· + 1) ++ (kept.filter (fun f=>f.1 == 1)).map (·.2)
def zAM (c vals:Nat × Nat):Nat × Nat:=zAz c (zDj vals)
def zDK (c vals:Nat × Nat):Bool:=!zEr c vals && !zHS c
def zBj (uni vals c:Nat × Nat):Bool:=zDK c vals && zCz (zAz (zAM c vals) uni)
def zBi (ref:List Stp) (uni:Nat × Nat) (cs:List Nat) (vals:Nat × Nat):Nat:=(cs.find? (fun s=>zBj uni vals (zM ref s))).getD 0
def zAP (c:Nat × Nat):Nat→Nat→List Int
 | 0,_=>[]
 | k + 1,v=>(if zj c v then [(v:Int)] else []) ++ ((if zj c (-(v:Int)) then [-(v:Int)] else []) ++ zAP c k (v + 1))
def zAJ (c:Nat × Nat):List Int:=zAP c 8 1
def zBA (uni vals c:Nat × Nat):Bool:=zDK c vals && ((zAJ (zAM c vals)).length == 1 && !zEr (zAM c vals) uni)
def zAd (ref:List Stp) (uni:Nat × Nat) (cs:List Nat) (vals:Nat × Nat):Int × Nat:=match cs.find? (fun s=>zBA uni vals (zM ref s)) with
 | none=>(0,0)
 | some s=>((zAJ (zAM (zM ref s) vals)).headD 0,s)
structure US where
 vals:Nat × Nat
 trail:List (Int × Nat)
 conf:Nat
def zAp (ref:List Stp) (uni:Nat × Nat) (cs:List Nat):Nat→Nat × Nat→List (Int × Nat)→US
 | 0,vals,trail=>⟨vals,trail,0⟩
 | m + 1,vals,trail=>if zBi ref uni cs vals≠0 then ⟨vals,trail,zBi ref uni cs vals⟩ else
  if (zAd ref uni cs vals).2=0 then ⟨vals,trail,0⟩ else zAp ref uni cs m (zQ vals (zAd ref uni cs vals).1) (trail ++ [zAd ref uni cs vals])
def zX (C:SC) (s:SS) (path:Nat × Nat):US:=zAp s.ref C.uni (zg C.q s.kept) (C.q.vars.length + 1) path []
def zDd:List (Int × Nat)→List Stp→Nat→List Stp × Nat
 | [],p,n=>(p,n)
 | m :: ms,p,n=>if zj (zM p n) (-m.1) then zDd ms (zCC p m.2 n m.1.natAbs).1 (zCC p m.2 n m.1.natAbs).2 else zDd ms p n
def zAW (C:SC) (s:SS) (u:US):SS × (Nat × Nat):=
 let r:=zDd u.trail.reverse s.ref u.conf
 let d:=zBz C.q 1 r.1 r.2
 let s2:SS:={ s with ref:=d.1 }
 (if r.2≠u.conf then s2.keep C.room (1,d.2) else s2,(1,d.2))
def zDD (c path:Nat × Nat):Bool:=zCz (zAz c path)
def zm (q:QS) (u:Bool) (c:Nat × Nat) (v:Nat × Bool):Nat × Nat:=if v.2=u∧zCD q.cl (zAV c v.1)=true then zAV c v.1 else c
def zBM (q:QS) (u:Bool) (c:Nat × Nat):Nat × Nat:=q.vars.reverse.foldl (zm q u) c
def zAY (q:QS) (c:Nat × Nat):Nat × Nat:=zBM q false (zBM q true c)
def zBT (C:SC) (s:SS) (path vals:Nat × Nat):SS × (Nat × Nat):=
 match s.kept.find? (fun f=>f.1 == 2 && zDD (s.lits f) path) with
 | some f=>(s,f)
 | none=>if zCD C.q.cl vals then
   let p:=s.aff ++ [⟨2,0,0,0,zAY C.q vals⟩]
   let d:=zBz C.q 2 p p.length
   let s2:SS:={ s with aff:=d.1 }
   (s2.keep C.room (2,d.2),(2,d.2))
  else (s,(0,0))
def zAa (C:SC) (s:SS) (path:Nat × Nat):(SS × (Nat × Nat)) ⊕ (SS × (Nat × Nat)):=
 if 0 < C.budget∧C.budget≤s.nodes then .inl (s,(0,0)) else
 let s1:SS:={ s with nodes:=s.nodes + 1 }
 let u:=zX C s1 path
 if u.conf≠0 then .inl (zAW C s1 u) else
 let r:=zBT C s1 path u.vals
 if r.2.1≠0 then .inl r else .inr (r.1,u.vals)
def zCP (C:SC) (s:SS) (a b:Nat × Nat) (v:Nat):SS × (Nat × Nat):=
 let r:=zCC (s.proof a.1) a.2 b.2 v
 let d:=zBz C.q a.1 r.1 r.2
 let s2:=s.put a.1 d.1
 (s2.keep C.room (a.1,d.2),(a.1,d.2))
def z8 (C:SC):Nat→Nat × Nat→Nat→SS→SS × (Nat × Nat)
 | 0,path,_,s=>match zAa C s path with
  | .inl r=>r
  | .inr r=>(r.1,(0,0))
 | m + 1,path,depth,s=>match zAa C s path with
  | .inl r=>r
  | .inr (s1,vals)=>
   let v:=(C.q.vars.getD depth (0,false)).1
   let side:Int:=if zj vals (-(v:Int)) then -(v:Int) else v
   let a:=z8 C m (zQ path side) (depth + 1) s1
   if zs (a.1.lits a.2) v then
    let b:=z8 C m (zQ path (-side)) (depth + 1) a.1
    if zs (b.1.lits b.2) v then zCP C b.1 a.2 b.2 v else b
   else a
def zy (b:Bool) (i n:Nat) (m:List Bool):List Bool:=if b=true∧0 < n∧n < i then m.set n true else m
def zC8 (p:List Stp) (last i:Nat) (m:List Bool):List Bool:=
 let m1:=if i=last then m.set i true else m
 let b:=m1.getD i false && decide ((p.getD (i - 1) ⟨0,0,0,0,(0,0)⟩).rule≠1)
 zy b i (p.getD (i - 1) ⟨0,0,0,0,(0,0)⟩).second (zy b i (p.getD (i - 1) ⟨0,0,0,0,(0,0)⟩).first m1)
def zBg (p:List Stp) (last:Nat):Nat→List Bool→List Bool
 | 0,m=>m
 | i + 1,m=>zBg p last i (zC8 p last (i + 1) m)
def zBP (p:List Stp) (last:Nat):List Bool:=zBg p last p.length (List.replicate (p.length + 1) false)
def zBZ (nums:List Nat) (i:Nat) (s:Stp):Stp:={ s with first:=if s.rule≠1∧s.first≤i then nums.getD s.first 0 else s.first,second:=if s.second≤i then nums.getD s.second 0 else s.second }
def zBk (p:List Stp) (mk:List Bool):Nat→List Stp→List Nat→List Stp × List Nat
 | 0,sh,nums=>(sh,nums)
 | m + 1,sh,nums=>
  let i:=p.length - (m + 1)
  if mk.getD (i + 1) false then zBk p mk m (sh ++ [zBZ nums i (p.getD i ⟨0,0,0,0,(0,0)⟩)]) (nums.set (i + 1) (sh.length + 1)) else zBk p mk m sh nums
def z6 (p:List Stp) (last:Nat):List Stp:=(zBk p (zBP p last) p.length [] (List.replicate (p.length + 1) 0)).1
def zDL (vs:List (Nat × Bool)) (u:Nat × Nat):Nat × Nat:=vs.foldl (fun u v=>if v.2 then zQ (zQ u v.1) (-(v.1:Int)) else u) u
def z7 (cl:List (Nat × Nat)):List Stp:=cl.zipIdx.map (fun c=>⟨1,c.2 + 1,0,0,c.1⟩)
def zAo (q:QS) (budget room:Nat):SC:=⟨q,zDL q.vars (0,0),budget,room⟩
def zAf (q:QS):SS:=⟨0,z7 q.cl,[],[],0⟩
def zAC (q:QS) (budget room:Nat):SS × (Nat × Nat):=z8 (zAo q budget room) q.vars.length (0,0) 0 (zAf q)
def L (c:Nat × Nat) (s:Bool) (v:Nat):Bool:=if s then c.1.testBit v else c.2.testBit v
def zAF (v:Nat) (s:Bool):Int:=if s then (v:Int) else -(v:Int)
theorem zJe {a b:Nat × Nat} (h:∀ s v,L a s v=L b s v):a=b:=zGh (fun v=>h true v) (fun v=>h false v)
theorem zDh (s:Bool) (v:Nat):L (0,0) s v=false:=by cases s<;>simp [L]
theorem zDm (a b:Nat × Nat) (s:Bool) (v:Nat):L (zAz a b) s v=(L a s v && !L b s v):=by
 cases s<;>simp [L,zAz,zn]
theorem zMw (a:Nat × Nat) (s:Bool) (v:Nat):L (zDj a) s v=L a (!s) v:=by cases s<;>rfl
theorem zES (c vals:Nat × Nat) (s:Bool) (v:Nat):L (zAM c vals) s v=(L c s v && !L vals (!s) v):=by rw [zAM,zDm,zMw]
theorem zI5 (v:Nat) (s:Bool):-(zAF v s)=zAF v (!s):=by cases s<;>simp [zAF]
theorem zRF (v:Nat) (s:Bool):(zAF v s).natAbs=v:=by cases s<;>simp [zAF]
theorem zRh {v u:Nat} {s t:Bool} (hv:1≤v) (hu:1≤u) (h:zAF v s=zAF u t):v=u∧s=t:=by
 cases s<;>cases t<;>simp [zAF] at h
 ·exact ⟨by omega,rfl⟩
 ·omega
 ·omega
 ·exact ⟨by omega,rfl⟩
theorem zBH (c:Nat × Nat) (v:Nat) (s:Bool) (h1:1≤v) (h8:v≤8) (t:Bool) (u:Nat):L (zQ c (zAF v s)) t u=(L c t u || (t == s && decide (u=v))):=by
 have hb:=zB8 v h1 h8
 cases s with
 | true=>
  have e:zQ c (zAF v true)=(c.1 ||| 2 ^ v,c.2):=by
   have e0:zAF v true=(v:Int):=rfl;rw [e0];unfold zQ;rw [if_neg (by omega),hb]
  rw [e]
  cases t with
  | true=>simp only [L,if_true];rw [zFR];simp [eq_comm]
  | false=>simp [L]
 | false=>
  have e:zQ c (zAF v false)=(c.1,c.2 ||| 2 ^ v):=by
   have e0:zAF v false=-(v:Int):=rfl;rw [e0];unfold zQ;rw [if_pos (by omega),Int.neg_neg,hb]
  rw [e]
  cases t with
  | true=>simp [L]
  | false=>simp only [L,Bool.false_eq_true,if_false];rw [zFR];simp [eq_comm]
theorem zBm (c:Nat × Nat) (v:Nat) (s:Bool) (h1:1≤v) (h8:v≤8):zj c (zAF v s)=L c s v:=by
 cases s with
 | true=>exact zF8 c v h1 h8
 | false=>exact zGD c v h1 h8
theorem zCl (c:Nat × Nat) (v:Nat) (h1:1≤v) (h8:v≤8):zs c v=(L c true v || L c false v):=by
 rw [zRZ c v h1 h8];unfold zGX L;rw [Nat.testBit_or];rfl
theorem zBo (c:Nat × Nat) (v:Nat) (h1:1≤v) (h8:v≤8) (s:Bool) (u:Nat):L (zAV c v) s u=(L c s u && !decide (u=v)):=by
 unfold zAV;rw [zB8 v h1 h8]
 cases s<;>simp [L,zn,Nat.testBit_two_pow,eq_comm]
theorem zCI (a b:Nat × Nat) (v:Nat) (h1:1≤v) (h8:v≤8) (s:Bool) (u:Nat):L (zi a b v) s u=((L a s u || L b s u) && !decide (u=v)):=by
 rw [zi,zBo _ _ h1 h8]
 cases s<;>simp [L]
theorem bits_zero {a:Nat}:a=0↔∀ v,a.testBit v=false:=
 ⟨fun h v=>by rw [h];simp,fun h=>Nat.eq_of_testBit_eq (fun v=>by rw [h v];simp)⟩
theorem zCB (a b:Nat × Nat):zEr a b=true↔∃ s v,L a s v=true∧L b s v=true:=by
 unfold zEr;rw [bne_iff_ne]
 constructor
 ·intro h;obtain ⟨v,hv⟩:=zDI h;rw [Nat.testBit_or,Nat.testBit_and,Nat.testBit_and,Bool.or_eq_true,Bool.and_eq_true,Bool.and_eq_true] at hv
  rcases hv with hv | hv
  ·exact ⟨true,v,hv⟩
  ·exact ⟨false,v,hv⟩
 ·rintro ⟨s,v,h1,h2⟩ e
  have:=bits_zero.1 e v
  rw [Nat.testBit_or,Nat.testBit_and,Nat.testBit_and] at this
  cases s
  ·simp only [L,Bool.false_eq_true,if_false] at h1 h2;rw [h1,h2] at this;simp at this
  ·simp only [L,if_true] at h1 h2;rw [h1,h2] at this;simp at this
theorem zJo (a:Nat × Nat):zHS a=true↔∃ v,L a true v=true∧L a false v=true:=by
 unfold zHS;rw [bne_iff_ne]
 constructor
 ·intro h;obtain ⟨v,hv⟩:=zDI h;rw [Nat.testBit_and,Bool.and_eq_true] at hv;exact ⟨v,hv⟩
 ·rintro ⟨v,h1,h2⟩ e
  have:=bits_zero.1 e v
  rw [Nat.testBit_and] at this;simp only [L,Bool.false_eq_true,if_false,if_true] at h1 h2;rw [h1,h2] at this;simp at this
theorem zDp (a:Nat × Nat):zCz a=true↔∀ s v,L a s v=false:=by
 unfold zCz;rw [beq_iff_eq,bits_zero]
 constructor
 ·intro h s v
  have:=h v
  rw [Nat.testBit_or,Bool.or_eq_false_iff] at this
  cases s
  ·exact this.2
  ·exact this.1
 ·intro h v;rw [Nat.testBit_or,Bool.or_eq_false_iff];exact ⟨h true v,h false v⟩
def Free (c:Nat × Nat):Prop:=∀ v,L c true v=true→L c false v=true→False
theorem zGm (c:Nat × Nat):zHS c=false↔Free c:=by
 rw [← Bool.not_eq_true,zJo];exact ⟨fun h v a b=>h ⟨v,a,b⟩,fun h ⟨v,a,b⟩=>h v a b⟩
theorem Free.not {c:Nat × Nat} (h:Free c) {s:Bool} {v:Nat} (h1:L c s v=true):L c (!s) v=false:=by
 cases h2:L c (!s) v with
 | false=>rfl
 | true=>
  cases s
  ·exact (h v h2 h1).elim
  ·exact (h v h1 h2).elim
theorem Free.sub {c d:Nat × Nat} (h:Free c) (hs:∀ s v,L d s v=true→L c s v=true):Free d:=fun v a b=>h v (hs _ _ a) (hs _ _ b)
theorem Free.flip {c d:Nat × Nat} (h:Free c) (k:Bool) (hs:∀ s v,L d s v=true→L c (s == k) v=true):Free d:=fun v a b=>by
 have h1:=hs _ _ a;have h2:=hs _ _ b
 cases k
 ·exact h v h2 h1
 ·exact h v h1 h2
theorem zKm (c:Nat × Nat) (x:Int):∀ (k v:Nat),1≤v→v + k≤9→(x∈zAP c k v↔∃ u s,v≤u∧u < v + k∧x=zAF u s∧L c s u=true):=by
 intro k
 induction k with
 | zero=>intro v _ _;simp [zAP];intro u h1 h2;omega
 | succ k ih=>
  intro v h1 h9;rw [zAP,List.mem_append,List.mem_append,ih (v + 1) (by omega) (by omega)];have hp:zj c (v:Int)=L c true v:=zBm c v true h1 (by omega);have hn:zj c (-(v:Int))=L c false v:=zBm c v false h1 (by omega);rw [hp,hn]
  constructor
  ·rintro (h | h | ⟨u,s,h2,h3,h4,h5⟩)
   ·split at h
    ·next hh=>simp at h;exact ⟨v,true,Nat.le_refl _,by omega,by rw [h];rfl,hh⟩
    ·simp at h
   ·split at h
    ·next hh=>simp at h;exact ⟨v,false,Nat.le_refl _,by omega,by rw [h];rfl,hh⟩
    ·simp at h
   ·exact ⟨u,s,by omega,by omega,h4,h5⟩
  ·rintro ⟨u,s,h2,h3,h4,h5⟩
   by_cases e:u=v
   ·subst e
    cases s with
    | true=>left;rw [if_pos h5,h4];simp [zAF]
    | false=>right;left;rw [if_pos h5,h4];simp [zAF]
   ·right;right;exact ⟨u,s,by omega,by omega,h4,h5⟩
theorem zEv (c:Nat × Nat) (x:Int):x∈zAJ c↔∃ u s,1≤u∧u≤8∧x=zAF u s∧L c s u=true:=by
 rw [zAJ,zKm c x 8 1 (by omega) (by omega)]
 constructor
 ·rintro ⟨u,s,h1,h2,h3⟩;exact ⟨u,s,h1,by omega,h3⟩
 ·rintro ⟨u,s,h1,h2,h3⟩;exact ⟨u,s,h1,by omega,h3⟩
theorem zS1 {c:Nat × Nat} (h:Bd c) {s:Bool} {v:Nat} (hl:L c s v=true):v≤8:=by
 rcases Nat.lt_or_ge 8 v with h9 | h9
 ·exfalso
  have h2:512≤2 ^ v:=by
   have:2 ^ 9≤2 ^ v:=Nat.pow_le_pow_right (by decide) h9
   simpa using this
  cases s
  ·have:=Nat.testBit_lt_two_pow (x:=c.2) (i:=v) (by have:=h.2;omega)
   simp only [L,Bool.false_eq_true,if_false] at hl;rw [this] at hl;cases hl
  ·have:=Nat.testBit_lt_two_pow (x:=c.1) (i:=v) (by have:=h.1;omega)
   simp only [L,if_true] at hl;rw [this] at hl;cases hl
 ·exact h9
theorem zLm {c:Nat × Nat} (h:(zAJ c).length=1):∃ u s,1≤u∧u≤8∧(zAJ c).headD 0=zAF u s∧L c s u=true∧∀ t v,1≤v→v≤8→L c t v=true→v=u∧t=s:=by
 obtain ⟨x,hx⟩:=List.length_eq_one_iff.1 h;have hm:=(zEv c x).1 (by rw [hx];simp);obtain ⟨u,s,h1,h2,h3,h4⟩:=hm;refine ⟨u,s,h1,h2,by rw [hx];exact h3,h4,fun t v h5 h6 h7=>?_⟩;have hy:=(zEv c (zAF v t)).2 ⟨v,t,h5,h6,rfl,h7⟩;rw [hx,h3] at hy;simp at hy;exact zRh h5 h1 hy
structure QGood (q:QS):Prop where
 qb:QB q
 nodup:(q.vars.map (·.1)).Nodup
 vars:∀ c∈q.cl,∀ s v,L c s v=true→v∈q.vars.map (·.1)
structure LOk (q:QS) (c:Nat × Nat):Prop where
 bd:Bd c
 vars:∀ s v,L c s v=true→v∈q.vars.map (·.1)
theorem zKo (q:QS):LOk q (0,0):=⟨⟨by decide,by decide⟩,fun s v h=>by rw [zDh] at h;cases h⟩
theorem QGood.name {q:QS} (hq:QGood q) {v:Nat} (h:v∈q.vars.map (·.1)):1≤v∧v≤8:=by
 obtain ⟨x,hx,rfl⟩:=List.mem_map.1 h;exact hq.qb.names x hx
def zRV (q:QS) (k:Nat) (p:List Stp) (s:Stp):Prop:=
 LOk q s.lits∧(
 (s.rule=1∧k=1∧1≤s.first∧s.first≤q.cl.length∧s.second=0∧s.lits=q.cl.getD (s.first - 1) (0,0))∨
 (s.rule=2∧k=2∧s.first=0∧s.second=0∧Free s.lits∧zCD q.cl s.lits=true)∨
 (s.rule=3∧(1≤s.first∧s.first≤p.length)∧(1≤s.second∧s.second≤p.length)∧(∃ x∈q.vars,x.1=s.var∧zAl k x.2=true)∧L (zM p s.first) true s.var=true∧L (zM p s.second) false s.var=true∧Free (zM p s.first)∧Free (zM p s.second)∧Free s.lits∧s.lits=zi (zM p s.first) (zM p s.second) s.var)∨
 (s.rule=4∧(1≤s.first∧s.first≤p.length)∧s.second=0∧Free (zM p s.first)∧s.lits=zAR k q.vars.reverse (zM p s.first)))
def POk (q:QS) (k:Nat) (p:List Stp):Prop:=∀ i (h:i < p.length),zRV q k (p.take i) p[i]
theorem zOH (q:QS) (k:Nat):POk q k []:=fun i h=>by simp at h
theorem POk.snoc {q:QS} {k:Nat} {p:List Stp} {s:Stp} (h:POk q k p) (hs:zRV q k p s):POk q k (p ++ [s]):=by
 intro i hi
 by_cases e:i < p.length
 ·rw [List.take_append_of_le_length (Nat.le_of_lt e),List.getElem_append_left e];exact h i e
 ·have e2:i=p.length:=(by simp at hi;omega);subst e2;rw [List.take_append_of_le_length (Nat.le_refl _),List.take_length]
  simpa using hs
theorem zB9 (p x:List Stp) (n:Nat) (h:n≤p.length):zM (p ++ x) n=zM p n:=by
 unfold zM
 split
 ·rfl
 ·rw [List.getElem?_append_left (by omega)]
theorem zD4 (p:List Stp) (s:Stp):zM (p ++ [s]) (p.length + 1)=s.lits:=by
 rw [zBU _ _ (by simp)];simp
theorem POk.lok {q:QS} {k:Nat} {p:List Stp} (h:POk q k p) (n:Nat):LOk q (zM p n):=by
 by_cases hn:1≤n∧n≤p.length
 ·obtain ⟨m,rfl⟩:∃ m,n=m + 1:=⟨n - 1,by omega⟩;rw [zBU p m (by omega)];exact (h m (by omega)).1
 ·rw [zE4 p n (by omega)];exact zKo q
theorem zKj {q:QS} {c d:Nat × Nat} (h:LOk q c) (hb:Bd d) (hs:∀ s v,L d s v=true→L c s v=true):LOk q d:=⟨hb,fun s v hv=>h.vars s v (hs s v hv)⟩
theorem zDt {q:QS} (hq:QGood q) (i:Nat) (hi:i < q.vars.length):1≤q.vars[i].1∧q.vars[i].1≤8:=hq.qb.names _ (List.getElem_mem hi)
theorem zDC {q:QS} (hq:QGood q) (k:Nat):∀ (n:Nat),n≤q.vars.length→∀ c s v,L (zAR k (q.vars.take n).reverse c) s v=true→L c s v=true:=by
 intro n
 induction n with
 | zero=>intro _ c s v h;simpa [zAR] using h
 | succ n ih=>
  intro hn c s v h;have hv:=zDt hq n (by omega);rw [zBs k q.vars n (by omega)] at h
  split at h
  ·split at h
   ·exact h
   ·have:=ih (by omega) _ s v h
    rw [zBo _ _ hv.1 hv.2,Bool.and_eq_true] at this;exact this.1
  ·exact ih (by omega) _ s v h
theorem zEo {q:QS} (hq:QGood q) (k:Nat) (c:Nat × Nat) (s:Bool) (v:Nat) (h:L (zAR k q.vars.reverse c) s v=true):L c s v=true:=by
 have:=zDC hq k q.vars.length (Nat.le_refl _) c s v
 rw [List.take_length] at this;exact this h
theorem zOw {q:QS} (hq:QGood q) (k:Nat):∀ (n:Nat),n≤q.vars.length→∀ c,zAR k (q.vars.take n).reverse (zAR k (q.vars.take n).reverse c)=zAR k (q.vars.take n).reverse c:=by
 intro n
 induction n with
 | zero=>intro _ c;rfl
 | succ n ih=>
  intro hn c;have hv:=zDt hq n (by omega);have hno:∀ d,zs d q.vars[n].1=false→zAR k (q.vars.take (n + 1)).reverse (zAR k (q.vars.take n).reverse d)=zAR k (q.vars.take n).reverse d:=by
   intro d hd;have h2:zs (zAR k (q.vars.take n).reverse d) q.vars[n].1=false:=by
    rw [zCl _ _ hv.1 hv.2,Bool.or_eq_false_iff] at hd ⊢
    constructor
    ·cases h:L (zAR k (q.vars.take n).reverse d) true q.vars[n].1 with
     | false=>rfl
     | true=>rw [zDC hq k n (by omega) d true _ h] at hd;exact absurd hd.1 (by simp)
    ·cases h:L (zAR k (q.vars.take n).reverse d) false q.vars[n].1 with
     | false=>rfl
     | true=>rw [zDC hq k n (by omega) d false _ h] at hd;exact absurd hd.2 (by simp)
   rw [zBs k q.vars n (by omega),h2,if_neg (by decide)];exact ih (by omega) d
  conv=>lhs;rw [zBs k q.vars n (by omega) c]
  conv=>rhs;rw [zBs k q.vars n (by omega) c]
  cases h1:zs c q.vars[n].1 with
  | false=>simp only [Bool.false_eq_true,if_false];exact hno c h1
  | true=>
   simp only [if_true]
   cases h2:zAl k q.vars[n].2 with
   | true=>
    simp only [if_true];rw [zBs k q.vars n (by omega) c,h1,h2];rfl
   | false=>
    simp only [Bool.false_eq_true,if_false]
    apply hno
    rw [zCl _ _ hv.1 hv.2,zBo _ _ hv.1 hv.2,zBo _ _ hv.1 hv.2]
    simp
theorem zIQ {q:QS} (hq:QGood q) (k:Nat) (c:Nat × Nat):zAR k q.vars.reverse (zAR k q.vars.reverse c)=zAR k q.vars.reverse c:=by
 have:=zOw hq k q.vars.length (Nat.le_refl _) c
 rwa [List.take_length] at this
theorem zJr {q:QS} (hq:QGood q) (k d:Nat):∀ (n:Nat),n≤q.vars.length→∀ c,(∀ i (hi:i < q.vars.length),d≤i→i < n→∀ s,L c s q.vars[i].1=true→zAl k q.vars[i].2=false)→∀ i (hi:i < q.vars.length),d≤i→i < n→∀ s,L (zAR k (q.vars.take n).reverse c) s q.vars[i].1=false:=by
 intro n
 induction n with
 | zero=>intro _ c _ i _ _ h;omega
 | succ n ih=>
  intro hn c hp i hi hd hin s;have hv:=zDt hq n (by omega);rw [zBs k q.vars n (by omega)]
  cases h1:zs c q.vars[n].1 with
  | false=>
   simp only [Bool.false_eq_true,if_false]
   by_cases e:i=n
   ·subst e;rw [zCl _ _ hv.1 hv.2,Bool.or_eq_false_iff] at h1
    cases h:L (zAR k (q.vars.take i).reverse c) s q.vars[i].1 with
    | false=>rfl
    | true=>
     have:=zDC hq k i (by omega) c s _ h
     cases s
     ·rw [h1.2] at this;cases this
     ·rw [h1.1] at this;cases this
   ·exact ih (by omega) c (fun j hj h2 h3=>hp j hj h2 (by omega)) i hi hd (by omega) s
  | true=>
   simp only [if_true];have hpf:zAl k q.vars[n].2=false:=by
    rw [zCl _ _ hv.1 hv.2,Bool.or_eq_true] at h1
    rcases h1 with h1 | h1
    ·exact hp n (by omega) (by omega) (by omega) true h1
    ·exact hp n (by omega) (by omega) (by omega) false h1
   rw [hpf];simp only [Bool.false_eq_true,if_false]
   by_cases e:i=n
   ·subst e
    cases h:L (zAR k (q.vars.take i).reverse (zAV c q.vars[i].1)) s q.vars[i].1 with
    | false=>rfl
    | true=>
     have:=zDC hq k i (by omega) _ s _ h
     rw [zBo _ _ hv.1 hv.2] at this;simp at this
   ·refine ih (by omega) _ (fun j hj h2 h3 t ht=>?_) i hi hd (by omega) s;rw [zBo _ _ hv.1 hv.2,Bool.and_eq_true] at ht;exact hp j hj h2 (by omega) t ht.1
theorem zPC {q:QS} (hq:QGood q) (k d:Nat) (hd:d < q.vars.length) (c:Nat × Nat) (hr:zAR k q.vars.reverse c=c) (hin:∀ i (hi:i < q.vars.length),d < i→∀ s,L c s q.vars[i].1=false) (hh:zs c q.vars[d].1=true):zAl k q.vars[d].2=true:=by
 have key:∀ n,d + 1≤n→n≤q.vars.length→zAR k (q.vars.take n).reverse c=zAR k (q.vars.take (d + 1)).reverse c:=by
  intro n
  induction n with
  | zero=>intro h;omega
  | succ n ih=>
   intro h1 h2
   by_cases e:n=d
   ·subst e;rfl
   ·have hv:=zDt hq n (by omega);rw [zBs k q.vars n (by omega),show zs c q.vars[n].1=false from by
     rw [zCl _ _ hv.1 hv.2,hin n (by omega) (by omega) true,hin n (by omega) (by omega) false];rfl]
    simp only [Bool.false_eq_true,if_false];exact ih (by omega) (by omega)
 have h1:=key q.vars.length (by omega) (Nat.le_refl _);rw [List.take_length,hr,zBs k q.vars d hd,hh] at h1;simp only [if_true] at h1
 cases hp:zAl k q.vars[d].2 with
 | true=>rfl
 | false=>
  rw [hp] at h1;simp only [Bool.false_eq_true,if_false] at h1;have hv:=zDt hq d hd;rw [zCl _ _ hv.1 hv.2,Bool.or_eq_true] at hh
  exfalso
  rcases hh with hh | hh
  ·rw [h1] at hh
   have:=zDC hq k d (by omega) _ true _ hh
   rw [zBo _ _ hv.1 hv.2] at this;simp at this
  ·rw [h1] at hh
   have:=zDC hq k d (by omega) _ false _ hh
   rw [zBo _ _ hv.1 hv.2] at this;simp at this
theorem zR5 {q:QS} (k:Nat) (c:Nat × Nat) (h:Bd c):Bd (zAR k q.vars.reverse c):=zH3 k _ c h
theorem zKe {q:QS} (hq:QGood q) (k:Nat) (p:List Stp) (n:Nat) (hp:POk q k p) (h1:1≤n) (hn:n≤p.length) (hf:Free (zM p n)) :
  POk q k (zBz q k p n).1∧(∃ x,(zBz q k p n).1=p ++ x∧x.length≤1∧∀ s∈x,s.rule≠3)∧1≤(zBz q k p n).2∧(zBz q k p n).2≤(zBz q k p n).1.length∧zM (zBz q k p n).1 (zBz q k p n).2=zAR k q.vars.reverse (zM p n):=by
 unfold zBz
 split
 ·next h=>exact ⟨hp,⟨[],by simp,by simp,by simp⟩,h1,hn,h.symm⟩
 ·have hl:=hp.lok n;refine ⟨hp.snoc ⟨zKj hl (zR5 k _ hl.bd) (fun s v=>zEo hq k _ s v),Or.inr (Or.inr (Or.inr ⟨rfl,⟨h1,hn⟩,rfl,hf,rfl⟩))⟩,⟨_,rfl,by simp,by simp⟩,by simp,by simp,zD4 _ _⟩
def zFy (q:QS) (uni:Nat × Nat):Prop:=∀ s v,L uni s v=true↔∃ x∈q.vars,x.1=v∧x.2=true
structure FactIn (q:QS) (S:SS) (f:Nat × Nat):Prop where
 kind:f.1=1∨f.1=2
 lo:1≤f.2
 hi:f.2≤(S.proof f.1).length
 free:Free (S.lits f)
 red:zAR f.1 q.vars.reverse (S.lits f)=S.lits f
structure SInv (C:SC) (S:SS):Prop where
 ref:POk C.q 1 S.ref
 len:C.q.cl.length≤S.ref.length
 ax:∀ i (h:i < C.q.cl.length),zM S.ref (i + 1)=C.q.cl[i]
 aff:POk C.q 2 S.aff
 kept:∀ f∈S.kept,FactIn C.q S f
 room:S.kept.length≤C.room
 most:S.most≤C.room
structure Ext (S T:SS):Prop where
 ref:∃ x,T.ref=S.ref ++ x
 aff:∃ x,T.aff=S.aff ++ x
theorem Ext.refl (S:SS):Ext S S:=⟨⟨[],by simp⟩,⟨[],by simp⟩⟩
theorem Ext.trans {S T U:SS} (h:Ext S T) (k:Ext T U):Ext S U:=by
 obtain ⟨⟨a,ha⟩,⟨b,hb⟩⟩:=h;obtain ⟨⟨c,hc⟩,⟨d,hd⟩⟩:=k;exact ⟨⟨a ++ c,by rw [hc,ha,List.append_assoc]⟩,⟨b ++ d,by rw [hd,hb,List.append_assoc]⟩⟩
theorem Ext.proof {S T:SS} (h:Ext S T) (k:Nat):∃ x,T.proof k=S.proof k ++ x:=by
 unfold SS.proof;split
 ·exact h.aff
 ·exact h.ref
theorem Ext.lits {S T:SS} (h:Ext S T) {f:Nat × Nat} (hf:f.2≤(S.proof f.1).length):T.lits f=S.lits f:=by
 obtain ⟨x,hx⟩:=h.proof f.1;unfold SS.lits;rw [hx,zB9 _ _ _ hf]
theorem FactIn.ext {q:QS} {S T:SS} {f:Nat × Nat} (h:FactIn q S f) (he:Ext S T):FactIn q T f:=by
 obtain ⟨x,hx⟩:=he.proof f.1;have hl:=he.lits h.hi;exact ⟨h.kind,h.lo,by rw [hx,List.length_append];have:=h.hi;omega,by rw [hl];exact h.free,by rw [hl];exact h.red⟩
def zG2 (k:Nat) (path c:Nat × Nat):Prop:=∀ s v,L c s v=true→L path (s == (k == 2)) v=true
structure PathAt (q:QS) (d:Nat) (path:Nat × Nat):Prop where
 free:Free path
 bd:Bd path
 inn:∀ s v,L path s v=true→∃ i,∃ h:i < q.vars.length,i < d∧q.vars[i].1=v
 all:∀ i (h:i < q.vars.length),i < d→∃ s,L path s q.vars[i].1=true
theorem zHA (q:QS):PathAt q 0 (0,0):=
 ⟨fun v h=>(by rw [zDh] at h;cases h),⟨by decide,by decide⟩,fun s v h=>(by rw [zDh] at h;cases h),fun i _ h=>(by omega)⟩
theorem PathAt.lok {q:QS} {d:Nat} {path:Nat × Nat} (h:PathAt q d path):LOk q path:=
 ⟨h.bd,fun s v hv=>by obtain ⟨i,hi,_,rfl⟩:=h.inn s v hv;exact List.mem_map_of_mem (List.getElem_mem hi)⟩
theorem zFh {q:QS} (hq:QGood q) {i j:Nat} (hi:i < q.vars.length) (hj:j < q.vars.length) (h:q.vars[i].1=q.vars[j].1):i=j:=by
 have hn:=hq.nodup;rw [List.nodup_iff_pairwise_ne,List.pairwise_iff_getElem] at hn
 rcases Nat.lt_trichotomy i j with h1 | h1 | h1
 ·exact (hn i j (by simpa using hi) (by simpa using hj) h1 (by simpa using h)).elim
 ·exact h1
 ·exact (hn j i (by simpa using hj) (by simpa using hi) h1 (by simpa using h.symm)).elim
theorem PathAt.off {q:QS} (hq:QGood q) {d:Nat} {path:Nat × Nat} (h:PathAt q d path) {i:Nat} (hi:i < q.vars.length) (hd:d≤i) (s:Bool):L path s q.vars[i].1=false:=by
 cases hh:L path s q.vars[i].1 with
 | false=>rfl
 | true=>
  obtain ⟨j,hj,hjd,he⟩:=h.inn s _ hh
  have:=zFh hq hj hi he
  omega
theorem zKK (c:Nat × Nat) (x:Int) (h:Bd c):Bd (zQ c x):=by
 unfold zQ;split
 ·exact ⟨h.1,zBD _ _ h.2 (zCn _)⟩
 ·exact ⟨zBD _ _ h.1 (zCn _),h.2⟩
theorem zHT {c:Nat × Nat} {v:Nat} {s:Bool} (h1:1≤v) (h8:v≤8) (h:Free c) (hn:L c (!s) v=false):Free (zQ c (zAF v s)):=by
 intro u a b;rw [zBH c v s h1 h8] at a b;rw [Bool.or_eq_true,Bool.and_eq_true] at a b
 rcases a with a | ⟨a1,a2⟩
 ·rcases b with b | ⟨b1,b2⟩
  ·exact h u a b
  ·have e:u=v:=of_decide_eq_true b2;subst e
   cases s
   ·simp only [Bool.not_false] at hn;rw [hn] at a;cases a
   ·cases b1
 ·have e:u=v:=of_decide_eq_true a2;subst e
  rcases b with b | ⟨b1,b2⟩
  ·cases s
   ·cases a1
   ·simp only [Bool.not_true] at hn;rw [hn] at b;cases b
  ·cases s
   ·cases a1
   ·cases b1
theorem PathAt.next {q:QS} (hq:QGood q) {d:Nat} {path:Nat × Nat} (h:PathAt q d path) (hd:d < q.vars.length) (s:Bool):PathAt q (d + 1) (zQ path (zAF q.vars[d].1 s)):=by
 have hv:=zDt hq d hd;refine ⟨zHT hv.1 hv.2 h.free (h.off hq hd (Nat.le_refl _) _),zKK _ _ h.bd,fun t v ht=>?_,fun i hi hid=>?_⟩
 ·rw [zBH _ _ _ hv.1 hv.2,Bool.or_eq_true,Bool.and_eq_true] at ht
  rcases ht with ht | ⟨_,ht⟩
  ·obtain ⟨i,hi,hid,he⟩:=h.inn t v ht;exact ⟨i,hi,by omega,he⟩
  ·exact ⟨d,hd,by omega,(of_decide_eq_true ht).symm⟩
 ·by_cases e:i=d
  ·subst e;exact ⟨s,by rw [zBH _ _ _ hv.1 hv.2];simp⟩
  ·obtain ⟨t,ht⟩:=h.all i hi (by omega);exact ⟨t,by rw [zBH _ _ _ hv.1 hv.2,ht];rfl⟩
theorem zMt {room:Nat} {kept:List (Nat × Nat)} {f g:Nat × Nat} (h:g∈zDi room kept f):g∈kept∨g=f:=by
 unfold zDi at h
 split at h
 ·exact Or.inl h
 ·split at h
  ·rcases List.mem_append.1 h with h | h
   ·exact Or.inl (List.mem_of_mem_drop h)
   ·exact Or.inr (by simpa using h)
  ·rcases List.mem_append.1 h with h | h
   ·exact Or.inl h
   ·exact Or.inr (by simpa using h)
theorem zIZ {room:Nat} {kept:List (Nat × Nat)} {f:Nat × Nat} (h:kept.length≤room):(zDi room kept f).length≤room:=by
 unfold zDi
 split
 ·exact h
 ·split
  ·simp;omega
  ·simp;omega
theorem zFS (r:Nat) (S:SS) (f:Nat × Nat):(S.keep r f).ref=S.ref∧(S.keep r f).aff=S.aff∧(S.keep r f).nodes=S.nodes:=by
 unfold SS.keep;split
 ·exact ⟨rfl,rfl,rfl⟩
 ·exact ⟨rfl,rfl,rfl⟩
theorem zGb (r:Nat) (S:SS) (f:Nat × Nat):Ext S (S.keep r f):=by
 obtain ⟨h1,h2,_⟩:=zFS r S f;exact ⟨⟨[],by rw [h1];simp⟩,⟨[],by rw [h2];simp⟩⟩
theorem zJ1 {C:SC} {S:SS} {f:Nat × Nat} (h:SInv C S) (hf:FactIn C.q S f):SInv C (S.keep C.room f):=by
 have he:=zGb C.room S f;obtain ⟨h1,h2,_⟩:=zFS C.room S f;have hk:(∀ g∈(S.keep C.room f).kept,FactIn C.q S g)∧(S.keep C.room f).kept.length≤C.room∧(S.keep C.room f).most≤C.room:=by
  unfold SS.keep;split
  ·exact ⟨h.kept,h.room,h.most⟩
  ·refine ⟨fun g hg=>?_,zIZ h.room,?_⟩
   ·rcases zMt hg with hg | hg
    ·exact h.kept g hg
    ·rw [hg];exact hf
   ·have:=zIZ (f:=f) h.room
    show zHD _ _ _ _≤_;unfold zHD
    split
    ·exact h.most
    ·split
     ·exact this
     ·exact h.most
 exact ⟨by rw [h1];exact h.ref,by rw [h1];exact h.len,fun i hi=>by rw [h1];exact h.ax i hi,by rw [h2];exact h.aff,fun g hg=>(hk.1 g hg).ext he,hk.2.1,hk.2.2⟩
theorem SInv.grow {C:SC} {S:SS} (h:SInv C S) {p:List Stp} (hp:∃ x,p=S.ref ++ x) (hok:POk C.q 1 p):SInv C { S with ref:=p }:=by
 have he:Ext S { S with ref:=p }:=⟨hp,⟨[],by simp⟩⟩;obtain ⟨x,rfl⟩:=hp;exact ⟨hok,by have:=h.len;simp;omega,fun i hi=>by rw [zB9 _ _ _ (by have:=h.len;omega)];exact h.ax i hi,h.aff,fun g hg=>(h.kept g hg).ext he,h.room,h.most⟩
theorem SInv.growA {C:SC} {S:SS} (h:SInv C S) {p:List Stp} (hp:∃ x,p=S.aff ++ x) (hok:POk C.q 2 p):SInv C { S with aff:=p }:=by
 have he:Ext S { S with aff:=p }:=⟨⟨[],by simp⟩,hp⟩;exact ⟨h.ref,h.len,h.ax,hok,fun g hg=>(h.kept g hg).ext he,h.room,h.most⟩
theorem zE1 {C:SC} {S:SS} (h:SInv C S) {s:Nat} (hs:s∈zg C.q S.kept):1≤s∧s≤S.ref.length:=by
 unfold zg at hs
 rcases List.mem_append.1 hs with hs | hs
 ·obtain ⟨i,hi,rfl⟩:=List.mem_map.1 hs
  have:=List.mem_range.1 hi
  have:=h.len
  omega
 ·obtain ⟨f,hf,rfl⟩:=List.mem_map.1 hs;rw [List.mem_filter] at hf;have h1:=h.kept f hf.1;have h2:f.1=1:=(by simpa using hf.2);refine ⟨h1.lo,?_⟩
  have:=h1.hi
  unfold SS.proof at this
  rwa [h2,if_neg (by decide)] at this
def zQs (q:QS) (ref:List Stp) (cs:List Nat) (pre:Nat × Nat) (t:Int × Nat):Prop:=
 ∃ v s,t.1=zAF v s∧(∃ x∈q.vars,x.1=v∧x.2=false)∧L pre true v=false∧L pre false v=false∧t.2∈cs∧Free (zM ref t.2)∧L (zM ref t.2) s v=true∧∀ u r,L (zM ref t.2) r u=true→(u=v∧r=s)∨L pre (!r) u=true
def zFE (q:QS) (ref:List Stp) (cs:List Nat) (path:Nat × Nat):List (Int × Nat)→Nat × Nat→Prop
 | [],vals=>vals=path
 | t :: ts,vals=>∃ pre,zFE q ref cs path ts pre∧zQs q ref cs pre t∧vals=zQ pre t.1
theorem zOB {q:QS} (hq:QGood q) {uni:Nat × Nat} (hu:zFy q uni) {ref:List Stp} (hp:POk q 1 ref) {cs:List Nat} {vals:Nat × Nat} (h:(zAd ref uni cs vals).2≠0):zQs q ref cs vals (zAd ref uni cs vals):=by
 unfold zAd at h ⊢
 cases hf:cs.find? (fun s=>zBA uni vals (zM ref s)) with
 | none=>rw [hf] at h;exact absurd rfl h
 | some s=>
  have hm:=List.mem_of_find?_eq_some hf;have hi:=List.find?_some hf;simp only at hi ⊢;unfold zBA zDK at hi;rw [Bool.and_eq_true,Bool.and_eq_true,Bool.and_eq_true,Bool.not_eq_true',Bool.not_eq_true',Bool.not_eq_true',beq_iff_eq] at hi;obtain ⟨⟨hme,hcl⟩,hlen,hun⟩:=hi;obtain ⟨u,t,h1,h8,hhd,hL,hone⟩:=zLm hlen;have hl:=hp.lok s;rw [zES,Bool.and_eq_true,Bool.not_eq_true'] at hL;have hnm:∀ t v,L (zM ref s) t v=true→L vals t v=false:=fun t v ht=>by
   cases hh:L vals t v with
   | false=>rfl
   | true=>rw [(zCB _ _).2 ⟨t,v,ht,hh⟩] at hme;cases hme
  have hboth:L vals true u=false∧L vals false u=false:=by
   have a:=hL.2;have b:=hnm t u hL.1
   cases t
   ·exact ⟨a,b⟩
   ·exact ⟨b,a⟩
  obtain ⟨x,hx,hxe⟩:=List.mem_map.1 (hl.vars t u hL.1);refine ⟨u,t,hhd,⟨x,hx,hxe,?_⟩,hboth.1,hboth.2,hm,(zGm _).1 hcl,hL.1,fun w r hr=>?_⟩
  ·cases hxu:x.2 with
   | false=>rfl
   | true=>
    have:=(hu t u).2 ⟨x,hx,hxe,hxu⟩
    rw [(zCB _ _).2 ⟨t,u,by rw [zES,hL.1,hL.2];rfl,this⟩] at hun
    cases hun
  ·cases hh:L vals (!r) w with
   | true=>exact Or.inr rfl
   | false=>
    have hn:=hq.name (hl.vars r w hr)
    have:=hone r w hn.1 hn.2 (by rw [zES,hr,hh];rfl)
    exact Or.inl this
theorem zSR {ref:List Stp} {uni:Nat × Nat} {cs:List Nat} {vals:Nat × Nat} (h:zBi ref uni cs vals≠0):zBi ref uni cs vals∈cs∧zBj uni vals (zM ref (zBi ref uni cs vals))=true:=by
 unfold zBi at h ⊢
 cases hf:cs.find? (fun s=>zBj uni vals (zM ref s)) with
 | none=>rw [hf] at h;exact absurd rfl h
 | some s=>
  have h2:=List.find?_some hf;exact ⟨List.mem_of_find?_eq_some hf,h2⟩
theorem zMq {q:QS} (hq:QGood q) {uni:Nat × Nat} (hu:zFy q uni) {ref:List Stp} (hp:POk q 1 ref) {cs:List Nat} {path:Nat × Nat}:∀ (m:Nat) (vals:Nat × Nat) (trail:List (Int × Nat)),zFE q ref cs path trail.reverse vals→
  zFE q ref cs path (zAp ref uni cs m vals trail).trail.reverse (zAp ref uni cs m vals trail).vals∧(zAp ref uni cs m vals trail).trail.length≤trail.length + m∧
  ((zAp ref uni cs m vals trail).conf≠0→(zAp ref uni cs m vals trail).conf∈cs∧zBj uni (zAp ref uni cs m vals trail).vals (zM ref (zAp ref uni cs m vals trail).conf)=true):=by
 intro m
 induction m with
 | zero=>intro vals trail h;exact ⟨h,by simp [zAp],fun h=>absurd rfl h⟩
 | succ m ih=>
  intro vals trail h;rw [zAp]
  split
  ·next hc=>exact ⟨h,by simp,fun _=>zSR hc⟩
  ·split
   ·exact ⟨h,by simp,fun h=>absurd rfl h⟩
   ·next hn=>
    have:=ih (zQ vals (zAd ref uni cs vals).1) (trail ++ [zAd ref uni cs vals]) (by
     rw [List.reverse_append];exact ⟨vals,h,zOB hq hu hp hn,rfl⟩)
    refine ⟨this.1,?_,this.2.2⟩;have h2:=this.2.1;simp at h2;omega
theorem zEl {q:QS} (hq:QGood q) {ref:List Stp} {cs:List Nat} {d:Nat} {path:Nat × Nat} (hpa:PathAt q d path):∀ (ts:List (Int × Nat)) (vals:Nat × Nat),zFE q ref cs path ts vals→
  Free vals∧LOk q vals∧(∀ s v,L path s v=true→L vals s v=true)∧(∀ s v,L vals s v=true→L path s v=true∨((∃ x∈q.vars,x.1=v∧x.2=false)∧L path true v=false∧L path false v=false)):=by
 intro ts
 induction ts with
 | nil=>intro vals h;subst h;exact ⟨hpa.free,hpa.lok,fun _ _ h=>h,fun _ _ h=>Or.inl h⟩
 | cons t ts ih=>
  rintro vals ⟨pre,hpre,⟨v,s,ht,⟨x,hx,hxe,hxu⟩,hn1,hn2,_⟩,rfl⟩;obtain ⟨h1,h2,h3,h4⟩:=ih pre hpre;have hv:=hq.qb.names x hx;rw [hxe] at hv;rw [ht];refine ⟨zHT hv.1 hv.2 h1 (by cases s<;>assumption),⟨zKK _ _ h2.bd,fun r u hr=>?_⟩,fun r u hr=>by rw [zBH _ _ _ hv.1 hv.2,h3 r u hr];rfl,fun r u hr=>?_⟩
  ·rw [zBH _ _ _ hv.1 hv.2,Bool.or_eq_true,Bool.and_eq_true] at hr
   rcases hr with hr | ⟨_,hr⟩
   ·exact h2.vars r u hr
   ·rw [of_decide_eq_true hr,← hxe];exact List.mem_map_of_mem hx
  ·rw [zBH _ _ _ hv.1 hv.2,Bool.or_eq_true,Bool.and_eq_true] at hr
   rcases hr with hr | ⟨_,hr⟩
   ·exact h4 r u hr
   ·have e:u=v:=of_decide_eq_true hr;subst e;refine Or.inr ⟨⟨x,hx,hxe,hxu⟩,?_,?_⟩
    ·cases hh:L path true u with
     | false=>rfl
     | true=>rw [h3 _ _ hh] at hn1;cases hn1
    ·cases hh:L path false u with
     | false=>rfl
     | true=>rw [h3 _ _ hh] at hn2;cases hn2
theorem zDe (a b:Nat × Nat) (h:a.1 < 512∧a.2 < 512):(zAz a b).1 < 512∧(zAz a b).2 < 512:=⟨zDY _ _ h.1,zDY _ _ h.2⟩
theorem zC5 (p n p2 n2:Nat) (w:World) (hp:p < 512) (hn:n < 512) (hp2:p2 < 512) (hn2:n2 < 512) :
  Calls Tryz.prog 75 #[zAj (p,n),zAj (p2,n2)] w fun e w'=>e=.returned (zAj (zAz (p,n) (p2,n2)))∧Below w.heap.size w w':=by
 have h1:bits .andNot .i64 (p:Int) (p2:Int)=((zb p p2:Nat):Int):=zBJ _ _ (by omega) (by omega);have h2:bits .andNot .i64 (n:Int) (n2:Int)=((zb n n2:Nat):Int):=zBJ _ _ (by omega) (by omega)
 go_enter Tryz.func75,Tryz.ntmps75
 go_wp2_with fail;refine bodyPost_ret (v:=zAj (zAz (p,n) (p2,n2))) (by simp [results,Tryz.results75,go_sem,zAz]) rfl ⟨rfl,?_⟩;exact ((((Below.refl _ _).alloc (Nat.le_refl _) _).alloc (by simp) _)).alloc (by simp;omega) _
theorem zF6 (p n:Nat) (w:World) :
  Calls Tryz.prog 76 #[zAj (p,n)] w fun e w'=>e=.returned (zAj (zDj (p,n)))∧Below w.heap.size w w':=by
 go_enter Tryz.func76,Tryz.ntmps76
 go_wp2_with fail;refine bodyPost_ret (v:=zAj (zDj (p,n))) (by simp [results,Tryz.results76,go_sem,zDj]) rfl ⟨rfl,?_⟩;exact ((Below.refl _ _).alloc (Nat.le_refl _) _).alloc (by simp) _
def zHm (l:List Int):List Value:=l.map (fun x=>.int .i64 x)
theorem zGf (c:Nat × Nat):∀ k v,(zAP c k v).length≤2 * k:=by
 intro k
 induction k with
 | zero=>intro v;simp [zAP]
 | succ k ih=>
  intro v;rw [zAP]
  have:=ih (v + 1)
  simp only [List.length_append]
  split<;>split<;>simp<;>omega
def zCE (c:Nat × Nat):Nat→List Int
 | 0=>[]
 | k + 1=>zCE c k ++ ((if zj c ((k + 1:Nat):Int) then [((k + 1:Nat):Int)] else []) ++ (if zj c (-((k + 1:Nat):Int)) then [-((k + 1:Nat):Int)] else []))
theorem zLY (c:Nat × Nat):∀ m k,zCE c k ++ zAP c m (k + 1)=zCE c (k + m):=by
 intro m
 induction m with
 | zero=>intro k;simp [zAP]
 | succ m ih=>
  intro k;rw [zAP,show k + (m + 1)=(k + 1) + m from by omega,← ih (k + 1),zCE];simp only [List.append_assoc]
theorem zMm (c:Nat × Nat):zCE c 8=zAJ c:=by
 have:=zLY c 8 0
 simpa [zCE,zAJ] using this.symm
theorem zIk (c:Nat × Nat) (k:Nat):(zCE c k).length≤2 * k:=by
 induction k with
 | zero=>simp [zCE]
 | succ k ih=>
  rw [zCE];simp only [List.length_append]
  split<;>split<;>simp<;>omega
theorem zDg (v:Nat) (h:v≤8):IntKind.i64.wrap (-(v:Int))=-(v:Int):=by
 have:∀ v:Fin 9,IntKind.i64.wrap (-(v.val:Int))=-(v.val:Int):=by decide
 exact this ⟨v,by omega⟩
def zQu (c:Nat × Nat) (w:World) (e:Ending) (w':World):Prop:=∃ v,e=.returned v∧w'.ownsRow w.heap.size 3 1 v (zAJ c).length (zHm (zAJ c))∧Below w.heap.size w w'
theorem zLv (p n:Nat) (w:World) (hp:p < 512) (hn:n < 512) :
  Calls Tryz.prog 122 #[zAj (p,n)] w fun e w'=>zQu (p,n) w e w':=by
 obtain ⟨i3,hi3,hz30,hz31,hz32⟩:=info_parts Tryz.info3
 go_enter Tryz.func122,Tryz.ntmps122
 go_wp2_with fail
 go_loopg [3,4] 8 (fun m vl iv wx=>∃ (k:Nat),iv=.int .i64 ((k:Int) + 1)∧k + m=8∧wx.ownsRow (w.heap.size + 1) 3 1 vl (zCE (p,n) k).length (zHm (zCE (p,n) k))∧Below w.heap.size w wx∧wx.heap[w.heap.size]?=some (.cells #[.int .i64 (p:Int),.int .i64 (n:Int)] 74 (0,0)))
 case atStart=>exact ⟨0,rfl,by omega,World.ownsRow_nil _ _ _ _,(Below.refl _ _).alloc (Nat.le_refl _) _,heap_alloc_new _ _⟩
 case round=>
  obtain ⟨k,rfl,hk,hown,hb,hset⟩:=hrel;have HLN:=zF (zIk (p,n) k);have hln:=zIk (p,n) k;have hbs:=zB hset;obtain ⟨aL,cL,rfl⟩:=zN hown;have c0:wr.cell? ⟨w.heap.size,0,none⟩=some (.int .i64 (p:Int)):=zE hset rfl;have c1:wr.cell? ⟨w.heap.size,1,none⟩=some (.int .i64 (n:Int)):=zE hset rfl
  by_cases hlt:k < 8
  ·have hd:decide ((k:Int) + 1≤8)=true:=(by simp;omega);have hwn:IntKind.i64.wrap (-((k:Int) + 1))=-((k:Int) + 1):=zDg (k + 1) (by omega);have HT:Hid (zCE (p,n) (k + 1)=zCE (p,n) k ++ ((if zj (p,n) ((k:Int) + 1) then [(k:Int) + 1] else []) ++ (if zj (p,n) (-((k:Int) + 1)) then [-((k:Int) + 1)] else []))):=zF rfl;generalize zCE (p,n) k=l at *;go_wp2_with fail;refine (zCw p n ((k:Int) + 1) wr hp hn (by omega) (by omega)).mono ?_;rintro e w1 ⟨rfl,hb1⟩;have hset1:=(hb1.block _ hbs).trans hset;have hB1:Below w.heap.size w w1:=hb.trans (hb1.mono hb.size);have hown1:=zO hown hb1;have d0:w1.cell? ⟨w.heap.size,0,none⟩=some (.int .i64 (p:Int)):=zE hset1 rfl;have d1:w1.cell? ⟨w.heap.size,1,none⟩=some (.int .i64 (n:Int)):=zE hset1 rfl;have hbs1:=zB hset1
   cases h1:zj (p,n) ((k:Int) + 1) with
   | false=>
    go_wp2_with fail;refine (zCw p n (-((k:Int) + 1)) w1 hp hn (by omega) (by omega)).mono ?_;rintro e w3 ⟨rfl,hb3⟩;have hset3:=zH hb3 hset1;have hB3:Below w.heap.size w w3:=hB1.trans (hb3.mono hB1.size);have hown3:=zO hown1 hb3;have hbs3:=zB hset3
    cases h2:zj (p,n) (-((k:Int) + 1)) with
    | false=>
     have HL:Hid (zCE (p,n) (k + 1)=l):=zF (by rw [zA HT,h1,h2];simp);go_wp2_with fail
     go_roundg (gk - 1)
     case measure=>omega
     case rel=>exact ⟨k + 1,by go_num,by omega,by rw [zA HL];simpa [zHm] using hown3,hB3,hset3⟩
    | true=>
     have HL:Hid (zCE (p,n) (k + 1)=l ++ [-((k:Int) + 1)]):=zF (by rw [zA HT,h1,h2];simp)
     go_wp2_with (at_builtin;refine zV rfl _ _ 25 rfl (w.heap.size + 1) i3 (.int .i64 0) 1 8 Tryz.underlying25 hi3 hz30 hz31 hz32 rfl (by decide) _ _ _ hown3 rfl rfl rfl (by simp [Value.oneCell']) (by unfold maxLen;omega) (by omega) hbs3 ?_;intro v4 w4 hown4 hgrow4 hnn4)
     have hB4:Below w.heap.size w w4:=za hB3 hgrow4 hown3 (Nat.le_succ _) hB3.size;have hset4:w4.heap[w.heap.size]?=some (.cells #[.int .i64 (p:Int),.int .i64 (n:Int)] 74 (0,0)):=(hgrow4.block _ hbs3 (fun e=>by have:=(hown3.lt _ e.symm).1;omega)).trans hset3;obtain ⟨a4,c4,rfl⟩:=zN hown4;go_wp2_with fail
     go_roundg (gk - 1)
     case measure=>omega
     case rel=>exact ⟨k + 1,by go_num,by omega,by rw [zA HL];simpa [zHm] using hown4,hB4,hset4⟩
   | true=>
    go_wp2_with (at_builtin;refine zV rfl _ _ 25 rfl (w.heap.size + 1) i3 (.int .i64 0) 1 8 Tryz.underlying25 hi3 hz30 hz31 hz32 rfl (by decide) _ _ _ hown1 rfl rfl rfl (by simp [Value.oneCell']) (by unfold maxLen;omega) (by omega) hbs1 ?_;intro v2 w2 hown2 hgrow2 hnn2;have hB2:Below w.heap.size w w2:=za hB1 hgrow2 hown1 (Nat.le_succ _) hB1.size;have hset2:w2.heap[w.heap.size]?=some (.cells #[.int .i64 (p:Int),.int .i64 (n:Int)] 74 (0,0)):=(hgrow2.block _ hbs1 (fun e=>by have:=(hown1.lt _ e.symm).1;omega)).trans hset1;obtain ⟨a2,c2,rfl⟩:=zN hown2;have hbs2:=zB hset2;have f0:w2.cell? ⟨w.heap.size,0,none⟩=some (.int .i64 (p:Int)):=(by rw [zC hset2];rfl);have f1:w2.cell? ⟨w.heap.size,1,none⟩=some (.int .i64 (n:Int)):=(by rw [zC hset2];rfl))
    refine (zCw p n (-((k:Int) + 1)) w2 hp hn (by omega) (by omega)).mono ?_;rintro e w3 ⟨rfl,hb3⟩;have hset3:=zH hb3 hset2;have hB3:Below w.heap.size w w3:=hB2.trans (hb3.mono hB2.size);have hown3:=zO hown2 hb3;have hbs3:=zB hset3
    cases h2:zj (p,n) (-((k:Int) + 1)) with
    | false=>
     have HL:Hid (zCE (p,n) (k + 1)=(l ++ [(k:Int) + 1])):=zF (by rw [zA HT,h1,h2];simp);go_wp2_with fail
     go_roundg (gk - 1)
     case measure=>omega
     case rel=>exact ⟨k + 1,by go_num,by omega,by rw [zA HL];simpa [zHm] using hown3,hB3,hset3⟩
    | true=>
     have HL:Hid (zCE (p,n) (k + 1)=(l ++ [(k:Int) + 1]) ++ [-((k:Int) + 1)]):=zF (by rw [zA HT,h1,h2];simp)
     go_wp2_with (at_builtin;refine zV rfl _ _ 25 rfl (w.heap.size + 1) i3 (.int .i64 0) 1 8 Tryz.underlying25 hi3 hz30 hz31 hz32 rfl (by decide) _ _ _ hown3 rfl rfl rfl (by simp [Value.oneCell']) (by unfold maxLen;omega) (by omega) hbs3 ?_;intro v4 w4 hown4 hgrow4 hnn4)
     have hB4:Below w.heap.size w w4:=za hB3 hgrow4 hown3 (Nat.le_succ _) hB3.size;have hset4:w4.heap[w.heap.size]?=some (.cells #[.int .i64 (p:Int),.int .i64 (n:Int)] 74 (0,0)):=(hgrow4.block _ hbs3 (fun e=>by have:=(hown3.lt _ e.symm).1;omega)).trans hset3;obtain ⟨a4,c4,rfl⟩:=zN hown4;go_wp2_with fail
     go_roundg (gk - 1)
     case measure=>omega
     case rel=>exact ⟨k + 1,by go_num,by omega,by rw [zA HL];simpa [zHm] using hown4,hB4,hset4⟩
  ·have hk8:k=8:=(by omega);subst hk8;have HA:=zF (zMm (p,n));go_wp2_with fail;go_ret;exact ⟨_,rfl,by rw [← zA HA];exact zAG hown (Nat.le_succ _),hb⟩
def RowAt (w:World) (e:TypeId) (size:Nat) (v:Value) (n:Nat) (xs:List Value):Prop:=
 xs.length=n * size∧((n=0∧∃ a,v=.slice a 0 0∧∀ k,v.ownBlock=some k→∃ c,w.heap[k]?=some (.cells c e (0,0)))∨
  ∃ g off cap cur,v=.slice (some ⟨g,off,none⟩) n cap∧w.heap[g]?=some (.cells cur e (0,0))∧n≤cap∧cap≤maxLen∧off + cap * size≤cur.size∧∀ j u,xs[j]?=some u→cur[off + j]?=some u)
theorem RowAt.blk {w:World} {e:TypeId} {size:Nat} {v:Value} {n:Nat} {xs:List Value} (h:RowAt w e size v n xs):∀ k,v.ownBlock=some k→∃ c,w.heap[k]?=some (.cells c e (0,0)):=by
 rcases h.2 with ⟨_,a,_,h2⟩ | ⟨g,off,cap,cur,rfl,hg,_⟩
 ·exact h2
 ·intro k hk;injection hk with hk;subst hk;exact ⟨cur,hg⟩
theorem RowAt.lt {w:World} {e:TypeId} {size:Nat} {v:Value} {n:Nat} {xs:List Value} (h:RowAt w e size v n xs):∀ k,v.ownBlock=some k→k < w.heap.size:=fun k hk=>by
 obtain ⟨c,hc⟩:=h.blk k hk;exact zB hc
theorem zr {w:World} {base:Nat} {e:TypeId} {size:Nat} {v:Value} {n:Nat} {xs:List Value} (h:w.ownsRow base e size v n xs):∀ k,v.ownBlock=some k→∃ c,w.heap[k]?=some (.cells c e (0,0)):=by
 rcases h.2 with ⟨rfl,_⟩ | ⟨g,cap,cur,rfl,_,hg,_⟩
 ·intro k hk;cases hk
 ·intro k hk;injection hk with hk;subst hk;exact ⟨cur,hg⟩
theorem zc {w:World} {k:Nat} {c c':Array Value} {e e':TypeId} {f f':Nat × Nat} (h:w.heap[k]?=some (.cells c e f)) (h':w.heap[k]?=some (.cells c' e' f')):e=e':=by
 rw [h] at h';injection h' with h';injection h' with _ h' _
theorem RowAt.form {w:World} {e:TypeId} {size:Nat} {v:Value} {n:Nat} {xs:List Value} (h:RowAt w e size v n xs):∃ a cap,v=.slice a n cap:=by
 rcases h.2 with ⟨rfl,a,rfl,_⟩ | ⟨g,off,cap,cur,rfl,_⟩
 ·exact ⟨_,_,rfl⟩
 ·exact ⟨_,_,rfl⟩
theorem RowAt.cell {w:World} {e:TypeId} {size:Nat} {v:Value} {n:Nat} {xs:List Value} (h:RowAt w e size v n xs) (hn:0 < n):∃ g off cap,v=.slice (some ⟨g,off,none⟩) n cap∧g < w.heap.size∧∀ j u,xs[j]?=some u→w.cell? ⟨g,off + j,none⟩=some u:=by
 rcases h.2 with ⟨h0,_⟩ | ⟨g,off,cap,cur,rfl,hg,_,_,_,hc⟩
 ·omega
 ·exact ⟨g,off,cap,rfl,zB hg,fun j u hj=>by rw [zC hg];exact hc j u hj⟩
theorem RowAt.keep {T:Nat→Prop} {w w':World} {e:TypeId} {size:Nat} {v:Value} {n:Nat} {xs:List Value} (h:RowAt w e size v n xs) (ho:Only T w w') (hT:∀ k,v.ownBlock=some k→¬ T k):RowAt w' e size v n xs:=by
 obtain ⟨h1,h2⟩:=h;refine ⟨h1,?_⟩
 rcases h2 with ⟨h0,a,ha,hl⟩ | ⟨g,off,cap,cur,rfl,hg,hr⟩
 ·exact Or.inl ⟨h0,a,ha,fun k hk=>by obtain ⟨c,hc⟩:=hl k hk;exact ⟨c,(ho.block k (zB hc) (hT k hk)).trans hc⟩⟩
 ·exact Or.inr ⟨g,off,cap,cur,rfl,(ho.block g (zB hg) (hT g rfl)).trans hg,hr⟩
structure SV where
 v:Value
 c:Value
 r:Value
 a:Value
 k:Value
abbrev zCc (C:SC) (S:SS) (V:SV):Array Value:=#[V.v,V.c,.int .i64 (C.uni.1:Int),.int .i64 (C.uni.2:Int),.int .i64 (C.budget:Int),.int .i64 (S.nodes:Int),.int .i64 1,V.r,.int .i64 2,V.a,.int .i64 (C.room:Int),V.k,.int .i64 (S.most:Int)]
structure SAt (w:World) (b:Nat) (C:SC) (S:SS) (V:SV):Prop where
 fb:w.heap[b]?=some (.cells (zCc C S V) 126 (0,0))
 oV:w.ownsRow 0 139 2 V.v C.q.vars.length (zd C.q.vars)
 oC:w.ownsRow 0 74 2 V.c C.q.cl.length (zAK C.q.cl)
 oR:w.ownsRow 0 134 6 V.r S.ref.length (zAk S.ref)
 oA:w.ownsRow 0 134 6 V.a S.aff.length (zAk S.aff)
 oK:RowAt w 129 2 V.k S.kept.length (zAK S.kept)
 ap:∀ k,V.r.ownBlock=some k→V.a.ownBlock≠some k
structure SBd (C:SC) (S:SS):Prop where
 qb:QB C.q
 uni:C.uni.1 < 512∧C.uni.2 < 512
 ref:∀ s∈S.ref,s.lits.1 < 512∧s.lits.2 < 512
 aff:∀ s∈S.aff,s.lits.1 < 512∧s.lits.2 < 512
 rl:S.ref.length≤100000
 al:S.aff.length≤100000
 kept:S.kept.length≤64
 kind:∀ f∈S.kept,f.1≤2∧f.2≤100000
 budget:C.budget≤1048576
 room:C.room≤64
 most:S.most≤64
 nodes:S.nodes≤1048576
def Far (b:Nat) (V:SV) (k:Nat):Prop:=k≠b∧V.v.ownBlock≠some k∧V.c.ownBlock≠some k∧V.r.ownBlock≠some k∧V.a.ownBlock≠some k∧V.k.ownBlock≠some k
def TS (b:Nat) (V:SV) (k:Nat):Prop:=k=b∨V.r.ownBlock=some k∨V.a.ownBlock=some k∨V.k.ownBlock=some k
theorem Far.ts {b:Nat} {V:SV} {k:Nat} (h:Far b V k):¬ TS b V k:=by
 rintro (h1 | h1 | h1 | h1)
 ·exact h.1 h1
 ·exact h.2.2.2.1 h1
 ·exact h.2.2.2.2.1 h1
 ·exact h.2.2.2.2.2 h1
theorem SAt.fresh {w:World} {b:Nat} {C:SC} {S:SS} {V:SV} (h:SAt w b C S V) {n:Nat} (hn:w.heap.size≤n):Far b V n:=by
 refine ⟨fun e=>?_,fun e=>?_,fun e=>?_,fun e=>?_,fun e=>?_,fun e=>?_⟩
 ·have:=zB h.fb;omega
 ·have:=(h.oV.lt n e).2;omega
 ·have:=(h.oC.lt n e).2;omega
 ·have:=(h.oR.lt n e).2;omega
 ·have:=(h.oA.lt n e).2;omega
 ·have:=h.oK.lt n e;omega
structure SMoved (b:Nat) (w w':World) (V V':SV):Prop where
 only:Only (TS b V) w w'
 v:V'.v=V.v
 c:V'.c=V.c
 r:Moved w V.r V'.r
 a:Moved w V.a V'.a
 k:Moved w V.k V'.k
theorem SMoved.of_below {b:Nat} {w w':World} {V:SV} (h:Below w.heap.size w w'):SMoved b w w' V V:=⟨Only.of_below h,rfl,rfl,Or.inl rfl,Or.inl rfl,Or.inl rfl⟩
theorem Moved.ne {w:World} {v v':Value} (h:Moved w v v') {k:Nat} (hk:k < w.heap.size) (hv:v.ownBlock≠some k):v'.ownBlock≠some k:=by
 rcases h with h | ⟨j,h,hj⟩
 ·rw [h];exact hv
 ·rw [h];intro e;injection e with e;omega
theorem Moved.trans {w w1:World} {a b c:Value} (h:Moved w a b) (k:Moved w1 b c) (hs:w.heap.size≤w1.heap.size):Moved w a c:=by
 rcases k with k | ⟨j,k,hj⟩
 ·rcases h with h | ⟨i,h,hi⟩
  ·exact Or.inl (k.trans h)
  ·exact Or.inr ⟨i,k.trans h,hi⟩
 ·exact Or.inr ⟨j,k,by omega⟩
theorem SMoved.far {b:Nat} {w w':World} {V V':SV} (h:SMoved b w w' V V') {k:Nat} (hk:k < w.heap.size) (hf:Far b V k):Far b V' k:=
 ⟨hf.1,by rw [h.v];exact hf.2.1,by rw [h.c];exact hf.2.2.1,h.r.ne hk hf.2.2.2.1,h.a.ne hk hf.2.2.2.2.1,h.k.ne hk hf.2.2.2.2.2⟩
theorem SMoved.blk {b:Nat} {w w':World} {V V':SV} (h:SMoved b w w' V V') {k:Nat} {o:Obj} (hb:w.heap[k]?=some o) (hf:Far b V k):w'.heap[k]?=some o:=(h.only.block k (zB hb) hf.ts).trans hb
theorem SMoved.trans {b:Nat} {w w1 w2:World} {V V1 V2:SV} (h:SMoved b w w1 V V1) (k:SMoved b w1 w2 V1 V2):SMoved b w w2 V V2:=by
 have hs:=h.only.size;refine ⟨⟨k.only.os.trans h.only.os,k.only.tape.trans h.only.tape,k.only.output.trans h.only.output,Nat.le_trans hs k.only.size,fun i hi ht=>?_⟩,k.v.trans h.v,k.c.trans h.c,h.r.trans k.r hs,h.a.trans k.a hs,h.k.trans k.k hs⟩;refine (k.only.block i (by omega) ?_).trans (h.only.block i hi ht);rintro (h1 | h1 | h1 | h1)
 ·exact ht (Or.inl h1)
 ·exact h.r.ne hi (fun e=>ht (Or.inr (Or.inl e))) h1
 ·exact h.a.ne hi (fun e=>ht (Or.inr (Or.inr (Or.inl e)))) h1
 ·exact h.k.ne hi (fun e=>ht (Or.inr (Or.inr (Or.inr e)))) h1
theorem SAt.later {w w':World} {b:Nat} {C:SC} {S:SS} {V:SV} (h:SAt w b C S V) (hb:Below w.heap.size w w'):SAt w' b C S V:=
 ⟨(hb.block b (zB h.fb)).trans h.fb,zO h.oV hb,zO h.oC hb,zO h.oR hb,zO h.oA hb,h.oK.keep (Only.of_below (T:=fun _=>False) hb) (fun _ _ h=>h),h.ap⟩
theorem SAt.set {w:World} {b:Nat} {C:SC} {S:SS} {V:SV} (h:SAt w b C S V) {k:Nat} (hf:Far b V k) (o:Nat) (u:Value):SAt (w.setCell ⟨k,o,none⟩ u) b C S V:=
 ⟨by rw [Below.heap_setCell _ _ _ _ (fun e=>hf.1 e.symm)];exact h.fb,zR h.oV hf.2.1 u,zR h.oC hf.2.2.1 u,zR h.oR hf.2.2.2.1 u,zR h.oA hf.2.2.2.2.1 u,
  h.oK.keep (T:=fun j=>j=k) ((Only.refl (fun j=>j=k) w).setCell (p:=⟨k,o,none⟩) (Or.inl rfl) u) (fun j hj e=>hf.2.2.2.2.2 (by rw [hj,e])),h.ap⟩
theorem SMoved.set {b:Nat} {w w':World} {V V':SV} (h:SMoved b w w' V V') {k:Nat} (hk:w.heap.size≤k) (o:Nat) (u:Value):SMoved b w (w'.setCell ⟨k,o,none⟩ u) V V':=
 ⟨h.only.setCell (p:=⟨k,o,none⟩) (Or.inr hk) u,h.v,h.c,h.r,h.a,h.k⟩
def SPost (b:Nat) (C:SC) (S':SS) (V:SV) (w w':World):Prop:=∃ V',SAt w' b C S' V'∧SMoved b w w' V V'
def FTxt (lo:Nat) (w:World) (text:List UInt8) (px pf:Option Addr):Prop:=
 (px=none∧pf=none)∨∃ b b' st q0,px=some ⟨b,0,none⟩∧pf=some ⟨b',0,none⟩∧ProgAt lo w b (zK q0)∧RefAt lo w b' (zW st)∧zEA st q0∧(q0.cl.length≤24∧zCf q0)∧zAb text=.inr (zK q0)
theorem FTxt.set {lo bw o:Nat} {w:World} {text:List UInt8} {px pf:Option Addr} {u:Value} (h:FTxt lo w text px pf) (hlt:bw < lo):FTxt lo (w.setCell ⟨bw,o,none⟩ u) text px pf:=by
 rcases h with h | ⟨b,b',st,q0,h1,h2,h3,h4,h5,h6,h7⟩
 ·exact Or.inl h
 ·exact Or.inr ⟨b,b',st,q0,h1,h2,h3.set hlt,h4.set hlt,h5,h6,h7⟩
theorem FTxt.only {lo:Nat} {w w':World} {text:List UInt8} {px pf:Option Addr} {T:Nat→Prop} (h:FTxt lo w text px pf) (ho:Only T w w') (hT:∀ k,k < w.heap.size→T k→zCW lo w zFe k):FTxt lo w' text px pf:=by
 rcases h with h | ⟨b,b',st,q0,h1,h2,h3,h4,h5,h6,h7⟩
 ·exact Or.inl h
 ·exact Or.inr ⟨b,b',st,q0,h1,h2,h3.only ho hT,h4.only ho hT,h5,h6,h7⟩
theorem FTxt.lo {lo lo':Nat} {w:World} {text:List UInt8} {px pf:Option Addr} (h:FTxt lo w text px pf) (hl:lo'≤lo):FTxt lo' w text px pf:=by
 rcases h with h | ⟨b,b',st,q0,h1,h2,h3,h4,h5,h6,h7⟩
 ·exact Or.inl h
 ·exact Or.inr ⟨b,b',st,q0,h1,h2,h3.lo hl,h4.lo hl,h5,h6,h7⟩
def zNA (bw:Nat) (text proof:List UInt8) (c4 c5 c6:Value) (w:World) (e:Ending) (w':World):Prop:=
 e=.returned (.bool true)∧Only (·=bw) w w'∧∃ px pf,WAt w' bw text px pf proof c4 c5 c6∧FTxt w.heap.size w' text px pf
theorem zJd (bw:Nat) (text:List UInt8) (px pf:Option Addr) (proof:List UInt8) (c4 c5 c6:Value) (w:World) (hw:WAt w bw text px pf proof c4 c5 c6) :
  Calls Tryz.prog 27 #[.pointer (some ⟨bw,0,none⟩)] w fun e w'=>zNA bw text proof c4 c5 c6 w e w':=by
 have hbw:bw < w.heap.size:=zB hw;have h0:w.cell? ⟨bw,0,none⟩=some (S text):=zE hw rfl
 go_enter Tryz.func27,Tryz.ntmps27
 go_wp2_with fail;refine (zIe text w).mono ?_;rintro e w1 ⟨hb1,hp1⟩;have hw1:=hw.later hb1;have h1:w1.cell? ⟨bw,0,none⟩=some (S text):=zE hw1 rfl;have hse:=zSZ text
 cases hq:zAb text with
 | inl a=>
  obtain ⟨x,i⟩:=a;rw [hq] at hp1 hse;have hp1':e=.returned (.tuple #[.pointer none,.int .i64 (x:Int),.int .i64 (i:Int)]):=hp1;subst hp1';have HSE:Hid (zCU text=.inl (x,i)):=zF hse;clear hse hq hp1;go_wp2_with fail;refine (zLU text w1).mono ?_;rintro e w2 ⟨hb2,hp2⟩;rw [zA HSE] at hp2;have hp2':e=.returned (.tuple #[.pointer none,.int .i64 (x:Int),.int .i64 (i:Int)]):=hp2;subst hp2';clear hp2;have hw2:=hw1.later hb2;have k1:w2.cell? ⟨bw,1,none⟩=some (.pointer px):=zE hw2 rfl;have k2:w2.cell? ⟨bw,2,none⟩=some (.pointer pf):=zE hw2 rfl;have z1:=zD hw2 1;have z2:=zD hw2 2;have hx:((x:Int) != (x:Int))=false:=(by simp);have hi:((i:Int) != (i:Int))=false:=(by simp);go_wp2_with fail;go_ret;refine ⟨rfl,(((Only.of_below (zBw hb1 hb2)).setAt _ _).setAt _ _),none,none,?_,Or.inl ⟨rfl,rfl⟩⟩;exact zI (zI hw2 1 _) 2 _
 | inr q=>
  rw [hq] at hp1 hse;obtain ⟨b,rfl,hP⟩:=hp1;obtain ⟨st,q0,hse,hsame,rfl,h24⟩:=hse;have HSE:=zF hse;have HLN:=zF hq;clear hse hq;go_wp2_with fail;refine (zLU text w1).mono ?_;rintro e w2 ⟨hb2,hp2⟩;rw [zA HSE] at hp2;obtain ⟨b',rfl,hR⟩:=hp2;have hw2:=hw1.later hb2;have hP2:=hP.later hb2;have hR2:=hR.lo (lo':=w.heap.size) hb1.size;have hFP:FTxt w.heap.size w2 text (some ⟨b,0,none⟩) (some ⟨b',0,none⟩):=Or.inr ⟨b,b',st,q0,rfl,rfl,hP2,hR2,hsame,h24,zA HLN⟩;have k1:w2.cell? ⟨bw,1,none⟩=some (.pointer px):=zE hw2 rfl;have k2:w2.cell? ⟨bw,2,none⟩=some (.pointer pf):=zE hw2 rfl;have z1:=zD hw2 1;have z2:=zD hw2 2;go_wp2_with fail;go_ret;refine ⟨rfl,(((((Only.of_below (zBw hb1 hb2)).setAt _ _).setAt _ _).setAt _ _).setAt _ _),some ⟨b,0,none⟩,some ⟨b',0,none⟩,?_,(((hFP.set hbw).set hbw).set hbw).set hbw⟩;exact zI (zI (zI (zI hw2 1 _) 2 _) 1 _) 2 _
def zEW (bw:Nat) (text proof:List UInt8) (px pf:Option Addr) (o:OpV) (c4 c5 c6:Value) (w:World) (e:Ending) (w':World):Prop:=
 e=.returned (.bool true)∧Only (·=bw) w w'∧∃ text' px' pf' proof',WAt w' bw text' px' pf' proof' c4 c5 c6∧text'.length≤text.length + o.s.length + 1∧proof'.length≤proof.length + o.s.length + 1∧((text'=text∧px'=px∧pf'=pf)∨FTxt w.heap.size w' text' px' pf')
theorem zNk (bw:Nat) (text:List UInt8) (px pf:Option Addr) (proof:List UInt8) (o:OpV) (c4 c5 c6:Value) (w:World) (hw:WAt w bw text px pf proof c4 c5 c6) (hk:o.kind=1) :
  Calls Tryz.prog 19 #[.pointer (some ⟨bw,0,none⟩),.agg #[.int .i64 o.kind,.int .i64 o.a,.int .i64 o.b,.int .i64 o.c,S o.s,S o.t]] w fun e w'=>zEW bw text proof px pf o c4 c5 c6 w e w':=by
 obtain ⟨kind,a,b,c,s,t⟩:=o;dsimp only at hk ⊢;subst hk;have hbw:bw < w.heap.size:=zB hw;have h0:w.cell? ⟨bw,0,none⟩=some (S text):=zE hw rfl;have z0:=zD hw 0
 go_enter Tryz.func19,Tryz.ntmps19
 go_wp2_with fail;have hw1:WAt (w.setCell ⟨bw,0,none⟩ (S s)) bw s px pf proof c4 c5 c6:=zI hw 0 _;refine (zJd bw s px pf proof c4 c5 c6 _ (hw1.later ((Below.refl _ _).alloc (Nat.le_refl _) _))).mono ?_;rintro e w2 ⟨rfl,ho,px',pf',hw2,hF2⟩;go_wp2_with fail;go_ret;refine ⟨rfl,?_,s,px',pf',proof,hw2,by simp;omega,by simp;omega,Or.inr (hF2.lo (by simp))⟩;exact (((Only.refl _ w).setAt 0 (S s)).alloc _).trans (ho.mono (fun k _ h=>h))
theorem zNJ (bw:Nat) (text:List UInt8) (px pf:Option Addr) (proof:List UInt8) (o:OpV) (c4 c5 c6:Value) (w:World) (hw:WAt w bw text px pf proof c4 c5 c6) (hk:o.kind=2) (htl:text.length≤1048576) (hsl:o.s.length≤1048576) :
  Calls Tryz.prog 19 #[.pointer (some ⟨bw,0,none⟩),.agg #[.int .i64 o.kind,.int .i64 o.a,.int .i64 o.b,.int .i64 o.c,S o.s,S o.t]] w fun e w'=>zEW bw text proof px pf o c4 c5 c6 w e w':=by
 obtain ⟨kind,a,b,c,s,t⟩:=o;dsimp only at hk hsl ⊢;subst hk;have hbw:bw < w.heap.size:=zB hw;have h0:w.cell? ⟨bw,0,none⟩=some (S text):=zE hw rfl;have z0:=zD hw 0;have HE:Hid (ByteArray.mk text.toArray ++ ByteArray.mk s.toArray ++ ⟨#[10]⟩=⟨(text ++ s ++ [10]).toArray⟩):=zF (by
  rw [zBV text s];exact zBV (text ++ s) [10])
 go_enter Tryz.func19,Tryz.ntmps19
 go_wp2_with fail
 go_region
 all_goals go_wp2_with fail
 have hw1:WAt (w.setCell ⟨bw,0,none⟩ (S (text ++ s ++ [10]))) bw (text ++ s ++ [10]) px pf proof c4 c5 c6:=zI hw 0 _
 all_goals
  rw [zA HE];refine (zJd bw (text ++ s ++ [10]) px pf proof c4 c5 c6 _ (hw1.later (((Below.refl _ _).alloc (Nat.le_refl _) _).drew))).mono ?_;rintro e w2 ⟨rfl,ho,px',pf',hw2,hF2⟩;go_wp2_with fail;go_ret;refine ⟨rfl,?_,_,px',pf',proof,hw2,by simp;omega,by simp;omega,Or.inr (hF2.lo (by simp))⟩;exact ((((Only.refl _ w).setAt 0 (S (text ++ s ++ [10]))).alloc _).drew).trans (ho.mono (fun k _ h=>h))
theorem zMD (bw:Nat) (text:List UInt8) (px pf:Option Addr) (proof:List UInt8) (o:OpV) (c4 c5 c6:Value) (w:World) (hw:WAt w bw text px pf proof c4 c5 c6) (hk:o.kind=4) :
  Calls Tryz.prog 19 #[.pointer (some ⟨bw,0,none⟩),.agg #[.int .i64 o.kind,.int .i64 o.a,.int .i64 o.b,.int .i64 o.c,S o.s,S o.t]] w fun e w'=>zEW bw text proof px pf o c4 c5 c6 w e w':=by
 obtain ⟨kind,a,b,c,s,t⟩:=o;dsimp only at hk ⊢;subst hk;have hbw:bw < w.heap.size:=zB hw;have h3:w.cell? ⟨bw,3,none⟩=some (S proof):=zE hw rfl;have z3:=zD hw 3
 go_enter Tryz.func19,Tryz.ntmps19
 go_wp2_with fail;go_ret;have ho:=((Only.refl (·=bw) w).setAt 3 (S s)).alloc (.cells #[.int .i64 4,.int .i64 a,.int .i64 b,.int .i64 c,S s,S t] 29);refine ⟨rfl,ho,text,px,pf,s,(hw.setProof s).later ((Below.refl _ _).alloc (Nat.le_refl _) _),by simp;omega,by simp;omega,Or.inl ⟨rfl,rfl,rfl⟩⟩
theorem zMo (bw:Nat) (text:List UInt8) (px pf:Option Addr) (proof:List UInt8) (o:OpV) (c4 c5 c6:Value) (w:World) (hw:WAt w bw text px pf proof c4 c5 c6) (hk:o.kind=5) (hok:o.Ok) (hpl:proof.length≤1048576) :
  Calls Tryz.prog 19 #[.pointer (some ⟨bw,0,none⟩),.agg #[.int .i64 o.kind,.int .i64 o.a,.int .i64 o.b,.int .i64 o.c,S o.s,S o.t]] w fun e w'=>zEW bw text proof px pf o c4 c5 c6 w e w':=by
 obtain ⟨kind,a,b,c,s,t⟩:=o;obtain ⟨_,⟨ha1,ha2⟩,_,⟨hc1,hc2⟩⟩:=hok;dsimp only at hk ha1 ha2 hc1 hc2 ⊢;subst hk;have hbw:bw < w.heap.size:=zB hw
 go_enter Tryz.func19,Tryz.ntmps19
 go_wp2_with fail;refine (zQ9 bw text px pf proof c4 c5 c6 a c _ (hw.later ((Below.refl _ _).alloc (Nat.le_refl _) _)) hpl ha1 ha2 hc1 hc2).mono ?_;rintro e w2 ⟨rfl,ho,proof',hpl',hw2⟩;go_wp2_with fail;go_ret;have ho3:=((Only.refl (·=bw) w).alloc (.cells #[.int .i64 5,.int .i64 a,.int .i64 b,.int .i64 c,S s,S t] 29)).trans ho;exact ⟨rfl,ho3,text,px,pf,proof',hw2,by simp;omega,by simp;omega,Or.inl ⟨rfl,rfl,rfl⟩⟩
theorem zLW (bw:Nat) (text:List UInt8) (px pf:Option Addr) (proof:List UInt8) (o:OpV) (c4 c5 c6:Value) (w:World) (hw:WAt w bw text px pf proof c4 c5 c6) (hk:zGj o.kind=true)
  (hok:o.Ok) (hpl:proof.length≤1048576) (htl:text.length≤1048576) (hsl:o.s.length≤1048576) :
  Calls Tryz.prog 19 #[.pointer (some ⟨bw,0,none⟩),.agg #[.int .i64 o.kind,.int .i64 o.a,.int .i64 o.b,.int .i64 o.c,S o.s,S o.t]] w fun e w'=>zEW bw text proof px pf o c4 c5 c6 w e w':=by
 unfold zGj at hk;simp only [Bool.or_eq_true,beq_iff_eq] at hk
 rcases hk with ((hk | hk) | hk) | hk
 ·exact zNk bw text px pf proof o c4 c5 c6 w hw hk
 ·exact zNJ bw text px pf proof o c4 c5 c6 w hw hk htl hsl
 ·exact zMD bw text px pf proof o c4 c5 c6 w hw hk
 ·exact zMo bw text px pf proof o c4 c5 c6 w hw hk hok hpl
end Go.Proofs.YtgipjjhkhfihpaaGreatDoor
