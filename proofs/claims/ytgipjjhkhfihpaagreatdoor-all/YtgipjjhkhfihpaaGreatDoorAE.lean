import Derived.Test.YtgipjjhkhfihpaaGreatDoorAD
import Derived.Test.YtgipjjhkhfihpaaGreatDoorAB
set_option maxRecDepth 100000
set_option maxHeartbeats 6400000
namespace Go.Proofs.YtgipjjhkhfihpaaGreatDoor
open Go.RowKit
def L (c:Nat × Nat) (s:Bool) (v:Nat):Bool:=if s then c.1.testBit v else c.2.testBit v
def zAF (v:Nat) (s:Bool):Int:=if s then (v:Int) else -(v:Int)
theorem zJe {a b:Nat × Nat} (h:∀ s v,L a s v=L b s v):a=b:=zGh (fun v=>h true v) (fun v=>h false v)
theorem zDh (s:Bool) (v:Nat):L (0,0) s v=false:=by cases s<;>simp [L]
theorem zDm (a b:Nat × Nat) (s:Bool) (v:Nat):L (zAz a b) s v=(L a s v && !L b s v):=by
 cases s<;>simp [L,zAz,zn]
theorem zMw (a:Nat × Nat) (s:Bool) (v:Nat):L (zDj a) s v=L a (!s) v:=by cases s<;>rfl
theorem zES (c vals:Nat × Nat) (s:Bool) (v:Nat):L (zAM c vals) s v=(L c s v && !L vals (!s) v):=by rw [zAM,zDm,zMw]
theorem zI5 (v:Nat) (s:Bool):-(zAF v s)=zAF v (!s):=by cases s<;>simp [zAF]
theorem zRF (v:Nat) (s:Bool):(zAF v s).natAbs=v:=by cases s<;>simp [zAF]
theorem zRh {v u:Nat} {s t:Bool} (hv:1≤v) (hu:1≤u) (h:zAF v s=zAF u t):v=u∧s=t:=by
 cases s<;>cases t<;>simp [zAF] at h
 ·exact ⟨by omega,rfl⟩
 ·omega
 ·omega
 ·exact ⟨by omega,rfl⟩
theorem zBH (c:Nat × Nat) (v:Nat) (s:Bool) (h1:1≤v) (h8:v≤8) (t:Bool) (u:Nat):L (zQ c (zAF v s)) t u=(L c t u || (t == s && decide (u=v))):=by
 have hb:=zB8 v h1 h8
 cases s with
 | true=>
  have e:zQ c (zAF v true)=(c.1 ||| 2 ^ v,c.2):=by
   have e0:zAF v true=(v:Int):=rfl;rw [e0];unfold zQ;rw [if_neg (by omega),hb]
  rw [e]
  cases t with
  | true=>simp only [L,if_true];rw [zFR];simp [eq_comm]
  | false=>simp [L]
 | false=>
  have e:zQ c (zAF v false)=(c.1,c.2 ||| 2 ^ v):=by
   have e0:zAF v false=-(v:Int):=rfl;rw [e0];unfold zQ;rw [if_pos (by omega),Int.neg_neg,hb]
  rw [e]
  cases t with
  | true=>simp [L]
  | false=>simp only [L,Bool.false_eq_true,if_false];rw [zFR];simp [eq_comm]
theorem zBm (c:Nat × Nat) (v:Nat) (s:Bool) (h1:1≤v) (h8:v≤8):zj c (zAF v s)=L c s v:=by
 cases s with
 | true=>exact zF8 c v h1 h8
 | false=>exact zGD c v h1 h8
theorem zCl (c:Nat × Nat) (v:Nat) (h1:1≤v) (h8:v≤8):zs c v=(L c true v || L c false v):=by
 rw [zRZ c v h1 h8];unfold zGX L;rw [Nat.testBit_or];rfl
theorem zBo (c:Nat × Nat) (v:Nat) (h1:1≤v) (h8:v≤8) (s:Bool) (u:Nat):L (zAV c v) s u=(L c s u && !decide (u=v)):=by
 unfold zAV;rw [zB8 v h1 h8]
 cases s<;>simp [L,zn,Nat.testBit_two_pow,eq_comm]
theorem zCI (a b:Nat × Nat) (v:Nat) (h1:1≤v) (h8:v≤8) (s:Bool) (u:Nat):L (zi a b v) s u=((L a s u || L b s u) && !decide (u=v)):=by
 rw [zi,zBo _ _ h1 h8]
 cases s<;>simp [L]
theorem bits_zero {a:Nat}:a=0↔∀ v,a.testBit v=false:=
 ⟨fun h v=>by rw [h];simp,fun h=>Nat.eq_of_testBit_eq (fun v=>by rw [h v];simp)⟩
theorem zCB (a b:Nat × Nat):zEr a b=true↔∃ s v,L a s v=true∧L b s v=true:=by
 unfold zEr;rw [bne_iff_ne]
 constructor
 ·intro h;obtain ⟨v,hv⟩:=zDI h;rw [Nat.testBit_or,Nat.testBit_and,Nat.testBit_and,Bool.or_eq_true,Bool.and_eq_true,Bool.and_eq_true] at hv
  rcases hv with hv | hv
  ·exact ⟨true,v,hv⟩
  ·exact ⟨false,v,hv⟩
 ·rintro ⟨s,v,h1,h2⟩ e
  have:=bits_zero.1 e v
  rw [Nat.testBit_or,Nat.testBit_and,Nat.testBit_and] at this
  cases s
  ·simp only [L,Bool.false_eq_true,if_false] at h1 h2;rw [h1,h2] at this;simp at this
  ·simp only [L,if_true] at h1 h2;rw [h1,h2] at this;simp at this
theorem zJo (a:Nat × Nat):zHS a=true↔∃ v,L a true v=true∧L a false v=true:=by
 unfold zHS;rw [bne_iff_ne]
 constructor
 ·intro h;obtain ⟨v,hv⟩:=zDI h;rw [Nat.testBit_and,Bool.and_eq_true] at hv;exact ⟨v,hv⟩
 ·rintro ⟨v,h1,h2⟩ e
  have:=bits_zero.1 e v
  rw [Nat.testBit_and] at this;simp only [L,Bool.false_eq_true,if_false,if_true] at h1 h2;rw [h1,h2] at this;simp at this
theorem zDp (a:Nat × Nat):zCz a=true↔∀ s v,L a s v=false:=by
 unfold zCz;rw [beq_iff_eq,bits_zero]
 constructor
 ·intro h s v
  have:=h v
  rw [Nat.testBit_or,Bool.or_eq_false_iff] at this
  cases s
  ·exact this.2
  ·exact this.1
 ·intro h v;rw [Nat.testBit_or,Bool.or_eq_false_iff];exact ⟨h true v,h false v⟩
def Free (c:Nat × Nat):Prop:=∀ v,L c true v=true→L c false v=true→False
theorem zGm (c:Nat × Nat):zHS c=false↔Free c:=by
 rw [← Bool.not_eq_true,zJo];exact ⟨fun h v a b=>h ⟨v,a,b⟩,fun h ⟨v,a,b⟩=>h v a b⟩
theorem Free.not {c:Nat × Nat} (h:Free c) {s:Bool} {v:Nat} (h1:L c s v=true):L c (!s) v=false:=by
 cases h2:L c (!s) v with
 | false=>rfl
 | true=>
  cases s
  ·exact (h v h2 h1).elim
  ·exact (h v h1 h2).elim
theorem Free.sub {c d:Nat × Nat} (h:Free c) (hs:∀ s v,L d s v=true→L c s v=true):Free d:=fun v a b=>h v (hs _ _ a) (hs _ _ b)
theorem Free.flip {c d:Nat × Nat} (h:Free c) (k:Bool) (hs:∀ s v,L d s v=true→L c (s == k) v=true):Free d:=fun v a b=>by
 have h1:=hs _ _ a;have h2:=hs _ _ b
 cases k
 ·exact h v h2 h1
 ·exact h v h1 h2
theorem zKm (c:Nat × Nat) (x:Int):∀ (k v:Nat),1≤v→v + k≤9→(x∈zAP c k v↔∃ u s,v≤u∧u < v + k∧x=zAF u s∧L c s u=true):=by
 intro k
 induction k with
 | zero=>intro v _ _;simp [zAP];intro u h1 h2;omega
 | succ k ih=>
  intro v h1 h9;rw [zAP,List.mem_append,List.mem_append,ih (v + 1) (by omega) (by omega)];have hp:zj c (v:Int)=L c true v:=zBm c v true h1 (by omega);have hn:zj c (-(v:Int))=L c false v:=zBm c v false h1 (by omega);rw [hp,hn]
  constructor
  ·rintro (h | h | ⟨u,s,h2,h3,h4,h5⟩)
   ·split at h
    ·next hh=>simp at h;exact ⟨v,true,Nat.le_refl _,by omega,by rw [h];rfl,hh⟩
    ·simp at h
   ·split at h
    ·next hh=>simp at h;exact ⟨v,false,Nat.le_refl _,by omega,by rw [h];rfl,hh⟩
    ·simp at h
   ·exact ⟨u,s,by omega,by omega,h4,h5⟩
  ·rintro ⟨u,s,h2,h3,h4,h5⟩
   by_cases e:u=v
   ·subst e
    cases s with
    | true=>left;rw [if_pos h5,h4];simp [zAF]
    | false=>right;left;rw [if_pos h5,h4];simp [zAF]
   ·right;right;exact ⟨u,s,by omega,by omega,h4,h5⟩
theorem zEv (c:Nat × Nat) (x:Int):x∈zAJ c↔∃ u s,1≤u∧u≤8∧x=zAF u s∧L c s u=true:=by
 rw [zAJ,zKm c x 8 1 (by omega) (by omega)]
 constructor
 ·rintro ⟨u,s,h1,h2,h3⟩;exact ⟨u,s,h1,by omega,h3⟩
 ·rintro ⟨u,s,h1,h2,h3⟩;exact ⟨u,s,h1,by omega,h3⟩
theorem zS1 {c:Nat × Nat} (h:Bd c) {s:Bool} {v:Nat} (hl:L c s v=true):v≤8:=by
 rcases Nat.lt_or_ge 8 v with h9 | h9
 ·exfalso
  have h2:512≤2 ^ v:=by
   have:2 ^ 9≤2 ^ v:=Nat.pow_le_pow_right (by decide) h9
   simpa using this
  cases s
  ·have:=Nat.testBit_lt_two_pow (x:=c.2) (i:=v) (by have:=h.2;omega)
   simp only [L,Bool.false_eq_true,if_false] at hl;rw [this] at hl;cases hl
  ·have:=Nat.testBit_lt_two_pow (x:=c.1) (i:=v) (by have:=h.1;omega)
   simp only [L,if_true] at hl;rw [this] at hl;cases hl
 ·exact h9
theorem zLm {c:Nat × Nat} (h:(zAJ c).length=1):∃ u s,1≤u∧u≤8∧(zAJ c).headD 0=zAF u s∧L c s u=true∧∀ t v,1≤v→v≤8→L c t v=true→v=u∧t=s:=by
 obtain ⟨x,hx⟩:=List.length_eq_one_iff.1 h;have hm:=(zEv c x).1 (by rw [hx];simp);obtain ⟨u,s,h1,h2,h3,h4⟩:=hm;refine ⟨u,s,h1,h2,by rw [hx];exact h3,h4,fun t v h5 h6 h7=>?_⟩;have hy:=(zEv c (zAF v t)).2 ⟨v,t,h5,h6,rfl,h7⟩;rw [hx,h3] at hy;simp at hy;exact zRh h5 h1 hy
structure QGood (q:QS):Prop where
 qb:QB q
 nodup:(q.vars.map (·.1)).Nodup
 vars:∀ c∈q.cl,∀ s v,L c s v=true→v∈q.vars.map (·.1)
structure LOk (q:QS) (c:Nat × Nat):Prop where
 bd:Bd c
 vars:∀ s v,L c s v=true→v∈q.vars.map (·.1)
theorem zKo (q:QS):LOk q (0,0):=⟨⟨by decide,by decide⟩,fun s v h=>by rw [zDh] at h;cases h⟩
theorem QGood.name {q:QS} (hq:QGood q) {v:Nat} (h:v∈q.vars.map (·.1)):1≤v∧v≤8:=by
 obtain ⟨x,hx,rfl⟩:=List.mem_map.1 h;exact hq.qb.names x hx
def zRV (q:QS) (k:Nat) (p:List Stp) (s:Stp):Prop:=
 LOk q s.lits∧(
 (s.rule=1∧k=1∧1≤s.first∧s.first≤q.cl.length∧s.second=0∧s.lits=q.cl.getD (s.first - 1) (0,0))∨
 (s.rule=2∧k=2∧s.first=0∧s.second=0∧Free s.lits∧zCD q.cl s.lits=true)∨
 (s.rule=3∧(1≤s.first∧s.first≤p.length)∧(1≤s.second∧s.second≤p.length)∧(∃ x∈q.vars,x.1=s.var∧zAl k x.2=true)∧L (zM p s.first) true s.var=true∧L (zM p s.second) false s.var=true∧Free (zM p s.first)∧Free (zM p s.second)∧Free s.lits∧s.lits=zi (zM p s.first) (zM p s.second) s.var)∨
 (s.rule=4∧(1≤s.first∧s.first≤p.length)∧s.second=0∧Free (zM p s.first)∧s.lits=zAR k q.vars.reverse (zM p s.first)))
def POk (q:QS) (k:Nat) (p:List Stp):Prop:=∀ i (h:i < p.length),zRV q k (p.take i) p[i]
theorem zOH (q:QS) (k:Nat):POk q k []:=fun i h=>by simp at h
theorem POk.snoc {q:QS} {k:Nat} {p:List Stp} {s:Stp} (h:POk q k p) (hs:zRV q k p s):POk q k (p ++ [s]):=by
 intro i hi
 by_cases e:i < p.length
 ·rw [List.take_append_of_le_length (Nat.le_of_lt e),List.getElem_append_left e];exact h i e
 ·have e2:i=p.length:=(by simp at hi;omega);subst e2;rw [List.take_append_of_le_length (Nat.le_refl _),List.take_length]
  simpa using hs
theorem zB9 (p x:List Stp) (n:Nat) (h:n≤p.length):zM (p ++ x) n=zM p n:=by
 unfold zM
 split
 ·rfl
 ·rw [List.getElem?_append_left (by omega)]
theorem zD4 (p:List Stp) (s:Stp):zM (p ++ [s]) (p.length + 1)=s.lits:=by
 rw [zBU _ _ (by simp)];simp
theorem POk.lok {q:QS} {k:Nat} {p:List Stp} (h:POk q k p) (n:Nat):LOk q (zM p n):=by
 by_cases hn:1≤n∧n≤p.length
 ·obtain ⟨m,rfl⟩:∃ m,n=m + 1:=⟨n - 1,by omega⟩;rw [zBU p m (by omega)];exact (h m (by omega)).1
 ·rw [zE4 p n (by omega)];exact zKo q
theorem zKj {q:QS} {c d:Nat × Nat} (h:LOk q c) (hb:Bd d) (hs:∀ s v,L d s v=true→L c s v=true):LOk q d:=⟨hb,fun s v hv=>h.vars s v (hs s v hv)⟩
section
variable {q:QS} (hq:QGood q)
include hq
theorem zDt (i:Nat) (hi:i < q.vars.length):1≤q.vars[i].1∧q.vars[i].1≤8:=hq.qb.names _ (List.getElem_mem hi)
theorem zDC (k:Nat):∀ (n:Nat),n≤q.vars.length→∀ c s v,L (zAR k (q.vars.take n).reverse c) s v=true→L c s v=true:=by
 intro n
 induction n with
 | zero=>intro _ c s v h;simpa [zAR] using h
 | succ n ih=>
  intro hn c s v h;have hv:=zDt hq n (by omega);rw [zBs k q.vars n (by omega)] at h
  split at h
  ·split at h
   ·exact h
   ·have:=ih (by omega) _ s v h
    rw [zBo _ _ hv.1 hv.2,Bool.and_eq_true] at this;exact this.1
  ·exact ih (by omega) _ s v h
theorem zEo (k:Nat) (c:Nat × Nat) (s:Bool) (v:Nat) (h:L (zAR k q.vars.reverse c) s v=true):L c s v=true:=by
 have:=zDC hq k q.vars.length (Nat.le_refl _) c s v
 rw [List.take_length] at this;exact this h
theorem zOw (k:Nat):∀ (n:Nat),n≤q.vars.length→∀ c,zAR k (q.vars.take n).reverse (zAR k (q.vars.take n).reverse c)=zAR k (q.vars.take n).reverse c:=by
 intro n
 induction n with
 | zero=>intro _ c;rfl
 | succ n ih=>
  intro hn c;have hv:=zDt hq n (by omega);have hno:∀ d,zs d q.vars[n].1=false→zAR k (q.vars.take (n + 1)).reverse (zAR k (q.vars.take n).reverse d)=zAR k (q.vars.take n).reverse d:=by
   intro d hd;have h2:zs (zAR k (q.vars.take n).reverse d) q.vars[n].1=false:=by
    rw [zCl _ _ hv.1 hv.2,Bool.or_eq_false_iff] at hd ⊢
    constructor
    ·cases h:L (zAR k (q.vars.take n).reverse d) true q.vars[n].1 with
     | false=>rfl
     | true=>rw [zDC hq k n (by omega) d true _ h] at hd;exact absurd hd.1 (by simp)
    ·cases h:L (zAR k (q.vars.take n).reverse d) false q.vars[n].1 with
     | false=>rfl
     | true=>rw [zDC hq k n (by omega) d false _ h] at hd;exact absurd hd.2 (by simp)
   rw [zBs k q.vars n (by omega),h2,if_neg (by decide)];exact ih (by omega) d
  conv=>lhs;rw [zBs k q.vars n (by omega) c]
  conv=>rhs;rw [zBs k q.vars n (by omega) c]
  cases h1:zs c q.vars[n].1 with
  | false=>simp only [Bool.false_eq_true,if_false];exact hno c h1
  | true=>
   simp only [if_true]
   cases h2:zAl k q.vars[n].2 with
   | true=>
    simp only [if_true];rw [zBs k q.vars n (by omega) c,h1,h2];rfl
   | false=>
    simp only [Bool.false_eq_true,if_false]
    apply hno
    rw [zCl _ _ hv.1 hv.2,zBo _ _ hv.1 hv.2,zBo _ _ hv.1 hv.2]
    simp
theorem zIQ (k:Nat) (c:Nat × Nat):zAR k q.vars.reverse (zAR k q.vars.reverse c)=zAR k q.vars.reverse c:=by
 have:=zOw hq k q.vars.length (Nat.le_refl _) c
 rwa [List.take_length] at this
theorem zJr (k d:Nat):∀ (n:Nat),n≤q.vars.length→∀ c,(∀ i (hi:i < q.vars.length),d≤i→i < n→∀ s,L c s q.vars[i].1=true→zAl k q.vars[i].2=false)→∀ i (hi:i < q.vars.length),d≤i→i < n→∀ s,L (zAR k (q.vars.take n).reverse c) s q.vars[i].1=false:=by
 intro n
 induction n with
 | zero=>intro _ c _ i _ _ h;omega
 | succ n ih=>
  intro hn c hp i hi hd hin s;have hv:=zDt hq n (by omega);rw [zBs k q.vars n (by omega)]
  cases h1:zs c q.vars[n].1 with
  | false=>
   simp only [Bool.false_eq_true,if_false]
   by_cases e:i=n
   ·subst e;rw [zCl _ _ hv.1 hv.2,Bool.or_eq_false_iff] at h1
    cases h:L (zAR k (q.vars.take i).reverse c) s q.vars[i].1 with
    | false=>rfl
    | true=>
     have:=zDC hq k i (by omega) c s _ h
     cases s
     ·rw [h1.2] at this;cases this
     ·rw [h1.1] at this;cases this
   ·exact ih (by omega) c (fun j hj h2 h3=>hp j hj h2 (by omega)) i hi hd (by omega) s
  | true=>
   simp only [if_true];have hpf:zAl k q.vars[n].2=false:=by
    rw [zCl _ _ hv.1 hv.2,Bool.or_eq_true] at h1
    rcases h1 with h1 | h1
    ·exact hp n (by omega) (by omega) (by omega) true h1
    ·exact hp n (by omega) (by omega) (by omega) false h1
   rw [hpf];simp only [Bool.false_eq_true,if_false]
   by_cases e:i=n
   ·subst e
    cases h:L (zAR k (q.vars.take i).reverse (zAV c q.vars[i].1)) s q.vars[i].1 with
    | false=>rfl
    | true=>
     have:=zDC hq k i (by omega) _ s _ h
     rw [zBo _ _ hv.1 hv.2] at this;simp at this
   ·refine ih (by omega) _ (fun j hj h2 h3 t ht=>?_) i hi hd (by omega) s;rw [zBo _ _ hv.1 hv.2,Bool.and_eq_true] at ht;exact hp j hj h2 (by omega) t ht.1
theorem zPC (k d:Nat) (hd:d < q.vars.length) (c:Nat × Nat) (hr:zAR k q.vars.reverse c=c) (hin:∀ i (hi:i < q.vars.length),d < i→∀ s,L c s q.vars[i].1=false) (hh:zs c q.vars[d].1=true):zAl k q.vars[d].2=true:=by
 have key:∀ n,d + 1≤n→n≤q.vars.length→zAR k (q.vars.take n).reverse c=zAR k (q.vars.take (d + 1)).reverse c:=by
  intro n
  induction n with
  | zero=>intro h;omega
  | succ n ih=>
   intro h1 h2
   by_cases e:n=d
   ·subst e;rfl
   ·have hv:=zDt hq n (by omega);rw [zBs k q.vars n (by omega),show zs c q.vars[n].1=false from by
     rw [zCl _ _ hv.1 hv.2,hin n (by omega) (by omega) true,hin n (by omega) (by omega) false];rfl]
    simp only [Bool.false_eq_true,if_false];exact ih (by omega) (by omega)
 have h1:=key q.vars.length (by omega) (Nat.le_refl _);rw [List.take_length,hr,zBs k q.vars d hd,hh] at h1;simp only [if_true] at h1
 cases hp:zAl k q.vars[d].2 with
 | true=>rfl
 | false=>
  rw [hp] at h1;simp only [Bool.false_eq_true,if_false] at h1;have hv:=zDt hq d hd;rw [zCl _ _ hv.1 hv.2,Bool.or_eq_true] at hh
  exfalso
  rcases hh with hh | hh
  ·rw [h1] at hh
   have:=zDC hq k d (by omega) _ true _ hh
   rw [zBo _ _ hv.1 hv.2] at this;simp at this
  ·rw [h1] at hh
   have:=zDC hq k d (by omega) _ false _ hh
   rw [zBo _ _ hv.1 hv.2] at this;simp at this
omit hq in
theorem zR5 (k:Nat) (c:Nat × Nat) (h:Bd c):Bd (zAR k q.vars.reverse c):=zH3 k _ c h
theorem zKe (k:Nat) (p:List Stp) (n:Nat) (hp:POk q k p) (h1:1≤n) (hn:n≤p.length) (hf:Free (zM p n)) :
  POk q k (zBz q k p n).1∧(∃ x,(zBz q k p n).1=p ++ x∧x.length≤1∧∀ s∈x,s.rule≠3)∧1≤(zBz q k p n).2∧(zBz q k p n).2≤(zBz q k p n).1.length∧zM (zBz q k p n).1 (zBz q k p n).2=zAR k q.vars.reverse (zM p n):=by
 unfold zBz
 split
 ·next h=>exact ⟨hp,⟨[],by simp,by simp,by simp⟩,h1,hn,h.symm⟩
 ·have hl:=hp.lok n;refine ⟨hp.snoc ⟨zKj hl (zR5 k _ hl.bd) (fun s v=>zEo hq k _ s v),Or.inr (Or.inr (Or.inr ⟨rfl,⟨h1,hn⟩,rfl,hf,rfl⟩))⟩,⟨_,rfl,by simp,by simp⟩,by simp,by simp,zD4 _ _⟩
end
def zFy (q:QS) (uni:Nat × Nat):Prop:=∀ s v,L uni s v=true↔∃ x∈q.vars,x.1=v∧x.2=true
structure FactIn (q:QS) (S:SS) (f:Nat × Nat):Prop where
 kind:f.1=1∨f.1=2
 lo:1≤f.2
 hi:f.2≤(S.proof f.1).length
 free:Free (S.lits f)
 red:zAR f.1 q.vars.reverse (S.lits f)=S.lits f
structure SInv (C:SC) (S:SS):Prop where
 ref:POk C.q 1 S.ref
 len:C.q.cl.length≤S.ref.length
 ax:∀ i (h:i < C.q.cl.length),zM S.ref (i + 1)=C.q.cl[i]
 aff:POk C.q 2 S.aff
 kept:∀ f∈S.kept,FactIn C.q S f
 room:S.kept.length≤C.room
 most:S.most≤C.room
structure Ext (S T:SS):Prop where
 ref:∃ x,T.ref=S.ref ++ x
 aff:∃ x,T.aff=S.aff ++ x
theorem Ext.refl (S:SS):Ext S S:=⟨⟨[],by simp⟩,⟨[],by simp⟩⟩
theorem Ext.trans {S T U:SS} (h:Ext S T) (k:Ext T U):Ext S U:=by
 obtain ⟨⟨a,ha⟩,⟨b,hb⟩⟩:=h;obtain ⟨⟨c,hc⟩,⟨d,hd⟩⟩:=k;exact ⟨⟨a ++ c,by rw [hc,ha,List.append_assoc]⟩,⟨b ++ d,by rw [hd,hb,List.append_assoc]⟩⟩
theorem Ext.proof {S T:SS} (h:Ext S T) (k:Nat):∃ x,T.proof k=S.proof k ++ x:=by
 unfold SS.proof;split
 ·exact h.aff
 ·exact h.ref
theorem Ext.lits {S T:SS} (h:Ext S T) {f:Nat × Nat} (hf:f.2≤(S.proof f.1).length):T.lits f=S.lits f:=by
 obtain ⟨x,hx⟩:=h.proof f.1;unfold SS.lits;rw [hx,zB9 _ _ _ hf]
theorem FactIn.ext {q:QS} {S T:SS} {f:Nat × Nat} (h:FactIn q S f) (he:Ext S T):FactIn q T f:=by
 obtain ⟨x,hx⟩:=he.proof f.1;have hl:=he.lits h.hi;exact ⟨h.kind,h.lo,by rw [hx,List.length_append];have:=h.hi;omega,by rw [hl];exact h.free,by rw [hl];exact h.red⟩
def zG2 (k:Nat) (path c:Nat × Nat):Prop:=∀ s v,L c s v=true→L path (s == (k == 2)) v=true
structure PathAt (q:QS) (d:Nat) (path:Nat × Nat):Prop where
 free:Free path
 bd:Bd path
 inn:∀ s v,L path s v=true→∃ i,∃ h:i < q.vars.length,i < d∧q.vars[i].1=v
 all:∀ i (h:i < q.vars.length),i < d→∃ s,L path s q.vars[i].1=true
theorem zHA (q:QS):PathAt q 0 (0,0):=
 ⟨fun v h=>(by rw [zDh] at h;cases h),⟨by decide,by decide⟩,fun s v h=>(by rw [zDh] at h;cases h),fun i _ h=>(by omega)⟩
theorem PathAt.lok {q:QS} {d:Nat} {path:Nat × Nat} (h:PathAt q d path):LOk q path:=
 ⟨h.bd,fun s v hv=>by obtain ⟨i,hi,_,rfl⟩:=h.inn s v hv;exact List.mem_map_of_mem (List.getElem_mem hi)⟩
theorem zFh {q:QS} (hq:QGood q) {i j:Nat} (hi:i < q.vars.length) (hj:j < q.vars.length) (h:q.vars[i].1=q.vars[j].1):i=j:=by
 have hn:=hq.nodup;rw [List.nodup_iff_pairwise_ne,List.pairwise_iff_getElem] at hn
 rcases Nat.lt_trichotomy i j with h1 | h1 | h1
 ·exact (hn i j (by simpa using hi) (by simpa using hj) h1 (by simpa using h)).elim
 ·exact h1
 ·exact (hn j i (by simpa using hj) (by simpa using hi) h1 (by simpa using h.symm)).elim
theorem PathAt.off {q:QS} (hq:QGood q) {d:Nat} {path:Nat × Nat} (h:PathAt q d path) {i:Nat} (hi:i < q.vars.length) (hd:d≤i) (s:Bool):L path s q.vars[i].1=false:=by
 cases hh:L path s q.vars[i].1 with
 | false=>rfl
 | true=>
  obtain ⟨j,hj,hjd,he⟩:=h.inn s _ hh
  have:=zFh hq hj hi he
  omega
theorem zKK (c:Nat × Nat) (x:Int) (h:Bd c):Bd (zQ c x):=by
 unfold zQ;split
 ·exact ⟨h.1,zBD _ _ h.2 (zCn _)⟩
 ·exact ⟨zBD _ _ h.1 (zCn _),h.2⟩
theorem zHT {c:Nat × Nat} {v:Nat} {s:Bool} (h1:1≤v) (h8:v≤8) (h:Free c) (hn:L c (!s) v=false):Free (zQ c (zAF v s)):=by
 intro u a b;rw [zBH c v s h1 h8] at a b;rw [Bool.or_eq_true,Bool.and_eq_true] at a b
 rcases a with a | ⟨a1,a2⟩
 ·rcases b with b | ⟨b1,b2⟩
  ·exact h u a b
  ·have e:u=v:=of_decide_eq_true b2;subst e
   cases s
   ·simp only [Bool.not_false] at hn;rw [hn] at a;cases a
   ·cases b1
 ·have e:u=v:=of_decide_eq_true a2;subst e
  rcases b with b | ⟨b1,b2⟩
  ·cases s
   ·cases a1
   ·simp only [Bool.not_true] at hn;rw [hn] at b;cases b
  ·cases s
   ·cases a1
   ·cases b1
theorem PathAt.next {q:QS} (hq:QGood q) {d:Nat} {path:Nat × Nat} (h:PathAt q d path) (hd:d < q.vars.length) (s:Bool):PathAt q (d + 1) (zQ path (zAF q.vars[d].1 s)):=by
 have hv:=zDt hq d hd;refine ⟨zHT hv.1 hv.2 h.free (h.off hq hd (Nat.le_refl _) _),zKK _ _ h.bd,fun t v ht=>?_,fun i hi hid=>?_⟩
 ·rw [zBH _ _ _ hv.1 hv.2,Bool.or_eq_true,Bool.and_eq_true] at ht
  rcases ht with ht | ⟨_,ht⟩
  ·obtain ⟨i,hi,hid,he⟩:=h.inn t v ht;exact ⟨i,hi,by omega,he⟩
  ·exact ⟨d,hd,by omega,(of_decide_eq_true ht).symm⟩
 ·by_cases e:i=d
  ·subst e;exact ⟨s,by rw [zBH _ _ _ hv.1 hv.2];simp⟩
  ·obtain ⟨t,ht⟩:=h.all i hi (by omega);exact ⟨t,by rw [zBH _ _ _ hv.1 hv.2,ht];rfl⟩
theorem zMt {room:Nat} {kept:List (Nat × Nat)} {f g:Nat × Nat} (h:g∈zDi room kept f):g∈kept∨g=f:=by
 unfold zDi at h
 split at h
 ·exact Or.inl h
 ·split at h
  ·rcases List.mem_append.1 h with h | h
   ·exact Or.inl (List.mem_of_mem_drop h)
   ·exact Or.inr (by simpa using h)
  ·rcases List.mem_append.1 h with h | h
   ·exact Or.inl h
   ·exact Or.inr (by simpa using h)
theorem zIZ {room:Nat} {kept:List (Nat × Nat)} {f:Nat × Nat} (h:kept.length≤room):(zDi room kept f).length≤room:=by
 unfold zDi
 split
 ·exact h
 ·split
  ·simp;omega
  ·simp;omega
theorem zFS (r:Nat) (S:SS) (f:Nat × Nat):(S.keep r f).ref=S.ref∧(S.keep r f).aff=S.aff∧(S.keep r f).nodes=S.nodes:=by
 unfold SS.keep;split
 ·exact ⟨rfl,rfl,rfl⟩
 ·exact ⟨rfl,rfl,rfl⟩
theorem zGb (r:Nat) (S:SS) (f:Nat × Nat):Ext S (S.keep r f):=by
 obtain ⟨h1,h2,_⟩:=zFS r S f;exact ⟨⟨[],by rw [h1];simp⟩,⟨[],by rw [h2];simp⟩⟩
theorem zJ1 {C:SC} {S:SS} {f:Nat × Nat} (h:SInv C S) (hf:FactIn C.q S f):SInv C (S.keep C.room f):=by
 have he:=zGb C.room S f;obtain ⟨h1,h2,_⟩:=zFS C.room S f;have hk:(∀ g∈(S.keep C.room f).kept,FactIn C.q S g)∧(S.keep C.room f).kept.length≤C.room∧(S.keep C.room f).most≤C.room:=by
  unfold SS.keep;split
  ·exact ⟨h.kept,h.room,h.most⟩
  ·refine ⟨fun g hg=>?_,zIZ h.room,?_⟩
   ·rcases zMt hg with hg | hg
    ·exact h.kept g hg
    ·rw [hg];exact hf
   ·have:=zIZ (f:=f) h.room
    show zHD _ _ _ _≤_;unfold zHD
    split
    ·exact h.most
    ·split
     ·exact this
     ·exact h.most
 exact ⟨by rw [h1];exact h.ref,by rw [h1];exact h.len,fun i hi=>by rw [h1];exact h.ax i hi,by rw [h2];exact h.aff,fun g hg=>(hk.1 g hg).ext he,hk.2.1,hk.2.2⟩
theorem SInv.grow {C:SC} {S:SS} (h:SInv C S) {p:List Stp} (hp:∃ x,p=S.ref ++ x) (hok:POk C.q 1 p):SInv C { S with ref:=p }:=by
 have he:Ext S { S with ref:=p }:=⟨hp,⟨[],by simp⟩⟩;obtain ⟨x,rfl⟩:=hp;exact ⟨hok,by have:=h.len;simp;omega,fun i hi=>by rw [zB9 _ _ _ (by have:=h.len;omega)];exact h.ax i hi,h.aff,fun g hg=>(h.kept g hg).ext he,h.room,h.most⟩
theorem SInv.growA {C:SC} {S:SS} (h:SInv C S) {p:List Stp} (hp:∃ x,p=S.aff ++ x) (hok:POk C.q 2 p):SInv C { S with aff:=p }:=by
 have he:Ext S { S with aff:=p }:=⟨⟨[],by simp⟩,hp⟩;exact ⟨h.ref,h.len,h.ax,hok,fun g hg=>(h.kept g hg).ext he,h.room,h.most⟩
theorem zE1 {C:SC} {S:SS} (h:SInv C S) {s:Nat} (hs:s∈zg C.q S.kept):1≤s∧s≤S.ref.length:=by
 unfold zg at hs
 rcases List.mem_append.1 hs with hs | hs
 ·obtain ⟨i,hi,rfl⟩:=List.mem_map.1 hs
  have:=List.mem_range.1 hi
  have:=h.len
  omega
 ·obtain ⟨f,hf,rfl⟩:=List.mem_map.1 hs;rw [List.mem_filter] at hf;have h1:=h.kept f hf.1;have h2:f.1=1:=(by simpa using hf.2);refine ⟨h1.lo,?_⟩
  have:=h1.hi
  unfold SS.proof at this
  rwa [h2,if_neg (by decide)] at this
def zQs (q:QS) (ref:List Stp) (cs:List Nat) (pre:Nat × Nat) (t:Int × Nat):Prop:=
 ∃ v s,t.1=zAF v s∧(∃ x∈q.vars,x.1=v∧x.2=false)∧L pre true v=false∧L pre false v=false∧t.2∈cs∧Free (zM ref t.2)∧L (zM ref t.2) s v=true∧∀ u r,L (zM ref t.2) r u=true→(u=v∧r=s)∨L pre (!r) u=true
def zFE (q:QS) (ref:List Stp) (cs:List Nat) (path:Nat × Nat):List (Int × Nat)→Nat × Nat→Prop
 | [],vals=>vals=path
 | t :: ts,vals=>∃ pre,zFE q ref cs path ts pre∧zQs q ref cs pre t∧vals=zQ pre t.1
theorem zOB {q:QS} (hq:QGood q) {uni:Nat × Nat} (hu:zFy q uni) {ref:List Stp} (hp:POk q 1 ref) {cs:List Nat} {vals:Nat × Nat} (h:(zAd ref uni cs vals).2≠0):zQs q ref cs vals (zAd ref uni cs vals):=by
 unfold zAd at h ⊢
 cases hf:cs.find? (fun s=>zBA uni vals (zM ref s)) with
 | none=>rw [hf] at h;exact absurd rfl h
 | some s=>
  have hm:=List.mem_of_find?_eq_some hf;have hi:=List.find?_some hf;simp only at hi ⊢;unfold zBA zDK at hi;rw [Bool.and_eq_true,Bool.and_eq_true,Bool.and_eq_true,Bool.not_eq_true',Bool.not_eq_true',Bool.not_eq_true',beq_iff_eq] at hi;obtain ⟨⟨hme,hcl⟩,hlen,hun⟩:=hi;obtain ⟨u,t,h1,h8,hhd,hL,hone⟩:=zLm hlen;have hl:=hp.lok s;rw [zES,Bool.and_eq_true,Bool.not_eq_true'] at hL;have hnm:∀ t v,L (zM ref s) t v=true→L vals t v=false:=fun t v ht=>by
   cases hh:L vals t v with
   | false=>rfl
   | true=>rw [(zCB _ _).2 ⟨t,v,ht,hh⟩] at hme;cases hme
  have hboth:L vals true u=false∧L vals false u=false:=by
   have a:=hL.2;have b:=hnm t u hL.1
   cases t
   ·exact ⟨a,b⟩
   ·exact ⟨b,a⟩
  obtain ⟨x,hx,hxe⟩:=List.mem_map.1 (hl.vars t u hL.1);refine ⟨u,t,hhd,⟨x,hx,hxe,?_⟩,hboth.1,hboth.2,hm,(zGm _).1 hcl,hL.1,fun w r hr=>?_⟩
  ·cases hxu:x.2 with
   | false=>rfl
   | true=>
    have:=(hu t u).2 ⟨x,hx,hxe,hxu⟩
    rw [(zCB _ _).2 ⟨t,u,by rw [zES,hL.1,hL.2];rfl,this⟩] at hun
    cases hun
  ·cases hh:L vals (!r) w with
   | true=>exact Or.inr rfl
   | false=>
    have hn:=hq.name (hl.vars r w hr)
    have:=hone r w hn.1 hn.2 (by rw [zES,hr,hh];rfl)
    exact Or.inl this
theorem zSR {ref:List Stp} {uni:Nat × Nat} {cs:List Nat} {vals:Nat × Nat} (h:zBi ref uni cs vals≠0):zBi ref uni cs vals∈cs∧zBj uni vals (zM ref (zBi ref uni cs vals))=true:=by
 unfold zBi at h ⊢
 cases hf:cs.find? (fun s=>zBj uni vals (zM ref s)) with
 | none=>rw [hf] at h;exact absurd rfl h
 | some s=>
  have h2:=List.find?_some hf;exact ⟨List.mem_of_find?_eq_some hf,h2⟩
theorem zMq {q:QS} (hq:QGood q) {uni:Nat × Nat} (hu:zFy q uni) {ref:List Stp} (hp:POk q 1 ref) {cs:List Nat} {path:Nat × Nat}:∀ (m:Nat) (vals:Nat × Nat) (trail:List (Int × Nat)),zFE q ref cs path trail.reverse vals→
  zFE q ref cs path (zAp ref uni cs m vals trail).trail.reverse (zAp ref uni cs m vals trail).vals∧(zAp ref uni cs m vals trail).trail.length≤trail.length + m∧
  ((zAp ref uni cs m vals trail).conf≠0→(zAp ref uni cs m vals trail).conf∈cs∧zBj uni (zAp ref uni cs m vals trail).vals (zM ref (zAp ref uni cs m vals trail).conf)=true):=by
 intro m
 induction m with
 | zero=>intro vals trail h;exact ⟨h,by simp [zAp],fun h=>absurd rfl h⟩
 | succ m ih=>
  intro vals trail h;rw [zAp]
  split
  ·next hc=>exact ⟨h,by simp,fun _=>zSR hc⟩
  ·split
   ·exact ⟨h,by simp,fun h=>absurd rfl h⟩
   ·next hn=>
    have:=ih (zQ vals (zAd ref uni cs vals).1) (trail ++ [zAd ref uni cs vals]) (by
     rw [List.reverse_append];exact ⟨vals,h,zOB hq hu hp hn,rfl⟩)
    refine ⟨this.1,?_,this.2.2⟩;have h2:=this.2.1;simp at h2;omega
theorem zEl {q:QS} (hq:QGood q) {ref:List Stp} {cs:List Nat} {d:Nat} {path:Nat × Nat} (hpa:PathAt q d path):∀ (ts:List (Int × Nat)) (vals:Nat × Nat),zFE q ref cs path ts vals→
  Free vals∧LOk q vals∧(∀ s v,L path s v=true→L vals s v=true)∧(∀ s v,L vals s v=true→L path s v=true∨((∃ x∈q.vars,x.1=v∧x.2=false)∧L path true v=false∧L path false v=false)):=by
 intro ts
 induction ts with
 | nil=>intro vals h;subst h;exact ⟨hpa.free,hpa.lok,fun _ _ h=>h,fun _ _ h=>Or.inl h⟩
 | cons t ts ih=>
  rintro vals ⟨pre,hpre,⟨v,s,ht,⟨x,hx,hxe,hxu⟩,hn1,hn2,_⟩,rfl⟩;obtain ⟨h1,h2,h3,h4⟩:=ih pre hpre;have hv:=hq.qb.names x hx;rw [hxe] at hv;rw [ht];refine ⟨zHT hv.1 hv.2 h1 (by cases s<;>assumption),⟨zKK _ _ h2.bd,fun r u hr=>?_⟩,fun r u hr=>by rw [zBH _ _ _ hv.1 hv.2,h3 r u hr];rfl,fun r u hr=>?_⟩
  ·rw [zBH _ _ _ hv.1 hv.2,Bool.or_eq_true,Bool.and_eq_true] at hr
   rcases hr with hr | ⟨_,hr⟩
   ·exact h2.vars r u hr
   ·rw [of_decide_eq_true hr,← hxe];exact List.mem_map_of_mem hx
  ·rw [zBH _ _ _ hv.1 hv.2,Bool.or_eq_true,Bool.and_eq_true] at hr
   rcases hr with hr | ⟨_,hr⟩
   ·exact h4 r u hr
   ·have e:u=v:=of_decide_eq_true hr;subst e;refine Or.inr ⟨⟨x,hx,hxe,hxu⟩,?_,?_⟩
    ·cases hh:L path true u with
     | false=>rfl
     | true=>rw [h3 _ _ hh] at hn1;cases hn1
    ·cases hh:L path false u with
     | false=>rfl
     | true=>rw [h3 _ _ hh] at hn2;cases hn2
theorem zP {w:World} {o:Obj} {n:Nat} (h:n=w.heap.size):(w.alloc o).heap[n]?=some o:=by subst h;exact heap_alloc_new w o
theorem zEc {w w':World} {B base:Nat} {e:TypeId} {size:Nat} {v:Value} {n:Nat} {xs:List Value} (h:w.ownsRow base e size v n xs) (hl:∀ k,v.ownBlock=some k→k < B) (hb:Below B w w'):w'.ownsRow base e size v n xs:=by
 obtain ⟨h1,h2⟩:=h;refine ⟨h1,?_⟩
 rcases h2 with h2 | ⟨g,cap,cur,rfl,hg,hh,h3⟩
 ·exact Or.inl h2
 ·exact Or.inr ⟨g,cap,cur,rfl,hg,(hb.block g (hl g rfl)).trans hh,h3⟩
theorem zHf (b o:Nat) (kind:Nat) (v:Nat) (u:Bool) (w:World) (hc:w.cell? ⟨b,o,none⟩=some (.int .i64 kind)) :
  Calls Tryz.prog 138 #[.pointer (some ⟨b,o,none⟩),.agg #[.int .i64 v,.bool u]] w fun e w'=>e=.returned (.bool (zAl kind u))∧Below w.heap.size w w':=by
 have hbw:=zAm hc;have HE:Hid (((kind:Int) == 2)=(kind == 2)):=zF (by rw [Bool.eq_iff_iff,beq_iff_eq,beq_iff_eq];omega)
 go_enter Tryz.func138,Tryz.ntmps138
 go_wp2_with fail
 go_quiet (fail)
 go_wp2_with fail;go_ret;exact ⟨zAI (by rw [zA HE];rfl),below_drewN ((Below.refl _ _).alloc (Nat.le_refl _) _) nq⟩
theorem zBW (base b o:Nat) (p:List Stp) (vS:Value) (n:Nat) (w:World) (hs:w.cell? ⟨b,o + 1,none⟩=some vS) (hown:w.ownsRow base 134 6 vS p.length (zAk p)) (hl:p.length≤1048576) :
  Calls Tryz.prog 73 #[.pointer (some ⟨b,o,none⟩),.int .i64 n] w fun e w'=>e=.returned (zAj (zM p n))∧Below w.heap.size w w':=by
 obtain ⟨aS,cS,rfl⟩:=zN hown;have hbw:=zAm hs
 by_cases h1:n < 1
 ·have HL:Hid (zM p n=(0,0)):=zF (zE4 p n (Or.inl h1));have e:n=0:=(by omega);subst e;clear h1
  go_enter Tryz.func73,Tryz.ntmps73
  go_wp2_with fail;refine bodyPost_ret (v:=zAj (0,0)) (by simp [results,Tryz.results73,go_sem]) rfl ⟨by rw [zA HL],?_⟩;exact (Below.refl _ _).alloc (Nat.le_refl _) _
 ·have hd1:decide ((n:Int) < 1)=false:=by simp;omega
  by_cases h2:p.length < n
  ·have HL:Hid (zM p n=(0,0)):=zF (zE4 p n (Or.inr h2));have hd2:decide (p.length < n)=true:=(by simpa using h2);clear h1 h2
   go_enter Tryz.func73,Tryz.ntmps73
   go_wp2_with fail;refine bodyPost_ret (v:=zAj (0,0)) (by simp [results,Tryz.results73,go_sem]) rfl ⟨by rw [zA HL],?_⟩;exact (Below.refl _ _).alloc (Nat.le_refl _) _
  ·obtain ⟨m,rfl⟩:∃ m,n=m + 1:=⟨n - 1,by omega⟩;have hm:m < p.length:=(by omega);have hd2:decide (p.length < m + 1)=false:=(by simp;omega);have hd3:decide ((p.length:Int) < ((m:Int) + 1))=false:=(by simp;omega);have hd4:decide ((m:Int) + 1 < 1)=false:=(by simp;omega);have HL:Hid (zM p (m + 1)=p[m].lits):=zF (zBU p m hm);obtain ⟨g,cap,hVe,hg,hg',_,hcell⟩:=zS hown (by omega);injection hVe with hVe _ hV2;subst hVe hV2;have hx0:w.cell? ⟨g,m * 6 + 4,none⟩=some (.int .i64 (p[m].lits.1:Int)):=hcell _ _ (zh p m 4 hm (by omega));have hx1:w.cell? ⟨g,m * 6 + 5,none⟩=some (.int .i64 (p[m].lits.2:Int)):=hcell _ _ (zh p m 5 hm (by omega));clear hcell h1 h2;generalize p[m].lits=c at *;obtain ⟨c1,c2⟩:=c;dsimp only at *
   go_enter Tryz.func73,Tryz.ntmps73
   go_wp2_with fail;refine bodyPost_ret (v:=zAj (c1,c2)) (by simp [results,Tryz.results73,go_sem]) rfl ⟨by rw [zA HL],?_⟩;exact (Below.refl _ _).alloc (Nat.le_refl _) _
abbrev zCi (s:Stp):Value:=.agg #[.int .i64 (s.rule:Int),.int .i64 (s.first:Int),.int .i64 (s.second:Int),.int .i64 (s.var:Int),.int .i64 (s.lits.1:Int),.int .i64 (s.lits.2:Int)]
theorem zER (base b o:Nat) (p:List Stp) (vS:Value) (s:Stp) (w:World) (hs:w.cell? ⟨b,o + 1,none⟩=some vS) (hown:w.ownsRow base 134 6 vS p.length (zAk p)) (hl:p.length≤1048576) (hb:∀ s∈p,s.lits.1 < 512∧s.lits.2 < 512) :
  Calls Tryz.prog 127 #[.pointer (some ⟨b,o,none⟩),zCi s] w fun e w'=>e=.returned (zAj (zi (zM p s.first) (zM p s.second) s.var))∧Below w.heap.size w w':=by
 have hbw:=zAm hs;have hl1:=zAX p hb s.first;have hl2:=zAX p hb s.second;have HW:Hid (zi (zM p s.first) (zM p s.second) s.var=zAV ((zM p s.first).1 ||| (zM p s.second).1,(zM p s.first).2 ||| (zM p s.second).2) s.var):=zF rfl;obtain ⟨sr,sf,ss,sv,sl⟩:=s;obtain ⟨sl1,sl2⟩:=sl;dsimp only at *
 go_enter Tryz.func127,Tryz.ntmps127
 go_wp2_with fail;generalize hw0:((w.alloc (.cells #[.int .i64 (sr:Int),.int .i64 (sf:Int),.int .i64 (ss:Int),.int .i64 (sv:Int),.int .i64 (sl1:Int),.int .i64 (sl2:Int)] 134)).alloc (.cells #[.int .i64 0,.int .i64 0] 74))=u1;have hB:Below w.heap.size w u1:=(by rw [← hw0];exact ((Below.refl _ _).alloc (Nat.le_refl _) _).alloc (by simp) _);have hst:u1.heap[w.heap.size]?=some (.cells #[.int .i64 (sr:Int),.int .i64 (sf:Int),.int .i64 (ss:Int),.int .i64 (sv:Int),.int .i64 (sl1:Int),.int .i64 (sl2:Int)] 134 (0,0)):=(by rw [← hw0,heap_alloc_old _ _ (by simp)];exact zP (by simp));have hrs:u1.heap[w.heap.size + 1]?=some (.cells #[.int .i64 0,.int .i64 0] 74 (0,0)):=(by rw [← hw0];exact zP (by simp));clear hw0;obtain ⟨cst0,cst1,cst2,cst3,cst4,cst5⟩:=zAH hst;have lst:=zB hst;obtain ⟨crs0,crs1⟩:=zJ hrs;have lrs:=zB hrs;have hc:u1.cell? ⟨b,o + 1,none⟩=some vS:=(by rw [hB.cell (p:=⟨b,o + 1,none⟩) hbw];exact hs);have hbw2:b < u1.heap.size:=Nat.lt_of_lt_of_le hbw hB.size;refine (zBW base b o p vS sf _ hc (zO hown hB) hl).mono ?_;rintro e u2 ⟨rfl,b2⟩;replace hB:=hB.trans (b2.mono hB.size);replace hst:=zH b2 hst;clear cst0 cst1 cst2 cst3 cst4 cst5;obtain ⟨cst0,cst1,cst2,cst3,cst4,cst5⟩:=zAH hst;replace lst:=zB hst;replace hrs:=zH b2 hrs;clear crs0 crs1;obtain ⟨crs0,crs1⟩:=zJ hrs;replace lrs:=zB hrs;replace hc:u2.cell? ⟨b,o + 1,none⟩=some vS:=(by rw [hB.cell (p:=⟨b,o + 1,none⟩) hbw];exact hs);replace hbw2:b < u2.heap.size:=Nat.lt_of_lt_of_le hbw hB.size;generalize hea:zM p sf=a at *;have HEA:=zF hea;clear hea;obtain ⟨a1,a2⟩:=a;dsimp only at *;go_wp2_with fail;generalize hw0:u2.alloc (.cells #[.int .i64 (a1:Int),.int .i64 (a2:Int)] 74)=u3;have b3:Below u2.heap.size u2 u3:=(by rw [← hw0];exact (Below.refl _ _).alloc (Nat.le_refl _) _);have hfi:u3.heap[u2.heap.size]?=some (.cells #[.int .i64 (a1:Int),.int .i64 (a2:Int)] 74 (0,0)):=(by rw [← hw0];exact heap_alloc_new _ _);clear hw0;replace hB:=hB.trans (b3.mono hB.size);replace hst:=zH b3 hst;clear cst0 cst1 cst2 cst3 cst4 cst5;obtain ⟨cst0,cst1,cst2,cst3,cst4,cst5⟩:=zAH hst;replace lst:=zB hst;replace hrs:=zH b3 hrs;clear crs0 crs1;obtain ⟨crs0,crs1⟩:=zJ hrs;replace lrs:=zB hrs;replace hc:u3.cell? ⟨b,o + 1,none⟩=some vS:=(by rw [hB.cell (p:=⟨b,o + 1,none⟩) hbw];exact hs);replace hbw2:b < u3.heap.size:=Nat.lt_of_lt_of_le hbw hB.size;obtain ⟨cfi0,cfi1⟩:=zJ hfi;have lfi:=zB hfi;refine (zBW base b o p vS ss _ hc (zO hown hB) hl).mono ?_;rintro e u4 ⟨rfl,b4⟩;replace hB:=hB.trans (b4.mono hB.size);replace hst:=zH b4 hst;clear cst0 cst1 cst2 cst3 cst4 cst5;obtain ⟨cst0,cst1,cst2,cst3,cst4,cst5⟩:=zAH hst;replace lst:=zB hst;replace hrs:=zH b4 hrs;clear crs0 crs1;obtain ⟨crs0,crs1⟩:=zJ hrs;replace lrs:=zB hrs;replace hfi:=zH b4 hfi;clear cfi0 cfi1;obtain ⟨cfi0,cfi1⟩:=zJ hfi;replace lfi:=zB hfi;replace hc:u4.cell? ⟨b,o + 1,none⟩=some vS:=(by rw [hB.cell (p:=⟨b,o + 1,none⟩) hbw];exact hs);replace hbw2:b < u4.heap.size:=Nat.lt_of_lt_of_le hbw hB.size;generalize hea:zM p ss=a at *;have HEB:=zF hea;clear hea;obtain ⟨d1,d2⟩:=a;dsimp only at *;go_wp2_with fail;generalize hw0:u4.alloc (.cells #[.int .i64 (d1:Int),.int .i64 (d2:Int)] 74)=u5;have b5:Below u4.heap.size u4 u5:=(by rw [← hw0];exact (Below.refl _ _).alloc (Nat.le_refl _) _);have hse:u5.heap[u4.heap.size]?=some (.cells #[.int .i64 (d1:Int),.int .i64 (d2:Int)] 74 (0,0)):=(by rw [← hw0];exact heap_alloc_new _ _);clear hw0;replace hB:=hB.trans (b5.mono hB.size);replace hst:=zH b5 hst;clear cst0 cst1 cst2 cst3 cst4 cst5;obtain ⟨cst0,cst1,cst2,cst3,cst4,cst5⟩:=zAH hst;replace lst:=zB hst;replace hrs:=zH b5 hrs;clear crs0 crs1;obtain ⟨crs0,crs1⟩:=zJ hrs;replace lrs:=zB hrs;replace hfi:=zH b5 hfi;clear cfi0 cfi1;obtain ⟨cfi0,cfi1⟩:=zJ hfi;replace lfi:=zB hfi;replace hc:u5.cell? ⟨b,o + 1,none⟩=some vS:=(by rw [hB.cell (p:=⟨b,o + 1,none⟩) hbw];exact hs);replace hbw2:b < u5.heap.size:=Nat.lt_of_lt_of_le hbw hB.size;obtain ⟨cse0,cse1⟩:=zJ hse;have lse:=zB hse;refine (zPd a1 a2 d1 d2 _ hl1.1 hl1.2 hl2.1 hl2.2).mono ?_;rintro e u6 ⟨rfl,b6⟩;replace hB:=hB.trans (b6.mono hB.size);replace hst:=zH b6 hst;clear cst0 cst1 cst2 cst3 cst4 cst5;obtain ⟨cst0,cst1,cst2,cst3,cst4,cst5⟩:=zAH hst;replace lst:=zB hst;replace hrs:=zH b6 hrs;clear crs0 crs1;obtain ⟨crs0,crs1⟩:=zJ hrs;replace lrs:=zB hrs;replace hfi:=zH b6 hfi;clear cfi0 cfi1;obtain ⟨cfi0,cfi1⟩:=zJ hfi;replace lfi:=zB hfi;replace hse:=zH b6 hse;clear cse0 cse1;obtain ⟨cse0,cse1⟩:=zJ hse;replace lse:=zB hse;replace hc:u6.cell? ⟨b,o + 1,none⟩=some vS:=(by rw [hB.cell (p:=⟨b,o + 1,none⟩) hbw];exact hs);replace hbw2:b < u6.heap.size:=Nat.lt_of_lt_of_le hbw hB.size;have hu1:=zBD a1 d1 hl1.1 hl2.1;have hu2:=zBD a2 d2 hl1.2 hl2.2;generalize a1 ||| d1=pu at *;generalize a2 ||| d2=nu at *;go_wp2_with fail;generalize hw0:u6.alloc (.cells #[.int .i64 (pu:Int),.int .i64 (nu:Int)] 74)=u7;have b7:Below u6.heap.size u6 u7:=(by rw [← hw0];exact (Below.refl _ _).alloc (Nat.le_refl _) _);have hbo:u7.heap[u6.heap.size]?=some (.cells #[.int .i64 (pu:Int),.int .i64 (nu:Int)] 74 (0,0)):=(by rw [← hw0];exact heap_alloc_new _ _);clear hw0;replace hB:=hB.trans (b7.mono hB.size);replace hst:=zH b7 hst;clear cst0 cst1 cst2 cst3 cst4 cst5;obtain ⟨cst0,cst1,cst2,cst3,cst4,cst5⟩:=zAH hst;replace lst:=zB hst;replace hrs:=zH b7 hrs;clear crs0 crs1;obtain ⟨crs0,crs1⟩:=zJ hrs;replace lrs:=zB hrs;replace hfi:=zH b7 hfi;clear cfi0 cfi1;obtain ⟨cfi0,cfi1⟩:=zJ hfi;replace lfi:=zB hfi;replace hse:=zH b7 hse;clear cse0 cse1;obtain ⟨cse0,cse1⟩:=zJ hse;replace lse:=zB hse;replace hc:u7.cell? ⟨b,o + 1,none⟩=some vS:=(by rw [hB.cell (p:=⟨b,o + 1,none⟩) hbw];exact hs);replace hbw2:b < u7.heap.size:=Nat.lt_of_lt_of_le hbw hB.size;obtain ⟨cbo0,cbo1⟩:=zJ hbo;have lbo:=zB hbo;refine (zDu pu nu sv _ hu1 hu2).mono ?_;rintro e u8 ⟨rfl,b8⟩;replace hB:=hB.trans (b8.mono hB.size);replace hst:=zH b8 hst;clear cst0 cst1 cst2 cst3 cst4 cst5;obtain ⟨cst0,cst1,cst2,cst3,cst4,cst5⟩:=zAH hst;replace lst:=zB hst;replace hrs:=zH b8 hrs;clear crs0 crs1;obtain ⟨crs0,crs1⟩:=zJ hrs;replace lrs:=zB hrs;replace hfi:=zH b8 hfi;clear cfi0 cfi1;obtain ⟨cfi0,cfi1⟩:=zJ hfi;replace lfi:=zB hfi;replace hse:=zH b8 hse;clear cse0 cse1;obtain ⟨cse0,cse1⟩:=zJ hse;replace lse:=zB hse;replace hbo:=zH b8 hbo;clear cbo0 cbo1;obtain ⟨cbo0,cbo1⟩:=zJ hbo;replace lbo:=zB hbo;replace hc:u8.cell? ⟨b,o + 1,none⟩=some vS:=(by rw [hB.cell (p:=⟨b,o + 1,none⟩) hbw];exact hs);replace hbw2:b < u8.heap.size:=Nat.lt_of_lt_of_le hbw hB.size;have hlt:=zBh (pu,nu) sv ⟨hu1,hu2⟩;generalize zAV (pu,nu) sv=cw at *;obtain ⟨p',n'⟩:=cw;dsimp only at *;have z0:=zD hrs 0;have z1:=zD hrs 1;have hR:=zI (zI hrs 0 (.int .i64 (p':Int))) 1 (.int .i64 (n':Int));have j0:=zC hR 0;have j1:=zC hR 1;go_wp2_with fail;refine bodyPost_ret (v:=zAj (p',n')) (by simp [results,Tryz.results127,go_sem,j0,j1]) rfl ⟨by rw [zA HEA,zA HEB,zA HW],?_⟩;exact (hB.setCell (p:=⟨w.heap.size + 1,0,none⟩) (Nat.le_succ _) _).setCell (p:=⟨w.heap.size + 1,1,none⟩) (Nat.le_succ _) _
theorem zGQ (base b o:Nat) (q:QS) (kind:Nat) (vV vC:Value) (c:Nat × Nat) (w:World) (hk:w.cell? ⟨b,o,none⟩=some (.int .i64 kind)) (hoV:w.ownsRow base 139 2 vV q.vars.length (zd q.vars)) (hQ:QB q) (hc:c.1 < 512∧c.2 < 512) (hCf:∃ aC nC cC,vC=.slice aC nC cC) :
  Calls Tryz.prog 128 #[.pointer (some ⟨b,o,none⟩),.agg #[vV,vC],zAj c] w fun e w'=>e=.returned (zAj (zAR kind q.vars.reverse c))∧Below w.heap.size w w':=by
 obtain ⟨aV,cV,rfl⟩:=zN hoV;obtain ⟨aC,nC,cC,rfl⟩:=hCf;have hbw:=zAm hk;have hvl:=hQ.vl
 go_enter Tryz.func128,Tryz.ntmps128
 obtain ⟨p0,n0⟩:=c;go_wp2_with fail
 go_loopg [7] (q.vars.length + 1) (fun m i wx=>∃ (k p n:Nat),i=.int .i64 ((k:Int) - 1)∧k + 1≤m∧m≤k + 1∧k≤q.vars.length∧p < 512∧n < 512∧zAR kind q.vars.reverse (p0,n0)=zAR kind (q.vars.take k).reverse (p,n)∧Below w.heap.size w wx∧
   wx.heap[w.heap.size]?=some (.cells #[.slice aV q.vars.length cV,.slice aC nC cC] 60 (0,0))∧wx.heap[w.heap.size + 1]?=some (.cells #[.int .i64 p,.int .i64 n] 74 (0,0))∧wx.heap[w.heap.size + 2]?=some (.cells #[.int .i64 0,.int .i64 0] 74 (0,0)))
 case atStart=>exact ⟨q.vars.length,p0,n0,by go_num,by omega,by omega,by omega,hc.1,hc.2,by rw [List.take_length],(((Below.refl _ _).alloc (Nat.le_refl _) _).alloc (by simp) _).alloc (by simp;omega) _,by rw [heap_alloc_old _ _ (by simp;omega),heap_alloc_old _ _ (by simp)];exact heap_alloc_new _ _,by rw [heap_alloc_old _ _ (by simp)];exact zP (by simp),zP (by simp)⟩
 case round=>
  obtain ⟨k,p,n,rfl,hkm,hkm2,hkl,hp,hn,hred,hb,hfo,hset,hres⟩:=hrel;have HR:=zF hred;clear hred;have hv0:wr.cell? ⟨w.heap.size,0,none⟩=some (.slice aV q.vars.length cV):=zE hfo rfl;have hs0:wr.cell? ⟨w.heap.size + 1,0,none⟩=some (.int .i64 p):=zE hset rfl;have hs1:wr.cell? ⟨w.heap.size + 1,1,none⟩=some (.int .i64 n):=zE hset rfl;have hr0:wr.cell? ⟨w.heap.size + 2,0,none⟩=some (.int .i64 0):=zE hres rfl;have hr1:wr.cell? ⟨w.heap.size + 2,1,none⟩=some (.int .i64 0):=zE hres rfl;have hz0:=zD hset 0;have hz1:=zD hset 1;have hy0:=zD hres 0;have hy1:=zD hres 1;have hbs:=zB hres;have hbs0:w.heap.size < wr.heap.size:=(by omega);have hbs1:w.heap.size + 1 < wr.heap.size:=(by omega);have hbw1:b < wr.heap.size:=by omega
  cases k with
  | zero=>
   have HF:Hid (zAR kind q.vars.reverse (p0,n0)=(p,n)):=zF (by rw [zA HR];rfl);have hR:=zI (zI hres 0 (.int .i64 p)) 1 (.int .i64 n);have j0:=zC hR 0;have j1:=zC hR 1;go_wp2_with fail;refine bodyPost_ret (v:=zAj (p,n)) (by simp [results,Tryz.results128,go_sem,j0,j1]) rfl ⟨by rw [zA HF],?_⟩;exact (hb.setCell (p:=⟨w.heap.size + 2,0,none⟩) (by simp) _).setCell (p:=⟨w.heap.size + 2,1,none⟩) (by simp) _
  | succ k=>
   have hlt:k < q.vars.length:=(by omega);obtain ⟨g,cap,hVe,hg,hg',_,hcell⟩:=zS hoV (by omega);injection hVe with hVe _ hV2;subst hVe hV2;obtain ⟨ha,hb'⟩:=zCG q.vars k hlt;have hx0:wr.cell? ⟨g,k * 2,none⟩=some (.int .i64 (q.vars[k].1:Int)):=(by rw [hb.cell (p:=⟨g,k * 2,none⟩) hg'];exact hcell _ _ ha);have hx1:wr.cell? ⟨g,k * 2 + 1,none⟩=some (.bool q.vars[k].2):=(by rw [hb.cell (p:=⟨g,k * 2 + 1,none⟩) hg'];exact hcell _ _ hb');have hgw:g < wr.heap.size:=(by omega);have HST:=zF (zBs kind q.vars k hlt (p,n));clear hcell ha hb';generalize q.vars[k]=x at *;obtain ⟨vn,vu⟩:=x;dsimp only at *;go_wp2_with fail;refine (zEk p n vn _ hp hn).mono ?_;rintro e w2 ⟨rfl,hb2⟩;have hw2:Below wr.heap.size wr w2:=((Below.refl _ wr).alloc (Nat.le_refl _) _).trans (hb2.mono (by simp));have hsz2:=hw2.size;have hv2:w2.heap[wr.heap.size]?=some (.cells #[.int .i64 vn,.bool vu] 139 (0,0)):=(hb2.block _ (by simp)).trans (heap_alloc_new _ _);have hfo2:=(hw2.block _ hbs0).trans hfo;have hset2:=(hw2.block _ hbs1).trans hset;have hres2:=(hw2.block _ hbs).trans hres;have hbw2:Below w.heap.size w w2:=hb.trans (hw2.mono (by omega));rw [show ((p ||| n) &&& zAD vn != 0)=zs (p,n) vn from rfl]
   cases hh:zs (p,n) vn with
   | false=>
    have HF:Hid (zAR kind q.vars.reverse (p0,n0)=zAR kind (q.vars.take k).reverse (p,n)):=zF (by rw [zA HR,zA HST,hh];rfl);go_wp2_with fail
    go_roundg (gk - 1)
    case measure=>omega
    case rel=>exact ⟨k,p,n,by go_num,by omega,by omega,by omega,hp,hn,zA HF,hbw2,hfo2,hset2,hres2⟩
   | true=>
    have y2:w2.cell? ⟨b,o,none⟩=some (.int .i64 kind):=(by rw [hbw2.cell (p:=⟨b,o,none⟩) hbw];exact hk);obtain ⟨hc0,hc1⟩:=zJ hv2;go_wp2_with fail;refine (zHf b o kind vn vu w2 y2).mono ?_;rintro e w3 ⟨rfl,hb3⟩;have hv3:=zH hb3 hv2;have hfo3:=zH hb3 hfo2;have hset3:=zH hb3 hset2;have hres3:=zH hb3 hres2;have hbw3:Below w.heap.size w w3:=hbw2.trans (hb3.mono hbw2.size);have e0:w3.cell? ⟨w.heap.size + 1,0,none⟩=some (.int .i64 p):=zE hset3 rfl;have e1:w3.cell? ⟨w.heap.size + 1,1,none⟩=some (.int .i64 n):=zE hset3 rfl;have f0:w3.cell? ⟨w.heap.size + 2,0,none⟩=some (.int .i64 0):=zE hres3 rfl;have f1:w3.cell? ⟨w.heap.size + 2,1,none⟩=some (.int .i64 0):=zE hres3 rfl;have g0:w3.cell? ⟨wr.heap.size,0,none⟩=some (.int .i64 vn):=zE hv3 rfl;have z0:=zD hset3 0;have z1:=zD hset3 1;have y0:=zD hres3 0;have y1:=zD hres3 1
    cases hpv:zAl kind vu with
    | true=>
     have HF:Hid (zAR kind q.vars.reverse (p0,n0)=(p,n)):=zF (by rw [zA HR,zA HST,hh,hpv];rfl);have hR:=zI (zI hres3 0 (.int .i64 p)) 1 (.int .i64 n);have j0:=zC hR 0;have j1:=zC hR 1;go_wp2_with fail;refine bodyPost_ret (v:=zAj (p,n)) (by simp [results,Tryz.results128,go_sem,j0,j1]) rfl ⟨by rw [zA HF],?_⟩;exact (hbw3.setCell (p:=⟨w.heap.size + 2,0,none⟩) (by simp) _).setCell (p:=⟨w.heap.size + 2,1,none⟩) (by simp) _
    | false=>
     have HF:Hid (zAR kind q.vars.reverse (p0,n0)=zAR kind (q.vars.take k).reverse (zAV (p,n) vn)):=zF (by rw [zA HR,zA HST,hh,hpv];rfl);have hwl:=zBh (p,n) vn ⟨hp,hn⟩;go_wp2_with fail;refine (zDu p n vn w3 hp hn).mono ?_;rintro e w4 ⟨rfl,hb4⟩;have hfo4:=zH hb4 hfo3;have hset4:=zH hb4 hset3;have hres4:=zH hb4 hres3;have hbw4:Below w.heap.size w w4:=hbw3.trans (hb4.mono hbw3.size);have i0:w4.cell? ⟨w.heap.size + 1,0,none⟩=some (.int .i64 p):=zE hset4 rfl;have i1:w4.cell? ⟨w.heap.size + 1,1,none⟩=some (.int .i64 n):=zE hset4 rfl;have u0:=zD hset4 0;have u1:=zD hset4 1;generalize zAV (p,n) vn=cw at *;obtain ⟨p',n'⟩:=cw;go_wp2_with fail
     go_roundg (gk - 1)
     case measure=>omega
     case rel=>
      refine ⟨k,p',n',by go_num,by omega,by omega,by omega,hwl.1,hwl.2,zA HF,(hbw4.setCell (p:=⟨w.heap.size + 1,0,none⟩) (by simp) _).setCell (p:=⟨w.heap.size + 1,1,none⟩) (by simp) _,?_,zI (zI hset4 0 _) 1 _,?_⟩
      ·rw [Below.heap_setCell _ _ _ _ (by simp),Below.heap_setCell _ _ _ _ (by simp)];exact hfo4
      ·rw [Below.heap_setCell _ _ _ _ (by simp),Below.heap_setCell _ _ _ _ (by simp)];exact hres4
theorem zR {w:World} {base:Nat} {e:TypeId} {size:Nat} {v:Value} {n:Nat} {xs:List Value} (h:w.ownsRow base e size v n xs) {p:Addr} (hp:v.ownBlock≠some p.block) (u:Value):(w.setCell p u).ownsRow base e size v n xs:=by
 obtain ⟨h1,h2⟩:=h;refine ⟨h1,?_⟩
 rcases h2 with h2 | ⟨g,cap,cur,rfl,hg,hh,h3⟩
 ·exact Or.inl h2
 ·refine Or.inr ⟨g,cap,cur,rfl,hg,?_,h3⟩;rw [Below.heap_setCell _ _ _ _ (fun e=>hp (by subst e;rfl))];exact hh
theorem zT {w:World} {base:Nat} {e t:TypeId} {size:Nat} {v:Value} {n:Nat} {xs:List Value} {b:Nat} {c:Array Value} {fr:Nat × Nat} (h:w.ownsRow base e size v n xs) (hb:w.heap[b]?=some (.cells c t fr)) (hne:e≠t):v.ownBlock≠some b:=by
 rcases h.2 with ⟨rfl,_⟩ | ⟨g,cap,cur,rfl,hg,hh,h3⟩
 ·intro h;cases h
 ·intro h;injection h with h;subst h;rw [hh] at hb;injection hb with hb;injection hb with _ hb _;exact hne hb
theorem zY {T:Nat→Prop} {w w':World} {base:Nat} {e:TypeId} {size:Nat} {v:Value} {n:Nat} {xs:List Value} (h:w.ownsRow base e size v n xs) (ho:Only T w w') (hT:∀ k,v.ownBlock=some k→¬ T k):w'.ownsRow base e size v n xs:=by
 obtain ⟨h1,h2⟩:=h;refine ⟨h1,?_⟩
 rcases h2 with h2 | ⟨g,cap,cur,rfl,hg,hh,h3⟩
 ·exact Or.inl h2
 ·exact Or.inr ⟨g,cap,cur,rfl,hg,(ho.block g (zB hh) (hT g rfl)).trans hh,h3⟩
theorem zRI:(Tryz.prog.info? 134).map (fun i=>(i.zero,i.size,i.bytes))=some (some (.agg #[.int .i64 0,.int .i64 0,.int .i64 0,.int .i64 0,.int .i64 0,.int .i64 0]),6,48):=by kernel_rfl
def Moved (w:World) (v v':Value):Prop:=v'.ownBlock=v.ownBlock∨∃ k,v'.ownBlock=some k∧w.heap.size≤k
def zKg (base b o:Nat) (p:List Stp) (vS:Value) (s:Stp) (cells:Array Value) (t:TypeId) (w:World) (e:Ending) (w':World):Prop:=
 ∃ v',e=.returned (.int .i64 ((p.length:Int) + 1))∧w'.ownsRow base 134 6 v' (p.length + 1) (zAk (p ++ [s]))∧w'.heap[b]?=some (.cells (cells.setIfInBounds (o + 1) v') t (0,0))∧Only (fun k=>k=b∨vS.ownBlock=some k) w w'∧Moved w vS v'
theorem zCZ (base b o:Nat) (p:List Stp) (vS:Value) (s:Stp) (cells:Array Value) (t:TypeId) (w:World) (hfb:w.heap[b]?=some (.cells cells t (0,0))) (hcs:cells[o + 1]?=some vS) (ht:134≠t) (hown:w.ownsRow base 134 6 vS p.length (zAk p)) (hl:p.length≤1048576) (hbase:base≤w.heap.size) :
  Calls Tryz.prog 72 #[.pointer (some ⟨b,o,none⟩),zCi s] w fun e w'=>zKg base b o p vS s cells t w e w':=by
 obtain ⟨aS,cS,rfl⟩:=zN hown;have hbw:=zB hfb;have hne:=zT hown hfb ht;have hs:w.cell? ⟨b,o + 1,none⟩=some (.slice aS p.length cS):=(by rw [zC hfb];exact hcs);obtain ⟨sr,sf,ss,sv,sl⟩:=s;obtain ⟨sl1,sl2⟩:=sl;obtain ⟨i1,hi1,hz10,hz11,hz12⟩:=info_parts zRI
 go_enter Tryz.func72,Tryz.ntmps72
 go_wp2_with fail;generalize hw0:w.alloc (.cells #[.int .i64 (sr:Int),.int .i64 (sf:Int),.int .i64 (ss:Int),.int .i64 (sv:Int),.int .i64 (sl1:Int),.int .i64 (sl2:Int)] 134)=wz;have hB:Below w.heap.size w wz:=(by rw [← hw0];exact (Below.refl _ _).alloc (Nat.le_refl _) _);have hst:wz.heap[w.heap.size]?=some (.cells #[.int .i64 (sr:Int),.int .i64 (sf:Int),.int .i64 (ss:Int),.int .i64 (sv:Int),.int .i64 (sl1:Int),.int .i64 (sl2:Int)] 134 (0,0)):=(by rw [← hw0];exact heap_alloc_new _ _);clear hw0;have lst:=zB hst;obtain ⟨c0,c1,c2,c3,c4,c5⟩:=zAH hst;have hfz:=(hB.block _ hbw).trans hfb;have hsz:wz.cell? ⟨b,o + 1,none⟩=some (.slice aS p.length cS):=(by rw [zC hfz];exact hcs);have hfr:=zD hfz (o + 1);have hbz:=zB hfz;have hownz:=zO hown hB;have hbz0:base≤wz.heap.size:=Nat.le_trans hbase hB.size;have HPS:=zF (zKX p ⟨sr,sf,ss,sv,(sl1,sl2)⟩);have HNE:=zF hne;clear hne
 go_region_law (refine zDy rfl (.tmp 9) (.tmp 11) 65 rfl base 134 i1 (.agg #[.int .i64 0,.int .i64 0,.int .i64 0,.int .i64 0,.int .i64 0,.int .i64 0]) 6 48 Tryz.underlying65 hi1 hz10 hz11 hz12 rfl (by decide) (.slice aS p.length cS) p.length (zAk p) (hownz.alloc _).drew rfl ⟨wz.heap.size,0,none⟩ 1 1 [.int .i64 (sr:Int),.int .i64 (sf:Int),.int .i64 (ss:Int),.int .i64 (sv:Int),.int .i64 (sl1:Int),.int .i64 (sl2:Int)] rfl rfl (zBX wz [.int .i64 (sr:Int),.int .i64 (sf:Int),.int .i64 (ss:Int),.int .i64 (sv:Int),.int .i64 (sl1:Int),.int .i64 (sl2:Int)] 134) (by simp [Value.oneCell']) (by decide) (by unfold maxLen;omega) (by omega) (by simp;omega) ?_;intro v' w' hown' hgrow hmv;have hfb':w'.heap[b]?=some (.cells cells t (0,0)):=(hgrow.block b (by simp [World.drew];omega) (fun e=>zA HNE e.symm)).trans ((heap_alloc_old wz _ hbz).trans hfz);obtain ⟨g4,cap4,rfl,hg4,hg4',hcap4,hcell4⟩:=zS hown' (by omega);have hq3:w'.cell? ⟨b,o + 1,none⟩=some (.slice aS p.length cS):=(by rw [zC hfb'];exact hcs);have hqz:=zD hfb' (o + 1))
 all_goals
  have hlo:o + 1 < cells.size:=(Array.getElem?_eq_some_iff.1 hcs).1;have hset:=zI hfb' (o + 1) (.slice (some ⟨g4,0,none⟩) (p.length + 1) cap4);have hget:(w'.setCell ⟨b,o + 1,none⟩ (.slice (some ⟨g4,0,none⟩) (p.length + 1) cap4)).cell? ⟨b,o + 1,none⟩=some (.slice (some ⟨g4,0,none⟩) (p.length + 1) cap4):=(by rw [zC hset];simp [hlo]);have HO:=zF (zR hown' (p:=⟨b,o + 1,none⟩) (zT hown' hfb' ht) (.slice (some ⟨g4,0,none⟩) (p.length + 1) cap4));have HX:Hid (Only (fun k=>k=b∨(Value.slice aS p.length cS).ownBlock=some k) w w'):=zF ((((Only.of_below hB).alloc _).drew).grown hgrow (fun k hk=>Or.inl (Or.inr hk)));have HM:=zF hmv;clear hown' hmv hgrow hcell4 hownz;go_wp2_with fail;go_ret;refine ⟨_,zA7 (by omega),?_,hset,(zA HX).setCell (p:=⟨b,o + 1,none⟩) (Or.inl (Or.inl rfl)) _,?_⟩
  ·rw [zA HPS];exact zA HO
  ·rcases zA HM with h | ⟨k,h1,h2⟩
   ·exact Or.inl h
   ·exact Or.inr ⟨k,h1,by have:=hB.size;simp [World.drew] at h2;omega⟩
theorem zGw (base b:Nat) (q:QS) (vC:Value) (p0 n0:Nat) (w:World) (hc1:w.cell? ⟨b,1,none⟩=some vC) (hoC:w.ownsRow base 74 2 vC q.cl.length (zAK q.cl)) (hQ:QB q) (hp0:p0 < 512) (hn0:n0 < 512) :
  Calls Tryz.prog 117 #[.pointer (some ⟨b,0,none⟩),zAj (p0,n0)] w fun e w'=>e=.returned (.bool (zCD q.cl (p0,n0)))∧Below w.heap.size w w':=by
 have hbw:=zAm hc1;have hcl:=hQ.cl;have HCL:=zF hQ.bits;obtain ⟨aC,cC,rfl⟩:=zN hoC
 go_enter Tryz.func117,Tryz.ntmps117
 go_wp2_with fail
 go_loopg [13] (q.cl.length) (fun m i wx=>∃ k:Nat,i=.int .i64 k∧k + m=q.cl.length∧zCD (q.cl.take k) (p0,n0)=true∧Below w.heap.size w wx∧wx.heap[w.heap.size]?=some (.cells #[.int .i64 p0,.int .i64 n0] 74 (0,0)))
 case atStart=>exact ⟨0,rfl,by omega,rfl,(Below.refl _ _).alloc (Nat.le_refl _) _,heap_alloc_new _ _⟩
 case round=>
  obtain ⟨k,rfl,hk,hno,hb,hset⟩:=hrel;have HNO:=zF hno;clear hno;have hbs:=zB hset;have c0:wr.cell? ⟨w.heap.size,0,none⟩=some (.int .i64 p0):=zE hset rfl;have c1:wr.cell? ⟨w.heap.size,1,none⟩=some (.int .i64 n0):=zE hset rfl
  by_cases hlt:k < q.cl.length
  ·obtain ⟨g,cap,hV,hg,hg',_,hcell⟩:=zS hoC (by omega);injection hV with hV _ hV2;subst hV hV2;have hgw:g < wr.heap.size:=(by omega);obtain ⟨ha,hb'⟩:=zAc q.cl k hlt;have hx0:wr.cell? ⟨g,k * 2,none⟩=some (.int .i64 (q.cl[k].1:Int)):=(by rw [hb.cell (p:=⟨g,k * 2,none⟩) hg'];exact hcell _ _ ha);have hx1:wr.cell? ⟨g,k * 2 + 1,none⟩=some (.int .i64 (q.cl[k].2:Int)):=(by rw [hb.cell (p:=⟨g,k * 2 + 1,none⟩) hg'];exact hcell _ _ hb');have HT:=zF (zPn q.cl (p0,n0) k hlt);have hbd:=zA HCL _ (List.getElem_mem hlt);have HOF:=zF (zSO q.cl (p0,n0) k hlt);clear hcell ha hb';generalize q.cl[k]=c at *;obtain ⟨p,n⟩:=c;have HOK:Hid (okC (p,n) (p0,n0)=(((p &&& p0) ||| (n &&& n0) != 0) || (p &&& n != 0))):=zF rfl;go_wp2_with fail;refine (zEe p n p0 n0 _ hbd.1 hbd.2 hp0 hn0).mono ?_;rintro e w2 ⟨rfl,hb2⟩;have hA:Below wr.heap.size wr (wr.alloc (.cells #[.int .i64 (p:Int),.int .i64 (n:Int)] 74)):=(Below.refl _ _).alloc (Nat.le_refl _) _;have hb2':Below wr.heap.size wr w2:=hA.trans (hb2.mono hA.size);have hb3:Below w.heap.size w w2:=hb.trans (hb2'.mono hb.size);have hset2:=(hb2'.block _ hbs).trans hset;have hc2:=(hb2.block _ (by simp)).trans (heap_alloc_new wr (.cells #[.int .i64 (p:Int),.int .i64 (n:Int)] 74));have d0:w2.cell? ⟨wr.heap.size,0,none⟩=some (.int .i64 p):=zE hc2 rfl;have d1:w2.cell? ⟨wr.heap.size,1,none⟩=some (.int .i64 n):=zE hc2 rfl
   cases hh:((p &&& p0) ||| (n &&& n0) != 0) with
   | true=>
    have HO1:Hid (okC (p,n) (p0,n0)=true):=zF (by rw [zA HOK,hh];rfl);go_wp2_with fail
    go_roundg (gk - 1)
    case measure=>omega
    case rel=>exact ⟨k + 1,by go_num,by omega,by rw [zA HT,zA HNO,zA HO1];rfl,hb3,hset2⟩
   | false=>
    go_wp2_with fail;refine (zEE p n w2 hbd.1 hbd.2).mono ?_;rintro e w3 ⟨rfl,hb4⟩;have hb5:Below w.heap.size w w3:=hb3.trans (hb4.mono hb3.size);have hset3:=zH hb4 hset2
    cases hc:(p &&& n != 0) with
    | true=>
     have HO1:Hid (okC (p,n) (p0,n0)=true):=zF (by rw [zA HOK,hh,hc];rfl);go_wp2_with fail
     go_roundg (gk - 1)
     case measure=>omega
     case rel=>exact ⟨k + 1,by go_num,by omega,by rw [zA HT,zA HNO,zA HO1];rfl,hb5,hset3⟩
    | false=>
     have HF:=zF (zA HOF (by rw [zA HOK,hh,hc];rfl));go_wp2_with fail;go_ret;exact ⟨zAI (zA HF).symm,hb5⟩
  ·have hkl:k=q.cl.length:=(by omega);subst hkl;have hno:=zA HNO;rw [List.take_length] at hno;have HF:=zF hno;clear hno;go_wp2_with fail;go_ret;exact ⟨zAI (zA HF).symm,hb⟩
end Go.Proofs.YtgipjjhkhfihpaaGreatDoor
