import Derived.Test.YtgipjjhkhfihpaaGreatDoorKA
import Derived.Test.YtgipjjhkhfihpaaGreatDoorKB
import Derived.Test.YtgipjjhkhfihpaaGreatDoorKC
import Derived.Deep.QuietTactic
import Derived.BigQuiet
set_option maxRecDepth 100000
set_option maxHeartbeats 6400000
namespace Go.Proofs.YtgipjjhkhfihpaaGreatDoor
open Go.RowKit
abbrev zAj (c:Nat × Nat):Value:=.agg #[.int .i64 (c.1:Int),.int .i64 (c.2:Int)]
theorem zEL (a:Nat):((a:Int) != 0)=(a != 0):=by
 rw [Bool.eq_iff_iff,bne_iff_ne,bne_iff_ne];omega
theorem zML (a:Nat):((a:Int) == 0)=(a == 0):=by
 rw [Bool.eq_iff_iff,beq_iff_eq,beq_iff_eq];omega
theorem zOC (a b:Nat) (ha:a < 512):a &&& b < 512:=Nat.lt_of_le_of_lt Nat.and_le_left ha
theorem zDY (a b:Nat) (ha:a < 512):zb a b < 512:=Nat.lt_of_le_of_lt (zJ5 a b) ha
theorem zJg (x:Int) (w:World) (hx:-9223372036854775807≤x) (hx2:x≤9223372036854775807) :
  Calls Tryz.prog 112 #[.int .i64 x] w fun e w'=>e=.returned (.int .i64 (x.natAbs:Nat))∧w'=w:=by
 by_cases h:x < 0
 ·have hd:decide (x < 0)=true:=(by simpa using h);have hwx:IntKind.i64.wrap (-x)=-x:=by
   obtain ⟨m,hm⟩:=Int.eq_ofNat_of_zero_le (show 0≤-x by omega);rw [hm];exact zBa m (by omega)
  go_enter Tryz.func112,Tryz.ntmps112
  go_wp2_with fail;go_ret;exact ⟨zA7 (by omega),rfl⟩
 ·have hd:decide (x < 0)=false:=by simpa using h
  go_enter Tryz.func112,Tryz.ntmps112
  go_wp2_with fail;go_ret;exact ⟨zA7 (by omega),rfl⟩
theorem zEh (p n:Nat) (w:World) (hp:p < 512) (hn:n < 512) :
  Calls Tryz.prog 74 #[zAj (p,n)] w fun e w'=>e=.returned (.bool (p ||| n == 0))∧Below w.heap.size w w':=by
 have hor:bits .or .i64 (p:Int) (n:Int)=((p ||| n:Nat):Int):=zCK _ _ (by omega) (by omega);have HE:=zF (zML (p ||| n))
 go_enter Tryz.func74,Tryz.ntmps74
 go_wp2_with fail;go_ret;exact ⟨zAI (zA HE),(Below.refl _ _).alloc (Nat.le_refl _) _⟩
theorem zEE (p n:Nat) (w:World) (hp:p < 512) (hn:n < 512) :
  Calls Tryz.prog 124 #[zAj (p,n)] w fun e w'=>e=.returned (.bool (p &&& n != 0))∧Below w.heap.size w w':=by
 have hand:bits .and .i64 (p:Int) (n:Int)=((p &&& n:Nat):Int):=zBN _ _ (by omega) (by omega);have HE:=zF (zEL (p &&& n))
 go_enter Tryz.func124,Tryz.ntmps124
 go_wp2_with fail;go_ret;exact ⟨zAI (zA HE),(Below.refl _ _).alloc (Nat.le_refl _) _⟩
theorem zEe (p n p2 n2:Nat) (w:World) (hp:p < 512) (hn:n < 512) (hp2:p2 < 512) (hn2:n2 < 512) :
  Calls Tryz.prog 131 #[zAj (p,n),zAj (p2,n2)] w fun e w'=>e=.returned (.bool ((p &&& p2) ||| (n &&& n2) != 0))∧Below w.heap.size w w':=by
 have h1:bits .and .i64 (p:Int) (p2:Int)=((p &&& p2:Nat):Int):=zBN _ _ (by omega) (by omega);have h2:bits .and .i64 (n:Int) (n2:Int)=((n &&& n2:Nat):Int):=zBN _ _ (by omega) (by omega);have h3:bits .or .i64 ((p &&& p2:Nat):Int) ((n &&& n2:Nat):Int)=(((p &&& p2) ||| (n &&& n2):Nat):Int):=zCK _ _ (by have:=zOC p p2 hp;omega) (by have:=zOC n n2 hn;omega);have HE:=zF (zEL ((p &&& p2) ||| (n &&& n2)))
 go_enter Tryz.func131,Tryz.ntmps131
 go_wp2_with fail;go_ret;exact ⟨zAI (zA HE),((Below.refl _ _).alloc (Nat.le_refl _) _).alloc (by simp) _⟩
def zj (c:Nat × Nat) (x:Int):Bool:=if x < 0 then c.2 &&& zAD (-x) != 0 else c.1 &&& zAD x != 0
theorem zCw (p n:Nat) (x:Int) (w:World) (hp:p < 512) (hn:n < 512) (hx:-9223372036854775807≤x) (hx2:x≤9223372036854775807) :
  Calls Tryz.prog 87 #[zAj (p,n),.int .i64 x] w fun e w'=>e=.returned (.bool (zj (p,n) x))∧Below w.heap.size w w':=by
 by_cases h:x < 0
 ·have HW:Hid (zj (p,n) x=(n &&& zAD (-x) != 0)):=zF (by unfold zj;rw [if_pos h]);have hd:decide (x < 0)=true:=(by simpa using h);have hwx:IntKind.i64.wrap (-x)=-x:=by
   obtain ⟨m,hm⟩:=Int.eq_ofNat_of_zero_le (show 0≤-x by omega);rw [hm];exact zBa m (by omega)
  have hand:bits .and .i64 (n:Int) (zAD (-x):Nat)=((n &&& zAD (-x):Nat):Int):=zBN _ _ (by omega) (by have:=zCn (-x);omega);have HE:=zF (zEL (n &&& zAD (-x)))
  go_enter Tryz.func87,Tryz.ntmps87
  go_wp2_with fail
  go_quiet ((go_at_call 108;exact Calls.quiet_of_same (zFc _ _)))
  go_wp2_with fail;go_ret;exact ⟨zAI (by rw [zA HW];exact zA HE),below_drewN ((Below.refl _ _).alloc (Nat.le_refl _) _) nq⟩
 ·have HW:Hid (zj (p,n) x=(p &&& zAD x != 0)):=zF (by unfold zj;rw [if_neg h]);have hd:decide (x < 0)=false:=(by simpa using h);have hand:bits .and .i64 (p:Int) (zAD x:Nat)=((p &&& zAD x:Nat):Int):=zBN _ _ (by omega) (by have:=zCn x;omega);have HE:=zF (zEL (p &&& zAD x))
  go_enter Tryz.func87,Tryz.ntmps87
  go_wp2_with fail
  go_quiet ((go_at_call 108;exact Calls.quiet_of_same (zFc _ _)))
  go_wp2_with fail;go_ret;exact ⟨zAI (by rw [zA HW];exact zA HE),below_drewN ((Below.refl _ _).alloc (Nat.le_refl _) _) nq⟩
theorem zPd (p n p2 n2:Nat) (w:World) (hp:p < 512) (hn:n < 512) (hp2:p2 < 512) (hn2:n2 < 512) :
  Calls Tryz.prog 139 #[zAj (p,n),zAj (p2,n2)] w fun e w'=>e=.returned (zAj (p ||| p2,n ||| n2))∧Below w.heap.size w w':=by
 have h1:bits .or .i64 (p:Int) (p2:Int)=((p ||| p2:Nat):Int):=zCK _ _ (by omega) (by omega);have h2:bits .or .i64 (n:Int) (n2:Int)=((n ||| n2:Nat):Int):=zCK _ _ (by omega) (by omega)
 go_enter Tryz.func139,Tryz.ntmps139
 go_wp2_with fail;refine bodyPost_ret (v:=zAj (p ||| p2,n ||| n2)) (by simp [results,Tryz.results139,go_sem]) rfl ⟨rfl,?_⟩;exact ((((Below.refl _ _).alloc (Nat.le_refl _) _).alloc (by simp) _)).alloc (by simp;omega) _
def zAV (c:Nat × Nat) (v:Int):Nat × Nat:=(zb c.1 (zAD v),zb c.2 (zAD v))
theorem zDu (p n:Nat) (v:Int) (w:World) (hp:p < 512) (hn:n < 512) :
  Calls Tryz.prog 140 #[zAj (p,n),.int .i64 v] w fun e w'=>e=.returned (zAj (zAV (p,n) v))∧Below w.heap.size w w':=by
 have hb:=zCn v;have h1:bits .andNot .i64 (p:Int) (zAD v:Nat)=((zb p (zAD v):Nat):Int):=zBJ _ _ (by omega) (by omega);have h2:bits .andNot .i64 (n:Int) (zAD v:Nat)=((zb n (zAD v):Nat):Int):=zBJ _ _ (by omega) (by omega)
 go_enter Tryz.func140,Tryz.ntmps140
 go_wp2_with fail;refine (zFc _ _).mono ?_;rintro e w1 ⟨rfl,rfl⟩;go_wp2_with fail;refine bodyPost_ret (v:=zAj (zAV (p,n) v)) (by simp [results,Tryz.results140,go_sem,zAV]) rfl ⟨rfl,?_⟩;exact (((Below.refl _ _).alloc (Nat.le_refl _) _).alloc (by simp) _)
structure QB (q:QS):Prop where
 vl:q.vars.length≤8
 cl:q.cl.length≤24
 bits:∀ c∈q.cl,c.1 < 512∧c.2 < 512
 names:∀ x∈q.vars,1≤x.1∧x.1≤8
def zAl (kind:Nat) (u:Bool):Bool:=u == (kind == 2)
def zs (c:Nat × Nat) (v:Nat):Bool:=(c.1 ||| c.2) &&& zAD v != 0
def zAR (kind:Nat):List (Nat × Bool)→Nat × Nat→Nat × Nat
 | [],c=>c
 | v :: vs,c=>if zs c v.1 then (if zAl kind v.2 then c else zAR kind vs (zAV c v.1)) else zAR kind vs c
theorem zBh (c:Nat × Nat) (v:Int) (h:c.1 < 512∧c.2 < 512):(zAV c v).1 < 512∧(zAV c v).2 < 512:=⟨zDY _ _ h.1,zDY _ _ h.2⟩
theorem zH3 (kind:Nat) (vs:List (Nat × Bool)):∀ (c:Nat × Nat),c.1 < 512∧c.2 < 512→(zAR kind vs c).1 < 512∧(zAR kind vs c).2 < 512:=by
 induction vs with
 | nil=>intro c h;exact h
 | cons v vs ih=>
  intro c h;rw [zAR]
  split
  ·split
   ·exact h
   ·exact ih _ (zBh _ _ h)
  ·exact ih _ h
theorem zBs (kind:Nat) (vs:List (Nat × Bool)) (k:Nat) (h:k < vs.length) (c:Nat × Nat) :
  zAR kind (vs.take (k + 1)).reverse c=if zs c vs[k].1 then (if zAl kind vs[k].2 then c else zAR kind (vs.take k).reverse (zAV c vs[k].1)) else zAR kind (vs.take k).reverse c:=by
 rw [List.take_succ_eq_append_getElem h,List.reverse_append];rfl
def zi (a b:Nat × Nat) (v:Nat):Nat × Nat:=zAV (a.1 ||| b.1,a.2 ||| b.2) v
def okC (x c:Nat × Nat):Bool:=((x.1 &&& c.1) ||| (x.2 &&& c.2) != 0) || (x.1 &&& x.2 != 0)
def zCD (cl:List (Nat × Nat)) (c:Nat × Nat):Bool:=cl.all (okC · c)
theorem zPn (cl:List (Nat × Nat)) (c:Nat × Nat) (k:Nat) (h:k < cl.length):zCD (cl.take (k + 1)) c=(zCD (cl.take k) c && okC cl[k] c):=by
 unfold zCD;rw [List.take_succ_eq_append_getElem h,List.all_append];simp
theorem zSO (cl:List (Nat × Nat)) (c:Nat × Nat) (k:Nat) (h:k < cl.length) (hc:okC cl[k] c=false):zCD cl c=false:=by
 unfold zCD;rw [List.all_eq_false];exact ⟨cl[k],List.getElem_mem h,by rw [hc];decide⟩
structure Stp where
 rule:Nat
 first:Nat
 second:Nat
 var:Nat
 lits:Nat × Nat
def zM (p:List Stp) (n:Nat):Nat × Nat:=if n=0 then (0,0) else match p[n - 1]? with
 | some s=>s.lits
 | none=>(0,0)
def zAk (l:List Stp):List Value:=l.flatMap (fun s=>[Value.int .i64 (s.rule:Int),Value.int .i64 (s.first:Int),Value.int .i64 (s.second:Int),Value.int .i64 (s.var:Int),Value.int .i64 (s.lits.1:Int),Value.int .i64 (s.lits.2:Int)])
theorem zKX (l:List Stp) (s:Stp):zAk (l ++ [s])=zAk l ++ [Value.int .i64 (s.rule:Int),Value.int .i64 (s.first:Int),Value.int .i64 (s.second:Int),Value.int .i64 (s.var:Int),Value.int .i64 (s.lits.1:Int),Value.int .i64 (s.lits.2:Int)]:=by simp [zAk]
theorem zh (l:List Stp) (k j:Nat) (h:k < l.length) (hj:j < 6):(zAk l)[k * 6 + j]?=[Value.int .i64 (l[k].rule:Int),Value.int .i64 (l[k].first:Int),Value.int .i64 (l[k].second:Int),Value.int .i64 (l[k].var:Int),Value.int .i64 (l[k].lits.1:Int),Value.int .i64 (l[k].lits.2:Int)][j]?:=by
 induction l generalizing k with
 | nil=>simp at h
 | cons a l ih=>
  cases k with
  | zero=>
   simp only [zAk,List.flatMap_cons,Nat.zero_mul,Nat.zero_add,List.getElem_cons_zero];rw [List.getElem?_append_left (by simpa using hj)]
  | succ k=>
   have:=ih k (by simpa using h)
   simp only [zAk,List.flatMap_cons] at this ⊢;rw [show (k + 1) * 6 + j=(k * 6 + j) + 6 from by omega,List.getElem?_append_right (by simp)]
   simpa using this
theorem zBU (p:List Stp) (m:Nat) (h:m < p.length):zM p (m + 1)=p[m].lits:=by
 unfold zM;rw [if_neg (by omega),Nat.add_sub_cancel,List.getElem?_eq_getElem h]
theorem zE4 (p:List Stp) (n:Nat) (h:n < 1∨p.length < n):zM p n=(0,0):=by
 unfold zM
 split
 ·rfl
 ·rw [List.getElem?_eq_none (by omega)]
theorem zAX (p:List Stp) (h:∀ s∈p,s.lits.1 < 512∧s.lits.2 < 512) (n:Nat):(zM p n).1 < 512∧(zM p n).2 < 512:=by
 unfold zM
 split
 ·exact ⟨by decide,by decide⟩
 ·split
  ·next s hs=>exact h s (List.mem_of_getElem? hs)
  ·exact ⟨by decide,by decide⟩
end Go.Proofs.YtgipjjhkhfihpaaGreatDoor
namespace Go.Proofs.YtgipjjhkhfihpaaGreatDoor
def zA5 (sat:Nat→Bool) (all:Nat):List Nat→Nat→Bool
 | [],t=>sat t
 | v :: vs,t=>if zA5 sat all vs (t ||| 2 ^ v) != all.testBit v then zA5 sat all vs (t ||| 2 ^ v) else zA5 sat all vs t
def Hit (val:Bool) (c:Nat × Nat) (t:Nat):Prop:=∃ v,(c.1.testBit v=true∧t.testBit v=val)∨(c.2.testBit v=true∧t.testBit v=!val)
def Plays (sat:Nat→Bool) (all:Nat) (val:Bool):List Nat→Nat→Nat→Prop
 | [],t0,t=>sat t0=val∧t=t0
 | v :: vs,t0,t=>zA5 sat all (v :: vs) t0=val∧∃ b:Bool,Plays sat all val vs (if b then t0 ||| 2 ^ v else t0) t
section
variable {sat:Nat→Bool} {all:Nat} {val:Bool}
theorem Plays.from {vs:List Nat} {t0 t:Nat} (h:Plays sat all val vs t0 t):zA5 sat all vs t0=val:=by
 cases vs with
 | nil=>exact h.1
 | cons v vs=>exact h.1
theorem zO4 {v:Nat} {vs:List Nat} {t:Nat} (h:zA5 sat all (v :: vs) t=val) (hk:all.testBit v=val) (b:Bool):zA5 sat all vs (if b then t ||| 2 ^ v else t)=val:=by
 rw [zA5,hk] at h
 cases ha:zA5 sat all vs (t ||| 2 ^ v)<;>cases hv:val<;>cases b<;>simp_all
theorem zQU {v:Nat} {vs:List Nat} {t:Nat} (h:zA5 sat all (v :: vs) t=val):∃ b:Bool,zA5 sat all vs (if b then t ||| 2 ^ v else t)=val:=by
 rw [zA5] at h
 split at h
 ·exact ⟨true,h⟩
 ·exact ⟨false,h⟩
theorem zFR (t v u:Nat):(t ||| 2 ^ v).testBit u=(t.testBit u || decide (v=u)):=by rw [Nat.testBit_or,Nat.testBit_two_pow]
theorem zIn (b:Bool) (t v u:Nat) (h:u≠v):(if b then t ||| 2 ^ v else t).testBit u=t.testBit u:=by
 cases b with
 | false=>rfl
 | true=>rw [if_pos rfl,zFR];simp [Ne.symm h]
theorem zSP (b:Bool) (t v:Nat) (h:t.testBit v=false):(if b then t ||| 2 ^ v else t).testBit v=b:=by
 cases b with
 | false=>exact h
 | true=>rw [if_pos rfl,zFR];simp
theorem Plays.stays:∀ {vs:List Nat} {t0 t:Nat},Plays sat all val vs t0 t→∀ u,u∉vs→t.testBit u=t0.testBit u:=by
 intro vs
 induction vs with
 | nil=>intro t0 t h u _;rw [h.2]
 | cons v vs ih=>
  intro t0 t h u hu;obtain ⟨_,b,h⟩:=h;rw [List.mem_cons,not_or] at hu;rw [ih h u hu.2,zIn _ _ _ _ hu.1]
theorem zJh (f:Nat→Bool):∀ (vs:List Nat) (t0:Nat),zA5 sat all vs t0=val→vs.Nodup→(∀ v∈vs,t0.testBit v=false)→∃ t,Plays sat all val vs t0 t∧∀ v∈vs,all.testBit v=val→t.testBit v=f v:=by
 intro vs
 induction vs with
 | nil=>intro t0 h _ _;exact ⟨t0,⟨h,rfl⟩,by simp⟩
 | cons v vs ih=>
  intro t0 h hn h0;rw [List.nodup_cons] at hn;have hstep:∃ b:Bool,zA5 sat all vs (if b then t0 ||| 2 ^ v else t0)=val∧(all.testBit v=val→b=f v):=by
   by_cases hk:all.testBit v=val
   ·exact ⟨f v,zO4 h hk _,fun _=>rfl⟩
   ·obtain ⟨b,hb⟩:=zQU h;exact ⟨b,hb,fun e=>absurd e hk⟩
  obtain ⟨b,hb,hf⟩:=hstep;obtain ⟨t,hp,ht⟩:=ih _ hb hn.2 (fun u hu=>by
   rw [zIn b t0 v u (fun e=>hn.1 (by rw [← e];exact hu))];exact h0 u (by simp [hu]))
  refine ⟨t,⟨h,b,hp⟩,fun u hu hk=>?_⟩
  rcases List.mem_cons.1 hu with rfl | hu
  ·rw [hp.stays u hn.1,zSP _ _ _ (h0 u (by simp))];exact hf hk
  ·exact ht u hu hk
theorem zJL (vs:List Nat) (t0:Nat) (h:zA5 sat all vs t0=val) (hn:vs.Nodup) (h0:∀ v∈vs,t0.testBit v=false):∃ t,Plays sat all val vs t0 t:=by
 obtain ⟨t,ht,_⟩:=zJh (fun _=>false) vs t0 h hn h0;exact ⟨t,ht⟩
theorem Plays.cut:∀ {a b:List Nat} {t0 t:Nat},Plays sat all val (a ++ b) t0 t→∃ t1,Plays sat all val b t1 t∧(∀ t',Plays sat all val b t1 t'→Plays sat all val (a ++ b) t0 t')∧(∀ u,u∉a→t1.testBit u=t0.testBit u):=by
 intro a
 induction a with
 | nil=>intro b t0 t h;exact ⟨t0,h,fun t' h'=>h',fun u _=>rfl⟩
 | cons v a ih=>
  intro b t0 t h;obtain ⟨h1,c,h2⟩:=h;obtain ⟨t1,h3,h4,h5⟩:=ih h2;refine ⟨t1,h3,fun t' h'=>⟨h1,c,h4 t' h'⟩,fun u hu=>?_⟩;rw [List.mem_cons,not_or] at hu;rw [h5 u hu.2,zIn _ _ _ _ hu.1]
theorem Plays.leaf:∀ {vs:List Nat} {t0 t:Nat},Plays sat all val vs t0 t→sat t=val:=by
 intro vs
 induction vs with
 | nil=>intro t0 t h;rw [h.2];exact h.1
 | cons v vs ih=>intro t0 t h;obtain ⟨_,b,h⟩:=h;exact ih h
structure zEy (sat:Nat→Bool) (all:Nat) (val:Bool) (order:List Nat) (c:Nat × Nat):Prop where
 apart:∀ v,c.1.testBit v=true→c.2.testBit v=true→False
 vars:∀ v,c.1.testBit v=true∨c.2.testBit v=true→v∈order
 hits:∀ t,Plays sat all val order 0 t→Hit val c t
theorem zJ2 {pre suf:List Nat} {c c':Nat × Nat} (hg:zEy sat all val (pre ++ suf) c) (hn:(pre ++ suf).Nodup)
  (hlast:∀ v∈suf,c.1.testBit v=true∨c.2.testBit v=true→all.testBit v=val)
  (h1:∀ v,c'.1.testBit v=(c.1.testBit v && !(decide (v∈suf) && (all.testBit v == val)))) (h2:∀ v,c'.2.testBit v=(c.2.testBit v && !(decide (v∈suf) && (all.testBit v == val)))):zEy sat all val (pre ++ suf) c':=by
 have s1:∀ v,c'.1.testBit v=true→c.1.testBit v=true:=fun v h=>by rw [h1,Bool.and_eq_true] at h;exact h.1
 have s2:∀ v,c'.2.testBit v=true→c.2.testBit v=true:=fun v h=>by rw [h2,Bool.and_eq_true] at h;exact h.1
 refine ⟨fun v a b=>hg.apart v (s1 v a) (s2 v b),fun v h=>hg.vars v (h.elim (fun h=>Or.inl (s1 v h)) (fun h=>Or.inr (s2 v h))),fun t ht=>?_⟩;obtain ⟨t1,h3,h4,h5⟩:=ht.cut;rw [List.nodup_append] at hn;obtain ⟨hn1,hn2,hn3⟩:=hn;have hz:∀ v∈suf,t1.testBit v=false:=fun v hv=>by
  rw [h5 v (fun hp=>hn3 v hp v hv rfl)];simp
 obtain ⟨t',hp',hf'⟩:=zJh (fun v=>if c.1.testBit v then !val else val) suf t1 h3.from hn2 hz
 obtain ⟨v,hv⟩:=hg.hits t' (h4 t' hp');have hvo:v∈pre ++ suf:=hg.vars v (hv.elim (fun h=>Or.inl h.1) (fun h=>Or.inr h.1))
 by_cases hs:v∈suf
 ·have hk:=hlast v hs (hv.elim (fun h=>Or.inl h.1) (fun h=>Or.inr h.1));have hb:=hf' v hs hk
  rcases hv with ⟨a,b⟩ | ⟨a,b⟩
  ·rw [b,a,if_pos rfl] at hb
   cases val<;>cases hb
  ·have hc1:c.1.testBit v=false:=by
    cases h:c.1.testBit v with
    | false=>rfl
    | true=>exact (hg.apart v h a).elim
   rw [b,hc1,if_neg (by decide)] at hb
   cases val<;>cases hb
 ·have e1:t'.testBit v=t.testBit v:=(by rw [hp'.stays v hs,h3.stays v hs]);refine ⟨v,?_⟩;rw [h1,h2,← e1]
  simpa [hs] using hv
theorem zJE {order:List Nat} {a b c:Nat × Nat} {p:Nat} (ha:zEy sat all val order a) (hb:zEy sat all val order b) (_hap:a.1.testBit p=true) (_hbp:b.2.testBit p=true)
  (h1:∀ v,c.1.testBit v=((a.1.testBit v && !(decide (v=p))) || b.1.testBit v)) (h2:∀ v,c.2.testBit v=(a.2.testBit v || (b.2.testBit v && !(decide (v=p)))))
  (hc:∀ v,c.1.testBit v=true→c.2.testBit v=true→False):zEy sat all val order c:=by
 refine ⟨hc,fun v h=>?_,fun t ht=>?_⟩
 ·rw [h1,h2] at h;simp at h
  rcases h with (h | h) | (h | h)
  ·exact ha.vars v (Or.inl h.1)
  ·exact hb.vars v (Or.inl h)
  ·exact ha.vars v (Or.inr h)
  ·exact hb.vars v (Or.inr h.1)
 ·obtain ⟨v,hv⟩:=ha.hits t ht;obtain ⟨u,hu⟩:=hb.hits t ht
  rcases hv with ⟨x,y⟩ | ⟨x,y⟩
  ·by_cases hvp:v=p
   ·subst hvp
    rcases hu with ⟨x',y'⟩ | ⟨x',y'⟩
    ·exact ⟨u,Or.inl ⟨by rw [h1];simp [x'],y'⟩⟩
    ·by_cases hup:u=v
     ·subst hup;rw [y] at y'
      cases val<;>cases y'
     ·exact ⟨u,Or.inr ⟨by rw [h2];simp [x',hup],y'⟩⟩
   ·exact ⟨v,Or.inl ⟨by rw [h1];simp [x,hvp],y⟩⟩
  ·exact ⟨v,Or.inr ⟨by rw [h2];simp [x],y⟩⟩
theorem zNN {order:List Nat} {c:Nat × Nat} (hg:zEy sat all val order c) (hn:order.Nodup) (h1:c.1=0) (h2:c.2=0):zA5 sat all order 0=!val:=by
 by_cases h:zA5 sat all order 0=val
 ·obtain ⟨t,ht⟩:=zJL order 0 h hn (fun v _=>by simp);obtain ⟨v,hv⟩:=hg.hits t ht;rw [h1,h2] at hv;simp at hv
 ·cases val<;>cases hh:zA5 sat all order 0<;>simp_all
end
end Go.Proofs.YtgipjjhkhfihpaaGreatDoor
namespace Go.Proofs.YtgipjjhkhfihpaaGreatDoor
open Go.RowKit
def cnt (w:List UInt8) (most:Nat):Nat:=if w.all zAU=true∧w.length≤6∧w.head?≠some 48∧dec w≤most then dec w else 0
def big:Nat:=1048576
def zGX (c:Nat × Nat) (v:Nat):Bool:=(c.1 ||| c.2).testBit v
def zAS (order:List Nat) (kind:Nat) (c:Nat × Nat):Nat→Nat
 | 0=>0
 | k + 1=>if zGX c (order.getD k 0) && !kind.testBit (order.getD k 0) then k + 1 else zAS order kind c k
def clr (kind:Nat) (c:Nat × Nat) (v:Nat):Nat × Nat:=if kind.testBit v then (zb c.1 (2 ^ v),zb c.2 (2 ^ v)) else c
def zHu (order:List Nat) (kind:Nat) (c:Nat × Nat):Nat × Nat:=(order.drop (zAS order kind c order.length)).foldl (clr kind) c
def zBt (c:Nat × Nat):Option (Nat × Nat):=if c.1 &&& c.2=0 then some c else none
def axR (F:zv) (k:Nat):Option (Nat × Nat):=if k < 1∨F.cl.length < k then none else zBt (F.cl.getD (k - 1) (0,0))
def zAL (w:List UInt8):Nat:=if dig w=0 then (dig w.tail).toNat else (dig w).toNat
def zAe (order:List Nat):Nat × Nat→Nat→List (List UInt8)→Option (Nat × Nat)
 | c,_,[]=>some c
 | c,last,w :: ws=>if (zk c w).2=true∧last < zAL w∧zAL w∈order then zAe order (zk c w).1 (zAL w) ws else none
def zEO (x c:Nat × Nat):Bool:=(x.1 &&& x.2 == 0) && ((x.1 &&& c.1 == 0) && (x.2 &&& c.2 == 0))
def zFm (cl:List (Nat × Nat)) (c:Nat × Nat):Bool:=cl.all (fun x=>!zEO x c)
def zDH (F:zv) (tl:List (List UInt8)):Option (Nat × Nat):=(zAe F.order (0,0) 0 tl).bind (fun c=>if zFm F.cl c then some c else none)
def zCL (a b:Nat × Nat) (v:Nat):Nat × Nat:=(zb a.1 (2 ^ v) ||| b.1,a.2 ||| zb b.2 (2 ^ v))
def zF7 (F:zv) (truth:Bool) (ss:List (Nat × Nat)) (i j v:Nat):Option (Nat × Nat):=
 if i < 1∨ss.length < i∨j < 1∨ss.length < j∨v < 1∨8 < v then none else
 if F.all.testBit v≠truth∨(ss.getD (i - 1) (0,0)).1.testBit v=false∨(ss.getD (j - 1) (0,0)).2.testBit v=false then none else
 zBt (zCL (ss.getD (i - 1) (0,0)) (ss.getD (j - 1) (0,0)) v)
def zCa (F:zv) (truth:Bool):Nat:=if truth then zb 510 F.all else F.all
def zCv (F:zv) (truth:Bool) (ss:List (Nat × Nat)) (i:Nat):Option (Nat × Nat):=
 if i < 1∨ss.length < i then none else some (zHu F.order (zCa F truth) (ss.getD (i - 1) (0,0)))
def zo (F:zv) (truth:Bool) (ss:List (Nat × Nat)) (hd:List UInt8) (tl:List (List UInt8)):Option (Nat × Nat):=
 if hd=[97]∧truth=false∧tl.length=1 then axR F (cnt (tl.getD 0 []) big)
 else if hd=[99]∧truth=true then zDH F tl
 else if hd=[114]∧tl.length=3 then zF7 F truth ss (cnt (tl.getD 0 []) big) (cnt (tl.getD 1 []) big) (cnt (tl.getD 2 []) big)
 else if hd=[100]∧tl.length=1 then zCv F truth ss (cnt (tl.getD 0 []) big)
 else none
def zDZ (F:zv) (truth:Bool) (ss:List (Nat × Nat)) (row:List UInt8):Option (Nat × Nat):=
 match zZ 32 row with
 | []=>none
 | hd :: tl=>if ss.length=9000 then none else zo F truth ss hd tl
theorem zH9 (F:zv) (truth:Bool) (ss:List (Nat × Nat)) (row hd:List UInt8) (tl:List (List UInt8)) (h:zZ 32 row=hd :: tl):zDZ F truth ss row=if ss.length=9000 then none else zo F truth ss hd tl:=by
 unfold zDZ;rw [h]
def zC3 (F:zv) (truth:Bool):List (Nat × Nat)→Nat→List (List UInt8)→List (Nat × Nat) ⊕ Nat
 | ss,_,[]=>.inl ss
 | ss,n,r :: rs=>match zDZ F truth ss r with
  | none=>.inr (n + 1)
  | some c=>zC3 F truth (ss ++ [c]) (n + 1) rs
def zFp (row:List UInt8):Bool:=(zZ 32 row).head? == some [114]
def zJ0 (rs:List (List UInt8)):Nat:=(rs.filter zFp).length
def zA4:List UInt8:=[112,114,111,111,102,32,116,114,117,101]
def zCS:List UInt8:=[112,114,111,111,102,32,102,97,108,115,101]
def zCX (ss:List (Nat × Nat)):Bool:=match ss.getLast? with
 | none=>false
 | some c=>c.1 ||| c.2 == 0
def zw (F:zv) (l:List UInt8):(Nat × Nat) ⊕ (Bool × Nat):=
 if 262144 < l.length then .inl (1,0) else
 match (zU 10 l).1 with
 | []=>.inl (5,1)
 | r0 :: rs=>if r0=zA4∨r0=zCS then
   match zC3 F (r0 == zA4) [] 1 rs with
   | .inr i=>.inl (5,i)
   | .inl ss=>if (zU 10 l).2=[]∧zCX ss=true then .inr (r0 == zA4,zJ0 rs) else .inl (5,rs.length + 2)
  else .inl (5,1)
def Bd (c:Nat × Nat):Prop:=c.1 < 512∧c.2 < 512
theorem zDl (a b:Nat) (h:a < 512):zb a b < 512:=Nat.lt_of_le_of_lt (zJ5 a b) h
theorem zSw (kind:Nat) (c:Nat × Nat) (v:Nat) (h:Bd c):Bd (clr kind c v):=by
 unfold clr;split
 ·exact ⟨zDl _ _ h.1,zDl _ _ h.2⟩
 ·exact h
theorem zN4 (kind:Nat) (l:List Nat):∀ c,Bd c→Bd (l.foldl (clr kind) c):=by
 induction l with
 | nil=>intro c h;exact h
 | cons v l ih=>intro c h;exact ih _ (zSw kind c v h)
theorem zMl (c:Nat × Nat) (w:List UInt8) (h:Bd c):Bd (zk c w).1:=zF4 c w h.1 h.2
theorem zO0 (order:List Nat) (ws:List (List UInt8)):∀ c last c',Bd c→zAe order c last ws=some c'→Bd c':=by
 induction ws with
 | nil=>intro c last c' h e;simp [zAe] at e;subst e;exact h
 | cons w ws ih=>
  intro c last c' h e;rw [zAe] at e
  split at e
  ·exact ih _ _ _ (zMl c w h) e
  ·cases e
theorem zEG {c c':Nat × Nat} (h:zBt c=some c'):c'=c∧c.1 &&& c.2=0:=by
 unfold zBt at h
 split at h
 ·next hh=>simp at h;exact ⟨h.symm,hh⟩
 ·cases h
theorem zH2 (l:List (Nat × Nat)) (k:Nat) (h:∀ c∈l,Bd c):Bd (l.getD k (0,0)):=by
 rw [List.getD]
 cases hk:l[k]? with
 | none=>exact ⟨by decide,by decide⟩
 | some c=>exact h c (List.mem_of_getElem? hk)
theorem zLh (F:zv) (truth:Bool) (ss:List (Nat × Nat)) (hd:List UInt8) (tl:List (List UInt8)) (c:Nat × Nat) (hF:∀ c∈F.cl,Bd c) (hS:∀ c∈ss,Bd c) (h:zo F truth ss hd tl=some c):Bd c:=by
 unfold zo at h
 split at h
 ·unfold axR at h
  split at h
  ·cases h
  ·obtain ⟨rfl,_⟩:=zEG h;exact zH2 _ _ hF
 ·split at h
  ·unfold zDH at h
   cases hc:zAe F.order (0,0) 0 tl with
   | none=>rw [hc] at h;cases h
   | some c'=>
    rw [hc] at h;simp only [Option.bind_some] at h
    split at h
    ·simp at h;subst h;exact zO0 _ _ _ _ _ ⟨by decide,by decide⟩ hc
    ·cases h
  ·split at h
   ·unfold zF7 at h
    split at h
    ·cases h
    ·split at h
     ·cases h
     ·obtain ⟨rfl,_⟩:=zEG h;have h1:=zH2 ss (cnt (tl.getD 0 []) big - 1) hS;have h2:=zH2 ss (cnt (tl.getD 1 []) big - 1) hS;exact ⟨zBD _ _ (zDl _ _ h1.1) h2.1,zBD _ _ h1.2 (zDl _ _ h2.2)⟩
   ·split at h
    ·unfold zCv at h
     split at h
     ·cases h
     ·simp at h;subst h;exact zN4 _ _ _ (zH2 _ _ hS)
    ·cases h
def zHx (c:Nat × Nat) (t:Nat):Bool:=!((c.1 &&& t == 0) && (zb c.2 t == 0))
def zBI (cl:List (Nat × Nat)) (t:Nat):Bool:=cl.all (zHx · t)
theorem zOz (cl:List (Nat × Nat)) (t k:Nat) (h:k < cl.length):zBI (cl.take (k + 1)) t=(zBI (cl.take k) t && zHx cl[k] t):=by
 unfold zBI;rw [List.take_succ_eq_append_getElem h,List.all_append];simp
theorem zR0 (cl:List (Nat × Nat)) (t k:Nat) (h:k < cl.length) (hc:zHx cl[k] t=false):zBI cl t=false:=by
 unfold zBI;rw [List.all_eq_false];exact ⟨cl[k],List.getElem_mem h,by rw [hc];decide⟩
theorem zAN (n:Nat):((n:Int) == 0)=(n == 0):=by
 rw [Bool.eq_iff_iff,beq_iff_eq,beq_iff_eq];omega
theorem zFr (lo b t:Nat) (F:zv) (w:World) (hR:RefAt lo w b F) (ht:t < 512) (hcl:∀ c∈F.cl,c.1 < 512∧c.2 < 512) (hl:F.cl.length≤1073741824) :
  Calls Tryz.prog 40 #[.pointer (some ⟨b,0,none⟩),.int .i64 t] w fun e w'=>e=.returned (.bool (zBI F.cl t))∧Below w.heap.size w w':=by
 obtain ⟨_,vO,vE,vC,hfb,_,_,hC⟩:=hR;obtain ⟨aC,cC,rfl⟩:=zN hC;have k3:w.cell? ⟨b,3,none⟩=some (.slice aC F.cl.length cC):=zE hfb rfl;have hbl:=zB hfb;have HCL:=zF hcl;clear hcl
 go_enter Tryz.func40,Tryz.ntmps40
 go_wp2_with fail
 go_loopg [5] F.cl.length (fun q i wx=>∃ k:Nat,i=.int .i64 k∧k + q=F.cl.length∧zBI (F.cl.take k) t=true∧Below w.heap.size w wx)
 case atStart=>exact ⟨0,rfl,by omega,rfl,Below.refl _ _⟩
 case round=>
  obtain ⟨k,rfl,hk,hs,hb⟩:=hrel;have HS:=zF hs;clear hs;have hbs:=hb.size;have x3:wr.cell? ⟨b,3,none⟩=some (.slice aC F.cl.length cC):=by rw [hb.cell (p:=⟨b,3,none⟩) hbl];exact k3
  by_cases hlt:k < F.cl.length
  ·obtain ⟨g,cap,hV,hg,hg',_,hcell⟩:=zS hC (by omega);injection hV with hV _ hV2;subst hV hV2;have hgw:g < wr.heap.size:=(by omega);obtain ⟨ha,hb'⟩:=zAc F.cl k hlt;have hx0:wr.cell? ⟨g,k * 2,none⟩=some (.int .i64 (F.cl[k].1:Int)):=(by rw [hb.cell (p:=⟨g,k * 2,none⟩) hg'];exact hcell _ _ ha);have hx1:wr.cell? ⟨g,k * 2 + 1,none⟩=some (.int .i64 (F.cl[k].2:Int)):=(by rw [hb.cell (p:=⟨g,k * 2 + 1,none⟩) hg'];exact hcell _ _ hb');have HT:=zF (zOz F.cl t k hlt);have HO:=zF (zR0 F.cl t k hlt);obtain ⟨hb1,hb2⟩:=zA HCL _ (List.getElem_mem hlt);clear hcell ha hb';generalize F.cl[k]=c at *;obtain ⟨p,n⟩:=c;dsimp only at hx0 hx1 hb1 hb2;have h1:(bits .and .i64 (p:Int) (t:Int) == 0)=(p &&& t == 0):=(by rw [zBN _ _ (by omega) (by omega),zAN]);have h2:(bits .andNot .i64 (n:Int) (t:Int) == 0)=(zb n t == 0):=(by rw [zBJ _ _ (by omega) (by omega),zAN]);have HC:Hid (zHx (p,n) t=!((p &&& t == 0) && (zb n t == 0))):=zF rfl
   cases e1:(p &&& t == 0) with
   | false=>
    rw [e1] at h1;have HC1:Hid (zHx (p,n) t=true):=zF (by rw [zA HC,e1];rfl);clear e1;go_wp2_with fail
    go_roundg (gk - 1)
    case measure=>omega
    case rel=>exact ⟨k + 1,by go_num,by omega,by rw [zA HT,zA HS,zA HC1];rfl,hb⟩
   | true=>
    rw [e1] at h1
    cases e2:(zb n t == 0) with
    | false=>
     rw [e2] at h2;have HC1:Hid (zHx (p,n) t=true):=zF (by rw [zA HC,e1,e2];rfl);clear e1 e2;go_wp2_with fail
     go_roundg (gk - 1)
     case measure=>omega
     case rel=>exact ⟨k + 1,by go_num,by omega,by rw [zA HT,zA HS,zA HC1];rfl,hb⟩
    | true=>
     rw [e2] at h2;have HF:Hid (zBI F.cl t=false):=zF (zA HO (by rw [zA HC,e1,e2];rfl));clear e1 e2;go_wp2_with fail;go_ret;exact ⟨zAI (zA HF).symm,hb⟩
  ·have hkl:k=F.cl.length:=(by omega);subst hkl;have hs:=zA HS;rw [List.take_length] at hs;have HF:=zF hs;clear hs;go_wp2_with fail;go_ret;exact ⟨zAI (zA HF).symm,hb⟩
theorem zD6 {a b:Nat} (h:a &&& b=0) (v:Nat) (ha:a.testBit v=true) (hb:b.testBit v=true):False:=by
 have:(a &&& b).testBit v=true:=by rw [Nat.testBit_and,ha,hb];rfl
 rw [h] at this;simp at this
theorem zII {a b:Nat} (h:∀ v,a.testBit v=true→b.testBit v=true→False):a &&& b=0:=by
 apply Nat.eq_of_testBit_eq
 intro v;rw [Nat.testBit_and,Nat.zero_testBit]
 cases ha:a.testBit v with
 | false=>rfl
 | true=>
  cases hb:b.testBit v with
  | false=>rfl
  | true=>exact (h v ha hb).elim
theorem zDI {a:Nat} (h:a≠0):∃ v,a.testBit v=true:=by
 apply Classical.byContradiction
 intro hn
 apply h
 apply Nat.eq_of_testBit_eq
 intro v;rw [Nat.zero_testBit]
 cases hv:a.testBit v with
 | false=>rfl
 | true=>exact (hn ⟨v,hv⟩).elim
theorem zDG {α:Type} (l:List α) (k:Nat) (d:α) (h:k < l.length):l.getD k d=l[k]:=by
 rw [List.getD,List.getElem?_eq_getElem h];rfl
structure FOk (F:zv):Prop where
 nodup:F.order.Nodup
 names:∀ v∈F.order,1≤v∧v≤8
 bits:∀ c∈F.cl,Bd c
 vars:∀ c∈F.cl,∀ v,c.1.testBit v=true∨c.2.testBit v=true→v∈F.order
theorem zRs {F:zv} (hF:FOk F) {c:Nat × Nat} (hc:c∈F.cl) (ha:c.1 &&& c.2=0):zEy (zBI F.cl) F.all true F.order c:=by
 refine ⟨fun v h1 h2=>zD6 ha v h1 h2,hF.vars c hc,fun t ht=>?_⟩;have hs:=ht.leaf;unfold zBI at hs;rw [List.all_eq_true] at hs;have hs:=hs c hc;unfold zHx at hs;rw [Bool.not_eq_true',Bool.and_eq_false_iff,beq_eq_false_iff_ne,beq_eq_false_iff_ne] at hs
 rcases hs with hs | hs
 ·obtain ⟨v,hv⟩:=zDI hs;rw [Nat.testBit_and,Bool.and_eq_true] at hv;exact ⟨v,Or.inl hv⟩
 ·obtain ⟨v,hv⟩:=zDI hs;rw [zn,Bool.and_eq_true,Bool.not_eq_true'] at hv;exact ⟨v,Or.inr hv⟩
theorem zP7 {F:zv} {c:Nat × Nat} (h1:∀ v,c.1.testBit v=true→c.2.testBit v=true→False) (h2:∀ v,c.1.testBit v=true∨c.2.testBit v=true→v∈F.order) (h3:zFm F.cl c=true):zEy (zBI F.cl) F.all false F.order c:=by
 refine ⟨h1,h2,fun t ht=>?_⟩;have hs:=ht.leaf;unfold zBI at hs;rw [List.all_eq_false] at hs;obtain ⟨x,hx,hs⟩:=hs;have hs:zHx x t=false:=(by simpa using hs);unfold zHx at hs;rw [Bool.not_eq_false',Bool.and_eq_true,beq_iff_eq,beq_iff_eq] at hs;obtain ⟨hp,hn⟩:=hs;have hp':∀ v,x.1.testBit v=true→t.testBit v=false:=fun v hv=>by
  cases ht:t.testBit v with
  | false=>rfl
  | true=>exact (zD6 hp v hv ht).elim
 have hn':∀ v,x.2.testBit v=true→t.testBit v=true:=fun v hv=>by
  cases ht:t.testBit v with
  | true=>rfl
  | false=>
   have:(zb x.2 t).testBit v=true:=by rw [zn,hv,ht];rfl
   rw [hn] at this;simp at this
 unfold zFm at h3;rw [List.all_eq_true] at h3;have hm:=h3 x hx;unfold zEO at hm;rw [Bool.not_eq_true',Bool.and_eq_false_iff,Bool.and_eq_false_iff,beq_eq_false_iff_ne,beq_eq_false_iff_ne,beq_eq_false_iff_ne] at hm
 rcases hm with hm | hm | hm
 ·obtain ⟨v,hv⟩:=zDI hm;rw [Nat.testBit_and,Bool.and_eq_true] at hv;have a1:=hp' v hv.1;rw [hn' v hv.2] at a1;cases a1
 ·obtain ⟨v,hv⟩:=zDI hm;rw [Nat.testBit_and,Bool.and_eq_true] at hv;exact ⟨v,Or.inl ⟨hv.2,hp' v hv.1⟩⟩
 ·obtain ⟨v,hv⟩:=zDI hm;rw [Nat.testBit_and,Bool.and_eq_true] at hv;exact ⟨v,Or.inr ⟨hv.2,by rw [hn' v hv.1];rfl⟩⟩
theorem zJ7 (c:Nat × Nat) (w:List UInt8) (h:(zk c w).2=true):1≤zAL w∧((zk c w).1=(c.1,c.2 ||| 2 ^ zAL w)∨(zk c w).1=(c.1 ||| 2 ^ zAL w,c.2)):=by
 unfold zk at h ⊢
 split at h
 ·next r=>
  have h':0 < dig r:=of_decide_eq_true h;have hd:dig (45 :: r)=0:=by
   cases r with
   | nil=>rfl
   | cons a b=>rfl
  have e:zAL (45 :: r)=(dig r).toNat:=(by unfold zAL;rw [if_pos hd];rfl);rw [e];exact ⟨by omega,Or.inl rfl⟩
 ·next hw=>
  have h':0 < dig w:=of_decide_eq_true h;have e:zAL w=(dig w).toNat:=(by unfold zAL;rw [if_neg (by omega)]);rw [e];exact ⟨by omega,Or.inr rfl⟩
structure CI (order:List Nat) (c:Nat × Nat) (last:Nat):Prop where
 apart:∀ v,c.1.testBit v=true→c.2.testBit v=true→False
 vars:∀ v,c.1.testBit v=true∨c.2.testBit v=true→v≤last∧v∈order
theorem zO9 (order:List Nat) (ws:List (List UInt8)):∀ c last c',CI order c last→zAe order c last ws=some c'→∃ last',CI order c' last':=by
 induction ws with
 | nil=>intro c last c' h e;simp [zAe] at e;subst e;exact ⟨last,h⟩
 | cons w ws ih=>
  intro c last c' h e;rw [zAe] at e
  split at e
  ·next hc=>
   obtain ⟨h1,h2,h3⟩:=hc;refine ih _ _ _ ?_ e;obtain ⟨_,hf⟩:=zJ7 c w h1;have hno1:c.1.testBit (zAL w)=false:=by
    cases hh:c.1.testBit (zAL w) with
    | false=>rfl
    | true=>have:=(h.vars _ (Or.inl hh)).1;omega
   have hno2:c.2.testBit (zAL w)=false:=by
    cases hh:c.2.testBit (zAL w) with
    | false=>rfl
    | true=>have:=(h.vars _ (Or.inr hh)).1;omega
   rcases hf with hf | hf
   ·rw [hf]
    constructor
    ·intro v a b;have b:(c.2 ||| 2 ^ zAL w).testBit v=true:=b;rw [zFR,Bool.or_eq_true] at b
     rcases b with b | b
     ·exact h.apart v a b
     ·have:zAL w=v:=of_decide_eq_true b
      subst this;have a:c.1.testBit (zAL w)=true:=a;rw [hno1] at a;cases a
    ·intro v a
     rcases a with a | a
     ·have:=h.vars v (Or.inl a);exact ⟨by omega,this.2⟩
     ·have a:(c.2 ||| 2 ^ zAL w).testBit v=true:=a;rw [zFR,Bool.or_eq_true] at a
      rcases a with a | a
      ·have:=h.vars v (Or.inr a);exact ⟨by omega,this.2⟩
      ·have:zAL w=v:=of_decide_eq_true a
       subst this;exact ⟨Nat.le_refl _,h3⟩
   ·rw [hf]
    constructor
    ·intro v a b;have a:(c.1 ||| 2 ^ zAL w).testBit v=true:=a;rw [zFR,Bool.or_eq_true] at a
     rcases a with a | a
     ·exact h.apart v a b
     ·have:zAL w=v:=of_decide_eq_true a
      subst this;have b:c.2.testBit (zAL w)=true:=b;rw [hno2] at b;cases b
    ·intro v a
     rcases a with a | a
     ·have a:(c.1 ||| 2 ^ zAL w).testBit v=true:=a;rw [zFR,Bool.or_eq_true] at a
      rcases a with a | a
      ·have:=h.vars v (Or.inl a);exact ⟨by omega,this.2⟩
      ·have:zAL w=v:=of_decide_eq_true a
       subst this;exact ⟨Nat.le_refl _,h3⟩
     ·have:=h.vars v (Or.inr a);exact ⟨by omega,this.2⟩
  ·cases e
theorem zHQ (order:List Nat) (kind:Nat) (c:Nat × Nat) (k:Nat):zAS order kind c k≤k:=by
 induction k with
 | zero=>exact Nat.le_refl _
 | succ k ih=>rw [zAS];split<;>omega
theorem zMO (order:List Nat) (kind:Nat) (c:Nat × Nat) (k i:Nat) (h1:zAS order kind c k≤i) (h2:i < k):zGX c (order.getD i 0)=true→kind.testBit (order.getD i 0)=true:=by
 induction k with
 | zero=>omega
 | succ k ih=>
  rw [zAS] at h1
  split at h1
  ·omega
  ·next hc=>
   by_cases hk:i=k
   ·subst hk;intro hh;rw [hh] at hc
    cases hb:kind.testBit (order.getD i 0) with
    | true=>rfl
    | false=>rw [hb] at hc;simp at hc
   ·exact ih h1 (by omega)
theorem zD7 (kind:Nat) (c:Nat × Nat) (u v:Nat):(clr kind c u).1.testBit v=(c.1.testBit v && !(decide (v=u) && kind.testBit u))∧(clr kind c u).2.testBit v=(c.2.testBit v && !(decide (v=u) && kind.testBit u)):=by
 unfold clr
 cases hk:kind.testBit u with
 | false=>simp
 | true=>
  have e:∀ a:Nat,(zb a (2 ^ u)).testBit v=(a.testBit v && !(decide (v=u) && true)):=fun a=>by
   rw [zn,Nat.testBit_two_pow,Bool.and_true]
   by_cases h:u=v
   ·subst h;simp
   ·simp [h,Ne.symm h]
  exact ⟨e _,e _⟩
theorem zDU (kind:Nat) (l:List Nat) (v:Nat):∀ c:Nat × Nat,(l.foldl (clr kind) c).1.testBit v=(c.1.testBit v && !(decide (v∈l) && kind.testBit v))∧(l.foldl (clr kind) c).2.testBit v=(c.2.testBit v && !(decide (v∈l) && kind.testBit v)):=by
 induction l with
 | nil=>intro c;simp
 | cons u l ih=>
  intro c;have h1:=ih (clr kind c u);have h2:=zD7 kind c u v;rw [List.foldl_cons,h1.1,h1.2,h2.1,h2.2]
  by_cases hv:v=u
  ·subst hv
   cases kind.testBit v<;>cases decide (v∈l)<;>simp
  ·have e:decide (v∈u :: l)=decide (v∈l):=(by simp [hv]);rw [e];simp [hv]
theorem zSD (v:Nat) (h1:1≤v) (h2:v≤8):(510:Nat).testBit v=true:=by
 have:∀ v:Fin 9,1≤v.val→(510:Nat).testBit v.val=true:=by decide
 exact this ⟨v,by omega⟩ h1
theorem zH7 {F:zv} (hF:FOk F) (truth:Bool) (v:Nat) (hv:v∈F.order):(zCa F truth).testBit v=(F.all.testBit v == !truth):=by
 have hn:=hF.names v hv;unfold zCa
 cases truth with
 | false=>simp
 | true=>
  rw [if_pos rfl,zn,zSD v hn.1 hn.2]
  cases F.all.testBit v<;>rfl
theorem zJ4 {F:zv} (hF:FOk F) (truth:Bool) {c:Nat × Nat} (hg:zEy (zBI F.cl) F.all (!truth) F.order c):zEy (zBI F.cl) F.all (!truth) F.order (zHu F.order (zCa F truth) c):=by
 generalize hm:zAS F.order (zCa F truth) c F.order.length=m;have hml:m≤F.order.length:=(by rw [← hm];exact zHQ _ _ _ _);have e:F.order=F.order.take m ++ F.order.drop m:=(List.take_append_drop m F.order).symm;have hsub:∀ v,v∈F.order.drop m→v∈F.order:=fun v hv=>List.mem_of_mem_drop hv
 have hb:=zDU (zCa F truth) (F.order.drop m);have hk:∀ v,(decide (v∈F.order.drop m) && (zCa F truth).testBit v)=(decide (v∈F.order.drop m) && (F.all.testBit v == !truth)):=fun v=>by
  by_cases hv:v∈F.order.drop m
  ·rw [zH7 hF truth v (hsub v hv)]
  ·simp [hv]
 unfold zHu;rw [hm];have hg2:=hg;rw [e] at hg2 ⊢;have hd:(F.order.take m ++ F.order.drop m).drop m=F.order.drop m:=(by rw [List.take_append_drop]);rw [hd];refine zJ2 hg2 (by rw [← e];exact hF.nodup) ?_ ?_ ?_
 ·intro v hv hc;obtain ⟨i,hi,rfl⟩:=List.getElem_of_mem hv;rw [List.getElem_drop];have hi':m + i < F.order.length:=(by simp at hi;omega);have hp:=zMO F.order (zCa F truth) c F.order.length (m + i) (by omega) hi';rw [zDG _ _ _ hi'] at hp;have hh:zGX c F.order[m + i]=true:=by
   unfold zGX;rw [Nat.testBit_or,Bool.or_eq_true];rw [List.getElem_drop] at hc;exact hc
  have hk2:=hp hh;rw [zH7 hF truth _ (List.getElem_mem hi')] at hk2
  simpa using hk2
 ·intro v;rw [(hb v c).1,hk]
 ·intro v;rw [(hb v c).2,hk]
theorem zIw {F:zv} (hF:FOk F) (truth:Bool) (ss:List (Nat × Nat)) (hd:List UInt8) (tl:List (List UInt8)) (c:Nat × Nat) (hS:∀ c∈ss,zEy (zBI F.cl) F.all (!truth) F.order c) (h:zo F truth ss hd tl=some c):zEy (zBI F.cl) F.all (!truth) F.order c:=by
 have hget:∀ i,1≤i→i≤ss.length→zEy (zBI F.cl) F.all (!truth) F.order (ss.getD (i - 1) (0,0)):=fun i h1 h2=>by
  have:i - 1 < ss.length:=by omega
  rw [zDG _ _ _ this];exact hS _ (List.getElem_mem this)
 unfold zo at h
 split at h
 ·next hc=>
  obtain ⟨_,ht,_⟩:=hc;subst ht;unfold axR at h
  split at h
  ·cases h
  ·next hk=>
   obtain ⟨rfl,ha⟩:=zEG h
   have:cnt (tl.getD 0 []) big - 1 < F.cl.length:=by omega
   rw [zDG _ _ _ this] at ha ⊢;exact zRs hF (List.getElem_mem this) ha
 ·split at h
  ·next hc=>
   obtain ⟨_,ht⟩:=hc;subst ht;unfold zDH at h
   cases hq:zAe F.order (0,0) 0 tl with
   | none=>rw [hq] at h;cases h
   | some c'=>
    rw [hq] at h;simp only [Option.bind_some] at h
    split at h
    ·next hs=>
     simp at h;subst h;obtain ⟨last,hci⟩:=zO9 _ _ (0,0) 0 _ ⟨by simp,by simp⟩ hq;exact zP7 hci.apart (fun v hv=>(hci.vars v hv).2) hs
    ·cases h
  ·split at h
   ·unfold zF7 at h
    split at h
    ·cases h
    ·next hr=>
     split at h
     ·cases h
     ·next hr2=>
      obtain ⟨rfl,ha⟩:=zEG h;simp only [not_or,Bool.not_eq_false] at hr hr2;refine zJE (hget _ (by omega) (by omega)) (hget _ (by omega) (by omega)) hr2.2.1 hr2.2.2 ?_ ?_ (fun v h1 h2=>zD6 ha v h1 h2)
      ·intro v;show (zb _ _ ||| _).testBit v=_;rw [Nat.testBit_or,zn,Nat.testBit_two_pow];simp only [eq_comm]
      ·intro v;show (_ ||| zb _ _).testBit v=_;rw [Nat.testBit_or,zn,Nat.testBit_two_pow];simp only [eq_comm]
   ·split at h
    ·unfold zCv at h
     split at h
     ·cases h
     ·next hr=>
      have h:=Option.some.inj h;subst h;exact zJ4 hF truth (hget _ (by omega) (by omega))
    ·cases h
theorem zJP {F:zv} (hF:FOk F) (truth:Bool) (rs:List (List UInt8)):∀ (ss:List (Nat × Nat)) (n:Nat) (ss':List (Nat × Nat)),(∀ c∈ss,zEy (zBI F.cl) F.all (!truth) F.order c)→zC3 F truth ss n rs=.inl ss'→∀ c∈ss',zEy (zBI F.cl) F.all (!truth) F.order c:=by
 induction rs with
 | nil=>intro ss n ss' h e;simp [zC3] at e;subst e;exact h
 | cons r rs ih=>
  intro ss n ss' h e;rw [zC3] at e
  cases hl:zDZ F truth ss r with
  | none=>rw [hl] at e;cases e
  | some c=>
   rw [hl] at e;refine ih _ _ _ ?_ e;intro c' hc'
   rcases List.mem_append.1 hc' with hc' | hc'
   ·exact h c' hc'
   ·simp at hc';subst hc';unfold zDZ at hl
    split at hl
    ·cases hl
    ·split at hl
     ·cases hl
     ·exact zIw hF truth ss _ _ _ h hl
theorem zGW {F:zv} (hF:FOk F) (l:List UInt8) (truth:Bool) (two:Nat) (h:zw F l=.inr (truth,two)):zA5 (zBI F.cl) F.all F.order 0=truth:=by
 unfold zw at h
 split at h
 ·cases h
 ·split at h
  ·cases h
  ·next r0 rs hrows=>
   split at h
   ·split at h
    ·cases h
    ·next ss hss=>
     split at h
     ·next hc=>
      have h':(r0 == zA4)=truth:=(by injection h with h;injection h);rw [h'] at hss;have hg:=zJP hF truth rs [] 1 ss (by simp) hss;have he:=hc.2;unfold zCX at he
      split at he
      ·cases he
      ·next c hlast=>
       have hc0:c.1 ||| c.2=0:=(by simpa using he);have hm:c∈ss:=List.mem_of_getLast? hlast;have h1:c.1=0:=by
        apply Nat.eq_of_testBit_eq;intro v
        have:(c.1 ||| c.2).testBit v=false:=by rw [hc0];simp
        rw [Nat.testBit_or,Bool.or_eq_false_iff] at this;rw [this.1];simp
       have h2:c.2=0:=by
        apply Nat.eq_of_testBit_eq;intro v
        have:(c.1 ||| c.2).testBit v=false:=by rw [hc0];simp
        rw [Nat.testBit_or,Bool.or_eq_false_iff] at this;rw [this.2];simp
       have:=zNN (hg c hm) hF.nodup h1 h2
       rw [this];simp
     ·cases h
   ·cases h
theorem zLs (c:Nat × Nat) (t:Nat):zHx c t=true↔∃ v,(c.1.testBit v=true∧t.testBit v=true)∨(c.2.testBit v=true∧t.testBit v=false):=by
 unfold zHx;rw [Bool.not_eq_true',Bool.and_eq_false_iff,beq_eq_false_iff_ne,beq_eq_false_iff_ne]
 constructor
 ·rintro (h | h)
  ·obtain ⟨v,hv⟩:=zDI h;rw [Nat.testBit_and,Bool.and_eq_true] at hv;exact ⟨v,Or.inl hv⟩
  ·obtain ⟨v,hv⟩:=zDI h;rw [zn,Bool.and_eq_true,Bool.not_eq_true'] at hv;exact ⟨v,Or.inr hv⟩
 ·rintro ⟨v,h | h⟩
  ·left
   intro e
   have:(c.1 &&& t).testBit v=true:=by rw [Nat.testBit_and,h.1,h.2];rfl
   rw [e] at this;simp at this
  ·right
   intro e
   have:(zb c.2 t).testBit v=true:=by rw [zn,h.1,h.2];rfl
   rw [e] at this;simp at this
theorem zMA (cs:List (Nat × Nat)) (t:Nat):zBI cs t=true↔∀ c∈cs,zHx c t=true:=by unfold zBI;rw [List.all_eq_true]
theorem zH1 (l:List Nat) (k:Nat) (h:k < l.length):(zu l)[k]?=some (.int .i64 (l[k]:Int)):=by
 unfold zu;rw [List.getElem?_map,List.getElem?_eq_getElem h];rfl
theorem zHM (lo b v:Nat) (F:zv) (w:World) (hR:RefAt lo w b F) (hl:F.order.length≤8) :
  Calls Tryz.prog 129 #[.pointer (some ⟨b,0,none⟩),.int .i64 v] w fun e w'=>(∃ p:Int,e=.returned (.int .i64 p)∧decide (p < 0)=!decide (v∈F.order))∧w'=w:=by
 obtain ⟨_,vO,vE,vC,hfb,hO,_,_⟩:=hR;obtain ⟨aO,cO,rfl⟩:=zN hO;have k0:w.cell? ⟨b,0,none⟩=some (.slice aO F.order.length cO):=zE hfb rfl
 go_enter Tryz.func129,Tryz.ntmps129
 go_wp2_with fail
 go_loopg [5] F.order.length (fun m i wx=>∃ k:Nat,i=.int .i64 k∧k + m=F.order.length∧v∉F.order.take k∧wx=w)
 case atStart=>exact ⟨0,rfl,by omega,by simp,rfl⟩
 case round=>
  obtain ⟨k,rfl,hk,hno,hwr⟩:=hrel;subst hwr;have HNO:=zF hno;clear hno
  by_cases hlt:k < F.order.length
  ·obtain ⟨g,cap,hV,hg,hg',_,hcell⟩:=zS hO (by omega);injection hV with hV _ hV2;subst hV hV2;have hx:wr.cell? ⟨g,k,none⟩=some (.int .i64 (F.order[k]:Int)):=hcell _ _ (zH1 _ _ hlt);have HT:Hid (F.order.take (k + 1)=F.order.take k ++ [F.order[k]]):=zF (List.take_succ_eq_append_getElem hlt);have HM:Hid (F.order[k]∈F.order):=zF (List.getElem_mem hlt);clear hcell;generalize F.order[k]=u at *
   by_cases hv:u=v
   ·have hvb:((u:Int) == (v:Int))=true:=(by rw [beq_iff_eq];omega);have HV:=zF hv;clear hv;go_wp2_with fail;go_ret;refine ⟨⟨_,rfl,?_⟩,rfl⟩;have hm:v∈F.order:=zA HV ▸ zA HM;simp [hm]
   ·have hvb:((u:Int) == (v:Int))=false:=(by rw [beq_eq_false_iff_ne];omega);have HV:=zF hv;clear hv;go_wp2_with fail
    go_roundg (gk - 1)
    case measure=>omega
    case rel=>
     refine ⟨k + 1,by go_num,by omega,?_,rfl⟩;rw [zA HT];intro hm
     rcases List.mem_append.1 hm with hm | hm
     ·exact zA HNO hm
     ·simp at hm;exact zA HV hm.symm
  ·have hkl:k=F.order.length:=(by omega);have HF:Hid (v∉F.order):=zF (by have:=zA HNO;rw [hkl,List.take_length] at this;exact this);subst hkl;go_wp2_with fail;go_ret;exact ⟨⟨_,rfl,by simp [zA HF]⟩,rfl⟩
theorem zQx (l:List UInt8) (h:l.all zAU=true):dec l < 10 ^ l.length:=by
 suffices hh:∀ (n:Nat) (l:List UInt8),l.length=n→l.all zAU=true→dec l < 10 ^ n from hh _ l rfl h
 intro n
 induction n with
 | zero=>intro l hl _;rw [List.eq_nil_of_length_eq_zero hl];decide
 | succ n ih=>
  intro l hl ha;have hlt:n < l.length:=(by omega);have hall:(l.take n).all zAU=true:=by
   rw [List.all_eq_true] at ha ⊢;exact fun x hx=>ha x (List.mem_of_mem_take hx)
  have h1:=ih (l.take n) (by simp;omega) hall;have h2:=zFV l n hlt;rw [show l.take (n + 1)=l from by rw [← hl];exact List.take_length] at h2;have hd:zAU l[n]=true:=(by rw [List.all_eq_true] at ha;exact ha _ (List.getElem_mem hlt));have hd':48≤l[n].toNat∧l[n].toNat≤57:=of_decide_eq_true hd;rw [h2,Nat.pow_succ];omega
theorem zN0 (k:Nat) (h:k≤6):10 ^ k≤1000000:=by
 have:=Nat.pow_le_pow_right (n:=10) (by omega) h
 simpa using this
attribute [local go_sem] zHH
theorem zEi (l:List UInt8) (most:Nat) (w:World) (hl:l.length≤1048576) (_hm:most≤1048576) :
  Calls Tryz.prog 105 #[.string ⟨l.toArray⟩,.int .i64 most] w fun e w'=>e=.returned (.int .i64 (cnt l most:Nat))∧w'=w:=by
 go_enter Tryz.func105,Tryz.ntmps105
 go_wp2_with fail
 go_loopg [5,6] (l.length) (fun m n i wx=>∃ k:Nat,i=.int .i64 k∧k + m=l.length∧k≤6∧n=.int .i64 (dec (l.take k):Nat)∧(l.take k).all zAU=true∧(1≤k→l.head?≠some 48)∧wx=w)
 case atStart=>exact ⟨0,rfl,by omega,by omega,rfl,rfl,fun h=>by omega,rfl⟩
 case round=>
  obtain ⟨k,rfl,hkm,hk6,rfl,hall,hhead,hwr⟩:=hrel;subst hwr;have HA:=zF hall;have HH:=zF hhead;have hdl:=zQx _ hall;have h10:=zN0 k hk6;have hn:dec (l.take k) < 1000000:=by
   have e:(l.take k).length=k:=(by simp;omega);rw [e] at hdl;omega
  clear hall hhead hdl h10
  by_cases hlt:k < l.length
  ·have hdl:decide ((k:Int) < (l.length:Int))=true:=(by simp;omega);have HDT:=zF (zFV l k hlt);generalize dec (l.take k)=n at *;have hb8:l[k].toNat < 256:=UInt8.toNat_lt l[k];have hbad:Hid (∀ h:k < l.length,zAU l[k]=false→cnt l most=0):=zF (fun h hd=>by
    unfold cnt;rw [if_neg];rintro ⟨h1,_⟩;rw [List.all_eq_true] at h1;rw [h1 _ (List.getElem_mem h)] at hd;cases hd)
   by_cases hd:zAU l[k]=true
   ·have hd1:48≤l[k].toNat∧l[k].toNat≤57:=of_decide_eq_true hd;have HD:=zF hd;have hq1:decide ((l[k].toNat:Int) < 48)=false:=(by simp;omega);have hq2:decide ((57:Int) < (l[k].toNat:Int))=false:=(by simp;omega);clear hd
    by_cases h5:5 < k
    ·have hq3:decide ((5:Int) < (k:Int))=true:=(by simp;omega);have HC:Hid (cnt l most=0):=zF (by unfold cnt;rw [if_neg];rintro ⟨_,h2,_⟩;omega);clear h5;go_wp2_with fail;go_ret;exact ⟨zA7 (by rw [zA HC];rfl),rfl⟩
    ·have hq3:decide ((5:Int) < (k:Int))=false:=by simp;omega
     by_cases hk0:k=0
     ·have hq4:((k:Int) == 0)=true:=(by rw [beq_iff_eq];omega);have h0:0 < l.length:=(by omega);have hhd:l.head?=some l[0]:=by rw [List.head?_eq_getElem?,List.getElem?_eq_getElem h0]
      by_cases hc:l[0]=48
      ·have hq5:((l[0].toNat:Int) == 48)=true:=(by rw [hc];rfl);have HC:Hid (cnt l most=0):=zF (by unfold cnt;rw [if_neg];rintro ⟨_,_,h3,_⟩;exact h3 (by rw [hhd,hc]));clear hc hhd h5 hk0;go_wp2_with fail;go_ret;exact ⟨zA7 (by rw [zA HC];rfl),rfl⟩
      ·have hq5:((l[0].toNat:Int) == 48)=false:=by
        rw [beq_eq_false_iff_ne];intro e;exact hc (by apply UInt8.toNat_inj.1;show _=48;omega)
       have HHD:Hid (l.head?≠some 48):=zF (by rw [hhd];simpa using hc);have h5':k + 1≤6:=(by omega);clear hc hhd h5 hk0;go_wp2_with fail
       go_roundg (gk - 1)
       case measure=>omega
       case rel=>
        refine ⟨k + 1,by go_num,by omega,h5',?_,?_,fun _=>zA HHD,rfl⟩
        ·rw [zA HDT];exact congrArg (Value.int .i64) (by omega)
        ·rw [List.take_succ_eq_append_getElem hlt,List.all_append,zA HA];simp [zA HD]
     ·have hq4:((k:Int) == 0)=false:=(by rw [beq_eq_false_iff_ne];omega);have HHD:Hid (l.head?≠some 48):=zF (zA HH (by omega));have h5':k + 1≤6:=(by omega);clear h5 hk0;go_wp2_with fail
      go_roundg (gk - 1)
      case measure=>omega
      case rel=>
       refine ⟨k + 1,by go_num,by omega,h5',?_,?_,fun _=>zA HHD,rfl⟩
       ·rw [zA HDT];exact congrArg (Value.int .i64) (by omega)
       ·rw [List.take_succ_eq_append_getElem hlt,List.all_append,zA HA];simp [zA HD]
   ·have hdf:zAU l[k]=false:=(by simpa using hd);have HC:Hid (cnt l most=0):=zF (zA hbad hlt hdf);have hd1:¬ (48≤l[k].toNat∧l[k].toNat≤57):=of_decide_eq_false hdf;clear hd hdf
    by_cases hlo:l[k].toNat < 48
    ·have hq1:decide ((l[k].toNat:Int) < 48)=true:=(by simp;omega);clear hd1;go_wp2_with fail;go_ret;exact ⟨zA7 (by rw [zA HC];rfl),rfl⟩
    ·have hq1:decide ((l[k].toNat:Int) < 48)=false:=(by simp;omega);have hq2:decide ((57:Int) < (l[k].toNat:Int))=true:=(by simp;omega);clear hd1;go_wp2_with fail;go_ret;exact ⟨zA7 (by rw [zA HC];rfl),rfl⟩
  ·have hkl:k=l.length:=(by omega);subst hkl;have HT:Hid (l.take l.length=l):=zF List.take_length;have hA:=zA HA;rw [zA HT] at hA hn;have HHD:Hid (l.head?≠some 48):=zF (by
    by_cases h1:1≤l.length
    ·exact zA HH h1
    ·have:l=[]:=List.eq_nil_of_length_eq_zero (by omega)
     rw [this];simp)
   have HAA:=zF hA;clear hA;have hE:Value.int .i64 (dec (l.take l.length):Nat)=Value.int .i64 (dec l:Nat):=(by rw [zA HT]);rw [zA HT];have hdl:decide ((l.length:Int) < (l.length:Int))=false:=(by simp);clear hE
   by_cases hmo:most < dec l
   ·have hq:decide (most < dec l)=true:=(by simp;omega);have HC:Hid (cnt l most=0):=zF (by unfold cnt;rw [if_neg];rintro ⟨_,_,_,h4⟩;omega);clear hmo;go_wp2_with fail;go_ret;exact ⟨zA7 (by rw [zA HC];rfl),rfl⟩
   ·have hq:decide (most < dec l)=false:=(by simp;omega);have HC:Hid (cnt l most=dec l):=zF (by unfold cnt;rw [if_pos ⟨zA HAA,hk6,zA HHD,by omega⟩]);clear hmo;go_wp2_with fail;go_ret;exact ⟨zA7 (by rw [zA HC]),rfl⟩
end Go.Proofs.YtgipjjhkhfihpaaGreatDoor
namespace Go.Proofs.YtgipjjhkhfihpaaGreatDoor
open Go.RowKit
theorem zNb (l:List UInt8) (h:l.all zAU=true) (h0:l≠[]) (h48:l.head?≠some 48):∀ k,k < l.length→10 ^ k≤dec (l.take (k + 1)):=by
 intro k
 induction k with
 | zero=>
  intro hk
  match l,h0 with
  | c :: r,_=>
   have hd:zAU c=true:=(by simp at h;exact h.1);have hd':48≤c.toNat∧c.toNat≤57:=of_decide_eq_true hd;have hne:c.toNat≠48:=fun e=>h48 (by simp;apply UInt8.toNat_inj.1;exact e)
   simp [dec];omega
 | succ k ih=>
  intro hk;have h1:=ih (by omega);rw [zFV l (k + 1) hk,Nat.pow_succ];omega
theorem zJ8 (w:List UInt8) (most:Nat) (hm:most≤999999):zl w most=if 1≤cnt w big∧cnt w big≤most then some (cnt w big) else none:=by
 by_cases hbad:w=[]∨w.head?=some 48∨w.all zAU=false
 ·have h1:zl w most=none:=by
   unfold zl;rw [if_pos]
   rcases hbad with h | h | h
   ·exact Or.inl h
   ·exact Or.inr (Or.inl h)
   ·exact Or.inr (Or.inr (Or.inl h))
  have h2:cnt w big=0:=by
   rcases hbad with h | h | h
   ·subst h;rfl
   ·unfold cnt;rw [if_neg];rintro ⟨_,_,h3,_⟩;exact h3 h
   ·unfold cnt;rw [if_neg];rintro ⟨h3,_⟩;rw [h] at h3;cases h3
  rw [h1,h2,if_neg (by omega)]
 ·simp only [not_or,Bool.not_eq_false] at hbad;obtain ⟨b1,b2,b3⟩:=hbad;have hpos:0 < w.length:=List.length_pos_iff.2 b1
  by_cases h6:w.length≤6
  ·have hd:=zQx w b3;have ht:=zN0 w.length h6;have hc:cnt w big=dec w:=by
    unfold cnt;rw [if_pos ⟨b3,h6,b2,by unfold big;omega⟩]
   have h1:1≤dec w:=by
    have:=zNb w b3 b1 b2 0 hpos
    have hmm:=zEd w 1;simp at this;omega
   rw [hc];unfold zl
   by_cases hmo:most < dec w
   ·rw [if_pos (Or.inr (Or.inr (Or.inr hmo))),if_neg (by omega)]
   ·rw [if_neg,if_pos ⟨h1,by omega⟩];rintro (h | h | h | h)
    ·exact b1 h
    ·exact b2 h
    ·rw [b3] at h;cases h
    ·exact hmo h
  ·have hc:cnt w big=0:=(by unfold cnt;rw [if_neg];rintro ⟨_,h2,_⟩;exact h6 h2);have hg:=zNb w b3 b1 b2 6 (by omega);have hmm:=zEd w (6 + 1);rw [hc,if_neg (by omega)];unfold zl;rw [if_pos]
   right;right;right
   have:(10:Nat) ^ 6=1000000:=by decide
   omega
structure FQ (F:zv) (q:QS):Prop where
 order:F.order=q.vars.map (·.1)
 kinds:∀ x∈q.vars,F.all.testBit x.1=x.2
 nodup:(q.vars.map (·.1)).Nodup
 names:∀ x∈q.vars,1≤x.1∧x.1≤8
 cl:F.cl=q.cl
 clen:q.cl.length≤24
 bits:∀ c∈q.cl,Bd c
 vars:∀ c∈q.cl,∀ v,c.1.testBit v=true∨c.2.testBit v=true→v∈F.order
structure SI (F:zv) (c:Nat × Nat):Prop where
 bd:Bd c
 apart:c.1 &&& c.2=0
 vars:∀ v,c.1.testBit v=true∨c.2.testBit v=true→v∈F.order
def kd (truth:Bool):Nat:=if truth then 2 else 1
theorem zLr {F:zv} {q:QS} (h:FQ F q) (v:Nat):(∃ x,zBY q.vars v=some x∧x.1=v∧x∈q.vars∧v∈F.order)∨(zBY q.vars v=none∧v∉F.order):=by
 cases hf:zBY q.vars v with
 | none=>
  right
  refine ⟨rfl,?_⟩;unfold zBY at hf;rw [List.find?_eq_none] at hf;rw [h.order,List.mem_map];rintro ⟨x,hx,hxe⟩;exact hf x hx (by simpa using hxe)
 | some x=>
  left
  unfold zBY at hf;have hm:=List.mem_of_find?_eq_some hf;have he:=List.find?_some hf;have he':x.1=v:=(by simpa using he);exact ⟨x,rfl,he',hm,by rw [h.order,← he'];exact List.mem_map_of_mem hm⟩
theorem zB8 (v:Nat) (h1:1≤v) (h8:v≤8):zAD (v:Int)=2 ^ v:=by unfold zAD;rw [if_pos ⟨by omega,by omega⟩];simp
theorem zCy (x v:Nat):(x &&& 2 ^ v != 0)=x.testBit v:=by
 rw [bne,show (x &&& 2 ^ v == 0)=!x.testBit v from ?_]
 ·simp
 ·cases h:x.testBit v with
  | false=>
   have:x &&& 2 ^ v=0:=by
    apply Nat.eq_of_testBit_eq
    intro i;rw [Nat.testBit_and,Nat.testBit_two_pow,Nat.zero_testBit]
    by_cases e:v=i
    ·subst e;rw [h];rfl
    ·simp [e]
   rw [this];rfl
  | true=>
   have:x &&& 2 ^ v≠0:=fun e=>by
    have h2:(x &&& 2 ^ v).testBit v=true:=(by rw [Nat.testBit_and,Nat.testBit_two_pow,h];simp);rw [e] at h2;simp at h2
   simpa using this
theorem zRZ (c:Nat × Nat) (v:Nat) (h1:1≤v) (h8:v≤8):zs c v=zGX c v:=by
 unfold zs zGX;rw [zB8 v h1 h8,zCy]
theorem zF8 (c:Nat × Nat) (v:Nat) (h1:1≤v) (h8:v≤8):zj c v=c.1.testBit v:=by
 unfold zj;rw [if_neg (by omega),zB8 v h1 h8,zCy]
theorem zGD (c:Nat × Nat) (v:Nat) (h1:1≤v) (h8:v≤8):zj c (-(v:Int))=c.2.testBit v:=by
 unfold zj;rw [if_pos (by omega),Int.neg_neg,zB8 v h1 h8,zCy]
theorem zGh {a b:Nat × Nat} (h1:∀ v,a.1.testBit v=b.1.testBit v) (h2:∀ v,a.2.testBit v=b.2.testBit v):a=b:=by
 obtain ⟨a1,a2⟩:=a;obtain ⟨b1,b2⟩:=b;have e1:a1=b1:=Nat.eq_of_testBit_eq h1;have e2:a2=b2:=Nat.eq_of_testBit_eq h2;rw [e1,e2]
theorem zKq (order:List Nat) (kind:Nat) (c c':Nat × Nat) (k:Nat) (h:∀ i,i < k→zGX c' (order.getD i 0)=zGX c (order.getD i 0)):zAS order kind c' k=zAS order kind c k:=by
 induction k with
 | zero=>rfl
 | succ k ih=>
  rw [zAS,zAS,h k (by omega),ih (fun i hi=>h i (by omega))]
theorem zSr {F:zv} {q:QS} (h:FQ F q) (hF:FOk F) (truth:Bool):∀ (k:Nat),k≤q.vars.length→∀ c,zAR (kd truth) (q.vars.take k).reverse c=((F.order.take k).drop (zAS F.order (zCa F truth) c k)).foldl (clr (zCa F truth)) c:=by
 intro k
 induction k with
 | zero=>intro _ c;simp [zAR]
 | succ k ih=>
  intro hk c;have hlt:k < q.vars.length:=(by omega);have hlen:F.order.length=q.vars.length:=(by rw [h.order];simp);have hlt':k < F.order.length:=(by omega);have hv:F.order[k]=q.vars[k].1:=(by simp only [h.order,List.getElem_map]);have hx:=h.names _ (List.getElem_mem hlt);have hkind:=h.kinds _ (List.getElem_mem hlt);have hmem:F.order[k]∈F.order:=List.getElem_mem hlt';have hkb:=zH7 hF truth F.order[k] hmem;have hgd:F.order.getD k 0=F.order[k]:=zDG _ _ _ hlt';rw [zBs _ _ _ hlt,zRZ c _ hx.1 hx.2,← hv];rw [← hv] at hkind;have hpiv:zAl (kd truth) q.vars[k].2=!(zCa F truth).testBit F.order[k]:=by
   rw [hkb,hkind];unfold zAl kd;generalize q.vars[k].2=u
   cases truth<;>cases u<;>rfl
  rw [hpiv,zAS,hgd];have hsplit:∀ m,m≤k→(F.order.take (k + 1)).drop m=(F.order.take k).drop m ++ [F.order[k]]:=fun m hm=>by
   rw [List.take_succ_eq_append_getElem hlt',List.drop_append_of_le_length (by simp;omega)]
  have hnk:F.order[k]∉F.order.take k:=by
   have hn:=hF.nodup;rw [← List.take_append_drop k F.order,List.nodup_append] at hn;have hkd:F.order[k]∈F.order.drop k:=by
    have e:=List.drop_eq_getElem_cons hlt';rw [e];exact List.mem_cons_self
   intro hm;exact hn.2.2 _ hm _ hkd rfl
  cases hh:zGX c F.order[k] with
  | false=>
   simp only [Bool.false_and,Bool.false_eq_true,if_false];rw [ih (by omega) c,hsplit _ (zHQ _ _ _ _),List.foldl_append];have hno:c.1.testBit F.order[k]=false∧c.2.testBit F.order[k]=false:=by
    unfold zGX at hh;rw [Nat.testBit_or,Bool.or_eq_false_iff] at hh;exact hh
   generalize ((F.order.take k).drop (zAS F.order (zCa F truth) c k))=L;show _=clr _ (L.foldl _ c) F.order[k]
   apply zGh
   ·intro v;rw [(zD7 _ _ _ _).1,(zDU _ _ _ _).1]
    by_cases e:v=F.order[k]
    ·subst e;simp [hno.1]
    ·simp [e]
   ·intro v;rw [(zD7 _ _ _ _).2,(zDU _ _ _ _).2]
    by_cases e:v=F.order[k]
    ·subst e;simp [hno.2]
    ·simp [e]
  | true=>
   cases hb:(zCa F truth).testBit F.order[k] with
   | false=>
    simp only [Bool.not_false,Bool.and_self,if_true];rw [List.drop_eq_nil_of_le (by simp;omega)];rfl
   | true=>
    simp only [Bool.not_true,Bool.and_false,Bool.false_eq_true,if_false,if_true];have hw:zAV c (F.order[k]:Int)=clr (zCa F truth) c F.order[k]:=by
     unfold zAV clr;rw [if_pos hb,zB8 _ (by rw [hv];exact hx.1) (by rw [hv];exact hx.2)]
    rw [hw,ih (by omega),hsplit _ (zHQ _ _ _ _)];have hls:zAS F.order (zCa F truth) (clr (zCa F truth) c F.order[k]) k=zAS F.order (zCa F truth) c k:=by
     apply zKq
     intro i hi;have hil:i < F.order.length:=(by omega);rw [zDG _ _ _ hil];have hne:F.order[i]≠F.order[k]:=fun e=>hnk (by rw [← e];exact List.mem_take_iff_getElem.2 ⟨i,by omega,rfl⟩)
     unfold zGX;rw [Nat.testBit_or,Nat.testBit_or,(zD7 _ _ _ _).1,(zD7 _ _ _ _).2];simp [hne]
    rw [hls];generalize ((F.order.take k).drop (zAS F.order (zCa F truth) c k))=L
    apply zGh
    ·intro v;rw [(zDU _ _ _ _).1,(zDU _ _ _ _).1,(zD7 _ _ _ _).1,hb]
     by_cases e:v=F.order[k]
     ·subst e;simp [hb]
     ·simp [e]
    ·intro v;rw [(zDU _ _ _ _).2,(zDU _ _ _ _).2,(zD7 _ _ _ _).2,hb]
     by_cases e:v=F.order[k]
     ·subst e;simp [hb]
     ·simp [e]
theorem zOE {F:zv} {q:QS} (h:FQ F q) (hF:FOk F) (truth:Bool) (c:Nat × Nat):zAR (kd truth) q.vars.reverse c=zHu F.order (zCa F truth) c:=by
 have h1:=zSr h hF truth q.vars.length (Nat.le_refl _) c;have hlen:F.order.length=q.vars.length:=(by rw [h.order];simp);rw [List.take_length] at h1;rw [h1,← hlen,List.take_length];rfl
theorem zP {w:World} {o:Obj} {n:Nat} (h:n=w.heap.size):(w.alloc o).heap[n]?=some o:=by subst h;exact heap_alloc_new w o
theorem zEc {w w':World} {B base:Nat} {e:TypeId} {size:Nat} {v:Value} {n:Nat} {xs:List Value} (h:w.ownsRow base e size v n xs) (hl:∀ k,v.ownBlock=some k→k < B) (hb:Below B w w'):w'.ownsRow base e size v n xs:=by
 obtain ⟨h1,h2⟩:=h;refine ⟨h1,?_⟩
 rcases h2 with h2 | ⟨g,cap,cur,rfl,hg,hh,h3⟩
 ·exact Or.inl h2
 ·exact Or.inr ⟨g,cap,cur,rfl,hg,(hb.block g (hl g rfl)).trans hh,h3⟩
theorem zHf (b o:Nat) (kind:Nat) (v:Nat) (u:Bool) (w:World) (hc:w.cell? ⟨b,o,none⟩=some (.int .i64 kind)) :
  Calls Tryz.prog 138 #[.pointer (some ⟨b,o,none⟩),.agg #[.int .i64 v,.bool u]] w fun e w'=>e=.returned (.bool (zAl kind u))∧Below w.heap.size w w':=by
 have hbw:=zAm hc;have HE:Hid (((kind:Int) == 2)=(kind == 2)):=zF (by rw [Bool.eq_iff_iff,beq_iff_eq,beq_iff_eq];omega)
 go_enter Tryz.func138,Tryz.ntmps138
 go_wp2_with fail
 go_quiet (fail)
 go_wp2_with fail;go_ret;exact ⟨zAI (by rw [zA HE];rfl),below_drewN ((Below.refl _ _).alloc (Nat.le_refl _) _) nq⟩
theorem zBW (base b o:Nat) (p:List Stp) (vS:Value) (n:Nat) (w:World) (hs:w.cell? ⟨b,o + 1,none⟩=some vS) (hown:w.ownsRow base 134 6 vS p.length (zAk p)) (hl:p.length≤1048576) :
  Calls Tryz.prog 73 #[.pointer (some ⟨b,o,none⟩),.int .i64 n] w fun e w'=>e=.returned (zAj (zM p n))∧Below w.heap.size w w':=by
 obtain ⟨aS,cS,rfl⟩:=zN hown;have hbw:=zAm hs
 by_cases h1:n < 1
 ·have HL:Hid (zM p n=(0,0)):=zF (zE4 p n (Or.inl h1));have e:n=0:=(by omega);subst e;clear h1
  go_enter Tryz.func73,Tryz.ntmps73
  go_wp2_with fail;refine bodyPost_ret (v:=zAj (0,0)) (by simp [results,Tryz.results73,go_sem]) rfl ⟨by rw [zA HL],?_⟩;exact (Below.refl _ _).alloc (Nat.le_refl _) _
 ·have hd1:decide ((n:Int) < 1)=false:=by simp;omega
  by_cases h2:p.length < n
  ·have HL:Hid (zM p n=(0,0)):=zF (zE4 p n (Or.inr h2));have hd2:decide (p.length < n)=true:=(by simpa using h2);clear h1 h2
   go_enter Tryz.func73,Tryz.ntmps73
   go_wp2_with fail;refine bodyPost_ret (v:=zAj (0,0)) (by simp [results,Tryz.results73,go_sem]) rfl ⟨by rw [zA HL],?_⟩;exact (Below.refl _ _).alloc (Nat.le_refl _) _
  ·obtain ⟨m,rfl⟩:∃ m,n=m + 1:=⟨n - 1,by omega⟩;have hm:m < p.length:=(by omega);have hd2:decide (p.length < m + 1)=false:=(by simp;omega);have hd3:decide ((p.length:Int) < ((m:Int) + 1))=false:=(by simp;omega);have hd4:decide ((m:Int) + 1 < 1)=false:=(by simp;omega);have HL:Hid (zM p (m + 1)=p[m].lits):=zF (zBU p m hm);obtain ⟨g,cap,hVe,hg,hg',_,hcell⟩:=zS hown (by omega);injection hVe with hVe _ hV2;subst hVe hV2;have hx0:w.cell? ⟨g,m * 6 + 4,none⟩=some (.int .i64 (p[m].lits.1:Int)):=hcell _ _ (zh p m 4 hm (by omega));have hx1:w.cell? ⟨g,m * 6 + 5,none⟩=some (.int .i64 (p[m].lits.2:Int)):=hcell _ _ (zh p m 5 hm (by omega));clear hcell h1 h2;generalize p[m].lits=c at *;obtain ⟨c1,c2⟩:=c;dsimp only at *
   go_enter Tryz.func73,Tryz.ntmps73
   go_wp2_with fail;refine bodyPost_ret (v:=zAj (c1,c2)) (by simp [results,Tryz.results73,go_sem]) rfl ⟨by rw [zA HL],?_⟩;exact (Below.refl _ _).alloc (Nat.le_refl _) _
abbrev zCi (s:Stp):Value:=.agg #[.int .i64 (s.rule:Int),.int .i64 (s.first:Int),.int .i64 (s.second:Int),.int .i64 (s.var:Int),.int .i64 (s.lits.1:Int),.int .i64 (s.lits.2:Int)]
theorem zER (base b o:Nat) (p:List Stp) (vS:Value) (s:Stp) (w:World) (hs:w.cell? ⟨b,o + 1,none⟩=some vS) (hown:w.ownsRow base 134 6 vS p.length (zAk p)) (hl:p.length≤1048576) (hb:∀ s∈p,s.lits.1 < 512∧s.lits.2 < 512) :
  Calls Tryz.prog 127 #[.pointer (some ⟨b,o,none⟩),zCi s] w fun e w'=>e=.returned (zAj (zi (zM p s.first) (zM p s.second) s.var))∧Below w.heap.size w w':=by
 have hbw:=zAm hs;have hl1:=zAX p hb s.first;have hl2:=zAX p hb s.second;have HW:Hid (zi (zM p s.first) (zM p s.second) s.var=zAV ((zM p s.first).1 ||| (zM p s.second).1,(zM p s.first).2 ||| (zM p s.second).2) s.var):=zF rfl;obtain ⟨sr,sf,ss,sv,sl⟩:=s;obtain ⟨sl1,sl2⟩:=sl;dsimp only at *
 go_enter Tryz.func127,Tryz.ntmps127
 go_wp2_with fail;generalize hw0:((w.alloc (.cells #[.int .i64 (sr:Int),.int .i64 (sf:Int),.int .i64 (ss:Int),.int .i64 (sv:Int),.int .i64 (sl1:Int),.int .i64 (sl2:Int)] 134)).alloc (.cells #[.int .i64 0,.int .i64 0] 74))=u1;have hB:Below w.heap.size w u1:=(by rw [← hw0];exact ((Below.refl _ _).alloc (Nat.le_refl _) _).alloc (by simp) _);have hst:u1.heap[w.heap.size]?=some (.cells #[.int .i64 (sr:Int),.int .i64 (sf:Int),.int .i64 (ss:Int),.int .i64 (sv:Int),.int .i64 (sl1:Int),.int .i64 (sl2:Int)] 134 (0,0)):=(by rw [← hw0,heap_alloc_old _ _ (by simp)];exact zP (by simp));have hrs:u1.heap[w.heap.size + 1]?=some (.cells #[.int .i64 0,.int .i64 0] 74 (0,0)):=(by rw [← hw0];exact zP (by simp));clear hw0;obtain ⟨cst0,cst1,cst2,cst3,cst4,cst5⟩:=zAH hst;have lst:=zB hst;obtain ⟨crs0,crs1⟩:=zJ hrs;have lrs:=zB hrs;have hc:u1.cell? ⟨b,o + 1,none⟩=some vS:=(by rw [hB.cell (p:=⟨b,o + 1,none⟩) hbw];exact hs);have hbw2:b < u1.heap.size:=Nat.lt_of_lt_of_le hbw hB.size;refine (zBW base b o p vS sf _ hc (zO hown hB) hl).mono ?_;rintro e u2 ⟨rfl,b2⟩;replace hB:=hB.trans (b2.mono hB.size);replace hst:=zH b2 hst;clear cst0 cst1 cst2 cst3 cst4 cst5;obtain ⟨cst0,cst1,cst2,cst3,cst4,cst5⟩:=zAH hst;replace lst:=zB hst;replace hrs:=zH b2 hrs;clear crs0 crs1;obtain ⟨crs0,crs1⟩:=zJ hrs;replace lrs:=zB hrs;replace hc:u2.cell? ⟨b,o + 1,none⟩=some vS:=(by rw [hB.cell (p:=⟨b,o + 1,none⟩) hbw];exact hs);replace hbw2:b < u2.heap.size:=Nat.lt_of_lt_of_le hbw hB.size;generalize hea:zM p sf=a at *;have HEA:=zF hea;clear hea;obtain ⟨a1,a2⟩:=a;dsimp only at *;go_wp2_with fail;generalize hw0:u2.alloc (.cells #[.int .i64 (a1:Int),.int .i64 (a2:Int)] 74)=u3;have b3:Below u2.heap.size u2 u3:=(by rw [← hw0];exact (Below.refl _ _).alloc (Nat.le_refl _) _);have hfi:u3.heap[u2.heap.size]?=some (.cells #[.int .i64 (a1:Int),.int .i64 (a2:Int)] 74 (0,0)):=(by rw [← hw0];exact heap_alloc_new _ _);clear hw0;replace hB:=hB.trans (b3.mono hB.size);replace hst:=zH b3 hst;clear cst0 cst1 cst2 cst3 cst4 cst5;obtain ⟨cst0,cst1,cst2,cst3,cst4,cst5⟩:=zAH hst;replace lst:=zB hst;replace hrs:=zH b3 hrs;clear crs0 crs1;obtain ⟨crs0,crs1⟩:=zJ hrs;replace lrs:=zB hrs;replace hc:u3.cell? ⟨b,o + 1,none⟩=some vS:=(by rw [hB.cell (p:=⟨b,o + 1,none⟩) hbw];exact hs);replace hbw2:b < u3.heap.size:=Nat.lt_of_lt_of_le hbw hB.size;obtain ⟨cfi0,cfi1⟩:=zJ hfi;have lfi:=zB hfi;refine (zBW base b o p vS ss _ hc (zO hown hB) hl).mono ?_;rintro e u4 ⟨rfl,b4⟩;replace hB:=hB.trans (b4.mono hB.size);replace hst:=zH b4 hst;clear cst0 cst1 cst2 cst3 cst4 cst5;obtain ⟨cst0,cst1,cst2,cst3,cst4,cst5⟩:=zAH hst;replace lst:=zB hst;replace hrs:=zH b4 hrs;clear crs0 crs1;obtain ⟨crs0,crs1⟩:=zJ hrs;replace lrs:=zB hrs;replace hfi:=zH b4 hfi;clear cfi0 cfi1;obtain ⟨cfi0,cfi1⟩:=zJ hfi;replace lfi:=zB hfi;replace hc:u4.cell? ⟨b,o + 1,none⟩=some vS:=(by rw [hB.cell (p:=⟨b,o + 1,none⟩) hbw];exact hs);replace hbw2:b < u4.heap.size:=Nat.lt_of_lt_of_le hbw hB.size;generalize hea:zM p ss=a at *;have HEB:=zF hea;clear hea;obtain ⟨d1,d2⟩:=a;dsimp only at *;go_wp2_with fail;generalize hw0:u4.alloc (.cells #[.int .i64 (d1:Int),.int .i64 (d2:Int)] 74)=u5;have b5:Below u4.heap.size u4 u5:=(by rw [← hw0];exact (Below.refl _ _).alloc (Nat.le_refl _) _);have hse:u5.heap[u4.heap.size]?=some (.cells #[.int .i64 (d1:Int),.int .i64 (d2:Int)] 74 (0,0)):=(by rw [← hw0];exact heap_alloc_new _ _);clear hw0;replace hB:=hB.trans (b5.mono hB.size);replace hst:=zH b5 hst;clear cst0 cst1 cst2 cst3 cst4 cst5;obtain ⟨cst0,cst1,cst2,cst3,cst4,cst5⟩:=zAH hst;replace lst:=zB hst;replace hrs:=zH b5 hrs;clear crs0 crs1;obtain ⟨crs0,crs1⟩:=zJ hrs;replace lrs:=zB hrs;replace hfi:=zH b5 hfi;clear cfi0 cfi1;obtain ⟨cfi0,cfi1⟩:=zJ hfi;replace lfi:=zB hfi;replace hc:u5.cell? ⟨b,o + 1,none⟩=some vS:=(by rw [hB.cell (p:=⟨b,o + 1,none⟩) hbw];exact hs);replace hbw2:b < u5.heap.size:=Nat.lt_of_lt_of_le hbw hB.size;obtain ⟨cse0,cse1⟩:=zJ hse;have lse:=zB hse;refine (zPd a1 a2 d1 d2 _ hl1.1 hl1.2 hl2.1 hl2.2).mono ?_;rintro e u6 ⟨rfl,b6⟩;replace hB:=hB.trans (b6.mono hB.size);replace hst:=zH b6 hst;clear cst0 cst1 cst2 cst3 cst4 cst5;obtain ⟨cst0,cst1,cst2,cst3,cst4,cst5⟩:=zAH hst;replace lst:=zB hst;replace hrs:=zH b6 hrs;clear crs0 crs1;obtain ⟨crs0,crs1⟩:=zJ hrs;replace lrs:=zB hrs;replace hfi:=zH b6 hfi;clear cfi0 cfi1;obtain ⟨cfi0,cfi1⟩:=zJ hfi;replace lfi:=zB hfi;replace hse:=zH b6 hse;clear cse0 cse1;obtain ⟨cse0,cse1⟩:=zJ hse;replace lse:=zB hse;replace hc:u6.cell? ⟨b,o + 1,none⟩=some vS:=(by rw [hB.cell (p:=⟨b,o + 1,none⟩) hbw];exact hs);replace hbw2:b < u6.heap.size:=Nat.lt_of_lt_of_le hbw hB.size;have hu1:=zBD a1 d1 hl1.1 hl2.1;have hu2:=zBD a2 d2 hl1.2 hl2.2;generalize a1 ||| d1=pu at *;generalize a2 ||| d2=nu at *;go_wp2_with fail;generalize hw0:u6.alloc (.cells #[.int .i64 (pu:Int),.int .i64 (nu:Int)] 74)=u7;have b7:Below u6.heap.size u6 u7:=(by rw [← hw0];exact (Below.refl _ _).alloc (Nat.le_refl _) _);have hbo:u7.heap[u6.heap.size]?=some (.cells #[.int .i64 (pu:Int),.int .i64 (nu:Int)] 74 (0,0)):=(by rw [← hw0];exact heap_alloc_new _ _);clear hw0;replace hB:=hB.trans (b7.mono hB.size);replace hst:=zH b7 hst;clear cst0 cst1 cst2 cst3 cst4 cst5;obtain ⟨cst0,cst1,cst2,cst3,cst4,cst5⟩:=zAH hst;replace lst:=zB hst;replace hrs:=zH b7 hrs;clear crs0 crs1;obtain ⟨crs0,crs1⟩:=zJ hrs;replace lrs:=zB hrs;replace hfi:=zH b7 hfi;clear cfi0 cfi1;obtain ⟨cfi0,cfi1⟩:=zJ hfi;replace lfi:=zB hfi;replace hse:=zH b7 hse;clear cse0 cse1;obtain ⟨cse0,cse1⟩:=zJ hse;replace lse:=zB hse;replace hc:u7.cell? ⟨b,o + 1,none⟩=some vS:=(by rw [hB.cell (p:=⟨b,o + 1,none⟩) hbw];exact hs);replace hbw2:b < u7.heap.size:=Nat.lt_of_lt_of_le hbw hB.size;obtain ⟨cbo0,cbo1⟩:=zJ hbo;have lbo:=zB hbo;refine (zDu pu nu sv _ hu1 hu2).mono ?_;rintro e u8 ⟨rfl,b8⟩;replace hB:=hB.trans (b8.mono hB.size);replace hst:=zH b8 hst;clear cst0 cst1 cst2 cst3 cst4 cst5;obtain ⟨cst0,cst1,cst2,cst3,cst4,cst5⟩:=zAH hst;replace lst:=zB hst;replace hrs:=zH b8 hrs;clear crs0 crs1;obtain ⟨crs0,crs1⟩:=zJ hrs;replace lrs:=zB hrs;replace hfi:=zH b8 hfi;clear cfi0 cfi1;obtain ⟨cfi0,cfi1⟩:=zJ hfi;replace lfi:=zB hfi;replace hse:=zH b8 hse;clear cse0 cse1;obtain ⟨cse0,cse1⟩:=zJ hse;replace lse:=zB hse;replace hbo:=zH b8 hbo;clear cbo0 cbo1;obtain ⟨cbo0,cbo1⟩:=zJ hbo;replace lbo:=zB hbo;replace hc:u8.cell? ⟨b,o + 1,none⟩=some vS:=(by rw [hB.cell (p:=⟨b,o + 1,none⟩) hbw];exact hs);replace hbw2:b < u8.heap.size:=Nat.lt_of_lt_of_le hbw hB.size;have hlt:=zBh (pu,nu) sv ⟨hu1,hu2⟩;generalize zAV (pu,nu) sv=cw at *;obtain ⟨p',n'⟩:=cw;dsimp only at *;have z0:=zD hrs 0;have z1:=zD hrs 1;have hR:=zI (zI hrs 0 (.int .i64 (p':Int))) 1 (.int .i64 (n':Int));have j0:=zC hR 0;have j1:=zC hR 1;go_wp2_with fail;refine bodyPost_ret (v:=zAj (p',n')) (by simp [results,Tryz.results127,go_sem,j0,j1]) rfl ⟨by rw [zA HEA,zA HEB,zA HW],?_⟩;exact (hB.setCell (p:=⟨w.heap.size + 1,0,none⟩) (Nat.le_succ _) _).setCell (p:=⟨w.heap.size + 1,1,none⟩) (Nat.le_succ _) _
end Go.Proofs.YtgipjjhkhfihpaaGreatDoor
