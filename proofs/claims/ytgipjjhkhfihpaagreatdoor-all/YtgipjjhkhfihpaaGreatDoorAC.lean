import Derived.Test.YtgipjjhkhfihpaaGreatDoorAB
import Derived.Deep.QuietTactic
import Derived.BigQuiet
import Derived.Test.YtgipjjhkhfihpaaGreatDoorRows
import Derived.ProofKit
import Derived.SizedLaws
import Derived.OpenShut
import Derived.Deep.Slices
import Derived.Test.YtgipjjhkhfihpaaGreatDoorCards
import Derived.Test.YtgipjjhkhfihpaaGreatDoorTie
import Derived.LaidMore
import Derived.Stop.Joined
import Derived.Lib.LaidTab
import Derived.Deep.DeepHandedRow
set_option maxRecDepth 100000
set_option maxHeartbeats 6400000
namespace Go.Proofs.YtgipjjhkhfihpaaGreatDoor
open Go.RowKit
theorem zJv (r:List UInt8) (h:0 < dig r):zAD (dig r)=2 ^ (dig r).toNat:=by
 have:=zB3 r
 unfold zAD;rw [if_pos ⟨by omega,by omega⟩]
theorem zGP (c:Nat × Nat) (w:List UInt8):(zk c w).2=zBb w∧(zBb w=true→(zk c w).1=zQ c (zAn w)):=by
 unfold zk zBb zAn
 split
 ·next r=>
  refine ⟨rfl,?_⟩;intro h;have h':0 < dig r:=of_decide_eq_true h;show (c.1,c.2 ||| 2 ^ (dig r).toNat)=zQ c (- dig r);unfold zQ;rw [if_pos (by omega),Int.neg_neg,zJv r h']
 ·next hw=>
  have hh:¬ w.head?=some 45:=by
   intro e
   cases w with
   | nil=>simp at e
   | cons a b=>simp at e;subst e;exact hw b rfl
  rw [if_neg hh,if_neg hh];refine ⟨rfl,?_⟩;intro h;have h':0 < dig w:=of_decide_eq_true h;unfold zQ;rw [if_neg (by omega),zJv w h']
theorem zNQ (ws:List (List UInt8)):∀ (c:Nat × Nat),(ws.foldl (fun st w=>((zk st.1 w).1,st.2 && (zk st.1 w).2)) (c,false)).2=false:=by
 induction ws with
 | nil=>intro c;rfl
 | cons w ws ih=>intro c;exact ih _
theorem zSG (ws:List (List UInt8)):∀ (c:Nat × Nat),
  match zDf c ws with
  | none=>(ws.foldl (fun st w=>((zk st.1 w).1,st.2 && (zk st.1 w).2)) (c,true)).2=false
  | some c'=>ws.foldl (fun st w=>((zk st.1 w).1,st.2 && (zk st.1 w).2)) (c,true)=(c',true):=by
 induction ws with
 | nil=>intro c;rfl
 | cons w ws ih=>
  intro c;obtain ⟨h1,h2⟩:=zGP c w;rw [zDf];simp only [List.foldl_cons,Bool.true_and,h1]
  cases hg:zBb w with
  | false=>exact zNQ ws _
  | true=>
   rw [h2 hg];exact ih _
structure zEA (st:RS) (q:QS):Prop where
 cl:st.cl=q.cl
 told:st.told=q.vars.map (·.1)
 kinds:st.kinds=q.vars.map (·.2)
 seen:∀ v,st.seen.testBit v=zCk q.vars v
 used:∀ v:Nat,1≤v→v≤8→st.used.testBit v=inC q.cl v
theorem zPk (vs:List (Nat × Bool)) (x:Nat × Bool) (v:Nat):zCk (vs ++ [x]) v=(zCk vs v || (x.1 == v)):=by
 unfold zCk;rw [List.any_append];simp
theorem zDc (n v:Nat):(2 ^ n).testBit v=(n == v):=by
 rw [Nat.testBit_two_pow];rfl
theorem zNE (a:Bool) (ws:List (List UInt8)):∀ (p:PS),p.ok=false→(ws.foldl (zBG a) p).ok=false:=by
 induction ws with
 | nil=>intro p h;exact h
 | cons w ws ih=>intro p h;refine ih _ ?_;simp [zBG,h]
theorem zSb (a:Bool) (ws:List (List UInt8)):∀ (p:PS) (vs:List (Nat × Bool)),p.ok=true→p.told=vs.map (·.1)→p.kinds=vs.map (·.2)→(∀ v,p.seen.testBit v=zCk vs v)→
  match zBS a vs ws with
  | none=>(ws.foldl (zBG a) p).ok=false
  | some vs'=>(ws.foldl (zBG a) p).ok=true∧(ws.foldl (zBG a) p).told=vs'.map (·.1)∧(ws.foldl (zBG a) p).kinds=vs'.map (·.2)∧∀ v,(ws.foldl (zBG a) p).seen.testBit v=zCk vs' v:=by
 induction ws with
 | nil=>intro p vs h1 h2 h3 h4;exact ⟨h1,h2,h3,h4⟩
 | cons w ws ih=>
  intro p vs h1 h2 h3 h4;obtain ⟨d0,d1⟩:=zB3 w;obtain ⟨dn,hdn⟩:=Int.eq_ofNat_of_zero_le d0;have hvs:=zIg a p w dn hdn;have hb:zFW vs w=decide (dn=0∨p.seen.testBit dn=true):=by
   unfold zFW;rw [hdn,h4];rw [Bool.eq_iff_iff]
   simp
  rw [zBS,List.foldl_cons,hvs,hb]
  by_cases hbad:dn=0∨p.seen.testBit dn=true
  ·rw [if_pos hbad,if_pos (by simpa using hbad)];exact zNE a ws _ rfl
  ·rw [if_neg hbad,if_neg (by simpa using hbad)];have e:(dig w).toNat=dn:=(by rw [hdn];simp);rw [e];refine ih _ _ h1 (by simp [h2]) (by simp [h3]) ?_;intro v;rw [zPk];show (p.seen ||| 2 ^ dn).testBit v=_;rw [Nat.testBit_or,h4,zDc]
theorem zRl (cl:List (Nat × Nat)) (c:Nat × Nat) (v:Nat) (h1:1≤v) (h8:v≤8):inC (cl ++ [c]) v=(inC cl v || (c.1 ||| c.2).testBit v):=by
 unfold inC;rw [List.any_append]
 congr 1
 simp only [List.any_cons,List.any_nil,Bool.or_false];have e:zAD (v:Int)=2 ^ v:=(by unfold zAD;rw [if_pos ⟨by omega,by omega⟩];simp);rw [e,nat_bit,Nat.testBit_eq_decide_div_mod_eq];have hp:0 < 2 ^ v:=Nat.two_pow_pos v
 rcases Nat.mod_two_eq_zero_or_one ((c.1 ||| c.2) / 2 ^ v) with h | h
 ·rw [h];simp
 ·rw [h];simp
theorem zSX:dig []=0:=rfl
theorem zHd (row hd:List UInt8) (tl:List (List UInt8)) (h:zZ 32 row=hd :: tl) (hs:zB4 row=false):hd=[]∨[]∈tl:=by
 unfold zB4 at hs;rw [h,Bool.not_eq_false',List.any_eq_true] at hs;obtain ⟨x,hx,he⟩:=hs
 have:x=[]:=by simpa using he
 subst this;simp at hx
 rcases hx with hx | hx
 ·exact Or.inl hx
 ·exact Or.inr hx
theorem zQj (ws:List (List UInt8)) (h:[]∈ws):∀ c,zDf c ws=none:=by
 induction ws with
 | nil=>simp at h
 | cons w ws ih=>
  intro c;rw [zDf]
  rcases List.mem_cons.1 h with h | h
  ·subst h;rw [if_neg (by decide)]
  ·split
   ·exact ih h _
   ·rfl
theorem zIY (u:Bool) (ws:List (List UInt8)) (h:[]∈ws):∀ vs,zBS u vs ws=none:=by
 induction ws with
 | nil=>simp at h
 | cons w ws ih=>
  intro vs;rw [zBS]
  rcases List.mem_cons.1 h with h | h
  ·subst h;rw [if_pos (by unfold zFW;rw [zSX];rfl)]
  ·split
   ·rfl
   ·exact ih h _
theorem zJQ (st:RS) (q:QS) (hd:List UInt8) (tl:List (List UInt8)) (h:zEA st q) :
  match qOf q hd tl with
  | none=>(zEH st hd tl).2=false
  | some q'=>(zEH st hd tl).2=true∧zEA (zEH st hd tl).1 q':=by
 have hpre:∀ a:Bool,match (zAO q tl a).map (fun vs=>({ q with vars:=vs }:QS)) with
   | none=>st.cl=[]∧tl≠[]→(zAg a st tl).ok=false
   | some q'=>(st.cl=[]∧tl≠[])∧(zAg a st tl).ok=true∧zEA { st with told:=(zAg a st tl).told,kinds:=(zAg a st tl).kinds,seen:=(zAg a st tl).seen } q':=by
  intro a;unfold zAO
  by_cases hc:tl=[]∨q.cl≠[]
  ·rw [if_pos hc];rintro ⟨h1,h2⟩
   rcases hc with hc | hc
   ·exact absurd hc h2
   ·rw [h.cl] at h1;exact absurd h1 hc
  ·rw [if_neg hc];have hc1:tl≠[]:=fun e=>hc (Or.inl e)
   have hc2:st.cl=[]:=by rw [h.cl];exact Classical.byContradiction fun e=>hc (Or.inr e)
   have hv:=zSb a tl ⟨st.told,st.kinds,st.seen,true⟩ q.vars rfl h.told h.kinds h.seen
   cases hp:zBS a q.vars tl with
   | none=>rw [hp] at hv;exact fun _=>hv
   | some vs=>
    rw [hp] at hv;obtain ⟨v1,v2,v3,v4⟩:=hv;exact ⟨⟨hc2,hc1⟩,v1,h.cl,v2,v3,v4,h.used⟩
 unfold qOf
 by_cases he:hd=[101]
 ·subst he;rw [if_pos rfl];have hp:=hpre false;unfold zEH;rw [if_neg (by decide)]
  cases hq:(zAO q tl false).map (fun vs=>({ q with vars:=vs }:QS)) with
  | none=>
   rw [hq] at hp
   by_cases hc:st.cl=[]∧tl≠[]
   ·rw [if_pos ⟨Or.inl rfl,hc.1,hc.2⟩];exact hp hc
   ·rw [if_neg (fun x=>hc ⟨x.2.1,x.2.2⟩)]
  | some q'=>
   rw [hq] at hp;obtain ⟨hc,h1,h2⟩:=hp;rw [if_pos ⟨Or.inl rfl,hc.1,hc.2⟩];exact ⟨h1,h2⟩
 ·rw [if_neg he]
  by_cases ha:hd=[97]
  ·subst ha;rw [if_pos rfl];have hp:=hpre true;unfold zEH;rw [if_neg (by decide)]
   cases hq:(zAO q tl true).map (fun vs=>({ q with vars:=vs }:QS)) with
   | none=>
    rw [hq] at hp
    by_cases hc:st.cl=[]∧tl≠[]
    ·rw [if_pos ⟨Or.inr rfl,hc.1,hc.2⟩];exact hp hc
    ·rw [if_neg (fun x=>hc ⟨x.2.1,x.2.2⟩)]
   | some q'=>
    rw [hq] at hp;obtain ⟨hc,h1,h2⟩:=hp;rw [if_pos ⟨Or.inr rfl,hc.1,hc.2⟩];exact ⟨h1,h2⟩
  ·rw [if_neg ha]
   by_cases hc:hd=[99]
   ·subst hc;rw [if_pos rfl];unfold zEH;rw [if_pos rfl];have hl:=zSG tl (0,0);have hll:=zJU tl
    cases hq:zDf (0,0) tl with
    | none=>rw [hq] at hl;exact hl
    | some c=>
     rw [hq] at hl;have hl':zBF tl=(c,true):=hl;simp only [Option.map_some];rw [hl'];refine ⟨rfl,by simp [h.cl],h.told,h.kinds,h.seen,?_⟩;intro v h1 h8;dsimp only;rw [zRl _ _ _ h1 h8,Nat.testBit_or,Nat.testBit_or,Nat.testBit_or,h.used v h1 h8,Bool.or_assoc]
   ·rw [if_neg hc];unfold zEH;rw [if_neg hc,if_neg (fun x=>by rcases x.1 with h | h;exact he h;exact ha h)]
theorem zRG (st:RS) (q:QS) (row:List UInt8) (h:zEA st q) :
  match zCT q row with
  | none=>(zCF st row).2=false
  | some q'=>(zCF st row).2=true∧zEA (zCF st row).1 q':=by
 obtain ⟨hd,tl,hws⟩:∃ hd tl,zZ 32 row=hd :: tl:=by
  cases h:zZ 32 row with
  | nil=>simp [zZ] at h
  | cons a b=>exact ⟨a,b,rfl⟩
 rw [zE2 st row hd tl hws]
 cases hs:zB4 row with
 | true=>rw [zLl q row hd tl hws hs];exact zJQ st q hd tl h
 | false=>
  have hn:zCT q row=none:=(by unfold zCT;rw [hs];rfl);rw [hn];have hw:=zHd row hd tl hws hs;have hr:=zJQ st q hd tl h;have hq:qOf q hd tl=none:=by
   unfold qOf
   split
   ·next he=>
    rcases hw with hw | hw
    ·rw [hw] at he;cases he
    ·unfold zAO;split;rfl;rw [zIY _ _ hw];rfl
   ·split
    ·next he=>
     rcases hw with hw | hw
     ·rw [hw] at he;cases he
     ·unfold zAO;split;rfl;rw [zIY _ _ hw];rfl
    ·split
     ·next he=>
      rcases hw with hw | hw
      ·rw [hw] at he;cases he
      ·rw [zQj _ hw];rfl
     ·rfl
  rw [hq] at hr;exact hr
theorem zSW (rows:List (List UInt8)):∀ (st:RS) (q:QS) (i:Nat),zEA st q→
  match zD9 q i rows with
  | .inr j=>zAy st i rows=.inr j
  | .inl q'=>∃ st',zAy st i rows=.inl st'∧zEA st' q':=by
 induction rows with
 | nil=>intro st q i h;exact ⟨st,rfl,h⟩
 | cons r rows ih=>
  intro st q i h;have hr:=zRG st q r h;rw [zD9,zAy]
  cases hq:zCT q r with
  | none=>rw [hq] at hr;dsimp only;rw [if_neg (by rw [hr];decide)]
  | some q'=>
   rw [hq] at hr;dsimp only;rw [if_pos hr.1];exact ih _ _ _ hr.2
structure zCf (q:QS):Prop where
 nodup:(q.vars.map (·.1)).Nodup
 names:∀ x∈q.vars,1≤x.1∧x.1≤8
 bits:∀ c∈q.cl,c.1 < 512∧c.2 < 512
 bit0:∀ c∈q.cl,c.1.testBit 0=false∧c.2.testBit 0=false
theorem zIs (x:Int):(zAD x).testBit 0=false:=by
 unfold zAD
 split
 ·next h=>rw [Nat.testBit_two_pow];simp;omega
 ·simp
theorem zKJ (c:Nat × Nat) (x:Int) (h1:c.1.testBit 0=false) (h2:c.2.testBit 0=false):(zQ c x).1.testBit 0=false∧(zQ c x).2.testBit 0=false:=by
 unfold zQ;split
 ·refine ⟨h1,?_⟩;show (c.2 ||| _).testBit 0=false;rw [Nat.testBit_or,h2,zIs];rfl
 ·refine ⟨?_,h2⟩;show (c.1 ||| _).testBit 0=false;rw [Nat.testBit_or,h1,zIs];rfl
theorem zPr (ws:List (List UInt8)):∀ (c c':Nat × Nat),c.1.testBit 0=false→c.2.testBit 0=false→zDf c ws=some c'→c'.1.testBit 0=false∧c'.2.testBit 0=false:=by
 induction ws with
 | nil=>intro c c' h1 h2 h;simp [zDf] at h;subst h;exact ⟨h1,h2⟩
 | cons w ws ih=>
  intro c c' h1 h2 h;rw [zDf] at h
  split at h
  ·have:=zKJ c (zAn w) h1 h2
   exact ih _ _ this.1 this.2 h
  ·cases h
theorem zLL (u:Bool) (ws:List (List UInt8)):∀ (vs vs':List (Nat × Bool)),(vs.map (·.1)).Nodup→(∀ x∈vs,1≤x.1∧x.1≤8)→zBS u vs ws=some vs'→(vs'.map (·.1)).Nodup∧∀ x∈vs',1≤x.1∧x.1≤8:=by
 induction ws with
 | nil=>intro vs vs' h1 h2 h;simp [zBS] at h;subst h;exact ⟨h1,h2⟩
 | cons w ws ih=>
  intro vs vs' h1 h2 h;rw [zBS] at h
  split at h
  ·cases h
  ·next hb=>
   have hb':zFW vs w=false:=(by simpa using hb);unfold zFW at hb';rw [Bool.or_eq_false_iff] at hb';obtain ⟨hd,hv⟩:=hb';have hd':0 < dig w:=(by simpa using hd);have hbd:=zB3 w;refine ih _ _ ?_ ?_ h
   ·rw [List.map_append,List.nodup_append];refine ⟨h1,by simp,?_⟩;intro a ha b hb e;simp at hb;subst hb;subst e;rw [List.mem_map] at ha;obtain ⟨x,hx,hxe⟩:=ha
    have:zCk vs (dig w).toNat=true:=by
     unfold zCk;rw [List.any_eq_true];exact ⟨x,hx,by simpa using hxe⟩
    rw [this] at hv;cases hv
   ·intro x hx
    rcases List.mem_append.1 hx with hx | hx
    ·exact h2 x hx
    ·simp at hx;subst hx;constructor<;>(dsimp only;omega)
theorem zMT {q q':QS} {r:List UInt8} (hq:zCf q) (h:zCT q r=some q'):zCf q':=by
 have hpre:∀ u tl vs,zAO q tl u=some vs→zCf { q with vars:=vs }:=by
  intro u tl vs hv;unfold zAO at hv
  split at hv
  ·cases hv
  ·have:=zLL u tl _ _ hq.nodup hq.names hv
   exact ⟨this.1,this.2,hq.bits,hq.bit0⟩
 unfold zCT at h
 split at h
 ·split at h
  ·cases h
  ·next hd tl hws=>
   unfold qOf at h
   split at h
   ·cases hp:zAO q tl false with
    | none=>rw [hp] at h;cases h
    | some vs=>rw [hp] at h;simp at h;subst h;exact hpre _ _ _ hp
   ·split at h
    ·cases hp:zAO q tl true with
     | none=>rw [hp] at h;cases h
     | some vs=>rw [hp] at h;simp at h;subst h;exact hpre _ _ _ hp
    ·split at h
     ·cases hp:zDf (0,0) tl with
      | none=>rw [hp] at h;cases h
      | some c=>
       rw [hp] at h;simp at h;subst h;refine ⟨hq.nodup,hq.names,?_,?_⟩
       ·intro c' hc';simp at hc'
        rcases hc' with hc' | hc'
        ·exact hq.bits c' hc'
        ·subst hc';exact zN6 tl _ _ (by decide) (by decide) hp
       ·intro c' hc';simp at hc'
        rcases hc' with hc' | hc'
        ·exact hq.bit0 c' hc'
        ·subst hc';exact zPr tl _ _ (by decide) (by decide) hp
     ·cases h
 ·cases h
theorem zM1 (rows:List (List UInt8)):∀ (q q':QS) (i:Nat),zCf q→zD9 q i rows=.inl q'→zCf q':=by
 induction rows with
 | nil=>intro q q' i h e;simp [zD9] at e;subst e;exact h
 | cons r rows ih=>
  intro q q' i h e;rw [zD9] at e
  cases hq:zCT q r with
  | none=>rw [hq] at e;cases e
  | some q1=>rw [hq] at e;exact ih _ _ _ (zMT h hq) e
theorem zSZ (l:List UInt8) :
  match zAb l with
  | .inl a=>zCU l=.inl a
  | .inr q=>∃ st q0,zCU l=.inr (zW st)∧zEA st q0∧q=zK q0∧q0.cl.length≤24∧zCf q0:=by
 unfold zAb zCU
 by_cases hl:2000 < l.length
 ·rw [if_pos hl,if_pos hl]
 ·rw [if_neg hl,if_neg hl];have e1:(zZ 10 l).dropLast=(zU 10 l).1:=(by unfold zZ;simp);have e2:(zZ 10 l).getLast?=some (zU 10 l).2:=(by unfold zZ;simp);have e3:(zZ 10 l).length=(zU 10 l).1.length + 1:=(by unfold zZ;simp);rw [e1,e2,e3];have hr:=zSW (zU 10 l).1 rs0 ⟨[],[]⟩ 0 ⟨rfl,rfl,rfl,fun v=>by simp [rs0,zCk],fun v _ _=>by simp [rs0,inC]⟩
  cases hq:zD9 ⟨[],[]⟩ 0 (zU 10 l).1 with
  | inr j=>rw [hq] at hr;dsimp only;rw [hr]
  | inl q=>
   rw [hq] at hr;obtain ⟨st,h1,h2⟩:=hr;dsimp only;rw [h1];dsimp only
   by_cases hn:(zU 10 l).2=[]
   ·have c1:¬ ((zU 10 l).2≠[]):=fun h=>h hn
    have c2:¬ (some (zU 10 l).2≠some []):=fun h=>h (by rw [hn])
    rw [if_neg c1,if_neg c2,h2.cl]
    by_cases h24:24 < q.cl.length
    ·rw [if_pos h24,if_pos h24]
    ·rw [if_neg h24,if_neg h24];exact ⟨st,q,rfl,h2,rfl,by omega,zM1 _ _ _ _ ⟨by simp,by simp,by simp,by simp⟩ hq⟩
   ·have c2:some (zU 10 l).2≠some []:=fun h=>hn (by simpa using h)
    rw [if_pos hn,if_pos c2]
structure RefAt (lo:Nat) (w:World) (b:Nat) (F:zv):Prop where
 lo_le:lo≤b
 at_:∃ vO vE vC,w.heap[b]?=some (.cells #[vO,.int .i64 (F.all:Int),vE,vC] 92 (0,0))∧
  w.ownsRow lo 3 1 vO F.order.length (zu F.order)∧w.ownsRow lo 3 1 vE F.ends.length (zu F.ends)∧w.ownsRow lo 121 2 vC F.cl.length (zAK F.cl)
def zGT (l:List UInt8) (w:World) (e:Ending) (w':World):Prop:=
 Below w.heap.size w w'∧
 match zCU l with
 | .inl (x,i)=>e=.returned (.tuple #[.pointer none,.int .i64 (x:Int),.int .i64 (i:Int)])
 | .inr F=>∃ b,e=.returned (.tuple #[.pointer (some ⟨b,0,none⟩),.int .i64 0,.int .i64 0])∧RefAt w.heap.size w' b F
theorem zIU (l:List UInt8) (w w':World) (e:Ending) (i:Nat) (m:Int) (hm:m=(i:Int)) (hl:l.length≤2000) (hb:Below w.heap.size w w') (h:zAy rs0 0 (zZ 10 l).dropLast=.inr i)
  (he:e=.returned (.tuple #[.pointer none,.int .i64 2,.int .i64 m])):zGT l w e w':=by
 subst hm;refine ⟨hb,?_⟩;unfold zCU;rw [if_neg (by omega),h];exact he
theorem RInv.isBelow {w w1 wr:World} {bf:Nat} {st:RS} {vT vK vC:Value} (h:RInv w1 bf st vT vK vC wr) (hb:Below w.heap.size w w1) (hbf:w1.heap.size=bf):Below w.heap.size w wr:=
 hb.trans (h.below.mono (hbf ▸ hb.size))
theorem zQ0 (l:List UInt8) (w:World) (hl:l.length≤2000) :
  Calls Tryz.prog 52 #[.string ⟨l.toArray⟩] w fun e w'=>zGT l w e w':=by
 go_enter Tryz.func52,Tryz.ntmps52
 go_wp2_with fail;refine (zKR l 10 w (by omega)).mono ?_;rintro e w1 ⟨v,rfl,hown,hb⟩;obtain ⟨g,cap,rfl,hg,hg',hcap,hcell⟩:=zS hown (by simp [zZ]);have hne:0 < (zZ 10 l).length:=(by simp [zZ]);have hlen:(zZ 10 l).length≤2001:=(by have:=zA9 10 l;simp [zZ];omega);have HC:=zF hcell;clear hcell;go_wp2_with fail
 go_loopg [8,9,10,11,12] ((zZ 10 l).length) (fun q told kinds seen used i wr=>∃ (k:Nat) (st:RS) (vC:Value),i=.int .i64 k∧k + q=(zZ 10 l).length∧1≤q∧seen=.int .i64 st.seen∧used=.int .i64 st.used∧st.seen < 512∧st.used < 512∧st.told.length≤2001 * k∧st.cl.length≤k∧st.kinds.length=st.told.length∧
   RInv w1 w1.heap.size st told kinds vC wr∧zAy rs0 0 (zZ 10 l).dropLast=zAy st k ((zZ 10 l).dropLast.drop k))
 case atStart=>
  refine ⟨0,rs0,.slice none 0 0,rfl,by omega,by omega,rfl,rfl,by decide,by decide,by simp [rs0],by simp [rs0],rfl,?_,by simp⟩;exact ⟨(Below.refl _ _).alloc (Nat.le_refl _) _,heap_alloc_new _ _,World.ownsRow_nil _ _ _ _,World.ownsRow_nil _ _ _ _,World.ownsRow_nil _ _ _ _⟩
 case round=>
  obtain ⟨k,st,vC,rfl,hkq,hq1,rfl,rfl,hs1,hs2,ht1,hc1,hkt,hI,hrr⟩:=hrel;obtain ⟨wo,rfl⟩:∃ wo,wo=wr:=⟨_,rfl⟩;obtain ⟨go,rfl⟩:∃ go,go=gk:=⟨_,rfl⟩
  by_cases hlt:1 < go
  ·have hkl:k < (zZ 10 l).length:=(by omega);obtain ⟨row,hrow⟩:∃ row,(zZ 10 l)[k]?=some row:=⟨_,List.getElem?_eq_getElem hkl⟩;have hcr:wo.cell? ⟨g,k,none⟩=some (S row):=by
    rw [hI.below.cell (p:=⟨g,k,none⟩) hg'];exact zA HC k _ (by rw [List.getElem?_map,hrow];rfl)
   have hrl:row.length≤2000:=by
    have:=zDq 10 l row (List.mem_of_getElem? hrow);omega
   rw [zJF _ k row hrow (by omega)] at hrr;have HF:Hid ((zCF st row).2=false→zAy rs0 0 (zZ 10 l).dropLast=.inr (k + 1)):=zF (fun h=>by rw [hrr,zAy,if_neg (by simp [h])]);have HO:Hid ((zCF st row).2=true→zAy rs0 0 (zZ 10 l).dropLast=zAy (zCF st row).1 (k + 1) ((zZ 10 l).dropLast.drop (k + 1))):=zF (fun h=>by rw [hrr,zAy,if_pos h]);clear hrr hrow;have hdk:decide ((k:Int) < ((zZ 10 l).length:Int) - 1)=true:=(by simp;omega);go_wp2_with fail;refine (zKR row 32 wo (by omega)).mono ?_;rintro e w2 ⟨v2,rfl,hown2,hb2⟩;have hwl:(zZ 32 row).length≤2001:=(by have:=zA9 32 row;simp [zZ];omega);obtain ⟨hd,tl,hws⟩:∃ hd tl,zZ 32 row=hd :: tl:=by
    cases h:zZ 32 row with
    | nil=>simp [zZ] at h
    | cons a b=>exact ⟨a,b,rfl⟩
   rw [hws] at hown2 hwl;have HS:=zF hws;clear hws;obtain ⟨g2,cap2,rfl,hg2,hg2',hcap2,hcell2⟩:=zS hown2 (by simp);have hc20:w2.cell? ⟨g2,0,none⟩=some (S hd):=hcell2 0 _ rfl;have hI2:=hI.later hb2;have hb2s:=hb2.size;have HC2:=zF hcell2;clear hcell2;simp only [List.length_cons] at hwl hcap2 ⊢
   by_cases hc:hd=[99]
   ·subst hc;clear hown2;have HRS:=zF (zPD st row tl (zA HS));go_wp2_with fail
    go_loopg [14,16] (tl.length) (fun q ok i wx=>∃ j:Nat,i=.int .i64 (j + 1)∧j + q=tl.length∧ok=.bool (zBF (tl.take j)).2∧Below w2.heap.size w2 wx∧
     wx.heap[w2.heap.size]?=some (.cells #[.int .i64 ((zBF (tl.take j)).1.1:Int),.int .i64 ((zBF (tl.take j)).1.2:Int)] 121 (0,0)))
    case atStart=>
     refine ⟨0,rfl,by omega,rfl,(Below.refl _ _).alloc (Nat.le_refl _) _,?_⟩;exact heap_alloc_new _ _
    case round=>
     obtain ⟨j,rfl,hjq,rfl,hb3,hbc⟩:=hrel;have hll:=zJU (tl.take j)
     by_cases hj:j < tl.length
     ·have hcj:wr.cell? ⟨g2,j + 1,none⟩=some (S tl[j]):=by
       rw [hb3.cell (p:=⟨g2,j + 1,none⟩) hg2'];exact zA HC2 (j + 1) _ (by simp [hj])
      have HT:=zF (zMR tl j hj);generalize hLT:zBF (tl.take j)=LT at *;obtain ⟨⟨p,n⟩,ok⟩:=LT;go_wp2_with fail;refine (zHr tl[j] w2.heap.size p n wr hbc hll.1 hll.2).mono ?_;rintro e w3 ⟨rfl,hbc3,ho3⟩;have hb4:Below w2.heap.size w2 w3:=hb3.trans (ho3.below hb3.size (fun k hk h=>by omega))
      cases ok with
      | true=>
       go_wp2_with fail
       go_roundg (gk - 1)
       case measure=>omega
       case rel=>
        refine ⟨j + 1,by go_num,by omega,?_,hb4,?_⟩
        ·rw [zA HT];simp
        ·rw [zA HT];exact hbc3
      | false=>
       go_wp2_with fail
       go_roundg (gk - 1)
       case measure=>omega
       case rel=>
        refine ⟨j + 1,by go_num,by omega,?_,hb4,?_⟩
        ·rw [zA HT];simp
        ·rw [zA HT];exact hbc3
     ·have hjl:j=tl.length:=(by omega);subst hjl;have hI3:=hI2.later hb3;have hbf:w1.heap.size < w2.heap.size:=zB hI2.fb;have hbw:w2.heap.size < wr.heap.size:=zB hbc;have hbfw:w1.heap.size < wr.heap.size:=(by omega);have HTL:Hid (zBF (tl.take tl.length)=zBF tl):=zF (by rw [List.take_length]);generalize hLT:zBF (tl.take tl.length)=LT at *;obtain ⟨⟨p,n⟩,ok⟩:=LT;have hpn:p < 512:=hll.1;have hnn':n < 512:=hll.2;have hf3:wr.cell? ⟨w1.heap.size,3,none⟩=some vC:=zE hI3.fb rfl;have hfz:=zD hI3.fb 3;have hp0:wr.cell? ⟨w2.heap.size,0,none⟩=some (.int .i64 p):=zE hbc rfl;have hp1:wr.cell? ⟨w2.heap.size,1,none⟩=some (.int .i64 n):=zE hbc rfl;have hapc:vC.ownBlock≠some w2.heap.size:=fun e=>by have:=hI2.oC.lt _ e;omega
      have hor1:bits .or .i64 (st.used:Int) (p:Int)=((st.used ||| p:Nat):Int):=zCK _ _ (by omega) (by omega);have hlt1:st.used ||| p < 512:=zBD _ _ hs2 hpn;have hor2:bits .or .i64 ((st.used ||| p:Nat):Int) (n:Int)=((st.used ||| p ||| n:Nat):Int):=zCK _ _ (by omega) (by omega);have hlt2:st.used ||| p ||| n < 512:=zBD _ _ hlt1 hnn';obtain ⟨i1,hi1,hz10,hz11,hz12⟩:=info_parts Tryz.info121;go_wp2_with fail
      go_region_law (refine zE6 rfl (.tmp 71) (.tmp 73) 90 rfl (w1.heap.size + 1) 121 i1 (.agg #[.int .i64 0,.int .i64 0]) 2 16 Tryz.underlying90 hi1 hz10 hz11 hz12 rfl (by decide) vC st.cl.length (zAK st.cl) (hI3.oC.alloc _).drew rfl ⟨wr.heap.size,0,none⟩ 1 1 [.int .i64 p,.int .i64 n] rfl rfl (zBX wr [.int .i64 p,.int .i64 n] 121) (by simp [Value.oneCell']) (by unfold maxLen;omega) (by omega) (by simp;omega) ?_;intro v' w' hown' hgrow hnn;have hJ:=hI3.push_clause (((Below.refl _ wr).alloc (Nat.le_refl _) _).drew) hgrow hown' (st.used ||| p ||| n);obtain ⟨g3,cap3,rfl,hg3,hg3',hcap3,hcell3⟩:=zS hown' (by omega);obtain ⟨hfb',hbc'⟩:=zKa hI3 (((Below.refl _ wr).alloc (Nat.le_refl _) _).drew) hgrow hbc hapc;have hq3:w'.cell? ⟨w1.heap.size,3,none⟩=some vC:=(by rw [zC hfb'];rfl);have hqz:=zD hfb' 3;have hq0:w'.cell? ⟨w2.heap.size,0,none⟩=some (.int .i64 p):=(by rw [zC hbc'];rfl);have hq1:w'.cell? ⟨w2.heap.size,1,none⟩=some (.int .i64 n):=(by rw [zC hbc'];rfl))
      all_goals
       cases ok with
       | false=>
        go_wp2_with fail;go_ret3;exact zIU l w _ _ (k + 1) _ (by omega) hl (hJ.isBelow hb rfl) (zA HF (by rw [zA HRS,← zA HTL])) rfl
       | true=>
        go_wp2_with fail
        go_roundg (go - 1)
        case measure=>omega
        case rel=>
         refine ⟨k + 1,{ st with cl:=st.cl ++ [(p,n)],used:=st.used ||| p ||| n },_,by go_num,by omega,by omega,rfl,?_,hs1,hlt2,by simp;omega,by simp;omega,hkt,hJ,?_⟩
         ·first | rfl | rw [hor1,hor2]
         ·rw [zA HO (by rw [zA HRS,← zA HTL]),zA HRS,← zA HTL]
   ·have hcb:(hd == [99])=false:=(by simp [hc]);have hfC:w2.cell? ⟨w1.heap.size,3,none⟩=some vC:=zE hI2.fb rfl;obtain ⟨aC,cC,rfl⟩:=zN hI2.oC
    by_cases hn:(hd=[101]∨hd=[97])∧st.cl=[]∧tl≠[]
    ·obtain ⟨hh,hcl,htl⟩:=hn;have HRS:=zF (zOT st row hd tl (zA HS) hh hcl htl);have hcl0:((st.cl.length:Int) == 0)=true:=(by rw [hcl];rfl);have htl1:decide ((1:Int) < (tl.length:Int) + 1)=true:=by
      cases tl with
      | nil=>exact absurd rfl htl
      | cons a b=>simp;omega
     have HCL:=zF hcl;clear hcl htl;obtain ⟨ua,hua⟩:∃ ua,(hd == [97])=ua:=⟨_,rfl⟩;have hea:(hd == [101])=!ua:=(by rcases hh with rfl | rfl<;>(subst hua;decide));rw [hua] at HRS;clear hh hc;obtain ⟨i3,hi3,hz30,hz31,hz32⟩:=info_parts Tryz.info3;obtain ⟨i4,hi4,hz40,hz41,hz42⟩:=info_parts Tryz.info4
     cases ua
     all_goals
      go_wp2_with fail
      go_loopg [8,9,10,14,18] (tl.length) (fun q told kinds seen ok i wx=>∃ j:Nat,i=.int .i64 (j + 1)∧j + q=tl.length∧ok=.bool (zAg (hd == [97]) st (tl.take j)).ok∧seen=.int .i64 ((zAg (hd == [97]) st (tl.take j)).seen:Int)∧
       wx.ownsRow wo.heap.size 9 1 (.slice (some ⟨g2,0,none⟩) (tl.length + 1) cap2) (tl.length + 1) ((hd :: tl).map S)∧
       RInv w1 w1.heap.size { st with told:=(zAg (hd == [97]) st (tl.take j)).told,kinds:=(zAg (hd == [97]) st (tl.take j)).kinds,seen:=(zAg (hd == [97]) st (tl.take j)).seen } told kinds (.slice aC st.cl.length cC) wx)
      case atStart=>exact ⟨0,rfl,by omega,rfl,rfl,hown2,hI2⟩
      case round=>
       obtain ⟨j,rfl,hjq,rfl,rfl,how,hIx⟩:=hrel;obtain ⟨hv1,hv2,hv3⟩:=zOX (hd == [97]) st (tl.take j) hs1 hkt;rw [List.length_take] at hv2 hv3
       by_cases hj:j < tl.length
       ·have hcj:wr.cell? ⟨g2,j + 1,none⟩=some (S tl[j]):=by
         rw [how.cellAt (j + 1) (by omega)];simp [hj]
        have HT:=zF (zLE (hd == [97]) st tl j hj);rw [hua] at hv1 hv2 hv3 HT hIx ⊢;generalize hLT:zAg _ st (tl.take j)=LT at *;obtain ⟨pt,pk,ps,pok⟩:=LT;obtain ⟨d0,d1⟩:=zB3 tl[j];obtain ⟨dn,hdn⟩:=Int.eq_ofNat_of_zero_le d0;have HVS:=zF (zIg (hd == [97]) ⟨pt,pk,ps,pok⟩ tl[j] dn hdn);rw [hua] at HVS;dsimp only at hv1 hv2 hv3 HVS hIx;have hd8:dn≤8:=(by omega);have hor:bits .or .i64 (ps:Int) (wrap64 (2 ^ dn))=((ps ||| 2 ^ dn:Nat):Int):=by
         have:=zF1 ps hv1 (dn:Int) (by omega) (by omega)
         rwa [Int.toNat_natCast] at this
        have hpl:pt.length≤2001 * k + 2001:=(by omega);have hkl':pk.length≤2001 * k + 2001:=(by omega);have hk2001:k≤2001:=(by omega);go_wp2_with fail;refine (zDr tl[j] wr).mono ?_;rintro e w3 ⟨rfl,hb3⟩;rw [hdn];clear hdn d0 d1;have hIy:=hIx.later hb3;have howy:=zO how hb3;have hc30:w3.cell? ⟨g2,0,none⟩=some (S hd):=(by rw [howy.cellAt 0 (by omega)];rfl);have hbs3:w1.heap.size + 1≤w3.heap.size:=zB hIy.fb;have hex:∃ b0 b1:Bool,((dn:Int) == 0)=b0∧(bits .and .i64 ((ps:Int) / 2 ^ dn) 1 == 1)=b1∧(decide (dn=0∨ps.testBit dn=true))=(b0 || b1):=by
         refine ⟨_,_,rfl,rfl,?_⟩;rw [zCx ps dn hv1 hd8]
         by_cases h:dn=0<;>simp [h]
        obtain ⟨b0,b1,hq0,hq1,hq2⟩:=hex;have HQ:=zF hq2;clear hq2
        cases b0<;>cases b1
        all_goals
         go_wp2_with (first | (at_builtin;refine zV rfl (.tmp 132) (.tmp 134) 25 rfl (w1.heap.size + 1) i3 (.int .i64 0) 1 8 Tryz.underlying25 hi3 hz30 hz31 hz32 rfl (by decide) _ _ _ hIy.oT rfl rfl rfl (by simp [Value.oneCell']) (by unfold maxLen;simp;omega) (by simp;omega) hbs3 ?_;intro v4 w4 hown4 hgrow4 hnn4;have hI4:=hIy.push_told (Below.refl _ _) hgrow4 hown4 (ps ||| 2 ^ dn);have how4:=zA3 howy (Below.refl _ _) hIy.oT hgrow4 (by decide);have hc40:w4.cell? ⟨g2,0,none⟩=some (S hd):=(by rw [how4.cellAt 0 (by omega)];rfl);have hbs4:w1.heap.size + 1≤w4.heap.size:=zB hI4.fb) | (at_builtin;refine zV rfl (.tmp 136) (.tmp 141) 154 rfl (w1.heap.size + 1) i4 (.bool false) 1 1 Tryz.underlying154 hi4 hz40 hz41 hz42 rfl (by decide) _ _ _ hI4.oK rfl rfl rfl (by simp [Value.oneCell']) (by unfold maxLen;simp;omega) (by simp;omega) hbs4 ?_;intro v5 w5 hown5 hgrow5 hnn5;have hI5:=hI4.push_kind (Below.refl _ _) hgrow5 hown5;have how5:=zA3 how4 (Below.refl _ _) hI4.oK hgrow5 (by decide)))
         go_roundg (gk - 1)
         case measure=>omega
         case rel=>
          refine ⟨j + 1,by go_num,by omega,?_,?_,how5,?_⟩
          ·rw [hua,zA HT,zA HVS]
           first | rw [if_neg (of_decide_eq_false (zA HQ))] | rw [if_pos (of_decide_eq_true (zA HQ))]
          ·rw [hua,zA HT,zA HVS]
          ·rw [hua,zA HT,zA HVS];exact hI5
       ·have hjl:j=tl.length:=(by omega);subst hjl;have HTL:Hid (zAg (hd == [97]) st (tl.take tl.length)=zAg (hd == [97]) st tl):=zF (by rw [List.take_length]);rw [hua] at hv1 hv2 hv3 HTL hIx ⊢;generalize hLT:zAg _ st (tl.take tl.length)=LT at *;obtain ⟨pt,pk,ps,pok⟩:=LT;dsimp only at hv1 hv2 hv3 hIx
        cases pok with
        | false=>
         go_wp2_with fail;go_ret3;exact zIU l w _ _ (k + 1) _ (by omega) hl (hIx.isBelow hb rfl) (zA HF (by rw [zA HRS,← zA HTL])) rfl
        | true=>
         go_wp2_with fail
         go_roundg (go - 1)
         case measure=>omega
         case rel=>
          refine ⟨k + 1,{ st with told:=pt,kinds:=pk,seen:=ps },_,by go_num,by omega,by omega,rfl,rfl,hv1,hs2,by dsimp only;omega,by dsimp only;omega,by dsimp only;omega,hIx,?_⟩;rw [zA HO (by rw [zA HRS,← zA HTL]),zA HRS,← zA HTL]
    ·have HN:=zF (zPo st row hd tl (zA HS) hc hn);have hex:∃ b1 b2 b3 b4:Bool,(hd == [101])=b1∧(hd == [97])=b2∧((st.cl.length:Int) == 0)=b3∧decide ((1:Int) < (tl.length:Int) + 1)=b4∧((b1 || b2) && b3 && b4)=false:=by
      refine ⟨_,_,_,_,rfl,rfl,rfl,rfl,?_⟩
      cases hq:((hd == [101] || hd == [97]) && ((st.cl.length:Int) == 0) && decide ((1:Int) < (tl.length:Int) + 1)) with
      | false=>rfl
      | true=>
       exfalso;apply hn
       simp at hq;refine ⟨hq.1.1,hq.1.2,?_⟩;intro e;subst e;simp at hq
     obtain ⟨b1,b2,b3,b4,h1,h2,h3,h4,h5⟩:=hex;clear hn hc
     cases b1<;>cases b2<;>cases b3<;>cases b4<;>first | (exfalso;revert h5;decide) | skip
     all_goals clear h5
     all_goals go_wp2_with fail
     all_goals go_ret3
     all_goals exact zIU l w _ _ (k + 1) _ (by omega) hl (hI2.isBelow hb rfl) (zA HF (zA HN)) rfl
  ·have hgo:go=1:=(by omega);subst hgo;have hk1:k + 1=(zZ 10 l).length:=(by omega);obtain ⟨last,hlast⟩:∃ last,(zZ 10 l)[k]?=some last:=⟨_,List.getElem?_eq_getElem (by omega)⟩;have hcl:wo.cell? ⟨g,(zZ 10 l).length - 1,none⟩=some (S last):=by
    rw [hI.below.cell (p:=⟨g,(zZ 10 l).length - 1,none⟩) hg',show (zZ 10 l).length - 1=k from by omega];exact zA HC k _ (by rw [List.getElem?_map,hlast];rfl)
   have HL:Hid ((zZ 10 l).getLast?=some last):=zF (by rw [List.getLast?_eq_getElem?,show (zZ 10 l).length - 1=k from by omega,hlast]);have hdrop:(zZ 10 l).dropLast.drop k=[]:=(by simp;omega);rw [hdrop] at hrr;have HRR:Hid (zAy rs0 0 (zZ 10 l).dropLast=.inl st):=zF (by rw [hrr];rfl);clear hrr hlast hdrop;have hdk:decide ((k:Int) < ((zZ 10 l).length:Int) - 1)=false:=(by simp;omega);have hfC:wo.cell? ⟨w1.heap.size,3,none⟩=some vC:=zE hI.fb rfl;obtain ⟨aC,cC,rfl⟩:=zN hI.oC
   cases last with
   | cons c r=>
    go_wp2_with fail;go_ret3;refine ⟨hI.isBelow hb rfl,?_⟩;unfold zCU;rw [if_neg (by omega),zA HRR];simp only [zA HL];rw [if_pos (by simp)];exact congrArg (fun m:Int=>Ending.returned (.tuple #[.pointer none,.int .i64 2,.int .i64 m])) (by omega)
   | nil=>
    by_cases h24:24 < st.cl.length
    ·have hd24:decide ((24:Int) < (st.cl.length:Int))=true:=(by simp;omega);go_wp2_with fail;go_ret3;refine ⟨hI.isBelow hb rfl,?_⟩;unfold zCU;rw [if_neg (by omega),zA HRR];simp only [zA HL];rw [if_neg (by simp),if_pos h24];rfl
    ·have hd24:decide ((24:Int) < (st.cl.length:Int))=false:=(by simp;omega);have HP:Hid (zCU l=.inr (zW st)):=zF (by
      unfold zCU;rw [if_neg (by omega),zA HRR];simp only [zA HL];rw [if_neg (by simp),if_neg h24])
     have hF0:=FInv.of hI;have HKT:=zF hkt;clear hkt;obtain ⟨i3,hi3,hz30,hz31,hz32⟩:=info_parts Tryz.info3;go_wp2_with fail
     go_loopg [20] 9 (fun q i wx=>∃ (j:Nat) (vO:Value),i=.int .i64 (j + 1)∧j + q=9∧1≤q∧FInv w1 w1.heap.size st (zB0 st j) 0 [] u8 u9 (.slice aC st.cl.length cC) vO (.slice none 0 0) wx)
     case atStart=>exact ⟨0,_,rfl,by omega,by omega,hF0⟩
     case round=>
      obtain ⟨j,vO,rfl,hjq,hq1',hF⟩:=hrel;have hfl:=zF9 st j
      by_cases hj:j < 8
      ·have hs0:wr.cell? ⟨w1.heap.size,0,none⟩=some vO:=(by rw [zC hF.fb];rfl);have hbs:w1.heap.size + 1≤wr.heap.size:=zB hF.fb;have hfz:=zD hF.fb 0;have hd8:decide ((j:Int) + 1≤8)=true:=(by simp;omega);have hex:∃ b0 b1:Bool,(bits .and .i64 ((st.used:Int) / 2 ^ (j + 1)) 1 == 1)=b0∧(bits .and .i64 ((st.seen:Int) / 2 ^ (j + 1)) 1 == 0)=!b1∧st.used.testBit (j + 1)=b0∧st.seen.testBit (j + 1)=b1:=by
        refine ⟨_,_,zCx st.used (j + 1) hs2 (by omega),?_,rfl,rfl⟩;rw [zHz st.seen (j + 1) hs1 (by omega)]
        cases st.seen.testBit (j + 1)<;>rfl
       obtain ⟨b0,b1,hx0,hx1,hx2,hx3⟩:=hex;have HX:Hid (zB0 st (j + 1)=zB0 st j ++ (if b0 && !b1 then [j + 1] else [])):=zF (by rw [zLJ,hx2,hx3]);clear hx2 hx3;have hj1:((j:Int) + 1)=((j + 1:Nat):Int):=(by omega);have HJ:=zF hj1;clear hj1
       cases b0<;>cases b1
       all_goals
        go_wp2_with (at_builtin;refine zp rfl (.tmp 180) (.tmp 182) 25 rfl (w1.heap.size + 1) i3 (.int .i64 0) 1 8 Tryz.underlying25 hi3 hz30 hz31 hz32 rfl (by decide) _ _ _ hF.oO rfl rfl rfl (by simp [Value.oneCell']) (by unfold maxLen;omega) (by omega) hbs ?_;intro v' w' hown' hgrow hat;rw [zA HJ] at hown';obtain ⟨hfb',hT',hK',hF'⟩:=hF.push_order (Below.refl _ _) hgrow hown' hat;obtain ⟨g3,cap3,rfl,hg3,hg3',hcap3,hcell3⟩:=zS hown' (by omega);have hq3:w'.cell? ⟨w1.heap.size,0,none⟩=some vO:=(by rw [zC hfb'];rfl);have hqz:=zD hfb' 0)
        go_roundg (gk - 1)
        case measure=>omega
        case rel=>
         first
          | exact ⟨j + 1,_,by go_num,by omega,by omega,by rw [zA HX];exact hF'⟩
          | exact ⟨j + 1,_,by go_num,by omega,by omega,by rw [zA HX];simpa using hF⟩
      ·have hj8:j=8:=(by omega);subst hj8;have HTD:=zF (zSY _ _ _ _ (by simp [rs0]) (zA HRR));obtain ⟨aT,cT,rfl⟩:=zN hF.oT;obtain ⟨aK,cK,rfl⟩:=zN hF.oK;have hs0:wr.cell? ⟨w1.heap.size,0,none⟩=some vO:=zE hF.fb rfl;obtain ⟨w4,rfl⟩:∃ w4,w4=wr:=⟨_,rfl⟩;go_wp2_with fail
       go_loopg [21] (st.told.length) (fun q i wx=>∃ (j:Nat) (vO:Value),i=.int .i64 j∧j + q=st.told.length∧FInv w1 w1.heap.size st (zB0 st 8 ++ st.told.take j) (zDE st j) [] (.slice aT st.told.length cT) (.slice aK st.kinds.length cK) (.slice aC st.cl.length cC) vO (.slice none 0 0) wx)
       case atStart=>exact ⟨0,vO,rfl,by omega,by simpa [zDE] using hF⟩
       case round=>
        obtain ⟨j,vO,rfl,hjq2,hF⟩:=hrel
        by_cases hj:j < st.told.length
        ·have hjk:j < st.kinds.length:=(by have:=zA HKT;omega);have HAL:=zF (zNv st j hj hjk);have hal:=zK3 st (zA HTD) j;have htj:st.told[j]≤8:=zA HTD _ (List.getElem_mem hj);have HTK:Hid (st.told.take (j + 1)=st.told.take j ++ [st.told[j]]):=zF (List.take_succ_eq_append_getElem hj);obtain ⟨gT,cT',hTe,hgT,hgT',_,hcT⟩:=zS hF.oT (by omega);injection hTe with hTe _ hTe2;subst hTe hTe2;obtain ⟨gK,cK',hKe,hgK,hgK',_,hcK⟩:=zS hF.oK (by omega);injection hKe with hKe _ hKe2;subst hKe hKe2;have hct:wr.cell? ⟨gT,j,none⟩=some (.int .i64 (st.told[j]:Int)):=hcT j _ (by simp [zu,hj]);clear hcT hcK;have hs0:wr.cell? ⟨w1.heap.size,0,none⟩=some vO:=zE hF.fb rfl;have hbs:w1.heap.size + 1≤wr.heap.size:=zB hF.fb;have hbsl:w1.heap.size < wr.heap.size:=zB hF.fb;have hfz:=zD hF.fb 0;have hol:(zB0 st 8 ++ st.told.take j).length≤8 + 2001 * 2001:=by
          have:=zF9 st 8
          rw [List.length_append,List.length_take]
          have:2001 * k≤2001 * 2001:=Nat.mul_le_mul_left _ (by omega)
          omega
         generalize hOrd:zB0 st 8 ++ st.told.take j=ord at *;have HOrd:=zF hOrd;clear hOrd;generalize zDE st j=al at *;generalize hTJ:st.told[j]=tj at *;have HTJ:=zF hTJ;clear hTJ;have hor:bits .or .i64 (al:Int) (wrap64 (2 ^ tj))=((al ||| 2 ^ tj:Nat):Int):=by
          have:=zF1 al hal (tj:Int) (by omega) (by omega)
          rwa [Int.toNat_natCast] at this
         obtain ⟨kj,hkj⟩:∃ kj,st.kinds[j]=kj:=⟨_,rfl⟩;have HKJ:=zF hkj;clear hkj;go_wp2_with fail
         go_region_law (refine zDy rfl (.tmp 196) (.tmp 201) 25 rfl (w1.heap.size + 1) 3 i3 (.int .i64 0) 1 8 Tryz.underlying25 hi3 hz30 hz31 hz32 rfl (by decide) vO ord.length (zu ord) (hF.oO.alloc _).drew rfl ⟨wr.heap.size,0,none⟩ 1 1 [.int .i64 tj] rfl rfl (zBX wr [.int .i64 tj] 3) (by simp [Value.oneCell']) (by decide) (by unfold maxLen;omega) (by omega) (by simp;omega) ?_;intro v' w' hown' hgrow hat;obtain ⟨hfb',hT',hK',hF'⟩:=hF.push_order (((Below.refl _ wr).alloc (Nat.le_refl _) _).drew) hgrow hown' hat;obtain ⟨g3,cap3,rfl,hg3,hg3',hcap3,hcell3⟩:=zS hown' (by omega);have hq3:w'.cell? ⟨w1.heap.size,0,none⟩=some vO:=(by rw [zC hfb'];rfl);have hqz:=zD hfb' 0)
         all_goals
          generalize hw5:World.setCell _ _ _=w5 at hF' ⊢;clear hw5;have hck:w5.cell? ⟨gK,j,none⟩=some (.bool kj):=by
           rw [hF'.oK.cellAt j (by omega)];simp [zJs,hjk,zA HKJ]
          have hct5:w5.cell? ⟨gT,j,none⟩=some (.int .i64 tj):=by
           rw [hF'.oT.cellAt j (by omega)];simp [zu,hj,zA HTJ]
          have hca:w5.cell? ⟨w1.heap.size,1,none⟩=some (.int .i64 al):=zE hF'.fb rfl;have hfz1:=zD hF'.fb 1;have HOK:Hid (zB0 st 8 ++ st.told.take (j + 1)=ord ++ [tj]):=zF (by rw [zA HTK,← zA HOrd];simp)
          cases kj with
          | false=>
           go_wp2_with fail
           go_roundg (gk - 1)
           case measure=>omega
           case rel=>
            exact ⟨j + 1,_,by go_num,by omega,by rw [zA HOK,zA HAL,zA HKJ,if_neg (by decide)];exact hF'⟩
          | true=>
           have hF6:=(hF'.set_all (al ||| 2 ^ tj)).drew;go_wp2_with fail
           go_region
           all_goals
            go_wp2_with fail
            go_roundg (gk - 1)
            case measure=>omega
            case rel=>
             exact ⟨j + 1,_,by go_num,by omega,by rw [zA HOK,zA HAL,zA HKJ,if_pos rfl];exact hF6⟩
        ·have hjl:j=st.told.length:=(by omega);subst hjl;rw [List.take_length] at hF;have hal:=zK3 st (zA HTD) st.told.length;have HOL:Hid (∀ v∈zCt st,v≤8):=zF (fun v hv=>by
          unfold zCt at hv;rw [List.mem_append] at hv
          rcases hv with hv | hv
          ·exact zPL st 8 v hv
          ·exact zA HTD v hv)
         have hol:(zCt st).length≤8 + 2001 * 2001:=by
          have:=zF9 st 8
          unfold zCt;rw [List.length_append]
          have:2001 * k≤2001 * 2001:=Nat.mul_le_mul_left _ (by omega)
          omega
         have HFN:Hid (zW st=⟨zCt st,zDE st st.told.length,zDS (zCt st) (zDE st st.told.length) (zCt st).length,st.cl⟩):=zF rfl;have hF7:FInv w1 w1.heap.size st (zCt st) (zDE st st.told.length) [] (.slice aT st.told.length cT) (.slice aK st.kinds.length cK) (.slice aC st.cl.length cC) vO (.slice none 0 0) wr:=hF;clear hF;generalize zCt st=ord at *;generalize zDE st st.told.length=al at *;obtain ⟨aO,cO,rfl⟩:=zN hF7.oO;have hs0:wr.cell? ⟨w1.heap.size,0,none⟩=some (.slice aO ord.length cO):=zE hF7.fb rfl;obtain ⟨w5,rfl⟩:∃ w5,w5=wr:=⟨_,rfl⟩;go_wp2_with fail
         go_loopg [22] (ord.length + 1) (fun q i wx=>∃ (j:Nat) (vE:Value),i=.int .i64 (j + 1)∧j + q=ord.length + 1∧1≤q∧FInv w1 w1.heap.size st ord al (zDS ord al j) (.slice aT st.told.length cT) (.slice aK st.kinds.length cK) (.slice aC st.cl.length cC) (.slice aO ord.length cO) vE wx)
         case atStart=>exact ⟨0,_,rfl,by omega,by omega,hF7⟩
         case round=>
          obtain ⟨j,vE,rfl,hjq3,hq3,hF⟩:=hrel;have hs0:wr.cell? ⟨w1.heap.size,0,none⟩=some (.slice aO ord.length cO):=zE hF.fb rfl;have hs1:wr.cell? ⟨w1.heap.size,1,none⟩=some (.int .i64 al):=zE hF.fb rfl;have hs2:wr.cell? ⟨w1.heap.size,2,none⟩=some vE:=zE hF.fb rfl
          by_cases hj:j < ord.length
          ·have hdj:decide ((j:Int) + 1≤(ord.length:Int))=true:=(by simp;omega);have hel:=zNf ord al j;have HES:=zF (zHg ord al j);have hbs:w1.heap.size + 1≤wr.heap.size:=zB hF.fb;have hfz:=zD hF.fb 2;obtain ⟨gO,cO',hOe,hgO,hgO',_,hcO⟩:=zS hF.oO (by omega);injection hOe with hOe _ hOe2;subst hOe hOe2;have hco0:wr.cell? ⟨gO,j,none⟩=some (.int .i64 (ord[j]:Int)):=hcO j _ (by simp [zu,hj]);have ho0:ord[j]≤8:=zA HOL _ (List.getElem_mem hj)
           by_cases hl1:j + 1=ord.length
           ·have hb1:((j:Int) + 1 == (ord.length:Int))=true:=(by rw [beq_iff_eq];omega);have HEE:Hid (zFo ord al (j + 1)=true):=zF (by unfold zFo;rw [show (j + 1 == ord.length)=true from by simp [hl1]];rfl);clear hcO;have HL1:=zF hl1;clear hl1;have HJ1:Hid ((j:Int) + 1=((j + 1:Nat):Int)):=zF (by omega)
            go_wp2_with (at_builtin;refine zp rfl (.tmp 267) (.tmp 269) 25 rfl (w1.heap.size + 1) i3 (.int .i64 0) 1 8 Tryz.underlying25 hi3 hz30 hz31 hz32 rfl (by decide) _ _ _ hF.oE rfl rfl rfl (by simp [Value.oneCell']) (by unfold maxLen;omega) (by omega) hbs ?_;intro v' w' hown' hgrow hat;rw [zA HJ1] at hown';obtain ⟨hfb',hF'⟩:=hF.push_end (Below.refl _ _) hgrow hown' hat;obtain ⟨g3,cap3,rfl,hg3,hg3',hcap3,hcell3⟩:=zS hown' (by omega);have hq3:w'.cell? ⟨w1.heap.size,2,none⟩=some vE:=(by rw [zC hfb'];rfl);have hqz:=zD hfb' 2)
            go_roundg (gk - 1)
            case measure=>omega
            case rel=>
             exact ⟨j + 1,_,by go_num,by omega,by omega,by rw [zA HES,zA HEE];exact hF'⟩
           ·have hb1:((j:Int) + 1 == (ord.length:Int))=false:=(by rw [beq_eq_false_iff_ne];omega);have hj1:j + 1 < ord.length:=(by omega);have hco1:wr.cell? ⟨gO,j + 1,none⟩=some (.int .i64 (ord[j + 1]:Int)):=hcO (j + 1) _ (by simp [zu,hj1]);have ho1:ord[j + 1]≤8:=zA HOL _ (List.getElem_mem hj1);have HEE:Hid (zFo ord al (j + 1)=(al.testBit ord[j + 1] != al.testBit ord[j])):=zF (by
             unfold zFo;rw [show (j + 1 == ord.length)=false from by simp;omega];simp [List.getD,hj,hj1])
            clear hcO hl1;generalize hA:ord[j + 1]=oa at *;generalize hB:ord[j]=ob at *;clear hA hB;have HJ1:Hid ((j:Int) + 1=((j + 1:Nat):Int)):=zF (by omega);go_wp2_with fail;refine (zDW w1.heap.size al oa wr hal ho1 hs1).mono ?_;rintro e wq ⟨rfl,hwq⟩;subst hwq;go_wp2_with fail;refine (zDW w1.heap.size al ob wq hal ho0 hs1).mono ?_;rintro e wq2 ⟨rfl,hwq⟩;subst hwq
            cases hta:al.testBit oa<;>cases htb:al.testBit ob
            all_goals
             go_wp2_with (at_builtin;refine zp rfl (.tmp 267) (.tmp 269) 25 rfl (w1.heap.size + 1) i3 (.int .i64 0) 1 8 Tryz.underlying25 hi3 hz30 hz31 hz32 rfl (by decide) _ _ _ hF.oE rfl rfl rfl (by simp [Value.oneCell']) (by unfold maxLen;omega) (by omega) hbs ?_;intro v' w' hown' hgrow hat;rw [zA HJ1] at hown';obtain ⟨hfb',hF'⟩:=hF.push_end (Below.refl _ _) hgrow hown' hat;obtain ⟨g3,cap3,rfl,hg3,hg3',hcap3,hcell3⟩:=zS hown' (by omega);have hq3:w'.cell? ⟨w1.heap.size,2,none⟩=some vE:=(by rw [zC hfb'];rfl);have hqz:=zD hfb' 2)
             go_roundg (gk - 1)
             case measure=>omega
             case rel=>
              first
               | exact ⟨j + 1,_,by go_num,by omega,by omega,by rw [zA HES,zA HEE,hta,htb];exact hF'⟩
               | exact ⟨j + 1,_,by go_num,by omega,by omega,by rw [zA HES,zA HEE,hta,htb];simpa using hF⟩
          ·have hjl:j=ord.length:=(by omega);subst hjl;have hdj:decide ((ord.length:Int) + 1≤(ord.length:Int))=false:=(by simp;omega);go_wp2_with fail;go_ret3;refine ⟨hF.isBelow hb rfl,?_⟩;rw [zA HP];refine ⟨w1.heap.size,rfl,hb.size,?_⟩;rw [zA HFN];exact ⟨_,_,_,hF.fb,zAG hF.oO (by have:=hb.size;omega),zAG hF.oE (by have:=hb.size;omega),zAG hF.oC (by have:=hb.size;omega)⟩
theorem zPa (l:List UInt8) (w:World) (hl:2000 < l.length) :
  Calls Tryz.prog 52 #[.string ⟨l.toArray⟩] w fun e w'=>zGT l w e w':=by
 have hd:decide ((2000:Int) < (l.length:Int))=true:=by simp;omega
 go_enter Tryz.func52,Tryz.ntmps52
 go_wp2_with fail;go_ret3;refine ⟨Below.refl _ _,?_⟩;unfold zCU;rw [if_pos hl];rfl
theorem zLU (l:List UInt8) (w:World):Calls Tryz.prog 52 #[.string ⟨l.toArray⟩] w fun e w'=>zGT l w e w':=by
 by_cases h:l.length≤2000
 ·exact zQ0 l w h
 ·exact zPa l w (by omega)
def WAt (w:World) (bw:Nat) (text:List UInt8) (px pf:Option Addr) (proof:List UInt8) (c4 c5 c6:Value):Prop:=
 w.heap[bw]?=some (.cells #[S text,.pointer px,.pointer pf,S proof,c4,c5,c6] 48 (0,0))
theorem WAt.later {w w':World} {bw:Nat} {text:List UInt8} {px pf:Option Addr} {proof:List UInt8} {c4 c5 c6:Value} (h:WAt w bw text px pf proof c4 c5 c6) (hb:Below w.heap.size w w'):WAt w' bw text px pf proof c4 c5 c6:=
 (hb.block bw (zB h)).trans h
def FPair (lo:Nat) (w:World) (px pf:Option Addr):Prop:=
 (px=none∧pf=none)∨∃ b b' st q0,px=some ⟨b,0,none⟩∧pf=some ⟨b',0,none⟩∧ProgAt lo w b (zK q0)∧RefAt lo w b' (zW st)∧zEA st q0∧q0.cl.length≤24∧zCf q0
theorem RefAt.later {lo b:Nat} {w w':World} {F:zv} (h:RefAt lo w b F) (hb:Below w.heap.size w w'):RefAt lo w' b F:=by
 obtain ⟨h1,vO,vE,vC,h2,h3,h4,h5⟩:=h;exact ⟨h1,vO,vE,vC,(hb.block b (zB h2)).trans h2,zO h3 hb,zO h4 hb,zO h5 hb⟩
theorem ProgAt.later {lo b:Nat} {w w':World} {q:QS} (h:ProgAt lo w b q) (hb:Below w.heap.size w w'):ProgAt lo w' b q:=by
 obtain ⟨h1,vV,vC,h2,h3,h4⟩:=h;exact ⟨h1,vV,vC,(hb.block b (zB h2)).trans h2,zO h3 hb,zO h4 hb⟩
theorem RefAt.set {lo b bw o:Nat} {w:World} {F:zv} {u:Value} (h:RefAt lo w b F) (hlt:bw < lo):RefAt lo (w.setCell ⟨bw,o,none⟩ u) b F:=by
 obtain ⟨h1,vO,vE,vC,h2,h3,h4,h5⟩:=h;exact ⟨h1,vO,vE,vC,(Below.heap_setCell _ _ _ _ (by show b≠bw;omega)).trans h2,ownsRow_setCell_below h3 (a:=⟨bw,o,none⟩) hlt u,ownsRow_setCell_below h4 (a:=⟨bw,o,none⟩) hlt u,ownsRow_setCell_below h5 (a:=⟨bw,o,none⟩) hlt u⟩
theorem ProgAt.set {lo b bw o:Nat} {w:World} {q:QS} {u:Value} (h:ProgAt lo w b q) (hlt:bw < lo):ProgAt lo (w.setCell ⟨bw,o,none⟩ u) b q:=by
 obtain ⟨h1,vV,vC,h2,h3,h4⟩:=h;exact ⟨h1,vV,vC,(Below.heap_setCell _ _ _ _ (by show b≠bw;omega)).trans h2,ownsRow_setCell_below h3 (a:=⟨bw,o,none⟩) hlt u,ownsRow_setCell_below h4 (a:=⟨bw,o,none⟩) hlt u⟩
theorem FPair.set {lo bw o:Nat} {w:World} {px pf:Option Addr} {u:Value} (h:FPair lo w px pf) (hlt:bw < lo):FPair lo (w.setCell ⟨bw,o,none⟩ u) px pf:=by
 rcases h with h | ⟨b,b',st,q0,h1,h2,h3,h4,h5⟩
 ·exact Or.inl h
 ·exact Or.inr ⟨b,b',st,q0,h1,h2,h3.set hlt,h4.set hlt,h5⟩
theorem ProgAt.lo {lo lo' b:Nat} {w:World} {q:QS} (h:ProgAt lo w b q) (hl:lo'≤lo):ProgAt lo' w b q:=by
 obtain ⟨h1,vV,vC,h2,h3,h4⟩:=h;exact ⟨by omega,vV,vC,h2,zAG h3 hl,zAG h4 hl⟩
theorem RefAt.lo {lo lo' b:Nat} {w:World} {F:zv} (h:RefAt lo w b F) (hl:lo'≤lo):RefAt lo' w b F:=by
 obtain ⟨h1,vO,vE,vC,h2,h3,h4,h5⟩:=h;exact ⟨by omega,vO,vE,vC,h2,zAG h3 hl,zAG h4 hl,zAG h5 hl⟩
def zCW (lo:Nat) (w:World) (ts:List TypeId) (k:Nat):Prop:=k < lo∨∃ cs t fr,w.heap[k]?=some (.cells cs t fr)∧t∉ts
theorem zCJ {w w':World} {T:Nat→Prop} {base:Nat} {e:TypeId} {size:Nat} {v:Value} {n:Nat} {xs:List Value} {ts:List TypeId} (h:w.ownsRow base e size v n xs) (ho:Only T w w') (he:e∈ts) (hT:∀ k,k < w.heap.size→T k→zCW base w ts k):w'.ownsRow base e size v n xs:=by
 obtain ⟨h1,h2⟩:=h;refine ⟨h1,?_⟩
 rcases h2 with h2 | ⟨g,cap,cur,rfl,hg,hh,h3⟩
 ·exact Or.inl h2
 ·refine Or.inr ⟨g,cap,cur,rfl,hg,?_,h3⟩;rw [ho.block g (zB hh) (fun ht=>?_)]
  ·exact hh
  ·rcases hT g (zB hh) ht with h | ⟨cs,t,fr,h4,h5⟩
   ·omega
   ·rw [hh] at h4;simp at h4;exact h5 (h4.2.1 ▸ he)
theorem zEC {w w':World} {T:Nat→Prop} {lo b:Nat} {cs:Array Value} {t:TypeId} {fr:Nat × Nat} {ts:List TypeId} (h:w.heap[b]?=some (.cells cs t fr)) (hlo:lo≤b) (ho:Only T w w') (he:t∈ts) (hT:∀ k,k < w.heap.size→T k→zCW lo w ts k):w'.heap[b]?=some (.cells cs t fr):=by
 rw [ho.block b (zB h) (fun ht=>?_)]
 ·exact h
 ·rcases hT b (zB h) ht with h1 | ⟨cs',t',fr',h4,h5⟩
  ·omega
  ·rw [h] at h4;simp at h4;exact h5 (h4.2.1 ▸ he)
def zFe:List TypeId:=[64,139,74,92,3,121]
theorem ProgAt.only {lo b:Nat} {w w':World} {q:QS} {T:Nat→Prop} (h:ProgAt lo w b q) (ho:Only T w w') (hT:∀ k,k < w.heap.size→T k→zCW lo w zFe k):ProgAt lo w' b q:=by
 obtain ⟨h1,vV,vC,h2,h3,h4⟩:=h;exact ⟨h1,vV,vC,zEC h2 h1 ho (by decide) hT,zCJ h3 ho (by decide) hT,zCJ h4 ho (by decide) hT⟩
theorem RefAt.only {lo b:Nat} {w w':World} {F:zv} {T:Nat→Prop} (h:RefAt lo w b F) (ho:Only T w w') (hT:∀ k,k < w.heap.size→T k→zCW lo w zFe k):RefAt lo w' b F:=by
 obtain ⟨h1,vO,vE,vC,h2,h3,h4,h5⟩:=h;exact ⟨h1,vO,vE,vC,zEC h2 h1 ho (by decide) hT,zCJ h3 ho (by decide) hT,zCJ h4 ho (by decide) hT,zCJ h5 ho (by decide) hT⟩
theorem FPair.only {lo:Nat} {w w':World} {px pf:Option Addr} {T:Nat→Prop} (h:FPair lo w px pf) (ho:Only T w w') (hT:∀ k,k < w.heap.size→T k→zCW lo w zFe k):FPair lo w' px pf:=by
 rcases h with h | ⟨b,b',st,q0,h1,h2,h3,h4,h5⟩
 ·exact Or.inl h
 ·exact Or.inr ⟨b,b',st,q0,h1,h2,h3.only ho hT,h4.only ho hT,h5⟩
theorem FPair.lo {lo lo':Nat} {w:World} {px pf:Option Addr} (h:FPair lo w px pf) (hl:lo'≤lo):FPair lo' w px pf:=by
 rcases h with h | ⟨b,b',st,q0,h1,h2,h3,h4,h5⟩
 ·exact Or.inl h
 ·exact Or.inr ⟨b,b',st,q0,h1,h2,h3.lo hl,h4.lo hl,h5⟩
theorem zRk (c:Int) (n:Nat) (w:World) (hn:0 < n) (hn2:n≤1048576) (h1:-9223372036854775808≤c) (h2:c≤9223372036854775807) :
  Calls Tryz.prog 29 #[.int .i64 c,.int .i64 n] w fun e w'=>∃ r:Nat,e=.returned (.int .i64 r)∧r < n∧w'=w:=by
 by_cases hc:c < 0
 ·have hd:decide (c < 0)=true:=by simpa using hc
  go_enter Tryz.func29,Tryz.ntmps29
  go_wp2_with fail;go_ret;have e:-((c + 1).tmod n)=(-(c + 1)) % n:=(by rw [← Int.neg_tmod,Int.tmod_eq_emod_of_nonneg (by omega)]);have e1:=Int.emod_nonneg (-(c + 1)) (show (n:Int)≠0 by omega);have e2:=Int.emod_lt_of_pos (-(c + 1)) (show (0:Int) < n by omega);refine ⟨((-(c + 1)) % n).toNat,zA7 ?_,by omega,rfl⟩;omega
 ·have hd:decide (c < 0)=false:=by simpa using hc
  go_enter Tryz.func29,Tryz.ntmps29
  go_wp2_with fail;go_ret;refine ⟨(c % n).toNat,?_,?_,rfl⟩
  ·refine zA7 ?_
   have:=Int.emod_nonneg c (show (n:Int)≠0 by omega)
   omega
  ·have:=Int.emod_nonneg c (show (n:Int)≠0 by omega)
   have:=Int.emod_lt_of_pos c (show (0:Int) < n by omega)
   omega
def zQJ (bw:Nat) (text:List UInt8) (px pf:Option Addr) (proof:List UInt8) (c4 c5 c6:Value) (w:World) (e:Ending) (w':World):Prop:=
 e=.returned (.tuple #[])∧Only (·=bw) w w'∧∃ proof':List UInt8,proof'.length≤proof.length∧WAt w' bw text px pf proof' c4 c5 c6
theorem WAt.setProof {w:World} {bw:Nat} {text:List UInt8} {px pf:Option Addr} {proof:List UInt8} {c4 c5 c6:Value} (h:WAt w bw text px pf proof c4 c5 c6) (proof':List UInt8):WAt (w.setCell ⟨bw,3,none⟩ (S proof')) bw text px pf proof' c4 c5 c6:=zI h 3 _
theorem zQ9 (bw:Nat) (text:List UInt8) (px pf:Option Addr) (proof:List UInt8) (c4 c5 c6:Value) (a c:Int) (w:World) (hw:WAt w bw text px pf proof c4 c5 c6) (hpl:proof.length≤1048576)
  (ha1:-9223372036854775808≤a) (ha2:a≤9223372036854775807) (hc1:-9223372036854775808≤c) (hc2:c≤9223372036854775807) :
  Calls Tryz.prog 28 #[.pointer (some ⟨bw,0,none⟩),.int .i64 a,.int .i64 c] w fun e w'=>zQJ bw text px pf proof c4 c5 c6 w e w':=by
 have hbw:bw < w.heap.size:=zB hw;have h3:w.cell? ⟨bw,3,none⟩=some (S proof):=zE hw rfl;have z3:=zD hw 3
 by_cases hp:proof=[]
 ·subst hp
  go_enter Tryz.func28,Tryz.ntmps28
  go_wp2_with fail
  go_end0
  exact ⟨rfl,Only.refl _ _,[],Nat.le_refl _,hw⟩
 ·have hp0:0 < proof.length:=List.length_pos_iff.2 hp;have hpe:proof.isEmpty=false:=(by simpa using hp);clear hp
  go_enter Tryz.func28,Tryz.ntmps28
  go_wp2_with fail;refine (zRk a proof.length w hp0 hpl ha1 ha2).mono ?_;rintro e w1 ⟨r,rfl,hr,hw1⟩;subst hw1;have hr1:r + 1≤proof.length:=by omega
  by_cases hc:c < 0
  ·have hd:decide (0≤c)=false:=(by simp;omega);have HE:Hid (ByteArray.extract ⟨proof.toArray⟩ 0 r ++ ⟨#[]⟩ ++ ByteArray.extract ⟨proof.toArray⟩ (r + 1) proof.length=⟨((proof.drop 0).take (r - 0) ++ [] ++ (proof.drop (r + 1)).take (proof.length - (r + 1))).toArray⟩):=zF (by
    rw [zAu,zAu,show (ByteArray.mk #[])=ByteArray.mk ([]:List UInt8).toArray from rfl,zBV,zBV])
   go_wp2_with fail
   go_region
   all_goals go_wp2_with fail
   all_goals go_end0
   all_goals
    rw [zA HE];refine ⟨rfl,((Only.refl _ _).setAt _ _).drew,_,?_,(hw.setProof _).later ((Below.refl _ _).drew)⟩
    simp;omega
  ·have hd:decide (0≤c)=true:=(by simp;omega);have hcv:=zJt (c % 256) (by omega) (by omega) w1;have HE:Hid (∀ x:UInt8,ByteArray.extract ⟨proof.toArray⟩ 0 r ++ ⟨#[x]⟩ ++ ByteArray.extract ⟨proof.toArray⟩ (r + 1) proof.length=⟨((proof.drop 0).take (r - 0) ++ [x] ++ (proof.drop (r + 1)).take (proof.length - (r + 1))).toArray⟩):=zF (by
    intro x;rw [zAu,zAu,show (ByteArray.mk #[x])=ByteArray.mk ([x]:List UInt8).toArray from rfl,zBV,zBV])
   go_wp2_with fail
   go_region
   all_goals go_wp2_with fail
   all_goals go_end0
   all_goals
    rw [zA HE];refine ⟨rfl,(((Only.refl _ _).setAt _ _).alloc _).drew,_,?_,(hw.setProof _).later (((Below.refl _ _).alloc (Nat.le_refl _) _).drew)⟩
    simp;omega
structure OpV where
 kind:Int
 a:Int
 b:Int
 c:Int
 s:List UInt8
 t:List UInt8
def OpV.cells (o:OpV):List Value:=[.int .i64 o.kind,.int .i64 o.a,.int .i64 o.b,.int .i64 o.c,S o.s,S o.t]
def zE8 (x:Int):Prop:=-9223372036854775808≤x∧x≤9223372036854775807
structure OpV.Ok (o:OpV):Prop where
 kind:zE8 o.kind
 a:zE8 o.a
 b:zE8 o.b
 c:zE8 o.c
theorem Only.pre {T:Nat→Prop} {a b c:World} (h:Below a.heap.size a b) (k:Only T b c):Only T a c:=(Only.of_below h).trans k
def zGj (k:Int):Bool:=k == 1 || k == 2 || k == 4 || k == 5
def zDX (l:List OpV):List Value:=l.flatMap OpV.cells
theorem zKZ (l:List OpV) (o:OpV):zDX (l ++ [o])=zDX l ++ o.cells:=by simp [zDX]
theorem zMf (l:List OpV) (k j:Nat) (h:k < l.length) (hj:j < 6):(zDX l)[k * 6 + j]?=l[k].cells[j]?:=by
 induction l generalizing k with
 | nil=>simp at h
 | cons a l ih=>
  cases k with
  | zero=>
   simp only [zDX,List.flatMap_cons];rw [List.getElem?_append_left (by simp [OpV.cells];omega)]
   simp
  | succ k=>
   have:=ih k (by simpa using h)
   simp only [zDX,List.flatMap_cons] at this ⊢;rw [show (k + 1) * 6 + j=k * 6 + j + 6 from by omega,List.getElem?_append_right (by simp [OpV.cells])]
   simpa [OpV.cells] using this
def zDP (l:List OpV) (k:Nat):Nat:=((l.take k).map (fun o=>o.s.length + 1)).sum
theorem zMM (l:List OpV) (k:Nat) (h:k < l.length):zDP l (k + 1)=zDP l k + (l[k].s.length + 1):=by
 unfold zDP;rw [List.take_succ_eq_append_getElem h,List.map_append,List.sum_append];simp only [List.map_cons,List.map_nil,List.sum_cons,List.sum_nil,Nat.add_zero]
theorem zPl (l:List OpV) (k:Nat) (_h:k≤l.length):zDP l k≤zDP l l.length:=by
 have e:l.take l.length=l.take k ++ l.drop k:=(by rw [List.take_length,List.take_append_drop]);unfold zDP;rw [e,List.map_append,List.sum_append];omega
def ScriptAt (w:World) (ao:Option Addr) (ops:List OpV):Prop:=
 ops≠[]→∃ b off,ao=some ⟨b,off,none⟩∧b < w.heap.size∧∀ k (hk:k < ops.length) j (_:j < 6) u,ops[k].cells[j]?=some u→w.cell? ⟨b,off + (k * 6 + j),none⟩=some u
theorem ScriptAt.cells {w wr:World} {b off:Nat} {ops:List OpV} (h:∀ k (hk:k < ops.length) j (_:j < 6) u,ops[k].cells[j]?=some u→w.cell? ⟨b,off + (k * 6 + j),none⟩=some u) (hlt:b < w.heap.size) (hb:Below w.heap.size w wr) (k:Nat) (hk:k < ops.length) :
  wr.cell? ⟨b,off + k * 6,none⟩=some (.int .i64 ops[k].kind)∧wr.cell? ⟨b,off + k * 6 + 1,none⟩=some (.int .i64 ops[k].a)∧wr.cell? ⟨b,off + k * 6 + 2,none⟩=some (.int .i64 ops[k].b)∧
  wr.cell? ⟨b,off + k * 6 + 3,none⟩=some (.int .i64 ops[k].c)∧wr.cell? ⟨b,off + k * 6 + 4,none⟩=some (S ops[k].s)∧wr.cell? ⟨b,off + k * 6 + 5,none⟩=some (S ops[k].t):=by
 have hc:∀ j (_:j < 6) u,ops[k].cells[j]?=some u→wr.cell? ⟨b,off + k * 6 + j,none⟩=some u:=fun j hj u hu=>by
  rw [hb.cell (p:=⟨b,off + k * 6 + j,none⟩) hlt,show off + k * 6 + j=off + (k * 6 + j) from by omega];exact h k hk j hj u hu
 exact ⟨hc 0 (by omega) _ rfl,hc 1 (by omega) _ rfl,hc 2 (by omega) _ rfl,hc 3 (by omega) _ rfl,hc 4 (by omega) _ rfl,hc 5 (by omega) _ rfl⟩
def zDk (ops:List OpV) (k:Nat):Nat:=ops.length + ((ops.take k).map (fun o=>o.s.length + o.t.length)).sum
theorem zMr (ops:List OpV) (k:Nat) (h:k < ops.length):zDk ops (k + 1)=zDk ops k + (ops[k].s.length + ops[k].t.length):=by
 unfold zDk;rw [List.take_succ_eq_append_getElem h,List.map_append,List.sum_append];simp only [List.map_cons,List.map_nil,List.sum_cons,List.sum_nil,Nat.add_zero];omega
theorem zGM (ops:List OpV) (k:Nat) (_h:k≤ops.length):zDk ops k≤zDk ops ops.length:=by
 have e:ops.take ops.length=ops.take k ++ ops.drop k:=(by rw [List.take_length,List.take_append_drop]);unfold zDk;rw [e,List.map_append,List.sum_append];omega
theorem zEB (ops:List OpV):zDk ops 0=ops.length:=by simp [zDk]
def zEP (ops:List OpV):Bool:=decide (zDk ops ops.length≤524288)
def zLA (ops:List OpV):Prop:=∀ o∈ops,o.s.length≤140737488355328∧o.t.length≤140737488355328
theorem zPZ (ops:List OpV) (ao:Option Addr) (cap:Nat) (w:World) (hs:ScriptAt w ao ops) (hsz:zLA ops) (hln:ops.length≤140737488355328) :
  Calls Tryz.prog 13 #[.slice ao ops.length cap] w fun e w'=>e=.returned (.bool (zEP ops))∧Below w.heap.size w w':=by
 by_cases hlong:524288 < ops.length
 ·have hd:decide ((524288:Int) < (ops.length:Int))=true:=(by simp;omega);have HF:Hid (zEP ops=false):=zF (by
   unfold zEP
   have:=zGM ops 0 (by omega)
   rw [zEB] at this
   simp;omega)
  go_enter Tryz.func13,Tryz.ntmps13
  go_wp2_with fail;go_ret;exact ⟨zAI (zA HF).symm,Below.refl _ _⟩
 ·have hd:decide ((524288:Int) < (ops.length:Int))=false:=(by simp;omega);have HSZ:=zF hsz;clear hsz
  go_enter Tryz.func13,Tryz.ntmps13
  go_wp2_with fail
  go_loopg [3,4] (ops.length) (fun q n i wx=>∃ (k:Nat),i=.int .i64 k∧k + q=ops.length∧n=.int .i64 (zDk ops k:Nat)∧zDk ops k≤524288∧Below w.heap.size w wx)
  case atStart=>exact ⟨0,rfl,by omega,by rw [zEB],by rw [zEB];omega,Below.refl _ _⟩
  case round=>
   obtain ⟨k,rfl,hk,rfl,hle,hbm⟩:=hrel
   by_cases hlt:k < ops.length
   ·obtain ⟨b,off,rfl,hbl,hcell⟩:=hs (by intro e;subst e;simp at hlt);obtain ⟨_,_,_,_,hc4,hc5⟩:=ScriptAt.cells hcell hbl hbm k hlt;obtain ⟨hz1,hz2⟩:=zA HSZ _ (List.getElem_mem hlt);have HTS:=zF (zMr ops k hlt);have HTL:=zF (zGM ops (k + 1) (by omega));have hdk:decide ((k:Int) < (ops.length:Int))=true:=(by simp;omega);clear hcell;generalize zDk ops k=tk at *;generalize ops[k]=o at *;go_wp2_with fail
    go_quiet (fail)
    by_cases hbig:524288 < tk + (o.s.length + o.t.length)
    ·have hq:decide ((524288:Int) < (tk:Int) + (o.s.length:Int) + (o.t.length:Int))=true:=(by simp;omega);have HF:Hid (zEP ops=false):=zF (by
      unfold zEP;have h1:=zA HTL;have h2:=zA HTS
      simp;omega)
     go_wp2_with fail;go_ret;exact ⟨zAI (zA HF).symm,below_drewN hbm nq⟩
    ·have hq:decide ((524288:Int) < (tk:Int) + (o.s.length:Int) + (o.t.length:Int))=false:=(by simp;omega);go_wp2_with fail
     go_roundg (gk - 1)
     case measure=>omega
     case rel=>
      refine ⟨k + 1,by go_num,by omega,?_,by rw [zA HTS];omega,below_drewN hbm nq⟩;rw [zA HTS];exact congrArg (Value.int .i64) (by omega)
   ·have hkl:k=ops.length:=(by omega);subst hkl;have HF:Hid (zEP ops=true):=zF (by unfold zEP;simpa using hle);go_wp2_with fail;go_ret;exact ⟨zAI (zA HF).symm,hbm⟩
def zSh (w:World) (ko:Option Addr) (ks:List Int):Prop:=
 ks≠[]→∃ b off,ko=some ⟨b,off,none⟩∧b < w.heap.size∧∀ j (hj:j < ks.length),w.cell? ⟨b,off + j,none⟩=some (.int .i64 ks[j])
def inB (ks:List Int) (k:Int):Bool:=zGj k || ks.any (· == k)
def zHb (ks:List Int) (ops:List OpV) (k:Nat):List OpV:=(ops.take k).filter (fun o=>inB ks o.kind)
theorem zMi (ks:List Int) (ops:List OpV) (k:Nat) (h:k < ops.length):zHb ks ops (k + 1)=zHb ks ops k ++ (if inB ks ops[k].kind then [ops[k]] else []):=by
 unfold zHb;rw [List.take_succ_eq_append_getElem h,List.filter_append]
 congr 1
 simp [List.filter_cons]
theorem zPq (ks:List Int) (ops:List OpV) (k:Nat):(zHb ks ops k).length≤ops.length:=by
 unfold zHb;refine Nat.le_trans (List.length_filter_le _ _) ?_
 simp;omega
theorem zQ2 (ks:List Int) (x:Int) (j:Nat) (h:j < ks.length):(ks.take (j + 1)).any (· == x)=((ks.take j).any (· == x) || (ks[j] == x)):=by
 rw [List.take_succ_eq_append_getElem h,List.any_append];simp
theorem Tryz.info29:(Tryz.prog.info? 29).map (fun i=>(i.zero,i.size,i.bytes))=some (some (.agg #[.int .i64 0,.int .i64 0,.int .i64 0,.int .i64 0,.string ⟨#[]⟩,.string ⟨#[]⟩]),6,64):=by kernel_rfl
theorem zKI (p:OpV→Bool) (ops:List OpV):zDP (ops.filter p) (ops.filter p).length≤zDk ops ops.length:=by
 unfold zDP zDk;rw [List.take_length,List.take_length]
 induction ops with
 | nil=>simp
 | cons o ops ih=>
  rw [List.filter_cons]
  split
  ·simp only [List.map_cons,List.sum_cons,List.length_cons];omega
  ·simp only [List.map_cons,List.sum_cons,List.length_cons];omega
end Go.Proofs.YtgipjjhkhfihpaaGreatDoor
namespace Go.Proofs.YtgipjjhkhfihpaaGreatDoor
open Go.ChangeShapes Go.WideShapes Go.ChangeAt Go.RowKit Go.Deep
theorem Tryz.cellsOp:Tryz.prog.cellsOf 29=6:=by kernel_rfl
theorem Tryz.cellsInt:Tryz.prog.cellsOf 3=1:=by kernel_rfl
theorem Tryz.cellsStr:Tryz.prog.cellsOf 9=1:=by kernel_rfl
theorem Tryz.bytesOp:Tryz.prog.bytesOf 29=64:=by kernel_rfl
theorem Tryz.own:ownKnob Tryz.prog.godebug=none:=by kernel_rfl
theorem Tryz.laidOut:laidOutB Tryz.prog=true:=by kernel_rfl
section
variable {H:Type} {enc:TypeId × Value→H} {w:World} {base:Nat} {spare:Nat→Bool} {held:Bool}
def OpV.data (o:OpV):DataW H:=.agg [.lit (.int .i64 o.kind),.lit (.int .i64 o.a),.lit (.int .i64 o.b),.lit (.int .i64 o.c),.lit (.string o.s),.lit (.string o.t)]
theorem zFf {x:Int} (h:(Lit.int .i64 x).wf=true):zE8 x:=bounds_i64 h
theorem zSa {n:Nat} {cs:List Value} {x:DataW H × List MemPlace} (h:DataW.trod enc Tryz.prog w base spare held n 29 cs=some x):∃ o:OpV,cs=o.cells∧o.Ok∧x.1=o.data:=by
 obtain ⟨xs,m,_,hx,hl,hlen,hf⟩:=DataW.trod_struct Tryz.underlying29 h;rw [Tryz.cellsOp] at hl
 match cs,hl with
 | [c0,c1,c2,c3,c4,c5],_=>
  have hlen':xs.length=6:=hlen
  match xs,hlen' with
  | [y0,y1,y2,y3,y4,y5],_=>
   have h0:DataW.trod enc Tryz.prog w base spare held m 3 [c0]=some y0:=(by simpa [Tryz.cellsInt] using hf 0 _ rfl);have h1:DataW.trod enc Tryz.prog w base spare held m 3 [c1]=some y1:=(by simpa [Tryz.cellsInt] using hf 1 _ rfl);have h2:DataW.trod enc Tryz.prog w base spare held m 3 [c2]=some y2:=(by simpa [Tryz.cellsInt] using hf 2 _ rfl);have h3:DataW.trod enc Tryz.prog w base spare held m 3 [c3]=some y3:=(by simpa [Tryz.cellsInt] using hf 3 _ rfl);have h4:DataW.trod enc Tryz.prog w base spare held m 9 [c4]=some y4:=(by simpa [Tryz.cellsStr] using hf 4 _ rfl);have h5:DataW.trod enc Tryz.prog w base spare held m 9 [c5]=some y5:=(by simpa [Tryz.cellsStr] using hf 5 _ rfl);obtain ⟨k0,e0,rfl,w0⟩:=DataW.trod_int Tryz.underlying3 h0;obtain ⟨k1,e1,rfl,w1⟩:=DataW.trod_int Tryz.underlying3 h1;obtain ⟨k2,e2,rfl,w2⟩:=DataW.trod_int Tryz.underlying3 h2;obtain ⟨k3,e3,rfl,w3⟩:=DataW.trod_int Tryz.underlying3 h3;obtain ⟨s4,e4,rfl,w4⟩:=DataW.trod_string Tryz.underlying9 h4;obtain ⟨s5,e5,rfl,w5⟩:=DataW.trod_string Tryz.underlying9 h5;simp at e0 e1 e2 e3 e4 e5;subst e0 e1 e2 e3 e4 e5;exact ⟨⟨k0,k1,k2,k3,s4.data.toList,s5.data.toList⟩,rfl,⟨zFf w0,zFf w1,zFf w2,zFf w3⟩,by rw [hx];rfl⟩
theorem zLM {fuel:Nat} {ao:Option Addr} {len cap:Nat} {x:DataW H × List MemPlace} (h:DataW.trod enc Tryz.prog w 0 spare held fuel 22 [.slice ao len cap]=some x) :
  ∃ ops:List OpV,ops.length=len∧ScriptAt w ao ops∧(∀ o∈ops,o.Ok)∧((ops=[]∧len=0)∨∃ sp,x.1=.slice (ops.map OpV.data) sp):=by
 rcases open_slice Tryz.underlying22 h with ⟨hcs,_⟩ | ⟨a,len',cap',m,n,D,Pl,hcs,_,hl,hm,hm',hx,hel⟩
 ·simp at hcs;obtain ⟨rfl,rfl,rfl⟩:=hcs;exact ⟨[],rfl,fun h=>absurd rfl h,by simp,Or.inl ⟨rfl,rfl⟩⟩
 ·simp at hcs;obtain ⟨rfl,rfl,rfl⟩:=hcs;have hlm:len≤m:=(by rw [hm'];split<;>omega);have hex:∀ i,i < len→∃ o:OpV,w.cells? 0 (a.add (i * 6)) 6=some o.cells∧o.Ok∧D i=o.data:=by
   intro i hi;obtain ⟨cs',h1,h2⟩:=hel i (by omega);rw [Tryz.cellsOp] at h1;obtain ⟨o,rfl,h3,h4⟩:=zSa h2;exact ⟨o,h1,h3,h4⟩
  obtain ⟨O,hO⟩:∃ O:Nat→OpV,∀ i,i < len→w.cells? 0 (a.add (i * 6)) 6=some (O i).cells∧(O i).Ok∧D i=(O i).data:=
   ⟨fun i=>if h:i < len then Classical.choose (hex i h) else ⟨0,0,0,0,[],[]⟩,fun i hi=>by
    simp only [hi,dif_pos];exact Classical.choose_spec (hex i hi)⟩
  refine ⟨(List.range len).map O,by simp,?_,?_,Or.inr ⟨(List.range (m - len)).map fun j=>D (len + j),?_⟩⟩
  ·intro hne;have h0:0 < len:=by
    rcases Nat.eq_zero_or_pos len with h0 | h0
    ·subst h0;simp at hne
    ·exact h0
   have hcell:∀ k (hk:k < len) j (_:j < 6) u,(O k).cells[j]?=some u→w.cell? ((a.add (k * 6)).add j)=some u:=by
    intro k hk j hj u hu;obtain ⟨_,hlen,hc⟩:=World.cells?_some (hO k hk).1;rw [hc j (by omega)];exact hu
   obtain ⟨b,off,spot⟩:=a;have hsp:spot=none:=by
    have h1:=hcell 0 h0 0 (by omega) _ rfl
    simpa [Addr.add] using World.cell?_spot h1
   subst hsp;have hadd:∀ k j,((⟨b,off,none⟩:Addr).add (k * 6)).add j=⟨b,off + (k * 6 + j),none⟩:=by
    intro k j;rw [add_plain,add_plain,Nat.add_assoc]
   refine ⟨b,off,rfl,?_,?_⟩
   ·have h1:=hcell 0 h0 0 (by omega) _ rfl;exact World.block_lt_of_cell? w _ h1
   ·intro k hk j hj u hu;have hk':k < len:=(by simpa using hk);rw [← hadd];refine hcell k hk' j hj u ?_
    simpa using hu
  ·intro o ho;simp at ho;obtain ⟨i,hi,rfl⟩:=ho;exact (hO i hi).2.1
  ·rw [hx];show DataW.slice _ _=_
   congr 1
   rw [List.map_map]
   apply List.map_congr_left
   intro i hi;exact (hO i (by simpa using hi)).2.2
theorem zFz {P:Program} {e:TypeId}:∀ {l:List (DataW H)} {d:DataW H},d∈l→∀ n∈d.weights P e,n∈DataW.weightsAll P e l
 | d0 :: l,d,hd,n,hn=>by
  simp only [DataW.weightsAll,List.mem_append]
  rcases List.mem_cons.1 hd with rfl | h
  ·exact Or.inl hn
  ·exact Or.inr (zFz h n hn)
theorem zJ9 {ops:List OpV} {sp:List (DataW H)} (h:(DataW.weightsEach Tryz.prog [22] [.slice (ops.map OpV.data) sp]).all (·≤reachBytes)=true):zLA ops∧ops.length≤140737488355328:=by
 constructor
 ·intro o ho;have key:∀ n∈(o.data:DataW H).weights Tryz.prog 29,n≤reachBytes:=by
   intro n hn;refine of_decide_eq_true (List.all_eq_true.1 h n (DataW.weights_mem_each (j:=0) rfl rfl n ?_));simp only [DataW.weights,Tryz.underlying22,List.mem_cons,List.mem_append];exact Or.inr (Or.inl (zFz (List.mem_map_of_mem ho) n hn))
  have hr:reachBytes < 2 ^ 47:=reachBytes_lt;have k1:=key o.s.length (by simp [OpV.data,DataW.weights,DataW.weightsEach,Tryz.underlying29]);have k2:=key o.t.length (by simp [OpV.data,DataW.weights,DataW.weightsEach,Tryz.underlying29])
  constructor<;>omega
 ·have:=sized_slice h (j:=0) (t:=22) (e:=29) rfl rfl Tryz.underlying22
  rw [Tryz.bytesOp] at this;have hr:reachBytes < 2 ^ 47:=reachBytes_lt;simp at this;omega
end
theorem zRX (os:Os) (args:Array Value):laidMetH Tryz.prog Rows.loadsRow.laid ((World.doorLaid Tryz.prog 400 os).forCall (fun _ _=>0) ⟨#[],args,[]⟩).memory:=
 laidMetH_of_parts3 (fuel:=8) (laidMet_of_run' 8 (by kernel_rfl) (by kernel_rfl)) (by kernel_rfl) (by kernel_rfl)
end Go.Proofs.YtgipjjhkhfihpaaGreatDoor
