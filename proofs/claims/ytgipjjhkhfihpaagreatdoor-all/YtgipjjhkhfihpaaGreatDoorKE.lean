import Derived.Test.YtgipjjhkhfihpaaGreatDoorKA
import Derived.Test.YtgipjjhkhfihpaaGreatDoorKB
set_option maxRecDepth 100000
set_option maxHeartbeats 6400000
namespace Go.Proofs.YtgipjjhkhfihpaaGreatDoor
def zEQ (vs:List (Nat × Bool)) (i:Nat):Bool:=(vs.getD i (0,false)).2
def zDN (vs:List (Nat × Bool)) (i:Nat):Bool:=decide (0 < i) && (zEQ vs i != zEQ vs (i - 1))
def zAE (vs:List (Nat × Bool)) (k:Nat):List Nat:=(List.range k).filter (zDN vs)
theorem zHn (vs:List (Nat × Bool)) (k:Nat):zAE vs (k + 1)=zAE vs k ++ (if zDN vs k then [k] else []):=by
 unfold zAE;rw [List.range_succ,List.filter_append]
 congr 1
 simp [List.filter_cons]
theorem zG0 (vs:List (Nat × Bool)) (k:Nat):∀ x∈zAE vs k,0 < x∧x < k:=by
 intro x hx;unfold zAE at hx;rw [List.mem_filter] at hx;obtain ⟨h1,h2⟩:=hx;simp [zDN] at h1 h2;exact ⟨h2.1,h1⟩
def zq (vs:List (Nat × Bool)):Nat→List (List Nat) × List Nat
 | 0=>([],[])
 | k + 1=>if zDN vs k then ((zq vs k).1 ++ [(zq vs k).2],[(vs.getD k (0,false)).1]) else ((zq vs k).1,(zq vs k).2 ++ [(vs.getD k (0,false)).1])
def zG (vs:List (Nat × Bool)):List (List Nat):=if 0 < (zq vs vs.length).2.length then (zq vs vs.length).1 ++ [(zq vs vs.length).2] else (zq vs vs.length).1
theorem zDo {α:Type} (a b:List α) (j:Nat) (d:α) (h:j < a.length):(a ++ b).getD j d=a.getD j d:=by
 simp [List.getD,List.getElem?_append_left h]
def zHZ (l:List Nat) (a b:Nat):List Nat:=(l.drop a).take (b - a)
def zAq (es:List Nat) (j:Nat):Nat:=if 0 < j then es.getD (j - 1) 0 else 0
theorem zNU (l:List Nat) (a b:Nat) (hab:a≤b) (hb:b < l.length):zHZ l a (b + 1)=zHZ l a b ++ [l[b]]:=by
 unfold zHZ;rw [show b + 1 - a=(b - a) + 1 from by omega,List.take_succ_eq_append_getElem (by simp;omega)]
 congr 1
 simp
 congr 1
 omega
theorem zPI (vs:List (Nat × Bool)):∀ k,k≤vs.length→
  (zq vs k).1=(List.range (zAE vs k).length).map (fun j=>zHZ (vs.map (·.1)) (zAq (zAE vs k) j) ((zAE vs k).getD j 0))∧
  (zq vs k).2=zHZ (vs.map (·.1)) (zAq (zAE vs k) (zAE vs k).length) k:=by
 intro k
 induction k with
 | zero=>intro _;simp [zq,zAE,zHZ,zAq]
 | succ k ih=>
  intro hk;obtain ⟨h1,h2⟩:=ih (by omega);have hlt:=zG0 vs k;have hst:zAq (zAE vs k) (zAE vs k).length≤k:=by
   unfold zAq
   split
   ·next hp=>
    have hm:(zAE vs k).getD ((zAE vs k).length - 1) 0∈zAE vs k:=by
     rw [List.getD,List.getElem?_eq_getElem (by omega)];exact List.getElem_mem _
    have:=(hlt _ hm).2;omega
   ·omega
  have hv:(vs.getD k (0,false)).1=(vs.map (·.1))[k]'(by simp;omega):=by
   simp [List.getD,show k < vs.length by omega]
  rw [zq,zHn]
  cases hn:zDN vs k with
  | false=>
   rw [if_neg (by decide),if_neg (by decide)];simp only [List.append_nil];refine ⟨h1,?_⟩;rw [h2,hv,← zNU _ _ _ hst]
  | true=>
   rw [if_pos rfl,if_pos rfl]
   constructor
   ·show (zq vs k).1 ++ [(zq vs k).2]=_;rw [List.length_append,List.length_singleton,List.range_succ,List.map_append,h1,h2]
    congr 1
    ·apply List.map_congr_left
     intro j hj;have hj':j < (zAE vs k).length:=(by simpa using hj);have e1:zAq (zAE vs k ++ [k]) j=zAq (zAE vs k) j:=by
      unfold zAq
      split
      ·rw [zDo _ _ _ _ (by omega)]
      ·rfl
     rw [e1,zDo _ _ _ _ hj']
    ·simp only [List.map_cons,List.map_nil];have e1:zAq (zAE vs k ++ [k]) (zAE vs k).length=zAq (zAE vs k) (zAE vs k).length:=by
      unfold zAq
      split
      ·rw [zDo _ _ _ _ (by omega)]
      ·rfl
     rw [e1];simp [List.getD]
   ·show [(vs.getD k (0,false)).1]=_;have e1:zAq (zAE vs k ++ [k]) (zAE vs k ++ [k]).length=k:=by
     unfold zAq;rw [if_pos (by simp)];simp [List.getD]
    rw [e1];unfold zHZ;rw [show k + 1 - k=1 from by omega,List.drop_eq_getElem_cons (by simp;omega),hv];rfl
def zBR (vs:List (Nat × Bool)):List Nat:=if 0 < vs.length then zAE vs vs.length ++ [vs.length] else []
theorem zI3 (vs:List (Nat × Bool)) (k:Nat):0 < (zq vs (k + 1)).2.length:=by
 rw [zq];split<;>simp
theorem zFu (vs:List (Nat × Bool)):zG vs=(List.range (zBR vs).length).map (fun j=>zHZ (vs.map (·.1)) (zAq (zBR vs) j) ((zBR vs).getD j 0)):=by
 obtain ⟨h1,h2⟩:=zPI vs vs.length (Nat.le_refl _);unfold zG zBR
 rcases Nat.eq_zero_or_pos vs.length with h0 | h0
 ·rw [h0];simp [zq]
 ·have hp:0 < (zq vs vs.length).2.length:=by
   obtain ⟨k,hk⟩:∃ k,vs.length=k + 1:=⟨vs.length - 1,by omega⟩;rw [hk];exact zI3 vs k
  rw [if_pos hp,if_pos h0];rw [List.length_append,List.length_singleton,List.range_succ,List.map_append,h1,h2]
  congr 1
  ·apply List.map_congr_left
   intro j hj;have hj':j < (zAE vs vs.length).length:=(by simpa using hj);have e1:zAq (zAE vs vs.length ++ [vs.length]) j=zAq (zAE vs vs.length) j:=by
    unfold zAq
    split
    ·rw [zDo _ _ _ _ (by omega)]
    ·rfl
   rw [e1,zDo _ _ _ _ hj']
  ·simp only [List.map_cons,List.map_nil];have e1:zAq (zAE vs vs.length ++ [vs.length]) (zAE vs vs.length).length=zAq (zAE vs vs.length) (zAE vs vs.length).length:=by
    unfold zAq
    split
    ·rw [zDo _ _ _ _ (by omega)]
    ·rfl
   rw [e1];simp [List.getD]
theorem zRy (vs:List (Nat × Bool)) (all:Nat) (hk:∀ x∈vs,all.testBit x.1=x.2):zDS (vs.map (·.1)) all vs.length=zBR vs:=by
 have hka:∀ i,i < vs.length→all.testBit ((vs.map (·.1)).getD i 0)=zEQ vs i:=by
  intro i hi;unfold zEQ
  have:=hk vs[i] (List.getElem_mem hi)
  simpa [List.getD,hi] using this
 have h:∀ k,k≤vs.length→zDS (vs.map (·.1)) all k=(zAE vs (min (k + 1) vs.length)) ++ (if k=vs.length∧0 < vs.length then [vs.length] else []):=by
  intro k
  induction k with
  | zero=>
   intro _
   rcases Nat.eq_zero_or_pos vs.length with h0 | h0
   ·rw [h0];simp [zDS,zAE]
   ·rw [show min (0 + 1) vs.length=1 from by omega,if_neg (by omega)];simp [zDS,zAE,zDN]
  | succ k ih=>
   intro hle;rw [zHg,ih (by omega)];have hne:¬ (k=vs.length∧0 < vs.length):=(by omega);rw [if_neg hne,List.append_nil,show min (k + 1) vs.length=k + 1 from by omega]
   by_cases hlast:k + 1=vs.length
   ·have e:zFo (vs.map (·.1)) all (k + 1)=true:=by
     unfold zFo;simp [hlast]
    rw [e,if_pos rfl,if_pos ⟨hlast,by omega⟩,show min (k + 1 + 1) vs.length=k + 1 from by omega,hlast]
   ·have hlt:k + 1 < vs.length:=(by omega);have e:zFo (vs.map (·.1)) all (k + 1)=zDN vs (k + 1):=by
     unfold zFo zDN;rw [hka (k + 1) hlt,hka (k + 1 - 1) (by omega)];simp [hlast]
    have hne2:¬ (k + 1=vs.length∧0 < vs.length):=(by omega);rw [e,if_neg hne2,List.append_nil,show min (k + 1 + 1) vs.length=k + 1 + 1 from by omega,zHn vs (k + 1)]
 rw [h vs.length (Nat.le_refl _)];unfold zBR;rw [show min (vs.length + 1) vs.length=vs.length from by omega]
 by_cases h0:0 < vs.length
 ·rw [if_pos ⟨rfl,h0⟩,if_pos h0]
 ·rw [if_neg (by omega),if_neg h0,show vs.length=0 from by omega];rfl
end Go.Proofs.YtgipjjhkhfihpaaGreatDoor
namespace Go.Proofs.YtgipjjhkhfihpaaGreatDoor
open Go.RowKit
theorem zEI (b:Nat) (vV vC:Value) (aV aC:Option Addr) (nV cV nC cC:Nat) (hV:vV=.slice aV nV cV) (hC:vC=.slice aC nC cC) (w:World) (hb:w.heap[b]?=some (.cells #[vV,vC] 64 (0,0))) :
  Calls Tryz.prog 25 #[.pointer (some ⟨b,0,none⟩)] w fun e w'=>e=.returned (.agg #[vV,vC])∧Below w.heap.size w w':=by
 subst hV hC;obtain ⟨hf0,hf1⟩:=zJ hb;have hbl:=zB hb
 go_enter Tryz.func25,Tryz.ntmps25
 go_wp2_with fail;refine bodyPost_ret (v:=.agg #[.slice aV nV cV,.slice aC nC cC]) (by simp [results,Tryz.results25,go_sem]) rfl ⟨rfl,?_⟩;exact (Below.refl _ _).alloc (Nat.le_refl _) _
end Go.Proofs.YtgipjjhkhfihpaaGreatDoor
namespace Go.Proofs.YtgipjjhkhfihpaaGreatDoor
theorem zQ8 (l:List (Nat × Bool)):∀ (a v:Nat),(l.foldl (fun a x=>if x.2 then a ||| 2 ^ x.1 else a) a).testBit v=(a.testBit v || l.any (fun x=>x.2 && x.1 == v)):=by
 induction l with
 | nil=>intro a v;simp
 | cons x l ih=>
  intro a v;rw [List.foldl_cons,ih,List.any_cons]
  cases x.2 with
  | false=>simp
  | true=>
   rw [if_pos rfl,Nat.testBit_or,zDc,Bool.or_assoc];simp
theorem zSg (l:List (Nat × Bool)):(l.map (·.1)).zip (l.map (·.2))=l:=by
 induction l with
 | nil=>rfl
 | cons x l ih=>simp [ih]
theorem zSe {st:RS} {q:QS} (h:zEA st q) (v:Nat):(zW st).all.testBit v=q.vars.any (fun x=>x.2 && x.1 == v):=by
 show (zDE st st.told.length).testBit v=_;unfold zDE;rw [h.told,h.kinds,zSg,List.length_map,List.take_length,zQ8]
 simp
theorem zNC (l:List (Nat × Bool)) (hn:(l.map (·.1)).Nodup) (x:Nat × Bool) (hx:x∈l):l.any (fun y=>y.2 && y.1 == x.1)=x.2:=by
 induction l with
 | nil=>simp at hx
 | cons y l ih=>
  rw [List.map_cons,List.nodup_cons] at hn;rw [List.any_cons]
  rcases List.mem_cons.1 hx with e | hx
  ·subst e
   have:l.any (fun y=>y.2 && y.1 == x.1)=false:=by
    rw [List.any_eq_false];intro z hz hh;simp at hh;exact hn.1 (by rw [← hh.2];exact List.mem_map_of_mem hz)
   rw [this];simp
  ·rw [ih hn.2 hx]
   have:(y.1 == x.1)=false:=by
    rw [beq_eq_false_iff_ne];intro e;exact hn.1 (by rw [e];exact List.mem_map_of_mem hx)
   rw [this];simp
theorem zOF {st:RS} {q:QS} (h:zEA st q):zB0 st 8=zA6 q 8:=by
 unfold zB0 zA6
 apply List.filter_congr
 intro v hv;rw [List.mem_map] at hv;obtain ⟨u,hu,rfl⟩:=hv
 have:u < 8:=by simpa using hu
 rw [h.used (u + 1) (by omega) (by omega),h.seen,Bool.and_comm]
theorem zDv {st:RS} {q:QS} (h:zEA st q):(zW st).order=(zK q).vars.map (·.1):=by
 show zB0 st 8 ++ st.told=(exv (zA6 q 8) ++ q.vars).map (·.1);rw [zOF h,h.told,List.map_append]
 congr 1
 simp [exv,Function.comp_def]
theorem zIm {st:RS} {q:QS} (h:zEA st q) (hn:zCf q):∀ x∈(zK q).vars,(zW st).all.testBit x.1=x.2:=by
 intro x hx;rw [zSe h]
 rcases List.mem_append.1 (show x∈exv (zA6 q 8) ++ q.vars from hx) with hx | hx
 ·unfold exv at hx;rw [List.mem_map] at hx;obtain ⟨v,hv,rfl⟩:=hx;unfold zA6 at hv;rw [List.mem_filter,Bool.and_eq_true,Bool.not_eq_true'] at hv;have hh:=hv.2.1;dsimp only;rw [List.any_eq_false];intro z hz hzz;simp at hzz
  have:zCk q.vars v=true:=by unfold zCk;rw [List.any_eq_true];exact ⟨z,hz,by simpa using hzz.2⟩
  rw [hh] at this;cases this
 ·exact zNC _ hn.nodup x hx
theorem zCR {st:RS} {q:QS} (h:zEA st q) (hn:zCf q):(zW st).ends=zBR (zK q).vars:=by
 have:=zRy (zK q).vars (zW st).all (zIm h hn)
 rw [← this];show zDS (zW st).order (zW st).all (zW st).order.length=_;rw [zDv h,List.length_map]
theorem zCV (vs:List (Nat × Bool)):(zG vs).length=(zBR vs).length:=by rw [zFu];simp
theorem zRL:∀ (n:Nat) (l:List Nat),l.Nodup→(∀ x∈l,x < n)→l.length≤n:=by
 intro n
 induction n with
 | zero=>
  intro l _ h
  cases l with
  | nil=>simp
  | cons x l=>exact absurd (h x (by simp)) (by omega)
 | succ n ih=>
  intro l hn h;have h1:=ih (l.erase n) (hn.erase n) (by
   intro x hx;rw [hn.mem_erase_iff] at hx
   have:=h x hx.2;omega)
  rw [List.length_erase] at h1
  split at h1<;>omega
theorem zQn (l:List Nat) (hn:l.Nodup) (hb:∀ x∈l,1≤x∧x≤8):l.length≤8:=by
 have h:=zRL 9 (0 :: l) (by
  rw [List.nodup_cons];exact ⟨fun h=>by have:=hb 0 h;omega,hn⟩) (by
  intro x hx
  rcases List.mem_cons.1 hx with rfl | hx
  ·omega
  ·have:=hb x hx;omega)
 simpa using h
theorem zHC {q:QS} (hn:zCf q):((zK q).vars.map (·.1)).Nodup∧∀ x∈(zK q).vars,1≤x.1∧x.1≤8:=by
 show ((exv (zA6 q 8) ++ q.vars).map (·.1)).Nodup∧∀ x∈exv (zA6 q 8) ++ q.vars,1≤x.1∧x.1≤8;have e:(exv (zA6 q 8)).map (·.1)=zA6 q 8:=(by simp [exv,Function.comp_def]);have hmem:∀ v∈zA6 q 8,(1≤v∧v≤8)∧zCk q.vars v=false:=by
  intro v hv;unfold zA6 at hv;rw [List.mem_filter,Bool.and_eq_true,Bool.not_eq_true',List.mem_map] at hv;obtain ⟨⟨u,hu,rfl⟩,hh,_⟩:=hv
  have:u < 8:=by simpa using hu
  exact ⟨by omega,hh⟩
 constructor
 ·rw [List.map_append,e,List.nodup_append];refine ⟨?_,hn.nodup,?_⟩
  ·unfold zA6;refine List.Pairwise.filter _ ?_;rw [List.pairwise_map];exact List.pairwise_lt_range.imp (fun h=>by omega)
  ·intro a ha b hb e;subst e;rw [List.mem_map] at hb;obtain ⟨x,hx,hxe⟩:=hb
   have:zCk q.vars a=true:=by unfold zCk;rw [List.any_eq_true];exact ⟨x,hx,by simpa using hxe⟩
   rw [(hmem a ha).2] at this;cases this
 ·intro x hx
  rcases List.mem_append.1 hx with hx | hx
  ·unfold exv at hx;rw [List.mem_map] at hx;obtain ⟨v,hv,rfl⟩:=hx;exact (hmem v hv).1
  ·exact hn.names x hx
theorem zCp {q:QS} (hn:zCf q):(zK q).vars.length≤8:=by
 have h:=zHC hn
 have:=zQn _ h.1 (by
  intro x hx;rw [List.mem_map] at hx;obtain ⟨y,hy,rfl⟩:=hx;exact h.2 y hy)
 simpa using this
theorem zMP (vs:List (Nat × Bool)) (k:Nat):(zAE vs k).Pairwise (· < ·):=by
 unfold zAE;exact List.Pairwise.filter _ List.pairwise_lt_range
theorem zLK (vs:List (Nat × Bool)):(zBR vs).Pairwise (· < ·):=by
 unfold zBR
 split
 ·rw [List.pairwise_append];refine ⟨zMP _ _,by simp,?_⟩;intro a ha b hb;simp at hb;subst hb;exact (zG0 vs _ a ha).2
 ·simp
theorem zRq (vs:List (Nat × Bool)):∀ x∈zBR vs,0 < x∧x≤vs.length:=by
 unfold zBR
 split
 ·intro x hx
  rcases List.mem_append.1 hx with hx | hx
  ·have:=zG0 vs _ x hx;omega
  ·simp at hx;omega
 ·simp
theorem zGt (vs:List (Nat × Bool)):(zBR vs).length≤vs.length:=by
 unfold zBR
 split
 ·next h=>
  have hc:(zAE vs vs.length).length≤vs.length - 1:=by
   obtain ⟨n,hn⟩:∃ n,vs.length=n + 1:=⟨vs.length - 1,by omega⟩;rw [hn];unfold zAE;rw [show List.range (n + 1)=0 :: (List.range n).map (· + 1) from List.range_succ_eq_map,List.filter_cons,if_neg (by simp [zDN])];refine Nat.le_trans (List.length_filter_le _ _) ?_
   simp
  simp;omega
 ·simp
theorem zLd (vs:List (Nat × Bool)) (k:Nat) (h:k < (zBR vs).length):zAq (zBR vs) k≤(zBR vs).getD k 0:=by
 unfold zAq
 split
 ·have hs:=zLK vs;rw [List.pairwise_iff_getElem] at hs
  have:=hs (k - 1) k (by omega) h (by omega)
  simp only [List.getD,List.getElem?_eq_getElem h,List.getElem?_eq_getElem (show k - 1 < (zBR vs).length by omega),Option.getD_some];omega
 ·omega
theorem zQY (vs:List (Nat × Bool)) (k:Nat) (h:k < (zBR vs).length):(zBR vs).getD k 0≤vs.length:=by
 simp only [List.getD,List.getElem?_eq_getElem h,Option.getD_some];exact (zRq vs _ (List.getElem_mem h)).2
end Go.Proofs.YtgipjjhkhfihpaaGreatDoor
