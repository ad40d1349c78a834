import Derived.Test.YtgipjjhkhfihpaaGreatDoorAF
import Derived.Test.YtgipjjhkhfihpaaGreatDoorAD
import Derived.Test.YtgipjjhkhfihpaaGreatDoorAE
import Derived.Test.YtgipjjhkhfihpaaGreatDoorAA
set_option maxRecDepth 100000
set_option maxHeartbeats 6400000
namespace Go.Proofs.YtgipjjhkhfihpaaGreatDoor
open Go.RowKit
def zFX (q:QS) (kind:Nat) (ss:List (Nat × Nat)) (hd:List UInt8) (tl:List (List UInt8)):Option (Nat × Nat):=
 if hd=[97] then zCb q kind tl
 else if hd=[99] then zAt q kind tl
 else if hd=[114] then zE9 q kind ss tl
 else if hd=[100] then zDJ q kind ss tl
 else none
def Tag (q:QS) (kind:Nat) (ss:List Stp) (s:Stp):Prop:=zRA q kind ss s∨(s.rule≠4∧∃ tl,zCb q kind tl=some s.lits∨zAt q kind tl=some s.lits∨zE9 q kind (ze ss) tl=some s.lits)
def Tags (q:QS) (kind:Nat) (ss:List Stp):Prop:=∀ i (h:i < ss.length),Tag q kind (ss.take i) ss[i]
def zSu (q:QS) (kind:Nat) (ss:List Stp) (ws:List (List UInt8)) (s:Stp):Prop:=Tag q kind ss s∧zC7 s=zGC ss.length ws
theorem zIa (q:QS) (kind:Nat):Tags q kind []:=fun i h=>by simp at h
theorem Tags.snoc {q:QS} {kind:Nat} {ss:List Stp} {s:Stp} (h:Tags q kind ss) (hs:Tag q kind ss s):Tags q kind (ss ++ [s]):=by
 intro i hi
 by_cases e:i < ss.length
 ·rw [List.take_append_of_le_length (Nat.le_of_lt e),List.getElem_append_left e];exact h i e
 ·have e2:i=ss.length:=(by simp at hi;omega);subst e2;rw [List.take_append_of_le_length (Nat.le_refl _),List.take_length]
  simpa using hs
theorem zKT {G H:Stp→Prop} {res:Option (Nat × Nat)} {ok:Bool} {s:Stp} (h:(ok=true∧res=some s.lits∧G s)∨(ok=false∧res=none)) (f:res=some s.lits→G s→H s):(ok=true∧res=some s.lits∧H s)∨(ok=false∧res=none):=by
 rcases h with ⟨h1,h2,h3⟩ | h
 ·exact Or.inl ⟨h1,h2,f h2 h3⟩
 ·exact Or.inr h
theorem zKO (b:Nat) (q:QS) (kind:Nat) (ss:List Stp) (vV vC vS:Value) (hd:List UInt8) (tl:List (List UInt8)) (g off cap:Nat) (w:World) (hP:PInv w b q kind ss vV vC vS) (hQ:QB q) (hS:SBs ss)
  (hs:StrsAt w (some ⟨g,off,none⟩) (hd :: tl)) (hl:tl.length≤1048575) (hcap:tl.length + 1≤cap) (hws:∀ x∈tl,x.length≤1048576) :
  Calls Tryz.prog 71 #[.pointer (some ⟨b,0,none⟩),.slice (some ⟨g,off,none⟩) (tl.length + 1) cap] w fun e w'=>StPost (zSu q kind ss (hd :: tl)) (zFX q kind (ze ss) hd tl) w e w':=by
 obtain ⟨g',off',cur,he,hg,hcur⟩:=hs (by simp);injection he with he;injection he with e1 e2 e3;subst e1 e2;clear e3;have hgw:=zB hg;have hc0:w.cell? ⟨g,off,none⟩=some (S hd):=(by rw [zC hg];exact hcur 0 (by simp));have hA0:Below w.heap.size w (w.alloc (.cells #[.int .i64 0,.int .i64 0,.int .i64 0,.int .i64 0,.int .i64 0,.int .i64 0] 134)):=(Below.refl _ _).alloc (Nat.le_refl _) _;have HST:Hid (∀ ao:Option Addr,(tl≠[]→ao=some ⟨g,off + 1,none⟩)→StrsAt (w.alloc (.cells #[.int .i64 0,.int .i64 0,.int .i64 0,.int .i64 0,.int .i64 0,.int .i64 0] 134)) ao tl):=zF (fun ao ho hne=>⟨g,off + 1,cur,ho hne,(hA0.block _ hgw).trans hg,fun j hj=>by
  have h1:=hcur (1 + j) (by simp;omega);rw [← Nat.add_assoc] at h1;rw [h1];simp [show 1 + j=j + 1 from by omega]⟩)
 have HWS:=zF hws;have hP0:=hP.later hA0;have hr0:=heap_alloc_new w (.cells #[.int .i64 0,.int .i64 0,.int .i64 0,.int .i64 0,.int .i64 0,.int .i64 0] 134);have hne0:(((tl.length + 1:Nat):Int) == 0)=false:=(by rw [beq_eq_false_iff_ne];omega);clear hcur hws hs
 by_cases ha:hd=[97]
 ·subst ha;have HR:Hid (zFX q kind (ze ss) [97] tl=zCb q kind tl):=zF rfl
  go_enter Tryz.func71,Tryz.ntmps71
  go_wp2_with fail
  all_goals
   refine (zJI b q kind ss vV vC vS tl _ _ _ hP0 hQ (zA HST _ (fun hne=>by first | rfl | (exfalso;apply hne;exact List.eq_nil_of_length_eq_zero (by omega)))) (by omega) (zA HWS)).mono ?_;rintro e w1 ⟨hb1,c,ok,rfl,hlt,hok⟩;obtain ⟨sr,sf,ss2,sv,sl⟩:=c;obtain ⟨p,n⟩:=sl;have HOK:=zF hok;clear hok;have hr1:=zH hb1 hr0;have hB1:Below w.heap.size w w1:=hA0.trans (hb1.mono hA0.size);have r0:w1.cell? ⟨w.heap.size,0,none⟩=some (.int .i64 0):=zE hr1 rfl;have r1:w1.cell? ⟨w.heap.size,1,none⟩=some (.int .i64 0):=zE hr1 rfl;have r2:w1.cell? ⟨w.heap.size,2,none⟩=some (.int .i64 0):=zE hr1 rfl;have r3:w1.cell? ⟨w.heap.size,3,none⟩=some (.int .i64 0):=zE hr1 rfl;have r4:w1.cell? ⟨w.heap.size,4,none⟩=some (.int .i64 0):=zE hr1 rfl;have r5:w1.cell? ⟨w.heap.size,5,none⟩=some (.int .i64 0):=zE hr1 rfl;have z0:=zD hr1 0;have z1:=zD hr1 1;have z2:=zD hr1 2;have z3:=zD hr1 3;have z4:=zD hr1 4;have z5:=zD hr1 5;have hR:=zBc hr1 (.int .i64 (sr:Int)) (.int .i64 (sf:Int)) (.int .i64 (ss2:Int)) (.int .i64 (sv:Int)) (.int .i64 (p:Int)) (.int .i64 (n:Int));have j0:=zC hR 0;have j1:=zC hR 1;have j2:=zC hR 2;have j3:=zC hR 3;have j4:=zC hR 4;have j5:=zC hR 5;go_wp2_with fail;refine bodyPost_ret (v:=.tuple #[zCi ⟨sr,sf,ss2,sv,(p,n)⟩,.bool ok]) (by simp [results,Tryz.results71,go_sem,j0,j1,j2,j3,j4,j5]) rfl ⟨?_,⟨sr,sf,ss2,sv,(p,n)⟩,ok,rfl,hlt,by rw [zA HR];exact zKT (zA HOK) (fun h g=>⟨Or.inr ⟨g,tl,Or.inl h⟩,zGI g (by decide)⟩)⟩;exact zAT hB1 (Nat.le_refl _) _ _ _ _ _ _
 ·have hab:(hd == [97])=false:=by simp [ha]
  by_cases hc:hd=[99]
  ·subst hc;clear ha hab;have HR:Hid (zFX q kind (ze ss) [99] tl=zAt q kind tl):=zF rfl
   go_enter Tryz.func71,Tryz.ntmps71
   go_wp2_with fail
   all_goals
    refine (zKY b q kind ss vV vC vS tl _ _ _ hP0 hQ (zA HST _ (fun hne=>by first | rfl | (exfalso;apply hne;exact List.eq_nil_of_length_eq_zero (by omega)))) (by omega) (zA HWS)).mono ?_;rintro e w1 ⟨hb1,c,ok,rfl,hlt,hok⟩;obtain ⟨sr,sf,ss2,sv,sl⟩:=c;obtain ⟨p,n⟩:=sl;have HOK:=zF hok;clear hok;have hr1:=zH hb1 hr0;have hB1:Below w.heap.size w w1:=hA0.trans (hb1.mono hA0.size);have r0:w1.cell? ⟨w.heap.size,0,none⟩=some (.int .i64 0):=zE hr1 rfl;have r1:w1.cell? ⟨w.heap.size,1,none⟩=some (.int .i64 0):=zE hr1 rfl;have r2:w1.cell? ⟨w.heap.size,2,none⟩=some (.int .i64 0):=zE hr1 rfl;have r3:w1.cell? ⟨w.heap.size,3,none⟩=some (.int .i64 0):=zE hr1 rfl;have r4:w1.cell? ⟨w.heap.size,4,none⟩=some (.int .i64 0):=zE hr1 rfl;have r5:w1.cell? ⟨w.heap.size,5,none⟩=some (.int .i64 0):=zE hr1 rfl;have z0:=zD hr1 0;have z1:=zD hr1 1;have z2:=zD hr1 2;have z3:=zD hr1 3;have z4:=zD hr1 4;have z5:=zD hr1 5;have hR:=zBc hr1 (.int .i64 (sr:Int)) (.int .i64 (sf:Int)) (.int .i64 (ss2:Int)) (.int .i64 (sv:Int)) (.int .i64 (p:Int)) (.int .i64 (n:Int));have j0:=zC hR 0;have j1:=zC hR 1;have j2:=zC hR 2;have j3:=zC hR 3;have j4:=zC hR 4;have j5:=zC hR 5;go_wp2_with fail;refine bodyPost_ret (v:=.tuple #[zCi ⟨sr,sf,ss2,sv,(p,n)⟩,.bool ok]) (by simp [results,Tryz.results71,go_sem,j0,j1,j2,j3,j4,j5]) rfl ⟨?_,⟨sr,sf,ss2,sv,(p,n)⟩,ok,rfl,hlt,by rw [zA HR];exact zKT (zA HOK) (fun h g=>⟨Or.inr ⟨g,tl,Or.inr (Or.inl h)⟩,zGI g (by decide)⟩)⟩;exact zAT hB1 (Nat.le_refl _) _ _ _ _ _ _
  ·have hcb:(hd == [99])=false:=by simp [hc]
   by_cases hr:hd=[114]
   ·subst hr;clear ha hab hc hcb;have HR:Hid (zFX q kind (ze ss) [114] tl=zE9 q kind (ze ss) tl):=zF rfl
    go_enter Tryz.func71,Tryz.ntmps71
    go_wp2_with fail
    all_goals
     refine (zGv b q kind ss vV vC vS tl _ _ _ hP0 hQ hS (zA HST _ (fun hne=>by first | rfl | (exfalso;apply hne;exact List.eq_nil_of_length_eq_zero (by omega)))) (by omega) (zA HWS)).mono ?_;rintro e w1 ⟨hb1,c,ok,rfl,hlt,hok⟩;obtain ⟨sr,sf,ss2,sv,sl⟩:=c;obtain ⟨p,n⟩:=sl;have HOK:=zF hok;clear hok;have hr1:=zH hb1 hr0;have hB1:Below w.heap.size w w1:=hA0.trans (hb1.mono hA0.size);have r0:w1.cell? ⟨w.heap.size,0,none⟩=some (.int .i64 0):=zE hr1 rfl;have r1:w1.cell? ⟨w.heap.size,1,none⟩=some (.int .i64 0):=zE hr1 rfl;have r2:w1.cell? ⟨w.heap.size,2,none⟩=some (.int .i64 0):=zE hr1 rfl;have r3:w1.cell? ⟨w.heap.size,3,none⟩=some (.int .i64 0):=zE hr1 rfl;have r4:w1.cell? ⟨w.heap.size,4,none⟩=some (.int .i64 0):=zE hr1 rfl;have r5:w1.cell? ⟨w.heap.size,5,none⟩=some (.int .i64 0):=zE hr1 rfl;have z0:=zD hr1 0;have z1:=zD hr1 1;have z2:=zD hr1 2;have z3:=zD hr1 3;have z4:=zD hr1 4;have z5:=zD hr1 5;have hR:=zBc hr1 (.int .i64 (sr:Int)) (.int .i64 (sf:Int)) (.int .i64 (ss2:Int)) (.int .i64 (sv:Int)) (.int .i64 (p:Int)) (.int .i64 (n:Int));have j0:=zC hR 0;have j1:=zC hR 1;have j2:=zC hR 2;have j3:=zC hR 3;have j4:=zC hR 4;have j5:=zC hR 5;go_wp2_with fail;refine bodyPost_ret (v:=.tuple #[zCi ⟨sr,sf,ss2,sv,(p,n)⟩,.bool ok]) (by simp [results,Tryz.results71,go_sem,j0,j1,j2,j3,j4,j5]) rfl ⟨?_,⟨sr,sf,ss2,sv,(p,n)⟩,ok,rfl,hlt,by rw [zA HR];exact zKT (zA HOK) (fun h g=>⟨Or.inr ⟨g,tl,Or.inr (Or.inr h)⟩,zGI g (by decide)⟩)⟩;exact zAT hB1 (Nat.le_refl _) _ _ _ _ _ _
   ·have hrb:(hd == [114])=false:=by simp [hr]
    by_cases hdd:hd=[100]
    ·subst hdd;clear ha hab hc hcb hr hrb;have HR:Hid (zFX q kind (ze ss) [100] tl=zDJ q kind (ze ss) tl):=zF rfl
     go_enter Tryz.func71,Tryz.ntmps71
     go_wp2_with fail
     all_goals
      refine (zIN b q kind ss vV vC vS tl _ _ _ hP0 hQ hS (zA HST _ (fun hne=>by first | rfl | (exfalso;apply hne;exact List.eq_nil_of_length_eq_zero (by omega)))) (by omega) (zA HWS)).mono ?_;rintro e w1 ⟨hb1,c,ok,rfl,hlt,hok⟩;obtain ⟨sr,sf,ss2,sv,sl⟩:=c;obtain ⟨p,n⟩:=sl;have HOK:=zF hok;clear hok;have hr1:=zH hb1 hr0;have hB1:Below w.heap.size w w1:=hA0.trans (hb1.mono hA0.size);have r0:w1.cell? ⟨w.heap.size,0,none⟩=some (.int .i64 0):=zE hr1 rfl;have r1:w1.cell? ⟨w.heap.size,1,none⟩=some (.int .i64 0):=zE hr1 rfl;have r2:w1.cell? ⟨w.heap.size,2,none⟩=some (.int .i64 0):=zE hr1 rfl;have r3:w1.cell? ⟨w.heap.size,3,none⟩=some (.int .i64 0):=zE hr1 rfl;have r4:w1.cell? ⟨w.heap.size,4,none⟩=some (.int .i64 0):=zE hr1 rfl;have r5:w1.cell? ⟨w.heap.size,5,none⟩=some (.int .i64 0):=zE hr1 rfl;have z0:=zD hr1 0;have z1:=zD hr1 1;have z2:=zD hr1 2;have z3:=zD hr1 3;have z4:=zD hr1 4;have z5:=zD hr1 5;have hR:=zBc hr1 (.int .i64 (sr:Int)) (.int .i64 (sf:Int)) (.int .i64 (ss2:Int)) (.int .i64 (sv:Int)) (.int .i64 (p:Int)) (.int .i64 (n:Int));have j0:=zC hR 0;have j1:=zC hR 1;have j2:=zC hR 2;have j3:=zC hR 3;have j4:=zC hR 4;have j5:=zC hR 5;go_wp2_with fail;refine bodyPost_ret (v:=.tuple #[zCi ⟨sr,sf,ss2,sv,(p,n)⟩,.bool ok]) (by simp [results,Tryz.results71,go_sem,j0,j1,j2,j3,j4,j5]) rfl ⟨?_,⟨sr,sf,ss2,sv,(p,n)⟩,ok,rfl,hlt,by rw [zA HR];exact zKT (zA HOK) (fun _ g=>⟨Or.inl g.1,zQW g⟩)⟩;exact zAT hB1 (Nat.le_refl _) _ _ _ _ _ _
    ·have hdb:(hd == [100])=false:=(by simp [hdd]);have HR:Hid (zFX q kind (ze ss) hd tl=none):=zF (by unfold zFX;rw [if_neg ha,if_neg hc,if_neg hr,if_neg hdd]);clear ha hc hr hdd
     go_enter Tryz.func71,Tryz.ntmps71
     go_wp2_with fail
     all_goals
      refine bodyPost_ret (v:=.tuple #[zCi S0,.bool false]) (by simp [results,Tryz.results71,go_sem]) rfl (StPost.none_ hA0 (zA HR) S0 zBE rfl)
def zCs (ss:List (Nat × Nat)):Bool:=match ss.getLast? with
 | none=>false
 | some c=>c.1 ||| c.2 == 0
theorem zHY (ss:List Stp):zCs (ze ss)=(decide (0 < ss.length) && ((zM ss ss.length).1 ||| (zM ss ss.length).2 == 0)):=by
 unfold zCs ze
 by_cases h:ss=[]
 ·subst h;rfl
 ·have hp:0 < ss.length:=List.length_pos_iff.2 h;obtain ⟨m,hm⟩:∃ m,ss.length=m + 1:=⟨ss.length - 1,by omega⟩;have e1:zM ss ss.length=(ss[m]'(by omega)).lits:=(by have h5:=zBU ss m (by omega);rwa [← hm] at h5);rw [List.getLast?_map,List.getLast?_eq_getElem?,show ss.length - 1=m from by omega,List.getElem?_eq_getElem (by omega:m < ss.length),e1];simp [hp]
theorem zMk (b:Nat) (q:QS) (kind:Nat) (ss:List Stp) (vV vC vS:Value) (w:World) (hP:PInv w b q kind ss vV vC vS) (hS:SBs ss) :
  Calls Tryz.prog 47 #[.pointer (some ⟨b,0,none⟩)] w fun e w'=>e=.returned (.bool (zCs (ze ss)))∧Below w.heap.size w w':=by
 obtain ⟨aS,cS,rfl⟩:=zN hP.oS;have hbw:=zB hP.fb;have hsl:=hS.len;have HC:=zF (zHY ss);have k3:w.cell? ⟨b,3,none⟩=some (.slice aS ss.length cS):=zE hP.fb rfl;have hlt:=zAX ss hS.bits ss.length
 go_enter Tryz.func47,Tryz.ntmps47
 go_wp2_with fail;refine (zBW (b + 1) b 2 ss _ ss.length _ k3 hP.oS (by omega)).mono ?_;rintro e w1 ⟨rfl,hb1⟩;generalize hea:zM ss ss.length=c at *;clear hea;obtain ⟨p,n⟩:=c;dsimp only at hlt;have hA:Below w.heap.size w (w1.alloc (.cells #[.int .i64 (p:Int),.int .i64 (n:Int)] 74)):=hb1.alloc hb1.size _;have hv:=heap_alloc_new w1 (.cells #[.int .i64 (p:Int),.int .i64 (n:Int)] 74)
 by_cases h0:0 < ss.length
 ·have hd1:decide (0 < ss.length)=true:=(by simpa using h0);have hd2:decide ((0:Int) < (ss.length:Int))=true:=decide_eq_true (by omega);have HF:Hid (zCs (ze ss)=(p ||| n == 0)):=zF (by rw [zA HC,hd1];rfl);clear h0;go_wp2_with fail;generalize w1.alloc (.cells #[.int .i64 (p:Int),.int .i64 (n:Int)] 74)=w5 at *;obtain ⟨v0,v1⟩:=zJ hv;have lv:=zB hv;refine (zEh p n _ hlt.1 hlt.2).mono ?_;rintro e w3 ⟨rfl,hb3⟩;go_wp2_with fail;go_ret;exact ⟨zAI (zA HF).symm,hA.trans (hb3.mono hA.size)⟩
 ·have hd1:decide (0 < ss.length)=false:=(by simpa using h0);have hd2:decide ((0:Int) < (ss.length:Int))=false:=decide_eq_false (by omega);have HF:Hid (zCs (ze ss)=false):=zF (by rw [zA HC,hd1];rfl);clear h0;go_wp2_with fail;go_ret;exact ⟨zAI (zA HF).symm,hA⟩
def zLN (b:Nat) (l:List UInt8) (w:World) (e:Ending) (w':World):Prop:=
 (l=zCS∧e=.returned (.bool true)∧w'=w.setCell ⟨b,2,none⟩ (.int .i64 1))∨(l=zA4∧e=.returned (.bool true)∧w'=w.setCell ⟨b,2,none⟩ (.int .i64 2))∨(l≠zA4∧l≠zCS∧e=.returned (.bool false)∧w'=w)
theorem zKB (b:Nat) (vV vC vS:Value) (kind:Nat) (l:List UInt8) (w:World) (hfb:w.heap[b]?=some (.cells #[vV,vC,.int .i64 kind,vS] 105 (0,0))) :
  Calls Tryz.prog 70 #[.pointer (some ⟨b,0,none⟩),.string ⟨l.toArray⟩] w fun e w'=>zLN b l w e w':=by
 have hbw:=zB hfb;obtain ⟨-,-,k2,-⟩:=zAi hfb;have z2:=zD hfb 2
 by_cases hf:l=zCS
 ·have HF:=zF hf;unfold zCS at hf;subst hf
  go_enter Tryz.func70,Tryz.ntmps70
  go_wp2_with fail;go_ret;exact Or.inl ⟨zA HF,rfl,rfl⟩
 ·by_cases ht:l=zA4
  ·have HT:=zF ht;clear hf;unfold zA4 at ht;subst ht
   go_enter Tryz.func70,Tryz.ntmps70
   go_wp2_with fail;go_ret;exact Or.inr (Or.inl ⟨zA HT,rfl,rfl⟩)
  ·have hfb1:(l == [112,114,111,111,102,32,102,97,108,115,101])=false:=(by rw [beq_eq_false_iff_ne];exact hf);have htb1:(l == [112,114,111,111,102,32,116,114,117,101])=false:=(by rw [beq_eq_false_iff_ne];exact ht);have HT:=zF ht;have HF:=zF hf;clear hf ht
   go_enter Tryz.func70,Tryz.ntmps70
   go_wp2_with fail;go_ret;exact Or.inr (Or.inr ⟨zA HT,zA HF,rfl,rfl⟩)
abbrev zAB:=(Nat × Nat) × (Nat × Nat)
def zB5 (kind:Nat) (p:List Stp) (s:Stp):zAB:=
 if kind=1 then (zDj s.lits,zDj (zAz (zM p s.first) s.lits)) else (s.lits,zAz (zM p s.first) s.lits)
def zAQ (kind:Nat) (p:List Stp):List zAB:=(p.filter (fun s=>s.rule == 4)).map (zB5 kind p)
def zDB (v:Nat) (vals:Nat × Nat) (r:zAB):Bool:=zCz (zAz r.1 vals) && zs r.2 v
def zAx (rs:List zAB) (vals:Nat × Nat) (v:Nat):Bool:=match rs.find? (zDB v vals) with
 | some r=>zj r.2 (v:Int)
 | none=>false
def zBQ (vs:List Nat):List Bool→Nat × Nat
 | []=>(0,0)
 | b :: bs=>zQ (zBQ vs bs) (zAF (vs.getD bs.length 0) b)
theorem zIr (vs:List Nat) (hn:∀ v∈vs,1≤v∧v≤8):∀ (bs:List Bool),bs.length≤vs.length→∀ s v,L (zBQ vs bs) s v=true↔∃ j,j < bs.length∧vs.getD j 0=v∧bs.reverse.getD j false=s:=by
 intro bs
 induction bs with
 | nil=>intro _ s v;rw [zBQ,zDh];simp
 | cons b bs ih=>
  intro hl s v;have hl':bs.length < vs.length:=(by simp at hl;omega);have hv:=hn (vs.getD bs.length 0) (by rw [List.getD,List.getElem?_eq_getElem hl'];exact List.getElem_mem hl');rw [zBQ,zBH _ _ _ hv.1 hv.2,Bool.or_eq_true,ih (by omega) s v]
  constructor
  ·rintro (⟨j,h1,h2,h3⟩ | h)
   ·refine ⟨j,by simp;omega,h2,?_⟩;rw [List.reverse_cons,List.getD,List.getElem?_append_left (by simpa using h1)];exact h3
   ·simp only [Bool.and_eq_true,beq_iff_eq,decide_eq_true_eq] at h;refine ⟨bs.length,by simp,h.2.symm,?_⟩;rw [List.reverse_cons,List.getD,List.getElem?_append_right (by simp)];simp [h.1]
  ·rintro ⟨j,h1,h2,h3⟩
   by_cases e:j < bs.length
   ·refine Or.inl ⟨j,e,h2,?_⟩;rw [List.reverse_cons,List.getD,List.getElem?_append_left (by simpa using e)] at h3;exact h3
   ·have e2:j=bs.length:=(by simp at h1;omega);subst e2;rw [List.reverse_cons,List.getD,List.getElem?_append_right (by simp)] at h3;simp at h3;refine Or.inr ?_;rw [h2,h3];simp
theorem zSK {q:QS} (hq:QGood q) (k:Nat):∀ (n:Nat),n≤q.vars.length→∀ c s i (hi:i < q.vars.length),L c s q.vars[i].1=true→L (zAR k (q.vars.take n).reverse c) s q.vars[i].1=false→
  i < n∧zAl k q.vars[i].2=false∧∀ t j (hj:j < q.vars.length),j < n→L (zAR k (q.vars.take n).reverse c) t q.vars[j].1=true→j < i:=by
 have hne:∀ i j (hi:i < q.vars.length) (hj:j < q.vars.length),q.vars[i].1=q.vars[j].1→i=j:=fun i j hi hj e=>zFh hq hi hj e
 intro n
 induction n with
 | zero=>
  intro _ c s i hi h1 h2;rw [show zAR k (q.vars.take 0).reverse c=c from rfl,h1] at h2
  cases h2
 | succ n ih=>
  intro hn c s i hi h1 h2;have hnl:n < q.vars.length:=(by omega);obtain ⟨m1,m8⟩:=zDt hq n hnl;rw [zBs k q.vars n hnl c] at h2 ⊢
  by_cases hv:zs c q.vars[n].1=true
  ·rw [if_pos hv] at h2 ⊢
   by_cases hp:zAl k q.vars[n].2=true
   ·rw [if_pos hp,h1] at h2;cases h2
   ·rw [if_neg hp] at h2 ⊢;have hout:∀ t,L (zAR k (q.vars.take n).reverse (zAV c q.vars[n].1)) t q.vars[n].1=true→False:=fun t h=>by
     have h':=zDC hq k n (by omega) _ _ _ h;rw [zBo _ _ m1 m8] at h';simp at h'
    by_cases e:i=n
    ·subst e;refine ⟨by omega,by simpa using hp,fun t j hj hjn hl=>?_⟩
     by_cases e2:j=i
     ·subst e2;exact (hout t hl).elim
     ·omega
    ·have hcw:L (zAV c q.vars[n].1) s q.vars[i].1=true:=by
      rw [zBo _ _ m1 m8,h1];simp only [Bool.true_and,Bool.not_eq_true',decide_eq_false_iff_not];exact fun e'=>e (hne i n hi hnl e')
     obtain ⟨a1,a2,a3⟩:=ih (by omega) _ s i hi hcw h2;refine ⟨by omega,a2,fun t j hj hjn hl=>?_⟩
     by_cases e2:j=n
     ·subst e2;exact (hout t hl).elim
     ·exact a3 t j hj (by omega) hl
  ·rw [if_neg hv] at h2 ⊢;obtain ⟨a1,a2,a3⟩:=ih (by omega) c s i hi h1 h2;refine ⟨by omega,a2,fun t j hj hjn hl=>?_⟩
   by_cases e2:j=n
   ·subst e2;have h':=zDC hq k j (by omega) _ _ _ hl;rw [zCl _ _ m1 m8] at hv
    exfalso;apply hv
    cases t<;>rw [h']<;>simp
   ·exact a3 t j hj (by omega) hl
def sgn (kind:Nat) (s:Bool):Bool:=if kind=1 then !s else s
def zO3 (kind:Nat) (V c:Nat × Nat):Prop:=∀ s v,L c s v=true→L V (sgn kind s) v=true
theorem zRO (kind:Nat) (p:List Stp) (s:Stp) (t:Bool) (v:Nat):L (zB5 kind p s).1 (sgn kind t) v=L s.lits t v:=by
 unfold zB5 sgn
 split
 ·rw [zMw];simp
 ·rfl
theorem zHW (kind:Nat) (p:List Stp) (s:Stp) (t:Bool) (v:Nat):L (zB5 kind p s).2 (sgn kind t) v=(L (zM p s.first) t v && !L s.lits t v):=by
 unfold zB5 sgn
 split
 ·rw [zMw];simp [zDm]
 ·exact zDm _ _ _ _
theorem zGe (kind:Nat) (s:Bool):sgn kind (sgn kind s)=s:=by unfold sgn;split<;>simp
theorem zKy (kind:Nat) (p:List Stp) (s:Stp) (v:Nat) (V:Nat × Nat) (h1:1≤v) (h8:v≤8):zDB v V (zB5 kind p s)=true↔zO3 kind V s.lits∧∃ t,L (zM p s.first) t v=true∧L s.lits t v=false:=by
 unfold zDB;rw [Bool.and_eq_true,zDp,zCl _ _ h1 h8,Bool.or_eq_true]
 constructor
 ·rintro ⟨h2,h3⟩;refine ⟨fun t u ht=>?_,?_⟩
  ·have h:=h2 (sgn kind t) u;rw [zDm,zRO,ht] at h
   simpa using h
  ·rcases h3 with h3 | h3
   ·have h:=zHW kind p s (sgn kind true) v;rw [zGe,h3] at h;refine ⟨sgn kind true,?_⟩
    simpa using h.symm
   ·have h:=zHW kind p s (sgn kind false) v;rw [zGe,h3] at h;refine ⟨sgn kind false,?_⟩
    simpa using h.symm
 ·rintro ⟨h2,t,h3,h4⟩;refine ⟨fun a u=>?_,?_⟩
  ·have h:=zRO kind p s (sgn kind a) u;rw [zGe] at h;rw [zDm]
   cases ha:L (zB5 kind p s).1 a u with
   | false=>rfl
   | true=>
    rw [ha] at h;have h5:=h2 _ _ h.symm;rw [zGe] at h5;rw [h5];rfl
  ·have h:=zHW kind p s t v;rw [h3,h4] at h;generalize sgn kind t=a at h
   cases a
   ·exact Or.inr h
   ·exact Or.inl h
theorem zM4 (kind:Nat) (p:List Stp) (v:Nat) (V:Nat × Nat) (P:List Stp):((P.filter (fun s=>s.rule == 4)).map (zB5 kind p)).find? (zDB v V)=(P.find? (fun s=>s.rule == 4 && zDB v V (zB5 kind p s))).map (zB5 kind p):=by
 induction P with
 | nil=>rfl
 | cons s P ih=>
  rw [List.filter_cons,List.find?_cons]
  cases h:(s.rule == 4) with
  | true=>
   rw [if_pos rfl,List.map_cons,List.find?_cons,Bool.true_and]
   cases zDB v V (zB5 kind p s) with
   | true=>rfl
   | false=>exact ih
  | false=>
   rw [if_neg (by simp),Bool.false_and];exact ih
structure zNm (q:QS) (kind:Nat) (ss:List Stp):Prop where
 tags:Tags q kind ss
 lok:∀ s∈ss,LOk q s.lits
 free:∀ s∈ss,Free s.lits
def zLQ (q:QS) (kind:Nat) (rs:List zAB):List Bool→Prop
 | []=>True
 | b :: bs=>zLQ q kind rs bs∧(zAl kind (q.vars.getD bs.length (0,false)).2=false→b=zAx rs (zBQ (q.vars.map (·.1)) bs) (q.vars.getD bs.length (0,false)).1)
theorem zQE {q:QS} {kind:Nat} {rs:List zAB}:∀ {bs:List Bool},zLQ q kind rs bs→∀ i,i < bs.length→zAl kind (q.vars.getD i (0,false)).2=false→bs.reverse.getD i false=zAx rs (zBQ (q.vars.map (·.1)) (bs.drop (bs.length - i))) (q.vars.getD i (0,false)).1:=by
 intro bs
 induction bs with
 | nil=>intro _ i hi;simp at hi
 | cons b bs ih=>
  intro h i hi hp
  by_cases e:i < bs.length
  ·have:=ih h.1 i e hp
   rw [List.reverse_cons,List.getD,List.getElem?_append_left (by simpa using e)];rw [show (b :: bs).length - i=(bs.length - i) + 1 from by simp;omega,List.drop_succ_cons];exact this
  ·have e2:i=bs.length:=(by simp at hi;omega);subst e2;rw [List.reverse_cons,List.getD,List.getElem?_append_right (by simp)]
   simpa using h.2 hp
theorem zFD (ss:List Stp) (i n:Nat) (h1:1≤n) (h2:n≤(ss.take i).length):∃ j,∃ hj:j < ss.length,j < i∧zM (ss.take i) n=ss[j].lits∧zM ss n=ss[j].lits:=by
 have hl:n - 1 < ss.length∧n - 1 < i:=(by simp at h2;omega);refine ⟨n - 1,hl.1,hl.2,?_,?_⟩
 ·have h:=zBU (ss.take i) (n - 1) (by omega);rw [show n - 1 + 1=n from by omega] at h;rw [h,List.getElem_take]
 ·have h:=zBU ss (n - 1) hl.1
  rwa [show n - 1 + 1=n from by omega] at h
def zOA (q:QS) (kind:Nat) (V:Nat × Nat):Prop:=(kind=1∧∃ c∈q.cl,Free c∧zO3 1 V c)∨(kind=2∧∃ c,zCD q.cl c=true∧zO3 2 V c)
theorem zIz {ss:List Stp} {w:List UInt8} {a:Nat × Nat} (h:zDA (ze ss) w=some a):∃ n,1≤n∧n≤ss.length∧a=zM ss n:=by
 rw [zEz] at h
 cases hn:zl w ss.length with
 | none=>rw [hn] at h;cases h
 | some n=>rw [hn] at h;simp at h;exact ⟨n,(zCN hn).1,(zCN hn).2,h.symm⟩
theorem zNu {q:QS} {kind:Nat} {z:List UInt8} {v:Nat} (h:zGE q kind z=some v):1≤v∧v≤8:=by
 unfold zGE at h;have hd:=zB3 z
 split at h
 ·cases hf:zBY q.vars (dig z).toNat with
  | none=>rw [hf] at h;cases h
  | some x=>
   rw [hf] at h;simp only [Option.bind_some] at h
   split at h
   ·injection h with h;subst h;omega
   ·cases h
 ·cases h
theorem zRB {q:QS} (hq:QGood q) {kind:Nat} (hk:kind=1∨kind=2) {ss:List Stp} (hs:zNm q kind ss) {bs:List Bool} (hl:bs.length=q.vars.length) (hkeep:zLQ q kind (zAQ kind ss) bs) :
  ∀ i (hi:i < ss.length),zO3 kind (zBQ (q.vars.map (·.1)) bs) ss[i].lits→zOA q kind (zBQ (q.vars.map (·.1)) bs):=by
 have hnm:∀ v∈q.vars.map (·.1),1≤v∧v≤8:=fun v hv=>hq.name hv
 have hVL:=zIr (q.vars.map (·.1)) hnm bs (by simp [hl]);have hgd:∀ j (hj:j < q.vars.length),(q.vars.map (·.1)).getD j 0=q.vars[j].1:=fun j hj=>by simp [List.getD,hj]
 have hgd2:∀ j (hj:j < q.vars.length),q.vars.getD j (0,false)=q.vars[j]:=fun j hj=>by simp [List.getD,hj]
 intro i
 induction i using Nat.strongRecOn with
 | ind i ih=>
  intro hi hh
  by_cases hnw:zOA q kind (zBQ (q.vars.map (·.1)) bs)
  ·exact hnw
  have hmem:ss[i]∈ss:=List.getElem_mem hi
  rcases hs.tags i hi with ⟨h4,⟨f1,f2⟩,hred⟩ | ⟨hnr,tl,hax | hcu | hre⟩
  ·obtain ⟨j,hj,hji,hw1,hw2⟩:=zFD ss i _ f1 f2;refine ih j hji hj (fun s v hv=>?_)
   by_cases hin:L ss[i].lits s v=true
   ·exact hh s v hin
   ·have hin':L ss[i].lits s v=false:=(by simpa using hin);obtain ⟨x,hx,hxv⟩:=List.mem_map.1 ((hs.lok _ (List.getElem_mem hj)).vars s v hv);obtain ⟨k,hkl,hkx⟩:=List.mem_iff_getElem.1 hx;have hvk:q.vars[k].1=v:=(by rw [hkx];exact hxv);obtain ⟨v1,v8⟩:=zDt hq k hkl;rw [hvk] at v1 v8;rw [hw1] at hred;have hpos:=zSK hq kind q.vars.length (Nat.le_refl _) ss[j].lits s k hkl (by rw [hvk];exact hv) (by rw [List.take_length,← hred,hvk];exact hin');rw [List.take_length,← hred] at hpos;obtain ⟨_,hpv,hbef⟩:=hpos;have hans:=zQE hkeep k (by omega) (by rw [hgd2 k hkl];exact hpv);rw [hgd2 k hkl,hvk] at hans;have hVk:=zIr (q.vars.map (·.1)) hnm (bs.drop (bs.length - k)) (by simp;omega);have hsub:∀ t u,L (zBQ (q.vars.map (·.1)) (bs.drop (bs.length - k))) t u=true→L (zBQ (q.vars.map (·.1)) bs) t u=true:=fun t u ht=>by
     obtain ⟨m,m1,m2,m3⟩:=(hVk t u).1 ht;refine (hVL t u).2 ⟨m,?_,m2,?_⟩
     ·simp at m1;omega
     ·rw [← m3,List.reverse_drop,List.getD,List.getD,List.getElem?_take_of_lt (by simp at m1;omega)]
    have hfit:zO3 kind (zBQ (q.vars.map (·.1)) (bs.drop (bs.length - k))) ss[i].lits:=fun t u ht=>by
     obtain ⟨m,m1,m2,m3⟩:=(hVL _ _).1 (hh t u ht);have hml:m < q.vars.length:=(by omega);rw [hgd m hml] at m2;have hmk:=hbef t m hml hml (by rw [m2];exact ht);refine (hVk _ _).2 ⟨m,by simp;omega,by rw [hgd m hml];exact m2,?_⟩;rw [← m3,List.reverse_drop,List.getD,List.getD,List.getElem?_take_of_lt (by omega)]
    by_cases hearly:∃ e,∃ he:e < ss.length,e < i∧(ss[e].rule == 4 && zDB v (zBQ (q.vars.map (·.1)) (bs.drop (bs.length - k))) (zB5 kind ss ss[e]))=true
    ·obtain ⟨e,he,hei,hf⟩:=hearly;rw [Bool.and_eq_true] at hf;have hhe:=((zKy kind ss ss[e] v _ v1 v8).1 hf.2).1;exact (hnw (ih e hei he (fun s v h=>hsub _ _ (hhe s v h)))).elim
    ·have hfi:(ss[i].rule == 4 && zDB v (zBQ (q.vars.map (·.1)) (bs.drop (bs.length - k))) (zB5 kind ss ss[i]))=true:=by
      rw [Bool.and_eq_true];exact ⟨by simpa using h4,(zKy kind ss ss[i] v _ v1 v8).2 ⟨hfit,s,by rw [hw2];exact hv,hin'⟩⟩
     have hfind:ss.find? (fun s=>s.rule == 4 && zDB v (zBQ (q.vars.map (·.1)) (bs.drop (bs.length - k))) (zB5 kind ss s))=some ss[i]:=by
      rw [List.find?_eq_some_iff_getElem];refine ⟨hfi,i,hi,rfl,fun e he=>?_⟩
      cases hcc:(ss[e].rule == 4 && zDB v (zBQ (q.vars.map (·.1)) (bs.drop (bs.length - k))) (zB5 kind ss ss[e])) with
      | true=>exact (hearly ⟨e,by omega,he,hcc⟩).elim
      | false=>rfl
     have hwant:zAx (zAQ kind ss) (zBQ (q.vars.map (·.1)) (bs.drop (bs.length - k))) v=zj (zB5 kind ss ss[i]).2 (v:Int):=by
      unfold zAx zAQ;rw [zM4,hfind];rfl
     rw [hwant,show ((v:Nat):Int)=zAF v true from rfl,zBm _ _ _ v1 v8] at hans;have hth:=zHW kind ss ss[i] s v;rw [hw2,hv,hin'] at hth;have hfr:∀ t,L (zB5 kind ss ss[i]).2 t v=true→L (zB5 kind ss ss[i]).2 (!t) v=false:=fun t ht=>by
      have e1:=zHW kind ss ss[i] (sgn kind t) v;have e2:=zHW kind ss ss[i] (!sgn kind t) v;have e3:sgn kind (!sgn kind t)=!t:=(by unfold sgn;split<;>simp);rw [zGe,ht,hw2] at e1;rw [e3,hw2] at e2;rw [e2,(hs.free _ (List.getElem_mem hj)).not (s:=sgn kind t) (by
       have:=e1.symm;rw [Bool.and_eq_true] at this;exact this.1)]
      rfl
     refine (hVL _ _).2 ⟨k,by omega,by rw [hgd k hkl];exact hvk,?_⟩;rw [hans]
     cases hsg:sgn kind s with
     | true=>rw [hsg] at hth;exact hth
     | false=>rw [hsg] at hth;exact hfr false hth
  ·unfold zCb at hax
   split at hax
   ·next hk1=>
    split at hax
    ·next x=>
     cases hn:zl x q.cl.length with
     | none=>rw [hn] at hax;cases hax
     | some n=>
      rw [hn] at hax;simp only [Option.bind_some] at hax
      cases hc:q.cl[n - 1]? with
      | none=>rw [hc] at hax;cases hax
      | some c=>
       rw [hc] at hax;simp only [Option.bind_some] at hax
       split at hax
       ·cases hax
       ·injection hax with hax;subst hk1;exact (hnw (Or.inl ⟨rfl,c,List.mem_of_getElem? hc,by rw [hax];exact hs.free _ hmem,by rw [hax];exact hh⟩)).elim
    ·cases hax
   ·cases hax
  ·unfold zAt at hcu
   split at hcu
   ·next hk2=>
    cases hc:zFJ q.vars (0,0) 0 tl with
    | none=>rw [hc] at hcu;cases hcu
    | some c=>
     rw [hc] at hcu;simp only [Option.bind_some] at hcu
     split at hcu
     ·next hsat=>
      injection hcu with hcu;subst hk2;exact (hnw (Or.inr ⟨rfl,c,hsat,by rw [hcu];exact hh⟩)).elim
     ·cases hcu
   ·cases hcu
  ·unfold zE9 at hre
   split at hre
   ·next x y z=>
    cases ha:zDA (ze (ss.take i)) x with
    | none=>rw [ha] at hre;cases hre
    | some a=>
     cases hb:zDA (ze (ss.take i)) y with
     | none=>rw [ha,hb] at hre;cases hre
     | some b=>
      cases hp:zGE q kind z with
      | none=>rw [ha,hb,hp] at hre;cases hre
      | some v=>
       rw [ha,hb,hp] at hre;simp only [Option.bind_some] at hre;unfold zEX at hre
       split at hre
       ·next hab=>
        split at hre
        ·cases hre
        ·injection hre with hre;obtain ⟨n,n1,n2,rfl⟩:=zIz ha;obtain ⟨m,m1,m2,rfl⟩:=zIz hb;obtain ⟨ja,hja,hjai,ea,_⟩:=zFD ss i n n1 n2;obtain ⟨jb,hjb,hjbi,eb,_⟩:=zFD ss i m m1 m2;rw [ea,eb] at hre hab;obtain ⟨v1,v8⟩:=zNu hp;rw [show ((v:Nat):Int)=zAF v true from rfl,zBm _ _ _ v1 v8,zI5,zBm _ _ _ v1 v8] at hab;obtain ⟨h1,h2⟩:=hab;have hrest:∀ t u,u≠v→(L ss[ja].lits t u=true∨L ss[jb].lits t u=true)→L (zBQ (q.vars.map (·.1)) bs) (sgn kind t) u=true:=fun t u hu ho=>hh t u (by
          rw [← hre,zCI _ _ _ v1 v8]
          rcases ho with ho | ho<;>simp [ho,hu])
         obtain ⟨x',hx',hxv⟩:=List.mem_map.1 ((hs.lok _ (List.getElem_mem hja)).vars true v h1);obtain ⟨k,hkl,hkx⟩:=List.mem_iff_getElem.1 hx';have hvk:q.vars[k].1=v:=(by rw [hkx];exact hxv);have hval:=(hVL (bs.reverse.getD k false) v).2 ⟨k,by omega,by rw [hgd k hkl];exact hvk,rfl⟩
         by_cases hsg:bs.reverse.getD k false=sgn kind true
         ·refine (hnw (ih ja hjai hja (fun t u ht=>?_))).elim
          by_cases hu:u=v
          ·subst hu
           cases t with
           | true=>rw [← hsg];exact hval
           | false=>exact (hs.free _ (List.getElem_mem hja) u h1 ht).elim
          ·exact hrest t u hu (Or.inl ht)
         ·refine (hnw (ih jb hjbi hjb (fun t u ht=>?_))).elim
          by_cases hu:u=v
          ·subst hu
           cases t with
           | false=>
            have:sgn kind false=bs.reverse.getD k false:=by
             have e3:sgn kind false=!sgn kind true:=(by unfold sgn;split<;>rfl);rw [e3]
             revert hsg
             cases bs.reverse.getD k false<;>cases sgn kind true<;>simp
            rw [this];exact hval
           | true=>exact (hs.free _ (List.getElem_mem hjb) u ht h2).elim
          ·exact hrest t u hu (Or.inr ht)
       ·cases hre
   ·cases hre
end Go.Proofs.YtgipjjhkhfihpaaGreatDoor
namespace Go.Proofs.YtgipjjhkhfihpaaGreatDoor
def zEQ (vs:List (Nat × Bool)) (i:Nat):Bool:=(vs.getD i (0,false)).2
def zDN (vs:List (Nat × Bool)) (i:Nat):Bool:=decide (0 < i) && (zEQ vs i != zEQ vs (i - 1))
def zAE (vs:List (Nat × Bool)) (k:Nat):List Nat:=(List.range k).filter (zDN vs)
theorem zHn (vs:List (Nat × Bool)) (k:Nat):zAE vs (k + 1)=zAE vs k ++ (if zDN vs k then [k] else []):=by
 unfold zAE;rw [List.range_succ,List.filter_append]
 congr 1
 simp [List.filter_cons]
theorem zG0 (vs:List (Nat × Bool)) (k:Nat):∀ x∈zAE vs k,0 < x∧x < k:=by
 intro x hx;unfold zAE at hx;rw [List.mem_filter] at hx;obtain ⟨h1,h2⟩:=hx;simp [zDN] at h1 h2;exact ⟨h2.1,h1⟩
def zq (vs:List (Nat × Bool)):Nat→List (List Nat) × List Nat
 | 0=>([],[])
 | k + 1=>if zDN vs k then ((zq vs k).1 ++ [(zq vs k).2],[(vs.getD k (0,false)).1]) else ((zq vs k).1,(zq vs k).2 ++ [(vs.getD k (0,false)).1])
def zG (vs:List (Nat × Bool)):List (List Nat):=if 0 < (zq vs vs.length).2.length then (zq vs vs.length).1 ++ [(zq vs vs.length).2] else (zq vs vs.length).1
theorem zDo {α:Type} (a b:List α) (j:Nat) (d:α) (h:j < a.length):(a ++ b).getD j d=a.getD j d:=by
 simp [List.getD,List.getElem?_append_left h]
def zHZ (l:List Nat) (a b:Nat):List Nat:=(l.drop a).take (b - a)
def zAq (es:List Nat) (j:Nat):Nat:=if 0 < j then es.getD (j - 1) 0 else 0
theorem zNU (l:List Nat) (a b:Nat) (hab:a≤b) (hb:b < l.length):zHZ l a (b + 1)=zHZ l a b ++ [l[b]]:=by
 unfold zHZ;rw [show b + 1 - a=(b - a) + 1 from by omega,List.take_succ_eq_append_getElem (by simp;omega)]
 congr 1
 simp
 congr 1
 omega
theorem zPI (vs:List (Nat × Bool)):∀ k,k≤vs.length→
  (zq vs k).1=(List.range (zAE vs k).length).map (fun j=>zHZ (vs.map (·.1)) (zAq (zAE vs k) j) ((zAE vs k).getD j 0))∧
  (zq vs k).2=zHZ (vs.map (·.1)) (zAq (zAE vs k) (zAE vs k).length) k:=by
 intro k
 induction k with
 | zero=>intro _;simp [zq,zAE,zHZ,zAq]
 | succ k ih=>
  intro hk;obtain ⟨h1,h2⟩:=ih (by omega);have hlt:=zG0 vs k;have hst:zAq (zAE vs k) (zAE vs k).length≤k:=by
   unfold zAq
   split
   ·next hp=>
    have hm:(zAE vs k).getD ((zAE vs k).length - 1) 0∈zAE vs k:=by
     rw [List.getD,List.getElem?_eq_getElem (by omega)];exact List.getElem_mem _
    have:=(hlt _ hm).2;omega
   ·omega
  have hv:(vs.getD k (0,false)).1=(vs.map (·.1))[k]'(by simp;omega):=by
   simp [List.getD,show k < vs.length by omega]
  rw [zq,zHn]
  cases hn:zDN vs k with
  | false=>
   rw [if_neg (by decide),if_neg (by decide)];simp only [List.append_nil];refine ⟨h1,?_⟩;rw [h2,hv,← zNU _ _ _ hst]
  | true=>
   rw [if_pos rfl,if_pos rfl]
   constructor
   ·show (zq vs k).1 ++ [(zq vs k).2]=_;rw [List.length_append,List.length_singleton,List.range_succ,List.map_append,h1,h2]
    congr 1
    ·apply List.map_congr_left
     intro j hj;have hj':j < (zAE vs k).length:=(by simpa using hj);have e1:zAq (zAE vs k ++ [k]) j=zAq (zAE vs k) j:=by
      unfold zAq
      split
      ·rw [zDo _ _ _ _ (by omega)]
      ·rfl
     rw [e1,zDo _ _ _ _ hj']
    ·simp only [List.map_cons,List.map_nil];have e1:zAq (zAE vs k ++ [k]) (zAE vs k).length=zAq (zAE vs k) (zAE vs k).length:=by
      unfold zAq
      split
      ·rw [zDo _ _ _ _ (by omega)]
      ·rfl
     rw [e1];simp [List.getD]
   ·show [(vs.getD k (0,false)).1]=_;have e1:zAq (zAE vs k ++ [k]) (zAE vs k ++ [k]).length=k:=by
     unfold zAq;rw [if_pos (by simp)];simp [List.getD]
    rw [e1];unfold zHZ;rw [show k + 1 - k=1 from by omega,List.drop_eq_getElem_cons (by simp;omega),hv];rfl
def zBR (vs:List (Nat × Bool)):List Nat:=if 0 < vs.length then zAE vs vs.length ++ [vs.length] else []
theorem zI3 (vs:List (Nat × Bool)) (k:Nat):0 < (zq vs (k + 1)).2.length:=by
 rw [zq];split<;>simp
theorem zFu (vs:List (Nat × Bool)):zG vs=(List.range (zBR vs).length).map (fun j=>zHZ (vs.map (·.1)) (zAq (zBR vs) j) ((zBR vs).getD j 0)):=by
 obtain ⟨h1,h2⟩:=zPI vs vs.length (Nat.le_refl _);unfold zG zBR
 rcases Nat.eq_zero_or_pos vs.length with h0 | h0
 ·rw [h0];simp [zq]
 ·have hp:0 < (zq vs vs.length).2.length:=by
   obtain ⟨k,hk⟩:∃ k,vs.length=k + 1:=⟨vs.length - 1,by omega⟩;rw [hk];exact zI3 vs k
  rw [if_pos hp,if_pos h0];rw [List.length_append,List.length_singleton,List.range_succ,List.map_append,h1,h2]
  congr 1
  ·apply List.map_congr_left
   intro j hj;have hj':j < (zAE vs vs.length).length:=(by simpa using hj);have e1:zAq (zAE vs vs.length ++ [vs.length]) j=zAq (zAE vs vs.length) j:=by
    unfold zAq
    split
    ·rw [zDo _ _ _ _ (by omega)]
    ·rfl
   rw [e1,zDo _ _ _ _ hj']
  ·simp only [List.map_cons,List.map_nil];have e1:zAq (zAE vs vs.length ++ [vs.length]) (zAE vs vs.length).length=zAq (zAE vs vs.length) (zAE vs vs.length).length:=by
    unfold zAq
    split
    ·rw [zDo _ _ _ _ (by omega)]
    ·rfl
   rw [e1];simp [List.getD]
theorem zRy (vs:List (Nat × Bool)) (all:Nat) (hk:∀ x∈vs,all.testBit x.1=x.2):zDS (vs.map (·.1)) all vs.length=zBR vs:=by
 have hka:∀ i,i < vs.length→all.testBit ((vs.map (·.1)).getD i 0)=zEQ vs i:=by
  intro i hi;unfold zEQ
  have:=hk vs[i] (List.getElem_mem hi)
  simpa [List.getD,hi] using this
 have h:∀ k,k≤vs.length→zDS (vs.map (·.1)) all k=(zAE vs (min (k + 1) vs.length)) ++ (if k=vs.length∧0 < vs.length then [vs.length] else []):=by
  intro k
  induction k with
  | zero=>
   intro _
   rcases Nat.eq_zero_or_pos vs.length with h0 | h0
   ·rw [h0];simp [zDS,zAE]
   ·rw [show min (0 + 1) vs.length=1 from by omega,if_neg (by omega)];simp [zDS,zAE,zDN]
  | succ k ih=>
   intro hle;rw [zHg,ih (by omega)];have hne:¬ (k=vs.length∧0 < vs.length):=(by omega);rw [if_neg hne,List.append_nil,show min (k + 1) vs.length=k + 1 from by omega]
   by_cases hlast:k + 1=vs.length
   ·have e:zFo (vs.map (·.1)) all (k + 1)=true:=by
     unfold zFo;simp [hlast]
    rw [e,if_pos rfl,if_pos ⟨hlast,by omega⟩,show min (k + 1 + 1) vs.length=k + 1 from by omega,hlast]
   ·have hlt:k + 1 < vs.length:=(by omega);have e:zFo (vs.map (·.1)) all (k + 1)=zDN vs (k + 1):=by
     unfold zFo zDN;rw [hka (k + 1) hlt,hka (k + 1 - 1) (by omega)];simp [hlast]
    have hne2:¬ (k + 1=vs.length∧0 < vs.length):=(by omega);rw [e,if_neg hne2,List.append_nil,show min (k + 1 + 1) vs.length=k + 1 + 1 from by omega,zHn vs (k + 1)]
 rw [h vs.length (Nat.le_refl _)];unfold zBR;rw [show min (vs.length + 1) vs.length=vs.length from by omega]
 by_cases h0:0 < vs.length
 ·rw [if_pos ⟨rfl,h0⟩,if_pos h0]
 ·rw [if_neg (by omega),if_neg h0,show vs.length=0 from by omega];rfl
end Go.Proofs.YtgipjjhkhfihpaaGreatDoor
namespace Go.Proofs.YtgipjjhkhfihpaaGreatDoor
open Go.RowKit
structure GS where
 turn:Nat
 vals:Nat × Nat
abbrev BL:=List (List Nat × Bool)
def zIq (vals:Nat × Nat) (v:Nat) (b:Bool):Nat × Nat:=zQ vals (zAF v b)
def zDF (rs:List zAB) (vs:List Nat) (vals:Nat × Nat):Nat × Nat:=vs.foldl (fun vals v=>zIq vals v (zAx rs vals v)) vals
def zE7 (rs:List zAB) (bl:BL):Nat→GS→GS
 | 0,g=>g
 | m + 1,g=>if (bl.getD g.turn ([],false)).2=true then zE7 rs bl m ⟨g.turn + 1,zDF rs (bl.getD g.turn ([],false)).1 g.vals⟩ else g
def zEM (rs:List zAB) (bl:BL) (g:GS):GS:=zE7 rs bl (bl.length - g.turn) g
def zCr:List Nat→Nat→Nat→Nat × Nat→Nat × Nat
 | [],_,_,vals=>vals
 | v :: vs,bits,i,vals=>zCr vs bits (i + 1) (zIq vals v (bits.testBit i))
def zAh (rs:List zAB) (bl:BL) (g:GS) (bits:Nat):GS:=zEM rs bl ⟨g.turn + 1,zCr (bl.getD g.turn ([],false)).1 bits 0 g.vals⟩
def zPE (q:QS) (v:Nat):Bool:=match zBY q.vars v with
 | some x=>x.2
 | none=>false
def zBq (q:QS) (kind:Nat) (vs:List Nat):Bool:=match vs with
 | []=>false
 | v :: _=>zPE q v == (kind == 1)
def blW (q:QS) (kind:Nat):BL:=(zG q.vars).map (fun b=>(b,zBq q kind b))
def zBO (q:QS) (kind:Nat) (ss:List Stp):GS:=zEM (zAQ kind ss) (blW q kind) ⟨0,(0,0)⟩
def zCh (bs:List (List Nat)) (t:Nat):Nat:=(bs.take t).flatten.length
theorem zHP (bs:List (List Nat)) (t:Nat) (h:t < bs.length):zCh bs (t + 1)=zCh bs t + bs[t].length:=by
 unfold zCh;rw [List.take_succ_eq_append_getElem h,List.flatten_append];simp
theorem zSH (bs:List (List Nat)) (t i:Nat) (h:t < bs.length) (hi:i < bs[t].length):bs.flatten.getD (zCh bs t + i) 0=bs[t][i]:=by
 unfold zCh;have e:bs.flatten=(bs.take t).flatten ++ (bs[t] ++ (bs.drop (t + 1)).flatten):=by
  conv=>lhs;rw [← List.take_append_drop t bs,List.drop_eq_getElem_cons h]
  rw [List.flatten_append,List.flatten_cons]
 rw [e,List.getD,List.getElem?_append_right (by omega),show (bs.take t).flatten.length + i - (bs.take t).flatten.length=i from by omega,List.getElem?_append_left hi,List.getElem?_eq_getElem hi];rfl
theorem zIG (bs:List (List Nat)):zCh bs bs.length=bs.flatten.length:=by unfold zCh;rw [List.take_length]
theorem zN9 (bs:List (List Nat)) (t:Nat):zCh bs t≤bs.flatten.length:=by
 unfold zCh
 conv=>rhs;rw [← List.take_append_drop t bs,List.flatten_append]
 simp
theorem zL9 (vs:List (Nat × Bool)):∀ k,k≤vs.length→(zq vs k).1.flatten ++ (zq vs k).2=(vs.map (·.1)).take k:=by
 intro k
 induction k with
 | zero=>intro _;simp [zq]
 | succ k ih=>
  intro hk;have h:=ih (by omega);have hv:(vs.map (·.1)).take (k + 1)=(vs.map (·.1)).take k ++ [(vs.getD k (0,false)).1]:=by
   rw [List.take_succ_eq_append_getElem (by simp;omega)];simp [List.getD,show k < vs.length by omega]
  rw [zq,hv,← h]
  split
  ·simp [List.flatten_append]
  ·simp [List.append_assoc]
theorem zAA (vs:List (Nat × Bool)):(zG vs).flatten=vs.map (·.1):=by
 have h:=zL9 vs vs.length (Nat.le_refl _);rw [show (vs.map (·.1)).take vs.length=vs.map (·.1) from List.take_of_length_le (by simp)] at h;unfold zG
 split
 ·rw [List.flatten_append,← h];simp
 ·next h0=>
  have:(zq vs vs.length).2=[]:=List.eq_nil_of_length_eq_zero (by omega)
  rw [← h,this,List.append_nil]
def zJw (vs:List (Nat × Bool)) (b:List Nat) (u:Bool):Prop:=∀ v∈b,∃ x∈vs,x.1=v∧x.2=u
theorem zK4 (vs:List (Nat × Bool)):∀ k,k≤vs.length→(∀ b∈(zq vs k).1,b≠[]∧∃ u,zJw vs b u)∧(0 < k→(zq vs k).2≠[]∧zJw vs (zq vs k).2 (zEQ vs (k - 1))):=by
 intro k
 induction k with
 | zero=>intro _;exact ⟨fun b hb=>by simp [zq] at hb,fun h=>by omega⟩
 | succ k ih=>
  intro hk;obtain ⟨h1,h2⟩:=ih (by omega);have hx:vs.getD k (0,false)∈vs:=(by rw [List.getD,List.getElem?_eq_getElem (by omega:k < vs.length)];exact List.getElem_mem _);rw [zq]
  split
  ·next hn=>
   have hk0:0 < k:=(by unfold zDN at hn;simp at hn;exact hn.1);refine ⟨fun b hb=>?_,fun _=>⟨by simp,fun v hv=>?_⟩⟩
   ·rcases List.mem_append.1 hb with hb | hb
    ·exact h1 b hb
    ·simp at hb;subst hb;exact ⟨(h2 hk0).1,_,(h2 hk0).2⟩
   ·simp at hv;subst hv;exact ⟨_,hx,rfl,by simp [zEQ]⟩
  ·next hn=>
   refine ⟨h1,fun _=>⟨by simp,fun v hv=>?_⟩⟩
   rcases List.mem_append.1 hv with hv | hv
   ·by_cases hk0:0 < k
    ·have he:zEQ vs k=zEQ vs (k - 1):=by
      unfold zDN at hn;simp only [Bool.and_eq_true,decide_eq_true_eq,bne_iff_ne,ne_eq,not_and,Decidable.not_not] at hn;exact hn hk0
     obtain ⟨x,x1,x2,x3⟩:=(h2 hk0).2 v hv;exact ⟨x,x1,x2,by rw [Nat.add_sub_cancel,he];exact x3⟩
    ·have:k=0:=by omega
     subst this;simp [zq] at hv
   ·simp at hv;subst hv;exact ⟨_,hx,rfl,by simp [zEQ]⟩
theorem zB6 (vs:List (Nat × Bool)):∀ b∈zG vs,b≠[]∧∃ u,zJw vs b u:=by
 obtain ⟨h1,h2⟩:=zK4 vs vs.length (Nat.le_refl _);intro b hb;unfold zG at hb
 split at hb
 ·next h0=>
  rcases List.mem_append.1 hb with hb | hb
  ·exact h1 b hb
  ·simp at hb;subst hb;have hl:0 < vs.length:=by
    by_cases e:0 < vs.length
    ·exact e
    ·have:vs.length=0:=by omega
     rw [this] at h0;simp [zq] at h0
   exact ⟨(h2 hl).1,_,(h2 hl).2⟩
 ·exact h1 b hb
theorem zIB {q:QS} (hq:QGood q) {x:Nat × Bool} (hx:x∈q.vars):zPE q x.1=x.2:=by
 unfold zPE;have h:=hq.nodup
 revert h hx
 unfold zBY
 induction q.vars with
 | nil=>intro hx;simp at hx
 | cons y ys ih=>
  intro hx hn;rw [List.map_cons,List.nodup_cons] at hn;rw [List.find?_cons]
  by_cases e:y.1=x.1
  ·have:y=x:=by
    rcases List.mem_cons.1 hx with e2 | hx
    ·exact e2.symm
    ·exact absurd (by rw [e];exact List.mem_map_of_mem hx) hn.1
   subst this
   simp
  ·have hx':x∈ys:=by
    rcases List.mem_cons.1 hx with e2 | hx
    ·exact absurd (by rw [e2]) e
    ·exact hx
   have e3:(y.1 == x.1)=false:=(by simpa using e);rw [e3];exact ih hx' hn.2
theorem zK9 {q:QS} (hq:QGood q) {kind:Nat} (hk:kind=1∨kind=2) {b:List Nat} (hb:b∈zG q.vars) {x:Nat × Bool} (hx:x∈q.vars) (hxb:x.1∈b):zAl kind x.2=!zBq q kind b:=by
 obtain ⟨h0,u,hu⟩:=zB6 q.vars b hb;have hsame:∀ y∈q.vars,y.1∈b→y.2=u:=fun y hy hyb=>by
  obtain ⟨z,z1,z2,z3⟩:=hu _ hyb;rw [← z3,← zIB hq hy,← zIB hq z1,z2]
 match b,h0 with
 | v :: r,_=>
  obtain ⟨z,z1,z2,z3⟩:=hu v (by simp);show zAl kind x.2=!(zPE q v == (kind == 1));rw [← z2,zIB hq z1,z3,hsame x hx hxb];unfold zAl
  rcases hk with rfl | rfl<;>cases u<;>rfl
structure Run (q:QS) (kind:Nat) (rs:List zAB) (g:GS) (bs:List Bool):Prop where
 turn:g.turn≤(zG q.vars).length
 len:bs.length=zCh (zG q.vars) g.turn
 vals:g.vals=zBQ (q.vars.map (·.1)) bs
 keeps:zLQ q kind rs bs
theorem zGZ {q:QS} (t i:Nat) (h:t < (zG q.vars).length) (hi:i < (zG q.vars)[t].length):(q.vars.map (·.1)).getD (zCh (zG q.vars) t + i) 0=(zG q.vars)[t][i]:=by
 rw [← zAA];exact zSH _ t i h hi
theorem zFi {q:QS} (t i:Nat) (h:t < (zG q.vars).length) (hi:i < (zG q.vars)[t].length):zCh (zG q.vars) t + i < q.vars.length:=by
 have h1:=zHP (zG q.vars) t h;have h2:=zN9 (zG q.vars) (t + 1);rw [zAA,List.length_map] at h2;omega
theorem zSz {q:QS} (k:Nat) (hk:k < q.vars.length):q.vars.getD k (0,false)=q.vars[k]:=by simp [List.getD,hk]
theorem zFd {q:QS} (k:Nat) (hk:k < q.vars.length):(q.vars.map (·.1)).getD k 0=q.vars[k].1:=by simp [List.getD,hk]
structure Part (q:QS) (kind:Nat) (rs:List zAB) (t i:Nat) (vals:Nat × Nat) (bs:List Bool):Prop where
 len:bs.length=zCh (zG q.vars) t + i
 vals:vals=zBQ (q.vars.map (·.1)) bs
 keeps:zLQ q kind rs bs
theorem Part.next {q:QS} (hq:QGood q) {kind:Nat} (hk:kind=1∨kind=2) {rs:List zAB} {t i:Nat} {vals:Nat × Nat} {bs:List Bool} (h:Part q kind rs t i vals bs) (ht:t < (zG q.vars).length) (hi:i < (zG q.vars)[t].length)
  (b:Bool) (hb:zBq q kind (zG q.vars)[t]=true→b=zAx rs vals (zG q.vars)[t][i]):Part q kind rs t (i + 1) (zIq vals (zG q.vars)[t][i] b) (b :: bs):=by
 have hlt:=zFi t i ht hi;have hn:=zGZ t i ht hi;refine ⟨by simp [h.len];omega,?_,h.keeps,?_⟩
 ·show zQ vals (zAF (zG q.vars)[t][i] b)=zQ _ (zAF ((q.vars.map (·.1)).getD bs.length 0) b);rw [h.len,hn,h.vals]
 ·intro hp;rw [h.len,zSz _ hlt] at hp ⊢;have hx:(q.vars[zCh (zG q.vars) t + i]'hlt).1=(zG q.vars)[t][i]:=(by rw [← zFd _ hlt];exact hn);rw [hx,← h.vals];refine hb ?_;have hw:=zK9 hq hk (List.getElem_mem ht) (List.getElem_mem hlt) (by rw [hx];exact List.getElem_mem hi);rw [hp] at hw
  simpa using hw.symm
theorem Part.done {q:QS} {kind:Nat} {rs:List zAB} {t:Nat} {vals:Nat × Nat} {bs:List Bool} (ht:t < (zG q.vars).length) (h:Part q kind rs t (zG q.vars)[t].length vals bs):Run q kind rs ⟨t + 1,vals⟩ bs:=
 ⟨ht,by rw [zHP _ _ ht];exact h.len,h.vals,h.keeps⟩
theorem Run.part {q:QS} {kind:Nat} {rs:List zAB} {g:GS} {bs:List Bool} (h:Run q kind rs g bs):Part q kind rs g.turn 0 g.vals bs:=⟨h.len,h.vals,h.keeps⟩
theorem zQD {q:QS} (hq:QGood q) {kind:Nat} (hk:kind=1∨kind=2) {rs:List zAB} {t:Nat} (ht:t < (zG q.vars).length):∀ (m i:Nat) (vals:Nat × Nat) (bs:List Bool),i + m=(zG q.vars)[t].length→Part q kind rs t i vals bs→
  ∃ b2,Part q kind rs t (zG q.vars)[t].length (zDF rs ((zG q.vars)[t].drop i) vals) (b2 ++ bs):=by
 intro m
 induction m with
 | zero=>
  intro i vals bs h hp
  have:i=(zG q.vars)[t].length:=by omega
  subst this;rw [List.drop_length];exact ⟨[],hp⟩
 | succ m ih=>
  intro i vals bs h hp;have hi:i < (zG q.vars)[t].length:=(by omega);rw [List.drop_eq_getElem_cons hi];obtain ⟨b2,h2⟩:=ih (i + 1) _ _ (by omega) (hp.next hq hk ht hi (zAx rs vals (zG q.vars)[t][i]) (fun _=>rfl));exact ⟨b2 ++ [_],by rw [List.append_assoc];exact h2⟩
theorem zOl {q:QS} (hq:QGood q) {kind:Nat} (hk:kind=1∨kind=2) {rs:List zAB} {t:Nat} (ht:t < (zG q.vars).length) (hw:zBq q kind (zG q.vars)[t]=false) (bits:Nat):∀ (m i:Nat) (vals:Nat × Nat) (bs:List Bool),i + m=(zG q.vars)[t].length→Part q kind rs t i vals bs→
  ∃ b2,Part q kind rs t (zG q.vars)[t].length (zCr ((zG q.vars)[t].drop i) bits i vals) (b2 ++ bs)∧b2.length=m∧∀ j,j < m→b2.reverse.getD j false=bits.testBit (i + j):=by
 intro m
 induction m with
 | zero=>
  intro i vals bs h hp
  have:i=(zG q.vars)[t].length:=by omega
  subst this;rw [List.drop_length];exact ⟨[],hp,rfl,fun j hj=>by omega⟩
 | succ m ih=>
  intro i vals bs h hp;have hi:i < (zG q.vars)[t].length:=(by omega);rw [List.drop_eq_getElem_cons hi];obtain ⟨b2,h2,h3,h4⟩:=ih (i + 1) _ _ (by omega) (hp.next hq hk ht hi (bits.testBit i) (fun e=>by rw [hw] at e;cases e));refine ⟨b2 ++ [bits.testBit i],by rw [List.append_assoc];exact h2,by simp [h3],fun j hj=>?_⟩;rw [List.reverse_append]
  cases j with
  | zero=>rfl
  | succ j=>
   have:=h4 j (by omega)
   simp only [List.reverse_cons,List.reverse_nil,List.nil_append,List.cons_append,List.getD_cons_succ];rw [this];congr 1;omega
theorem zBB (q:QS) (kind:Nat):(blW q kind).length=(zG q.vars).length:=by unfold blW;simp
theorem zHN (q:QS) (kind t:Nat) (h:t < (zG q.vars).length):(blW q kind).getD t ([],false)=((zG q.vars)[t],zBq q kind (zG q.vars)[t]):=by
 unfold blW;simp [List.getD,h]
structure zHJ (q:QS) (kind:Nat) (g:GS):Prop where
 le:g.turn≤(zG q.vars).length
 lose:∀ h:g.turn < (zG q.vars).length,zBq q kind (zG q.vars)[g.turn]=false
theorem zOK {q:QS} (hq:QGood q) {kind:Nat} (hk:kind=1∨kind=2) {rs:List zAB}:∀ (m:Nat) (g:GS) (bs:List Bool),g.turn + m=(zG q.vars).length→Run q kind rs g bs→
  ∃ b2,Run q kind rs (zE7 rs (blW q kind) m g) (b2 ++ bs)∧zHJ q kind (zE7 rs (blW q kind) m g)∧g.turn≤(zE7 rs (blW q kind) m g).turn∧∀ j (hj:j < (zG q.vars).length),g.turn≤j→j < (zE7 rs (blW q kind) m g).turn→zBq q kind (zG q.vars)[j]=true:=by
 intro m
 induction m with
 | zero=>
  intro g bs h hr;exact ⟨[],hr,⟨hr.turn,fun h'=>absurd h' (by show ¬ g.turn < _;omega)⟩,Nat.le_refl _,fun j hj h1 h2=>by simp only [zE7] at h2;omega⟩
 | succ m ih=>
  intro g bs h hr;have ht:g.turn < (zG q.vars).length:=(by omega);rw [zE7,zHN q kind _ ht];dsimp only
  by_cases hw:zBq q kind (zG q.vars)[g.turn]=true
  ·rw [if_pos hw];obtain ⟨b1,h1⟩:=zQD hq hk ht (zG q.vars)[g.turn].length 0 g.vals bs (by omega) hr.part;rw [List.drop_zero] at h1;obtain ⟨b2,h2,h3,h4,h5⟩:=ih ⟨g.turn + 1,_⟩ _ (by show g.turn + 1 + m=_;omega) (h1.done ht);refine ⟨b2 ++ b1,by rw [List.append_assoc];exact h2,h3,by have:g.turn + 1≤_:=h4;omega,fun j hj g1 g2=>?_⟩
   by_cases e:j=g.turn
   ·subst e;exact hw
   ·exact h5 j hj (by show g.turn + 1≤j;omega) g2
  ·rw [if_neg hw];exact ⟨[],hr,⟨hr.turn,fun _=>by simpa using hw⟩,Nat.le_refl _,fun j hj h1 h2=>by omega⟩
theorem zQT (q:QS) (kind:Nat) (rs:List zAB):Run q kind rs ⟨0,(0,0)⟩ []:=⟨Nat.zero_le _,rfl,rfl,trivial⟩
theorem zDe (a b:Nat × Nat) (h:a.1 < 512∧a.2 < 512):(zAz a b).1 < 512∧(zAz a b).2 < 512:=⟨zDY _ _ h.1,zDY _ _ h.2⟩
theorem zC5 (p n p2 n2:Nat) (w:World) (hp:p < 512) (hn:n < 512) (hp2:p2 < 512) (hn2:n2 < 512) :
  Calls Tryz.prog 75 #[zAj (p,n),zAj (p2,n2)] w fun e w'=>e=.returned (zAj (zAz (p,n) (p2,n2)))∧Below w.heap.size w w':=by
 have h1:bits .andNot .i64 (p:Int) (p2:Int)=((zb p p2:Nat):Int):=zBJ _ _ (by omega) (by omega);have h2:bits .andNot .i64 (n:Int) (n2:Int)=((zb n n2:Nat):Int):=zBJ _ _ (by omega) (by omega)
 go_enter Tryz.func75,Tryz.ntmps75
 go_wp2_with fail;refine bodyPost_ret (v:=zAj (zAz (p,n) (p2,n2))) (by simp [results,Tryz.results75,go_sem,zAz]) rfl ⟨rfl,?_⟩;exact ((((Below.refl _ _).alloc (Nat.le_refl _) _).alloc (by simp) _)).alloc (by simp;omega) _
theorem zF6 (p n:Nat) (w:World) :
  Calls Tryz.prog 76 #[zAj (p,n)] w fun e w'=>e=.returned (zAj (zDj (p,n)))∧Below w.heap.size w w':=by
 go_enter Tryz.func76,Tryz.ntmps76
 go_wp2_with fail;refine bodyPost_ret (v:=zAj (zDj (p,n))) (by simp [results,Tryz.results76,go_sem,zDj]) rfl ⟨rfl,?_⟩;exact ((Below.refl _ _).alloc (Nat.le_refl _) _).alloc (by simp) _
def zHm (l:List Int):List Value:=l.map (fun x=>.int .i64 x)
theorem zGf (c:Nat × Nat):∀ k v,(zAP c k v).length≤2 * k:=by
 intro k
 induction k with
 | zero=>intro v;simp [zAP]
 | succ k ih=>
  intro v;rw [zAP]
  have:=ih (v + 1)
  simp only [List.length_append]
  split<;>split<;>simp<;>omega
def zCE (c:Nat × Nat):Nat→List Int
 | 0=>[]
 | k + 1=>zCE c k ++ ((if zj c ((k + 1:Nat):Int) then [((k + 1:Nat):Int)] else []) ++ (if zj c (-((k + 1:Nat):Int)) then [-((k + 1:Nat):Int)] else []))
theorem zLY (c:Nat × Nat):∀ m k,zCE c k ++ zAP c m (k + 1)=zCE c (k + m):=by
 intro m
 induction m with
 | zero=>intro k;simp [zAP]
 | succ m ih=>
  intro k;rw [zAP,show k + (m + 1)=(k + 1) + m from by omega,← ih (k + 1),zCE];simp only [List.append_assoc]
theorem zMm (c:Nat × Nat):zCE c 8=zAJ c:=by
 have:=zLY c 8 0
 simpa [zCE,zAJ] using this.symm
theorem zIk (c:Nat × Nat) (k:Nat):(zCE c k).length≤2 * k:=by
 induction k with
 | zero=>simp [zCE]
 | succ k ih=>
  rw [zCE];simp only [List.length_append]
  split<;>split<;>simp<;>omega
theorem zDg (v:Nat) (h:v≤8):IntKind.i64.wrap (-(v:Int))=-(v:Int):=by
 have:∀ v:Fin 9,IntKind.i64.wrap (-(v.val:Int))=-(v.val:Int):=by decide
 exact this ⟨v,by omega⟩
def zQu (c:Nat × Nat) (w:World) (e:Ending) (w':World):Prop:=∃ v,e=.returned v∧w'.ownsRow w.heap.size 3 1 v (zAJ c).length (zHm (zAJ c))∧Below w.heap.size w w'
theorem zLv (p n:Nat) (w:World) (hp:p < 512) (hn:n < 512) :
  Calls Tryz.prog 122 #[zAj (p,n)] w fun e w'=>zQu (p,n) w e w':=by
 obtain ⟨i3,hi3,hz30,hz31,hz32⟩:=info_parts Tryz.info3
 go_enter Tryz.func122,Tryz.ntmps122
 go_wp2_with fail
 go_loopg [3,4] 8 (fun m vl iv wx=>∃ (k:Nat),iv=.int .i64 ((k:Int) + 1)∧k + m=8∧wx.ownsRow (w.heap.size + 1) 3 1 vl (zCE (p,n) k).length (zHm (zCE (p,n) k))∧Below w.heap.size w wx∧wx.heap[w.heap.size]?=some (.cells #[.int .i64 (p:Int),.int .i64 (n:Int)] 74 (0,0)))
 case atStart=>exact ⟨0,rfl,by omega,World.ownsRow_nil _ _ _ _,(Below.refl _ _).alloc (Nat.le_refl _) _,heap_alloc_new _ _⟩
 case round=>
  obtain ⟨k,rfl,hk,hown,hb,hset⟩:=hrel;have HLN:=zF (zIk (p,n) k);have hln:=zIk (p,n) k;have hbs:=zB hset;obtain ⟨aL,cL,rfl⟩:=zN hown;have c0:wr.cell? ⟨w.heap.size,0,none⟩=some (.int .i64 (p:Int)):=zE hset rfl;have c1:wr.cell? ⟨w.heap.size,1,none⟩=some (.int .i64 (n:Int)):=zE hset rfl
  by_cases hlt:k < 8
  ·have hd:decide ((k:Int) + 1≤8)=true:=(by simp;omega);have hwn:IntKind.i64.wrap (-((k:Int) + 1))=-((k:Int) + 1):=zDg (k + 1) (by omega);have HT:Hid (zCE (p,n) (k + 1)=zCE (p,n) k ++ ((if zj (p,n) ((k:Int) + 1) then [(k:Int) + 1] else []) ++ (if zj (p,n) (-((k:Int) + 1)) then [-((k:Int) + 1)] else []))):=zF rfl;generalize zCE (p,n) k=l at *;go_wp2_with fail;refine (zCw p n ((k:Int) + 1) wr hp hn (by omega) (by omega)).mono ?_;rintro e w1 ⟨rfl,hb1⟩;have hset1:=(hb1.block _ hbs).trans hset;have hB1:Below w.heap.size w w1:=hb.trans (hb1.mono hb.size);have hown1:=zO hown hb1;have d0:w1.cell? ⟨w.heap.size,0,none⟩=some (.int .i64 (p:Int)):=zE hset1 rfl;have d1:w1.cell? ⟨w.heap.size,1,none⟩=some (.int .i64 (n:Int)):=zE hset1 rfl;have hbs1:=zB hset1
   cases h1:zj (p,n) ((k:Int) + 1) with
   | false=>
    go_wp2_with fail;refine (zCw p n (-((k:Int) + 1)) w1 hp hn (by omega) (by omega)).mono ?_;rintro e w3 ⟨rfl,hb3⟩;have hset3:=zH hb3 hset1;have hB3:Below w.heap.size w w3:=hB1.trans (hb3.mono hB1.size);have hown3:=zO hown1 hb3;have hbs3:=zB hset3
    cases h2:zj (p,n) (-((k:Int) + 1)) with
    | false=>
     have HL:Hid (zCE (p,n) (k + 1)=l):=zF (by rw [zA HT,h1,h2];simp);go_wp2_with fail
     go_roundg (gk - 1)
     case measure=>omega
     case rel=>exact ⟨k + 1,by go_num,by omega,by rw [zA HL];simpa [zHm] using hown3,hB3,hset3⟩
    | true=>
     have HL:Hid (zCE (p,n) (k + 1)=l ++ [-((k:Int) + 1)]):=zF (by rw [zA HT,h1,h2];simp)
     go_wp2_with (at_builtin;refine zV rfl _ _ 25 rfl (w.heap.size + 1) i3 (.int .i64 0) 1 8 Tryz.underlying25 hi3 hz30 hz31 hz32 rfl (by decide) _ _ _ hown3 rfl rfl rfl (by simp [Value.oneCell']) (by unfold maxLen;omega) (by omega) hbs3 ?_;intro v4 w4 hown4 hgrow4 hnn4)
     have hB4:Below w.heap.size w w4:=za hB3 hgrow4 hown3 (Nat.le_succ _) hB3.size;have hset4:w4.heap[w.heap.size]?=some (.cells #[.int .i64 (p:Int),.int .i64 (n:Int)] 74 (0,0)):=(hgrow4.block _ hbs3 (fun e=>by have:=(hown3.lt _ e.symm).1;omega)).trans hset3;obtain ⟨a4,c4,rfl⟩:=zN hown4;go_wp2_with fail
     go_roundg (gk - 1)
     case measure=>omega
     case rel=>exact ⟨k + 1,by go_num,by omega,by rw [zA HL];simpa [zHm] using hown4,hB4,hset4⟩
   | true=>
    go_wp2_with (at_builtin;refine zV rfl _ _ 25 rfl (w.heap.size + 1) i3 (.int .i64 0) 1 8 Tryz.underlying25 hi3 hz30 hz31 hz32 rfl (by decide) _ _ _ hown1 rfl rfl rfl (by simp [Value.oneCell']) (by unfold maxLen;omega) (by omega) hbs1 ?_;intro v2 w2 hown2 hgrow2 hnn2;have hB2:Below w.heap.size w w2:=za hB1 hgrow2 hown1 (Nat.le_succ _) hB1.size;have hset2:w2.heap[w.heap.size]?=some (.cells #[.int .i64 (p:Int),.int .i64 (n:Int)] 74 (0,0)):=(hgrow2.block _ hbs1 (fun e=>by have:=(hown1.lt _ e.symm).1;omega)).trans hset1;obtain ⟨a2,c2,rfl⟩:=zN hown2;have hbs2:=zB hset2;have f0:w2.cell? ⟨w.heap.size,0,none⟩=some (.int .i64 (p:Int)):=(by rw [zC hset2];rfl);have f1:w2.cell? ⟨w.heap.size,1,none⟩=some (.int .i64 (n:Int)):=(by rw [zC hset2];rfl))
    refine (zCw p n (-((k:Int) + 1)) w2 hp hn (by omega) (by omega)).mono ?_;rintro e w3 ⟨rfl,hb3⟩;have hset3:=zH hb3 hset2;have hB3:Below w.heap.size w w3:=hB2.trans (hb3.mono hB2.size);have hown3:=zO hown2 hb3;have hbs3:=zB hset3
    cases h2:zj (p,n) (-((k:Int) + 1)) with
    | false=>
     have HL:Hid (zCE (p,n) (k + 1)=(l ++ [(k:Int) + 1])):=zF (by rw [zA HT,h1,h2];simp);go_wp2_with fail
     go_roundg (gk - 1)
     case measure=>omega
     case rel=>exact ⟨k + 1,by go_num,by omega,by rw [zA HL];simpa [zHm] using hown3,hB3,hset3⟩
    | true=>
     have HL:Hid (zCE (p,n) (k + 1)=(l ++ [(k:Int) + 1]) ++ [-((k:Int) + 1)]):=zF (by rw [zA HT,h1,h2];simp)
     go_wp2_with (at_builtin;refine zV rfl _ _ 25 rfl (w.heap.size + 1) i3 (.int .i64 0) 1 8 Tryz.underlying25 hi3 hz30 hz31 hz32 rfl (by decide) _ _ _ hown3 rfl rfl rfl (by simp [Value.oneCell']) (by unfold maxLen;omega) (by omega) hbs3 ?_;intro v4 w4 hown4 hgrow4 hnn4)
     have hB4:Below w.heap.size w w4:=za hB3 hgrow4 hown3 (Nat.le_succ _) hB3.size;have hset4:w4.heap[w.heap.size]?=some (.cells #[.int .i64 (p:Int),.int .i64 (n:Int)] 74 (0,0)):=(hgrow4.block _ hbs3 (fun e=>by have:=(hown3.lt _ e.symm).1;omega)).trans hset3;obtain ⟨a4,c4,rfl⟩:=zN hown4;go_wp2_with fail
     go_roundg (gk - 1)
     case measure=>omega
     case rel=>exact ⟨k + 1,by go_num,by omega,by rw [zA HL];simpa [zHm] using hown4,hB4,hset4⟩
  ·have hk8:k=8:=(by omega);subst hk8;have HA:=zF (zMm (p,n));go_wp2_with fail;go_ret;exact ⟨_,rfl,by rw [← zA HA];exact zAG hown (Nat.le_succ _),hb⟩
end Go.Proofs.YtgipjjhkhfihpaaGreatDoor
