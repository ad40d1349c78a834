import Derived.Test.YtgipjjhkhfihpaaGreatDoorKA
import Derived.Laws.AppendOwnNone
set_option maxRecDepth 100000
set_option maxHeartbeats 6400000
namespace Go.Proofs.YtgipjjhkhfihpaaGreatDoor
open Go.RowKit
structure QS where
 vars:List (Nat × Bool)
 cl:List (Nat × Nat)
def zd (l:List (Nat × Bool)):List Value:=l.flatMap (fun x=>[Value.int .i64 (x.1:Int),Value.bool x.2])
theorem zHy (l:List (Nat × Bool)):(zd l).length=l.length * 2:=by
 induction l with
 | nil=>rfl
 | cons a l ih=>simp [zd] at *;omega
theorem zFn (l:List (Nat × Bool)) (x:Nat × Bool):zd (l ++ [x])=zd l ++ [Value.int .i64 (x.1:Int),Value.bool x.2]:=by simp [zd]
theorem zCG (l:List (Nat × Bool)) (k:Nat) (h:k < l.length):(zd l)[k * 2]?=some (.int .i64 (l[k].1:Int))∧(zd l)[k * 2 + 1]?=some (.bool l[k].2):=by
 induction l generalizing k with
 | nil=>simp at h
 | cons a l ih=>
  cases k with
  | zero=>simp [zd]
  | succ k=>
   have:=ih k (by simpa using h)
   simp only [zd,List.flatMap_cons] at this ⊢
   constructor
   ·rw [show (k + 1) * 2=k * 2 + 2 from by omega,List.getElem?_append_right (by simp)]
    simpa using this.1
   ·rw [show (k + 1) * 2 + 1=k * 2 + 1 + 2 from by omega,List.getElem?_append_right (by simp)]
    simpa using this.2
theorem zAc (l:List (Nat × Nat)) (k:Nat) (h:k < l.length):(zAK l)[k * 2]?=some (.int .i64 (l[k].1:Int))∧(zAK l)[k * 2 + 1]?=some (.int .i64 (l[k].2:Int)):=by
 induction l generalizing k with
 | nil=>simp at h
 | cons a l ih=>
  cases k with
  | zero=>simp [zAK]
  | succ k=>
   have:=ih k (by simpa using h)
   simp only [zAK,List.flatMap_cons] at this ⊢
   constructor
   ·rw [show (k + 1) * 2=k * 2 + 2 from by omega,List.getElem?_append_right (by simp)]
    simpa using this.1
   ·rw [show (k + 1) * 2 + 1=k * 2 + 1 + 2 from by omega,List.getElem?_append_right (by simp)]
    simpa using this.2
structure QInv (base:Nat) (w:World) (b:Nat) (q:QS) (vV vC:Value):Prop where
 fb:w.heap[b]?=some (.cells #[vV,vC] 60 (0,0))
 oV:w.ownsRow base 139 2 vV q.vars.length (zd q.vars)
 oC:w.ownsRow base 74 2 vC q.cl.length (zAK q.cl)
theorem QInv.later {base b:Nat} {w w':World} {q:QS} {vV vC:Value} (h:QInv base w b q vV vC) (hb:Below w.heap.size w w'):QInv base w' b q vV vC:=
 ⟨(hb.block b (zB h.fb)).trans h.fb,zO h.oV hb,zO h.oC hb⟩
def zCk (vs:List (Nat × Bool)) (v:Nat):Bool:=vs.any (fun x=>x.1 == v)
theorem zOR (vs:List (Nat × Bool)) (v k:Nat) (h:k < vs.length):zCk (vs.take (k + 1)) v=(zCk (vs.take k) v || (vs[k].1 == v)):=by
 unfold zCk;rw [List.take_succ_eq_append_getElem h,List.any_append];simp
theorem zAm {w:World} {b o:Nat} {v:Value} (h:w.cell? ⟨b,o,none⟩=some v):b < w.heap.size:=by
 rcases Nat.lt_or_ge b w.heap.size with h1 | h1
 ·exact h1
 ·rw [World.cell?,Array.getElem?_eq_none h1] at h;cases h
def zBY (vs:List (Nat × Bool)) (v:Nat):Option (Nat × Bool):=vs.find? (fun x=>x.1 == v)
theorem zOs (vs:List (Nat × Bool)) (v k:Nat) (h:k < vs.length) (hno:zCk (vs.take k) v=false) (hv:vs[k].1=v):zBY vs v=some vs[k]:=by
 unfold zBY
 conv=>lhs;rw [← List.take_append_drop k vs,List.drop_eq_getElem_cons h]
 rw [List.find?_append]
 have:(vs.take k).find? (fun x=>x.1 == v)=none:=by
  rw [List.find?_eq_none];intro x hx hh;unfold zCk at hno;rw [List.any_eq_false] at hno;exact hno x hx hh
 rw [this,List.find?_cons,show (vs[k].1 == v)=true from by simp [hv]];rfl
theorem zNH (vs:List (Nat × Bool)) (v:Nat) (h:zCk vs v=false):zBY vs v=none:=by
 unfold zBY;rw [List.find?_eq_none];intro x hx hh;unfold zCk at h;rw [List.any_eq_false] at h;exact h x hx hh
theorem zJR (vs:List (Nat × Bool)) (v:Nat):(zBY vs v).isSome=zCk vs v:=by
 unfold zBY zCk;rw [List.isSome_find?]
def zQd (vs:List (Nat × Bool)) (v:Nat) (w:World) (e:Ending) (w':World):Prop:=
 Below w.heap.size w w'∧e=.returned (.tuple #[.agg #[.int .i64 (((zBY vs v).getD (0,false)).1:Nat),.bool ((zBY vs v).getD (0,false)).2],.bool (zBY vs v).isSome])
theorem zFQ (base b:Nat) (vs:List (Nat × Bool)) (vV:Value) (v:Nat) (w:World) (hc0:w.cell? ⟨b,0,none⟩=some vV) (hV:w.ownsRow base 139 2 vV vs.length (zd vs)) (hl:vs.length≤1073741824) :
  Calls Tryz.prog 68 #[.pointer (some ⟨b,0,none⟩),.int .i64 v] w fun e w'=>zQd vs v w e w':=by
 obtain ⟨aV,cV,rfl⟩:=zN hV;have hbw:=zAm hc0
 go_enter Tryz.func68,Tryz.ntmps68
 go_wp2_with fail
 go_loopg [13] (vs.length) (fun n i wx=>∃ k:Nat,i=.int .i64 k∧k + n=vs.length∧zCk (vs.take k) v=false∧Below w.heap.size w wx∧wx.heap[w.heap.size]?=some (.cells #[.int .i64 0,.bool false] 139 (0,0)))
 case atStart=>exact ⟨0,rfl,by omega,rfl,(Below.refl _ _).alloc (Nat.le_refl _) _,heap_alloc_new _ _⟩
 case round=>
  obtain ⟨k,rfl,hk,hno,hb,hres⟩:=hrel;have HNO:=zF hno;clear hno;have hbs:=zB hres;have hr0:wr.cell? ⟨w.heap.size,0,none⟩=some (.int .i64 0):=zE hres rfl;have hr1:wr.cell? ⟨w.heap.size,1,none⟩=some (.bool false):=zE hres rfl;have hz0:=zD hres 0;have hz1:=zD hres 1
  by_cases hlt:k < vs.length
  ·obtain ⟨g,cap,hVe,hg,hg',_,hcell⟩:=zS hV (by omega);injection hVe with hVe _ hV2;subst hVe hV2;have hgw:g < wr.heap.size:=(by omega);obtain ⟨ha,hb'⟩:=zCG vs k hlt;have hx0:wr.cell? ⟨g,k * 2,none⟩=some (.int .i64 (vs[k].1:Int)):=(by rw [hb.cell (p:=⟨g,k * 2,none⟩) hg'];exact hcell _ _ ha);have hx1:wr.cell? ⟨g,k * 2 + 1,none⟩=some (.bool vs[k].2):=(by rw [hb.cell (p:=⟨g,k * 2 + 1,none⟩) hg'];exact hcell _ _ hb');have HT:=zF (zOR vs v k hlt);have HH:=zF (zOs vs v k hlt (zA HNO));clear hcell ha hb'
   by_cases hv:vs[k].1=v
   ·have hvb:((vs[k].1:Int) == (v:Int))=true:=(by rw [beq_iff_eq];omega);have HF:=zF (zA HH hv);clear hv;go_wp2_with fail;have hR:=zI (zI hres 0 (.int .i64 (vs[k].1:Int))) 1 (.bool vs[k].2);have hR':=(heap_alloc_old _ (.cells #[.int .i64 (vs[k].1:Int),.bool vs[k].2] 139) (zB hR)).trans hR;have k0:=zC hR' 0;have k1:=zC hR' 1;refine bodyPost_ret (v:=.tuple #[.agg #[.int .i64 (vs[k].1:Int),.bool vs[k].2],.bool true]) (by simp [results,Tryz.results68,go_sem,k0,k1]) rfl ⟨?_,by rw [zA HF];rfl⟩;exact ((hb.setCell (p:=⟨w.heap.size,0,none⟩) (Nat.le_refl _) _).setCell (p:=⟨w.heap.size,1,none⟩) (Nat.le_refl _) _).alloc (by simp [World.setCell];omega) _
   ·have hvb:((vs[k].1:Int) == (v:Int))=false:=(by rw [beq_eq_false_iff_ne];omega);have HV:=zF hv;clear hv;go_wp2_with fail
    go_roundg (gk - 1)
    case measure=>omega
    case rel=>
     refine ⟨k + 1,by go_num,by omega,?_,hb.alloc (by omega) _,(heap_alloc_old _ _ hbs).trans hres⟩;rw [zA HT,zA HNO];simpa using zA HV
  ·have hkl:k=vs.length:=(by omega);subst hkl;have hno:=zA HNO;rw [List.take_length] at hno;have HF:=zF (zNH vs v hno);clear hno;go_wp2_with fail;refine bodyPost_ret (v:=.tuple #[.agg #[.int .i64 0,.bool false],.bool false]) (by simp [results,Tryz.results68,go_sem,hr0,hr1]) rfl ⟨?_,by rw [zA HF];rfl⟩;exact (hb.setCell (p:=⟨w.heap.size,0,none⟩) (Nat.le_refl _) _).setCell (p:=⟨w.heap.size,1,none⟩) (Nat.le_refl _) _
def inC (cl:List (Nat × Nat)) (v:Int):Bool:=cl.any (fun c=>(c.1 ||| c.2) &&& zAD v != 0)
theorem zQp (cl:List (Nat × Nat)) (v:Int) (k:Nat) (h:k < cl.length):inC (cl.take (k + 1)) v=(inC (cl.take k) v || ((cl[k].1 ||| cl[k].2) &&& zAD v != 0)):=by
 unfold inC;rw [List.take_succ_eq_append_getElem h,List.any_append];simp
theorem zMF (cl:List (Nat × Nat)) (v:Int) (k:Nat) (h:inC (cl.take k) v=true):inC cl v=true:=by
 unfold inC at *;rw [List.any_eq_true] at *;obtain ⟨x,hx,hv⟩:=h;exact ⟨x,List.mem_of_mem_take hx,hv⟩
theorem zST (base b:Nat) (q:QS) (vV vC:Value) (v:Int) (w:World) (hq:QInv base w b q vV vC) (hl:q.cl.length≤1048576) (hcl:∀ c∈q.cl,c.1 < 512∧c.2 < 512) :
  Calls Tryz.prog 69 #[.pointer (some ⟨b,0,none⟩),.int .i64 v] w fun e w'=>e=.returned (.bool (inC q.cl v))∧Below w.heap.size w w':=by
 have hc0:w.cell? ⟨b,1,none⟩=some vC:=zE hq.fb rfl;have HCL:=zF hcl;clear hcl;obtain ⟨aV,cV,rfl⟩:=zN hq.oC
 go_enter Tryz.func69,Tryz.ntmps69
 go_wp2_with fail
 go_loopg [12] (q.cl.length) (fun n i wx=>∃ k:Nat,i=.int .i64 k∧k + n=q.cl.length∧inC (q.cl.take k) v=false∧Below w.heap.size w wx)
 case atStart=>exact ⟨0,rfl,by omega,rfl,Below.refl _ _⟩
 case round=>
  obtain ⟨k,rfl,hk,hno,hb⟩:=hrel;have HNO:=zF hno;clear hno;have hbs:=hb.size
  by_cases hlt:k < q.cl.length
  ·obtain ⟨g,cap,hV,hg,hg',_,hcell⟩:=zS hq.oC (by omega);injection hV with hV _ hV2;subst hV hV2;have hgw:g < wr.heap.size:=(by omega);obtain ⟨ha,hb'⟩:=zAc q.cl k hlt;have hx0:wr.cell? ⟨g,k * 2,none⟩=some (.int .i64 (q.cl[k].1:Int)):=(by rw [hb.cell (p:=⟨g,k * 2,none⟩) hg'];exact hcell _ _ ha);have hx1:wr.cell? ⟨g,k * 2 + 1,none⟩=some (.int .i64 (q.cl[k].2:Int)):=(by rw [hb.cell (p:=⟨g,k * 2 + 1,none⟩) hg'];exact hcell _ _ hb');have HT:=zF (zQp q.cl v k hlt);have hbd:=zA HCL _ (List.getElem_mem hlt);have HOF:=zF (zMF q.cl v (k + 1));clear hcell ha hb';generalize q.cl[k]=c at *;obtain ⟨p,n⟩:=c;go_wp2_with fail;refine (zEk p n v _ hbd.1 hbd.2).mono ?_;rintro e w2 ⟨rfl,hb2⟩;have hb3:Below w.heap.size w w2:=(hb.alloc hbs _).trans (hb2.mono (by simp;omega))
   cases hh:((p ||| n) &&& zAD v != 0) with
   | true=>
    have HF:=zF (zA HOF (by rw [zA HT];simp only [hh];simp));go_wp2_with fail;go_ret;exact ⟨zAI (zA HF).symm,hb3⟩
   | false=>
    go_wp2_with fail
    go_roundg (gk - 1)
    case measure=>omega
    case rel=>exact ⟨k + 1,by go_num,by omega,by rw [zA HT,zA HNO];simp only [hh];rfl,hb3⟩
  ·have hkl:k=q.cl.length:=(by omega);subst hkl;have hno:=zA HNO;rw [List.take_length] at hno;have HF:=zF hno;clear hno;go_wp2_with fail;go_ret;exact ⟨zAI (zA HF).symm,hb⟩
theorem Tryz.info139:(Tryz.prog.info? 139).map (fun i=>(i.zero,i.size,i.bytes))=some (some (.agg #[.int .i64 0,.bool false]),2,16):=by kernel_rfl
theorem Tryz.info74:(Tryz.prog.info? 74).map (fun i=>(i.zero,i.size,i.bytes))=some (some (.agg #[.int .i64 0,.int .i64 0]),2,16):=by kernel_rfl
def zA6 (q:QS) (k:Nat):List Nat:=((List.range k).map (· + 1)).filter (fun v=>!zCk q.vars v && inC q.cl v)
theorem zNi (q:QS) (k:Nat):zA6 q (k + 1)=zA6 q k ++ (if !zCk q.vars (k + 1) && inC q.cl ((k + 1:Nat):Int) then [k + 1] else []):=by
 unfold zA6;rw [List.range_succ,List.map_append,List.filter_append]
 congr 1
 simp [List.filter_cons]
theorem zPv (q:QS) (k:Nat):(zA6 q k).length≤k:=by
 unfold zA6;refine Nat.le_trans (List.length_filter_le _ _) ?_
 simp
def exv (l:List Nat):List (Nat × Bool):=l.map (fun v=>(v,false))
theorem zRE (l:List Nat) (v:Nat):exv (l ++ [v])=exv l ++ [(v,false)]:=by simp [exv]
theorem zNW (l:List Nat):(exv l).length=l.length:=by simp [exv]
theorem zKS (base b:Nat) (q:QS) (vV vC:Value) (w:World) (hq:QInv base w b q vV vC) (hl:q.vars.length≤1073741824) (hl2:q.cl.length≤1048576) (hcl:∀ c∈q.cl,c.1 < 512∧c.2 < 512) :
  Calls Tryz.prog 45 #[.pointer (some ⟨b,0,none⟩)] w fun e w'=>
   ∃ v,e=.returned v∧w'.ownsRow w.heap.size 139 2 v (exv (zA6 q 8) ++ q.vars).length (zd (exv (zA6 q 8) ++ q.vars))∧Below w.heap.size w w':=by
 obtain ⟨i0,hi,hz0,hz1,hz2⟩:=info_parts Tryz.info139;have HCL:=zF hcl;clear hcl
 go_enter Tryz.func45,Tryz.ntmps45
 go_wp2_with fail
 go_loopg [3,4] 9 (fun n v i wx=>∃ k:Nat,i=.int .i64 (k + 1)∧k + n=9∧1≤n∧wx.ownsRow w.heap.size 139 2 v (exv (zA6 q k)).length (zd (exv (zA6 q k)))∧Below w.heap.size w wx)
 case atStart=>exact ⟨0,rfl,by omega,by omega,World.ownsRow_nil _ _ _ _,Below.refl _ _⟩
 case round=>
  obtain ⟨k,rfl,hk,hn,hown,hb⟩:=hrel;have hbs:=hb.size;have hfl:=zPv q k;have hel:=zNW (zA6 q k);have HEL:=zF hel;clear hel
  by_cases hlt:k < 8
  ·have hd8:decide ((k:Int) + 1≤8)=true:=(by simp;omega);have hj1:((k:Int) + 1)=((k + 1:Nat):Int):=(by omega);have HJ:=zF hj1;clear hj1;have HFS:=zF (zNi q k);go_wp2_with fail;rw [zA HJ];refine (zFQ base b q.vars vV (k + 1) wr (by rw [zC (hq.later hb).fb];rfl) (hq.later hb).oV hl).mono ?_;rintro e w2 ⟨hb2,rfl⟩;rw [zJR];generalize (zBY q.vars (k + 1)).getD (0,false)=fx;have hb2':Below w.heap.size w (w2.alloc (.cells #[.int .i64 (fx.1:Nat),.bool fx.2] 139)):=(hb.trans (hb2.mono hbs)).alloc (Nat.le_trans hbs hb2.size) _;have hown2:=(zO hown hb2).alloc (.cells #[.int .i64 (fx.1:Nat),.bool fx.2] 139)
   cases hh:zCk q.vars (k + 1) with
   | true=>
    go_wp2_with fail
    go_roundg (gk - 1)
    case measure=>omega
    case rel=>exact ⟨k + 1,by go_num,by omega,by omega,by rw [zA HFS,hh];simpa using hown2,hb2'⟩
   | false=>
    go_wp2_with fail;refine (zST base b q vV vC ((k + 1:Nat):Int) _ (hq.later hb2') hl2 (zA HCL)).mono ?_;rintro e w3 ⟨rfl,hb3⟩;have hb3':Below w.heap.size w w3:=hb2'.trans (hb3.mono hb2'.size);have hown3:=zO hown2 hb3;have hbs3:=hb3'.size
    cases hc:inC q.cl ((k + 1:Nat):Int) with
    | true=>
     have hbd:(exv (zA6 q k)).length≤8:=by have:=zA HEL;omega
     go_wp2_with (at_builtin;refine zV rfl _ _ 57 rfl w.heap.size i0 (.agg #[.int .i64 0,.bool false]) 2 16 Tryz.underlying57 hi hz0 hz1 hz2 rfl (by decide) _ _ _ hown3 rfl rfl rfl (by simp [Value.oneCell']) (by unfold maxLen;omega) (by omega) hbs3 ?_;intro v' w4 hown4 hgrow hnn)
     go_roundg (gk - 1)
     case measure=>omega
     case rel=>
      refine ⟨k + 1,by go_num,by omega,by omega,?_,za hb3' hgrow hown3 (Nat.le_refl _) hbs3⟩;rw [zA HFS,hh,hc,show (if (!false && true)=true then [k + 1] else [])=[k + 1] from rfl,zRE,zFn]
      simpa using hown4
    | false=>
     go_wp2_with fail
     go_roundg (gk - 1)
     case measure=>omega
     case rel=>exact ⟨k + 1,by go_num,by omega,by omega,by rw [zA HFS,hh,hc];simpa using hown3,hb3'⟩
  ·have hk8:k=8:=(by omega);subst hk8;have hq2:=hq.later hb;have hc0:wr.cell? ⟨b,0,none⟩=some vV:=zE hq2.fb rfl;have hbd:(exv (zA6 q 8)).length≤8:=by have:=zA HEL;omega
   rcases hq2.oV.2 with ⟨rfl,h0⟩ | ⟨g,cap,cur,rfl,hbg,hg,hnc,hcm,hcs,htake⟩
   ·have HV:Hid (q.vars=[]):=zF (List.eq_nil_of_length_eq_zero h0);clear h0
    go_wp2_with (at_builtin;refine wpList_append_own_none rfl _ _ 57 rfl w.heap.size 139 i0 2 Tryz.underlying57 hi _ _ _ rfl hown rfl ?_)
    go_ret;exact ⟨_,rfl,by rw [zA HV];simpa using hown,hb⟩
   ·have hcells:∀ j u,(zd q.vars)[j]?=some u→wr.cell? ((⟨g,0,none⟩:Addr).add j)=some u:=hq2.oV.cells rfl;have HN:Hid ((zd q.vars).length=q.vars.length * 2):=zF (zHy _);have H1:Hid (∀ u∈zd q.vars,u.oneCell'=true):=zF (by
     intro u hu;unfold zd at hu;rw [List.mem_flatMap] at hu;obtain ⟨x,_,hx⟩:=hu;simp at hx
     rcases hx with rfl | rfl<;>rfl)
    have HCE:=zF hcells;clear hcells htake hcs hcm
    go_wp2_with (at_builtin;refine wpList_append_own _ rfl _ _ 57 rfl w.heap.size 139 i0 (.agg #[.int .i64 0,.bool false]) 2 16 Tryz.underlying57 hi hz0 hz1 hz2 rfl (by decide) _ _ _ rfl hown ⟨g,0,none⟩ q.vars.length cap (zd q.vars) rfl (zA HN) (zA HCE) (zA H1) (by unfold maxLen;omega) (by omega) hbs ?_;intro v' w4 hown4 hgrow hnn)
    go_ret;refine ⟨_,rfl,?_,za hb hgrow hown (Nat.le_refl _) hbs⟩;have e:zd (exv (zA6 q 8) ++ q.vars)=zd (exv (zA6 q 8)) ++ zd q.vars:=(by simp [zd]);rw [e,List.length_append];exact hown4
theorem zBL {P:Program} {ops:Array Oper} {rest:List Oper} {o:Oper} {a:Act} {Q:Exit→Act→World→Prop} {w:World} {news:List Value} {e:TypeId} (hgd:o.guard=none) (s x:Operand) (t:TypeId)
  (ho:o.op=.call { callee:=.builtin .append,args:=#[s,x],argTypes:=#[t,t] })
  (base:Nat) (i:TypeInfo) (z:Value) (size bytes:Nat) (ht:P.underlying t=some (.slice e)) (hi:P.info? e=some i) (hz:i.zero=some z)
  (hsize:i.size=size) (hby:i.bytes=bytes) (hzs:z.cells.size=size) (hsz:0 < size)
  (v:Value) (n:Nat) (xs:List Value) (hown:w.ownsRow base e size v n xs) (hs:a.eval s=v)
  (m:Nat) (hx:a.eval x=.slice (some ⟨m,0,none⟩) 1 1) (hm:m=w.heap.size) (hl:news.length=size) (h1:∀ u∈news,u.oneCell'=true)
  (h63:n + 1≤maxLen) (hbytes:(n + 1) * bytes≤140737488355328) (hbase:base≤w.heap.size)
  (h:∀ v' w',w'.ownsRow base e size v' (n + 1) (xs ++ news)→w.grownBy w' v.ownBlock→(v'≠.slice none 0 0)→wpList P ops Q rest (a.put o.dst v') w'):wpList P ops Q (o :: rest) a (w.alloc (.cells news.toArray e)):=by
 subst hm;exact zV hgd s x t ho base i z size bytes ht hi hz hsize hby hzs hsz v n xs hown hs hx hl h1 h63 hbytes hbase h
def StrsAt (w:World) (ao:Option Addr) (ws:List (List UInt8)):Prop:=
 ws≠[]→∃ g off cur,ao=some ⟨g,off,none⟩∧w.heap[g]?=some (.cells cur 9 (0,0))∧∀ j (hj:j < ws.length),cur[off + j]?=some (S ws[j])
def KeepsS (w w':World):Prop:=∀ (g:Nat) (cur:Array Value),w.heap[g]?=some (.cells cur 9 (0,0))→w'.heap[g]?=some (.cells cur 9 (0,0))
theorem KeepsS.trans {a b c:World} (h:KeepsS a b) (k:KeepsS b c):KeepsS a c:=fun g cur hg=>k g cur (h g cur hg)
theorem KeepsS.of_below {a b:World} (h:Below a.heap.size a b):KeepsS a b:=fun g _ hg=>(h.block g (zB hg)).trans hg
theorem KeepsS.of_set {w:World} {b o:Nat} {c:Array Value} {t:TypeId} {fr:Nat × Nat} {u:Value} (h:w.heap[b]?=some (.cells c t fr)) (ht:t≠9):KeepsS w (w.setCell ⟨b,o,none⟩ u):=fun g cur hg=>by
 rw [Below.heap_setCell _ _ _ _ (fun e=>by subst e;rw [hg] at h;simp at h;exact ht h.2.1.symm)];exact hg
theorem KeepsS.of_grown {w w':World} {v:Value} {base n size:Nat} {e:TypeId} {xs:List Value} (hg:w.grownBy w' v.ownBlock) (ho:w.ownsRow base e size v n xs) (he:e≠9):KeepsS w w':=fun g cur hgc=>by
 rw [hg.block g (zB hgc) (fun eq=>by
  rcases ho.2 with ⟨rfl,_⟩ | ⟨g',cap,cur',rfl,_,hh,_⟩
  ·simp [Value.ownBlock] at eq
  ·simp [Value.ownBlock] at eq;subst eq;rw [hgc] at hh;simp at hh;exact he hh.2.symm)]
 exact hgc
theorem StrsAt.keep {w w':World} {ao:Option Addr} {ws:List (List UInt8)} (h:StrsAt w ao ws) (k:KeepsS w w'):StrsAt w' ao ws:=fun hne=>by
 obtain ⟨g,off,cur,h1,h2,h3⟩:=h hne;exact ⟨g,off,cur,h1,k g cur h2,h3⟩
theorem QInv.push_cl {wr wp w':World} {bq base:Nat} {q:QS} {vV vC v':Value} {p n:Nat} (hbq:bq < base) (h:QInv base wr bq q vV vC) (hp:Below wr.heap.size wr wp) (hg:wp.grownBy w' vC.ownBlock)
  (hown:w'.ownsRow base 74 2 v' (q.cl.length + 1) (zAK q.cl ++ [.int .i64 (p:Int),.int .i64 (n:Int)])) :
  w'.heap[bq]?=some (.cells #[vV,vC] 60 (0,0))∧QInv base (w'.setCell ⟨bq,1,none⟩ v') bq { q with cl:=q.cl ++ [(p,n)] } vV v':=by
 have hlt:=h.oC.lt;have hbf:=zB h.fb;have hfb:w'.heap[bq]?=some (.cells #[vV,vC] 60 (0,0)):=by
  rw [hg.block bq (Nat.lt_of_lt_of_le hbf hp.size) (fun e=>by have:=hlt bq e.symm;omega),hp.block bq hbf];exact h.fb
 refine ⟨hfb,zI hfb 1 v',?_,?_⟩
 ·exact ownsRow_setCell_below (zA3 h.oV hp h.oC hg (by decide)) (a:=⟨bq,1,none⟩) hbq v'
 ·have:=ownsRow_setCell_below hown (a:=⟨bq,1,none⟩) hbq v'
  rw [← zD5 q.cl (p,n)] at this
  simpa using this
theorem QInv.push_var {wr wp w':World} {bq base:Nat} {q:QS} {vV vC v':Value} {x:Nat × Bool} (hbq:bq < base) (h:QInv base wr bq q vV vC) (hp:Below wr.heap.size wr wp) (hg:wp.grownBy w' vV.ownBlock)
  (hown:w'.ownsRow base 139 2 v' (q.vars.length + 1) (zd q.vars ++ [.int .i64 (x.1:Int),.bool x.2])) :
  w'.heap[bq]?=some (.cells #[vV,vC] 60 (0,0))∧QInv base (w'.setCell ⟨bq,0,none⟩ v') bq { q with vars:=q.vars ++ [x] } v' vC:=by
 have hlt:=h.oV.lt;have hbf:=zB h.fb;have hfb:w'.heap[bq]?=some (.cells #[vV,vC] 60 (0,0)):=by
  rw [hg.block bq (Nat.lt_of_lt_of_le hbf hp.size) (fun e=>by have:=hlt bq e.symm;omega),hp.block bq hbf];exact h.fb
 refine ⟨hfb,zI hfb 0 v',?_,?_⟩
 ·have:=ownsRow_setCell_below hown (a:=⟨bq,0,none⟩) hbq v'
  rw [← zFn q.vars x] at this
  simpa using this
 ·exact ownsRow_setCell_below (zA3 h.oC hp h.oV hg (by decide)) (a:=⟨bq,0,none⟩) hbq v'
def zDf:(Nat × Nat)→List (List UInt8)→Option (Nat × Nat)
 | c,[]=>some c
 | c,w :: ws=>if zBb w then zDf (zQ c (zAn w)) ws else none
theorem zJi (w:List UInt8):-8≤zAn w∧zAn w≤8:=by
 have h1:=zB3 w;have h2:=zB3 w.tail;unfold zAn;split<;>omega
theorem zAZ (c:Nat × Nat) (x:Int) (h1:c.1 < 512) (h2:c.2 < 512):(zQ c x).1 < 512∧(zQ c x).2 < 512:=by
 unfold zQ;split
 ·exact ⟨h1,zBD _ _ h2 (zCn _)⟩
 ·exact ⟨zBD _ _ h1 (zCn _),h2⟩
def zRM (bq:Nat) (q:QS) (vV:Value) (ws:List (List UInt8)) (w:World) (e:Ending) (w':World):Prop:=
 Below bq w w'∧match zDf (0,0) ws with
  | none=>e=.returned (.bool false)
  | some c=>e=.returned (.bool true)∧∃ vC',QInv (bq + 1) w' bq { q with cl:=q.cl ++ [c] } vV vC'
theorem zI0 (bq:Nat) (q:QS) (vV vC:Value) (ws:List (List UInt8)) (ao:Option Addr) (cap:Nat) (w:World) (hq:QInv (bq + 1) w bq q vV vC) (hs:StrsAt w ao ws)
  (hl:ws.length≤1048576) (hws:∀ x∈ws,x.length≤1048576) (hcl:q.cl.length≤1048576) :
  Calls Tryz.prog 67 #[.pointer (some ⟨bq,0,none⟩),.slice ao ws.length cap] w fun e w'=>zRM bq q vV ws w e w':=by
 have hbq:=zB hq.fb;have HWS:=zF hws;clear hws
 go_enter Tryz.func67,Tryz.ntmps67
 go_wp2_with fail
 go_loopg [13] (ws.length) (fun n i wx=>∃ (j p m:Nat),i=.int .i64 j∧j + n=ws.length∧p < 512∧m < 512∧zDf (0,0) ws=zDf (p,m) (ws.drop j)∧Below w.heap.size w wx∧
   wx.heap[w.heap.size]?=some (.cells #[.int .i64 p,.int .i64 m] 74 (0,0)))
 case atStart=>exact ⟨0,0,0,rfl,by omega,by omega,by omega,rfl,(Below.refl _ _).alloc (Nat.le_refl _) _,heap_alloc_new _ _⟩
 case round=>
  obtain ⟨j,p,m,rfl,hj,hp,hm,hto,hb,hbc⟩:=hrel;have hbs:w.heap.size < wr.heap.size:=zB hbc;have hp0:wr.cell? ⟨w.heap.size,0,none⟩=some (.int .i64 p):=zE hbc rfl;have hp1:wr.cell? ⟨w.heap.size,1,none⟩=some (.int .i64 m):=zE hbc rfl
  by_cases hlt:j < ws.length
  ·obtain ⟨g,off,cur,rfl,hg,hcur⟩:=hs (by intro e;subst e;simp at hlt);have hcj:wr.cell? ⟨g,off + j,none⟩=some (S ws[j]):=by
    rw [hb.cell (p:=⟨g,off + j,none⟩) (zB hg),zC hg];exact hcur j hlt
   have hwl:=zA HWS _ (List.getElem_mem hlt);rw [List.drop_eq_getElem_cons hlt,zDf] at hto;have HTO:=zF hto;clear hto hcur;obtain ⟨n0,n1⟩:=zJi ws[j];go_wp2_with fail;refine (zGU ws[j] wr hwl).mono ?_;rintro e w2 ⟨hw2,rfl⟩;subst hw2
   cases hgd:zBb ws[j] with
   | false=>
    have HF:Hid (zDf (0,0) ws=none):=zF (by rw [zA HTO,hgd,if_neg (by decide)]);go_wp2_with fail;go_ret;exact ⟨hb.mono (by omega),by rw [zA HF];rfl⟩
   | true=>
    have HF:Hid (zDf (0,0) ws=zDf (zQ (p,m) (zAn ws[j])) (ws.drop (j + 1))):=zF (by rw [zA HTO,hgd,if_pos rfl]);have hwl2:=zAZ (p,m) (zAn ws[j]) hp hm;go_wp2_with fail;refine (zCH p m (zAn ws[j]) w2 hp hm (by omega) (by omega)).mono ?_;rintro e w3 ⟨rfl,hb3⟩;have hb4:Below w.heap.size w w3:=hb.trans (hb3.mono (by omega));have hbc3:=(hb3.block _ hbs).trans hbc;have hq0:w3.cell? ⟨w.heap.size,0,none⟩=some (.int .i64 p):=zE hbc3 rfl;have hq1:w3.cell? ⟨w.heap.size,1,none⟩=some (.int .i64 m):=zE hbc3 rfl;have hz0:=zD hbc3 0;have hz1:=zD hbc3 1;generalize zQ (p,m) (zAn ws[j])=c at *;obtain ⟨p',m'⟩:=c;go_wp2_with fail
    go_roundg (gk - 1)
    case measure=>omega
    case rel=>
     refine ⟨j + 1,p',m',by go_num,by omega,hwl2.1,hwl2.2,zA HF,(hb4.setCell (p:=⟨w.heap.size,0,none⟩) (Nat.le_refl _) _).setCell (p:=⟨w.heap.size,1,none⟩) (Nat.le_refl _) _,?_⟩;exact zI (zI hbc3 0 _) 1 _
  ·have hjl:j=ws.length:=(by omega);subst hjl;rw [List.drop_length] at hto;have HF:Hid (zDf (0,0) ws=some (p,m)):=zF hto;clear hto;have hq3:=hq.later hb;have hf3:wr.cell? ⟨bq,1,none⟩=some vC:=zE hq3.fb rfl;have hfz:=zD hq3.fb 1;have hbqw:bq < wr.heap.size:=(by omega);have hapc:vC.ownBlock≠some w.heap.size:=fun e=>by have:=hq.oC.lt _ e;omega
   obtain ⟨i1,hi1,hz10,hz11,hz12⟩:=info_parts Tryz.info74;go_wp2_with fail
   go_region_law (refine zE6 rfl (.tmp 32) (.tmp 34) 58 rfl (bq + 1) 74 i1 (.agg #[.int .i64 0,.int .i64 0]) 2 16 Tryz.underlying58 hi1 hz10 hz11 hz12 rfl (by decide) vC q.cl.length (zAK q.cl) (hq3.oC.alloc _).drew rfl ⟨wr.heap.size,0,none⟩ 1 1 [.int .i64 p,.int .i64 m] rfl rfl (zBX wr [.int .i64 p,.int .i64 m] 74) (by simp [Value.oneCell']) (by unfold maxLen;omega) (by omega) (by simp;omega) ?_;intro v' w' hown' hgrow hnn;obtain ⟨hfb',hJ⟩:=hq3.push_cl (Nat.lt_succ_self bq) (((Below.refl _ wr).alloc (Nat.le_refl _) _).drew) hgrow hown';have hbel:Below bq w w':=((hb.mono (Nat.le_of_lt hbq)).trans ((((Below.refl wr.heap.size wr).alloc (Nat.le_refl _) _).drew).mono (Nat.le_of_lt hbqw))).grown hgrow (by simp;omega) (fun k hk=>(by have:=(hq3.oC.lt k hk).1;omega));obtain ⟨g3,cap3,rfl,hg3,hg3',hcap3,hcell3⟩:=zS hown' (by omega);have hq3':w'.cell? ⟨bq,1,none⟩=some vC:=(by rw [zC hfb'];rfl);have hqz:=zD hfb' 1)
   all_goals
    go_wp2_with fail;go_ret;refine ⟨hbel.setCell (p:=⟨bq,1,none⟩) (Nat.le_refl _) _,?_⟩;rw [zA HF];exact ⟨rfl,_,hJ⟩
def zFW (vs:List (Nat × Bool)) (w:List UInt8):Bool:=!decide (0 < dig w) || zCk vs (dig w).toNat
def zBS (u:Bool):List (Nat × Bool)→List (List UInt8)→Option (List (Nat × Bool))
 | vs,[]=>some vs
 | vs,w :: ws=>if zFW vs w then none else zBS u (vs ++ [((dig w).toNat,u)]) ws
def zAO (q:QS) (ws:List (List UInt8)) (u:Bool):Option (List (Nat × Bool)):=if ws=[]∨q.cl≠[] then none else zBS u q.vars ws
def zL1 (bq:Nat) (q:QS) (vC:Value) (ws:List (List UInt8)) (u:Bool) (w:World) (e:Ending) (w':World):Prop:=
 Below bq w w'∧match zAO q ws u with
  | none=>e=.returned (.bool false)
  | some vs=>e=.returned (.bool true)∧∃ vV',QInv (bq + 1) w' bq { q with vars:=vs } vV' vC
theorem zFB (bq:Nat) (q:QS) (vV vC:Value) (ws:List (List UInt8)) (u:Bool) (ao:Option Addr) (cap:Nat) (w:World) (hq:QInv (bq + 1) w bq q vV vC) (hs:StrsAt w ao ws)
  (hl:ws.length≤524288) (hws:∀ x∈ws,x.length≤1048576) (hvl:q.vars.length≤536870912) (_hcl:q.cl.length≤1048576) :
  Calls Tryz.prog 66 #[.pointer (some ⟨bq,0,none⟩),.slice ao ws.length cap,.bool u] w fun e w'=>zL1 bq q vC ws u w e w':=by
 have hbq:=zB hq.fb;have HWS:=zF hws;clear hws;have hf1:w.cell? ⟨bq,1,none⟩=some vC:=zE hq.fb rfl;obtain ⟨aC,cC,rfl⟩:=zN hq.oC
 by_cases hnil:ws=[]
 ·subst hnil;have HF:Hid (zAO q [] u=none):=zF (by unfold zAO;rw [if_pos (Or.inl rfl)])
  go_enter Tryz.func66,Tryz.ntmps66
  go_wp2_with fail;go_ret;exact ⟨Below.refl _ _,by rw [zA HF];rfl⟩
 have hwl0:0 < ws.length:=List.length_pos_iff.2 hnil;have hwb:((ws.length:Int) == 0)=false:=by rw [beq_eq_false_iff_ne];omega
 by_cases hcn:q.cl=[]
 ·have hcb:decide (0 < q.cl.length)=false:=(by rw [hcn];rfl);have HF:Hid (zAO q ws u=zBS u q.vars ws):=zF (by unfold zAO;rw [if_neg (by rintro (h | h);exact hnil h;exact h hcn)]);obtain ⟨g,off,cur,rfl,hg,hcur⟩:=hs hnil;have HS:=zF hs;have HCN:=zF hcn;clear hnil hcn;obtain ⟨i0,hi,hz0,hz1,hz2⟩:=info_parts Tryz.info139
  go_enter Tryz.func66,Tryz.ntmps66
  go_wp2_with fail
  go_loopg [26] (ws.length) (fun n i wx=>∃ (j:Nat) (vs:List (Nat × Bool)) (vV:Value),i=.int .i64 j∧j + n=ws.length∧vs.length=q.vars.length + j∧zBS u q.vars ws=zBS u vs (ws.drop j)∧Below bq w wx∧
   QInv (bq + 1) wx bq { q with vars:=vs } vV (.slice aC q.cl.length cC)∧KeepsS w wx)
  case atStart=>exact ⟨0,q.vars,vV,rfl,by omega,rfl,rfl,Below.refl _ _,hq,fun _ _ h=>h⟩
  case round=>
   obtain ⟨j,vs,vV,rfl,hj,hvl2,hto,hb,hqx,hk⟩:=hrel;have HVL:=zF hvl2;have hvl3:vs.length≤1073741824:=(by omega);clear hvl2
   by_cases hlt:j < ws.length
   ·have hcj:wr.cell? ⟨g,off + j,none⟩=some (S ws[j]):=by
     rw [zC (hk g cur hg)];exact hcur j hlt
    have hwl:=zA HWS _ (List.getElem_mem hlt);rw [List.drop_eq_getElem_cons hlt,zBS] at hto;have HTO:=zF hto;clear hto;obtain ⟨d0,d1⟩:=zB3 ws[j];obtain ⟨dn,hdn⟩:=Int.eq_ofNat_of_zero_le d0;have HBV:Hid (zFW vs ws[j]=(!decide (0 < dn) || zCk vs dn)):=zF (by unfold zFW;rw [hdn];simp);have HDN:Hid ((dig ws[j]).toNat=dn):=zF (by rw [hdn];simp);go_wp2_with fail;refine (zC4 ws[j] wr hwl).mono ?_;rintro e w2 ⟨hw2,rfl⟩;subst hw2;rw [hdn];have hdn8:dn≤8:=(by omega);clear hdn d0 d1
    by_cases hz:dn=0
    ·have hdz:decide (0 < dn)=false:=(by simp;omega);have HN:Hid (zBS u q.vars ws=none):=zF (by rw [zA HTO,zA HBV,hz];rfl);clear hz;go_wp2_with fail;go_ret;exact ⟨hb,by rw [zA HF,zA HN];rfl⟩
    ·have hdz:decide (0 < dn)=true:=(by simp;omega);have HZ:Hid (decide (0 < dn)=true):=zF (by simp;omega);clear hz;go_wp2_with fail;refine (zFQ (bq + 1) bq vs vV dn w2 (by rw [zC hqx.fb];rfl) hqx.oV hvl3).mono ?_;rintro e w3 ⟨hb3,rfl⟩;rw [zJR];generalize (zBY vs dn).getD (0,false)=fx;have hb3a:Below w2.heap.size w2 (w3.alloc (.cells #[.int .i64 (fx.1:Nat),.bool fx.2] 139)):=hb3.alloc hb3.size _;have hqy:=hqx.later hb3a;have hbq2:bq < w2.heap.size:=zB hqx.fb;have hbq3:bq < w3.heap.size:=Nat.lt_of_lt_of_le hbq2 hb3.size;have hby:Below bq w (w3.alloc (.cells #[.int .i64 (fx.1:Nat),.bool fx.2] 139)):=hb.trans (hb3a.mono (Nat.le_of_lt hbq2));have hky:=hk.trans (KeepsS.of_below hb3a);dsimp only
     cases hh:zCk vs dn with
     | true=>
      have HN:Hid (zBS u q.vars ws=none):=zF (by rw [zA HTO,zA HBV,hh];simp);go_wp2_with fail;go_ret;exact ⟨hby,by rw [zA HF,zA HN];rfl⟩
     | false=>
      have HN:Hid (zBS u q.vars ws=zBS u (vs ++ [(dn,u)]) (ws.drop (j + 1))):=zF (by rw [zA HTO,zA HBV,hh,zA HZ,zA HDN];rfl);have hf0:w3.cell? ⟨bq,0,none⟩=some vV:=zE (hqx.later hb3).fb rfl;have hbs:bq + 1≤(w3.alloc (.cells #[.int .i64 (fx.1:Nat),.bool fx.2] 139)).heap.size:=zB hqy.fb
      go_wp2_with (at_builtin;refine zBL rfl (.tmp 48) (.tmp 52) 57 rfl (bq + 1) i0 (.agg #[.int .i64 0,.bool false]) 2 16 Tryz.underlying57 hi hz0 hz1 hz2 rfl (by decide) _ _ _ hqy.oV rfl _ rfl (by simp) rfl (by simp [Value.oneCell']) (by unfold maxLen;dsimp only;omega) (by dsimp only;omega) hbs ?_;intro v' w4 hown4 hgrow hnn;obtain ⟨hfb',hJ⟩:=hqy.push_var (x:=(dn,u)) (Nat.lt_succ_self bq) (Below.refl _ _) hgrow hown4;have hb5:Below bq w w4:=hby.grown hgrow (by omega) (fun k hk=>(by have:=(hqy.oV.lt k hk).1;omega));have hk5:=hky.trans (KeepsS.of_grown hgrow hqy.oV (by decide));obtain ⟨g3,cap3,rfl,hg3,hg3',hcap3,hcell3⟩:=zS hown4 (by omega);have hq3':w4.cell? ⟨bq,0,none⟩=some vV:=(by rw [zC hfb'];rfl);have hqz:=zD hfb' 0)
      go_roundg (gk - 1)
      case measure=>omega
      case rel=>
       exact ⟨j + 1,vs ++ [(dn,u)],_,by go_num,by omega,by have:=zA HVL;simp;omega,zA HN,hb5.setCell (p:=⟨bq,0,none⟩) (Nat.le_refl _) _,hJ,hk5.trans (KeepsS.of_set hfb' (by decide))⟩
   ·have hjl:j=ws.length:=(by omega);subst hjl;rw [List.drop_length] at hto;have HN:Hid (zBS u q.vars ws=some vs):=zF hto;clear hto;go_wp2_with fail;go_ret;refine ⟨hb,?_⟩;rw [zA HF,zA HN];exact ⟨rfl,_,hqx⟩
 ·have hcb:decide (0 < q.cl.length)=true:=by
   have:0 < q.cl.length:=List.length_pos_iff.2 hcn
   simp;omega
  have HF:Hid (zAO q ws u=none):=zF (by unfold zAO;rw [if_pos (Or.inr hcn)]);clear hnil hcn
  go_enter Tryz.func66,Tryz.ntmps66
  go_wp2_with fail;go_ret;exact ⟨Below.refl _ _,by rw [zA HF];rfl⟩
def qOf (q:QS) (hd:List UInt8) (tl:List (List UInt8)):Option QS:=
 if hd=[101] then (zAO q tl false).map (fun vs=>{ q with vars:=vs })
 else if hd=[97] then (zAO q tl true).map (fun vs=>{ q with vars:=vs })
 else if hd=[99] then (zDf (0,0) tl).map (fun c=>{ q with cl:=q.cl ++ [c] })
 else none
def zCT (q:QS) (line:List UInt8):Option QS:=
 if zB4 line then (match zZ 32 line with | []=>none | hd :: tl=>qOf q hd tl) else none
theorem zLl (q:QS) (line hd:List UInt8) (tl:List (List UInt8)) (h:zZ 32 line=hd :: tl) (hs:zB4 line=true):zCT q line=qOf q hd tl:=by
 unfold zCT;rw [if_pos hs,h]
def zGd (bq:Nat) (q:QS) (line:List UInt8) (w:World) (e:Ending) (w':World):Prop:=
 Below bq w w'∧match zCT q line with
  | none=>e=.returned (.bool false)
  | some q'=>e=.returned (.bool true)∧∃ vV vC,QInv (bq + 1) w' bq q' vV vC
theorem zGY {bq:Nat} {q:QS} {vC:Value} {tl:List (List UInt8)} {u:Bool} {line:List UInt8} {w w2 w3:World} {e:Ending} (hb:Below w.heap.size w w2) (hbq:bq < w.heap.size) (hp:zL1 bq q vC tl u w2 e w3)
  (hq:zCT q line=(zAO q tl u).map (fun vs=>{ q with vars:=vs })):zGd bq q line w e w3:=by
 obtain ⟨h1,h2⟩:=hp;refine ⟨(hb.mono (Nat.le_of_lt hbq)).trans h1,?_⟩;rw [hq]
 cases h:zAO q tl u with
 | none=>rw [h] at h2;exact h2
 | some vs=>rw [h] at h2;obtain ⟨h3,vV,h4⟩:=h2;exact ⟨h3,vV,vC,h4⟩
theorem zM3 {bq:Nat} {q:QS} {vV:Value} {tl:List (List UInt8)} {line:List UInt8} {w w2 w3:World} {e:Ending} (hb:Below w.heap.size w w2) (hbq:bq < w.heap.size) (hp:zRM bq q vV tl w2 e w3)
  (hq:zCT q line=(zDf (0,0) tl).map (fun c=>{ q with cl:=q.cl ++ [c] })):zGd bq q line w e w3:=by
 obtain ⟨h1,h2⟩:=hp;refine ⟨(hb.mono (Nat.le_of_lt hbq)).trans h1,?_⟩;rw [hq]
 cases h:zDf (0,0) tl with
 | none=>rw [h] at h2;exact h2
 | some c=>rw [h] at h2;obtain ⟨h3,vC,h4⟩:=h2;exact ⟨h3,vV,vC,h4⟩
theorem zIX {bq:Nat} {q:QS} {line:List UInt8} {w w':World} {e:Ending} (h:zGd bq q line w e w'):∃ b,e=.returned (.bool b):=by
 obtain ⟨_,h2⟩:=h
 cases hq:zCT q line with
 | none=>rw [hq] at h2;exact ⟨_,h2⟩
 | some q'=>rw [hq] at h2;exact ⟨_,h2.1⟩
theorem zKF (bq:Nat) (q:QS) (vV vC:Value) (line:List UInt8) (w:World) (hq:QInv (bq + 1) w bq q vV vC) (hl:line.length≤2000) (hvl:q.vars.length≤536870912) (hcl:q.cl.length≤1048576) :
  Calls Tryz.prog 44 #[.pointer (some ⟨bq,0,none⟩),.string ⟨line.toArray⟩] w fun e w'=>zGd bq q line w e w':=by
 have hbq:=zB hq.fb
 go_enter Tryz.func44,Tryz.ntmps44
 go_wp2_with fail;refine (zJl line w (by omega)).mono ?_;rintro e w2 ⟨hb,hsp⟩
 cases hok:zB4 line with
 | false=>
  rw [hok,if_neg (by decide)] at hsp;subst hsp;have HF:Hid (zCT q line=none):=zF (by unfold zCT;rw [hok];rfl);go_wp2_with fail;go_ret;exact ⟨hb.mono (Nat.le_of_lt hbq),by rw [zA HF];rfl⟩
 | true=>
  rw [hok,if_pos rfl] at hsp;obtain ⟨v,rfl,hown⟩:=hsp;have hwl:(zZ 32 line).length≤2001:=(by have:=zA9 32 line;simp [zZ];omega);have hwl2:∀ x∈zZ 32 line,x.length≤1048576:=fun x hx=>by have:=zDq 32 line x hx;omega
  obtain ⟨hd,tl,hws⟩:∃ hd tl,zZ 32 line=hd :: tl:=by
   cases h:zZ 32 line with
   | nil=>simp [zZ] at h
   | cons a b=>exact ⟨a,b,rfl⟩
  have HQ:=zF (zLl q line hd tl hws hok);rw [hws] at hown hwl hwl2;clear hws hok
  rcases hown.2 with ⟨_,h0⟩ | ⟨g,cap,cur,rfl,hbg,hg,hnc,hcm,hcs,htake⟩
  ·simp at h0
  simp only [List.length_cons] at hwl hnc;have hc0:w2.cell? ⟨g,0,none⟩=some (S hd):=by
   rw [hown.cellAt 0 (by simp)];rfl
  have HST:Hid (∀ ao:Option Addr,(tl≠[]→ao=some ⟨g,1,none⟩)→StrsAt w2 ao tl):=zF (fun ao ho hne=>⟨g,1,cur,ho hne,hg,fun j hj=>by
   have h1:=hown.cellAt (1 + j) (by simp;omega);rw [zC hg] at h1;rw [h1];simp [show 1 + j=j + 1 from by omega,hj]⟩)
  have HWL:Hid (∀ x∈tl,x.length≤1048576):=zF (fun x hx=>hwl2 x (List.mem_cons_of_mem _ hx));have hq2:=hq.later hb;clear hwl2 htake hcs hcm hg;simp only [List.length_cons];have hne0:(((tl.length + 1:Nat):Int) == 0)=false:=by rw [beq_eq_false_iff_ne];omega
  by_cases he:hd=[101]
  ·subst he;have HR:Hid (zCT q line=(zAO q tl false).map (fun vs=>{ q with vars:=vs })):=zF (by rw [zA HQ];rfl);go_wp2_with fail
   all_goals
    refine (zFB bq q vV vC tl false _ _ w2 hq2 (zA HST _ (fun hne=>by first | rfl | (exfalso;apply hne;exact List.eq_nil_of_length_eq_zero (by omega)))) (by omega) (zA HWL) hvl hcl).mono ?_;intro e w3 hp;have hL:=zGY (line:=line) hb hbq hp (zA HR);obtain ⟨b,rfl⟩:=zIX hL;have HL:=zF hL;clear hp hL;go_wp2_with fail;go_ret;exact zA HL
  ·have heb:(hd == [101])=false:=by simp [he]
   by_cases ha:hd=[97]
   ·subst ha;have HR:Hid (zCT q line=(zAO q tl true).map (fun vs=>{ q with vars:=vs })):=zF (by rw [zA HQ];rfl);go_wp2_with fail
    all_goals
     refine (zFB bq q vV vC tl true _ _ w2 hq2 (zA HST _ (fun hne=>by first | rfl | (exfalso;apply hne;exact List.eq_nil_of_length_eq_zero (by omega)))) (by omega) (zA HWL) hvl hcl).mono ?_;intro e w3 hp;have hL:=zGY (line:=line) hb hbq hp (zA HR);obtain ⟨b,rfl⟩:=zIX hL;have HL:=zF hL;clear hp hL;go_wp2_with fail;go_ret;exact zA HL
   ·have hab:(hd == [97])=false:=by simp [ha]
    by_cases hc:hd=[99]
    ·subst hc;have HR:Hid (zCT q line=(zDf (0,0) tl).map (fun c=>{ q with cl:=q.cl ++ [c] })):=zF (by rw [zA HQ];rfl);go_wp2_with fail
     all_goals
      refine (zI0 bq q vV vC tl _ _ w2 hq2 (zA HST _ (fun hne=>by first | rfl | (exfalso;apply hne;exact List.eq_nil_of_length_eq_zero (by omega)))) (by omega) (zA HWL) hcl).mono ?_;intro e w3 hp;have hL:=zM3 (line:=line) hb hbq hp (zA HR);obtain ⟨b,rfl⟩:=zIX hL;have HL:=zF hL;clear hp hL;go_wp2_with fail;go_ret;exact zA HL
    ·have hcb:(hd == [99])=false:=(by simp [hc]);have HR:Hid (zCT q line=none):=zF (by rw [zA HQ,qOf,if_neg he,if_neg ha,if_neg hc]);clear he ha hc;go_wp2_with fail
     all_goals
      go_ret;exact ⟨hb.mono (Nat.le_of_lt hbq),by rw [zA HR];rfl⟩
def zD9:QS→Nat→List (List UInt8)→QS ⊕ Nat
 | q,_,[]=>.inl q
 | q,i,r :: rs=>match zCT q r with
  | none=>.inr (i + 1)
  | some q'=>zD9 q' (i + 1) rs
def zK (q:QS):QS:={ q with vars:=exv (zA6 q 8) ++ q.vars }
def zAb (l:List UInt8):(Nat × Nat) ⊕ QS:=
 if 2000 < l.length then .inl (1,0) else
 match zD9 ⟨[],[]⟩ 0 (zU 10 l).1 with
 | .inr i=>.inl (2,i)
 | .inl q=>if (zU 10 l).2≠[] then .inl (2,(zU 10 l).1.length + 1) else if 24 < q.cl.length then .inl (3,0) else .inr (zK q)
structure QOk (q:QS) (k:Nat):Prop where
 vl:q.vars.length≤2001 * k
 ll:q.cl.length≤k
 cl:∀ c∈q.cl,c.1 < 512∧c.2 < 512
theorem zNl (u:Bool) (ws:List (List UInt8)):∀ (vs vs':List (Nat × Bool)),zBS u vs ws=some vs'→vs'.length=vs.length + ws.length:=by
 induction ws with
 | nil=>intro vs vs' h;simp [zBS] at h;subst h;rfl
 | cons w ws ih=>
  intro vs vs' h;rw [zBS] at h
  split at h
  ·cases h
  ·have:=ih _ _ h
   simp at this ⊢;omega
theorem zN6 (ws:List (List UInt8)):∀ (c c':Nat × Nat),c.1 < 512→c.2 < 512→zDf c ws=some c'→c'.1 < 512∧c'.2 < 512:=by
 induction ws with
 | nil=>intro c c' h1 h2 h;simp [zDf] at h;subst h;exact ⟨h1,h2⟩
 | cons w ws ih=>
  intro c c' h1 h2 h;rw [zDf] at h
  split at h
  ·have:=zAZ c (zAn w) h1 h2
   exact ih _ _ this.1 this.2 h
  ·cases h
theorem zRJ {q q':QS} {k:Nat} {r:List UInt8} (hr:r.length≤2000) (hq:QOk q k) (h:zCT q r=some q'):QOk q' (k + 1):=by
 unfold zCT at h
 split at h
 ·split at h
  ·cases h
  ·next hd tl hws=>
   have hwl:(zZ 32 r).length≤2001:=(by have:=zA9 32 r;simp [zZ];omega);rw [hws] at hwl;simp at hwl;have hpre:∀ u vs,zAO q tl u=some vs→vs.length≤2001 * (k + 1):=by
    intro u vs hv;unfold zAO at hv
    split at hv
    ·cases hv
    ·have:=zNl u tl _ _ hv
     have:=hq.vl
     omega
   unfold qOf at h
   split at h
   ·cases hp:zAO q tl false with
    | none=>rw [hp] at h;cases h
    | some vs=>
     rw [hp] at h;simp at h;subst h;exact ⟨hpre _ _ hp,Nat.le_succ_of_le hq.ll,hq.cl⟩
   ·split at h
    ·cases hp:zAO q tl true with
     | none=>rw [hp] at h;cases h
     | some vs=>
      rw [hp] at h;simp at h;subst h;exact ⟨hpre _ _ hp,Nat.le_succ_of_le hq.ll,hq.cl⟩
    ·split at h
     ·cases hp:zDf (0,0) tl with
      | none=>rw [hp] at h;cases h
      | some c=>
       rw [hp] at h;simp at h;subst h;refine ⟨by have:=hq.vl;dsimp only;omega,by have:=hq.ll;simp;omega,?_⟩;intro c' hc';simp at hc'
       rcases hc' with hc' | hc'
       ·exact hq.cl c' hc'
       ·subst hc';exact zN6 tl _ _ (by decide) (by decide) hp
     ·cases h
 ·cases h
def zQX (l:List UInt8) (w:World) (e:Ending) (w':World):Prop:=
 Below w.heap.size w w'∧match zAb l with
  | .inl (x,i)=>e=.returned (.tuple #[.agg #[.slice none 0 0,.slice none 0 0],.int .i64 (x:Int),.int .i64 (i:Int)])
  | .inr q=>∃ vV vC,e=.returned (.tuple #[.agg #[vV,vC],.int .i64 0,.int .i64 0])∧w'.ownsRow w.heap.size 139 2 vV q.vars.length (zd q.vars)∧w'.ownsRow w.heap.size 74 2 vC q.cl.length (zAK q.cl)
theorem zP1 (l:List UInt8) (w:World):Calls Tryz.prog 23 #[.string ⟨l.toArray⟩] w fun e w'=>zQX l w e w':=by
 by_cases hlong:2000 < l.length
 ·have hd:decide ((2000:Int) < (l.length:Int))=true:=(by simp;omega);have HF:Hid (zAb l=.inl (1,0)):=zF (by unfold zAb;rw [if_pos hlong]);clear hlong
  go_enter Tryz.func23,Tryz.ntmps23
  go_wp2_with fail;refine bodyPost_ret (v:=.tuple #[.agg #[.slice none 0 0,.slice none 0 0],.int .i64 1,.int .i64 0]) (by simp [results,Tryz.results23,go_sem]) rfl ⟨(Below.refl _ _).alloc (Nat.le_refl _) _,?_⟩;rw [zA HF];rfl
 ·have hl:l.length≤2000:=(by omega);have hd:decide ((2000:Int) < (l.length:Int))=false:=(by simp;omega);have hdr:=zA9 10 l;have HSP:Hid (zAb l=match zD9 ⟨[],[]⟩ 0 (zU 10 l).1 with
   | .inr i=>.inl (2,i)
   | .inl q=>if (zU 10 l).2≠[] then .inl (2,(zU 10 l).1.length + 1) else if 24 < q.cl.length then .inl (3,0) else .inr (zK q)):=zF (by unfold zAb;rw [if_neg hlong])
  clear hlong
  go_enter Tryz.func23,Tryz.ntmps23
  go_wp2_with fail;refine (zJc l _ (by omega)).mono ?_;rintro e w1 ⟨v,rfl,hown,hb1⟩;have hsz1:w.heap.size < w1.heap.size:=(by have:=hb1.size;simp at this;omega);have hb0:Below w.heap.size w w1:=((Below.refl _ _).alloc (Nat.le_refl _) _).trans (hb1.mono (by simp));have hbr:w1.heap[w.heap.size]?=some (.cells #[.slice none 0 0,.slice none 0 0] 60 (0,0)):=by
   rw [hb1.block _ (by simp)];exact heap_alloc_new _ _
  have HRL:Hid (∀ r∈(zU 10 l).1,r.length≤2000):=zF (fun r hr=>by
   have:=zDq 10 l r (by unfold zZ;exact List.mem_append_left _ hr);omega)
  generalize hrows:(zU 10 l).1=rows at *;obtain ⟨aL,cL,rfl⟩:=zN hown;obtain ⟨ended,hended⟩:∃ b,decide ((zU 10 l).2=[])=b:=⟨_,rfl⟩;rw [hended];have HE:=zF hended;clear hended hrows;have hown1:=zAG (lo:=0) hown (Nat.zero_le _);clear hown;have hrows2:rows.length≤2000:=(by omega);clear hdr;go_wp2_with fail
  go_loopg [22] (rows.length) (fun n i wx=>∃ (k:Nat) (q:QS) (vV vC:Value),i=.int .i64 k∧k + n=rows.length∧QOk q k∧QInv (w1.heap.size + 1) wx w1.heap.size q vV vC∧Below w1.heap.size w1 wx∧zD9 ⟨[],[]⟩ 0 rows=zD9 q k (rows.drop k))
  case atStart=>
   exact ⟨0,⟨[],[]⟩,_,_,rfl,by omega,⟨by simp,by simp,by simp⟩,⟨heap_alloc_new _ _,World.ownsRow_nil _ _ _ _,World.ownsRow_nil _ _ _ _⟩,(Below.refl _ _).alloc (Nat.le_refl _) _,rfl⟩
  case round=>
   obtain ⟨k,q,vV,vC,rfl,hk,hqo,hqi,hbx,hrr⟩:=hrel;have hvl:=hqo.vl;have hll:=hqo.ll;have hbrx:wr.heap[w.heap.size]?=some (.cells #[.slice none 0 0,.slice none 0 0] 60 (0,0)):=(hbx.block _ hsz1).trans hbr;obtain ⟨hr0,hr1⟩:=zJ hbrx
   by_cases hlt:k < rows.length
   ·obtain ⟨g,cap,hV,hg,hg',_,hcell⟩:=zS hown1 (by omega);injection hV with hV _ hV2;subst hV hV2;have hcj:wr.cell? ⟨g,k,none⟩=some (S rows[k]):=by
     rw [hbx.cell (p:=⟨g,k,none⟩) hg'];exact hcell k _ (by simp [hlt])
    have hrl:=zA HRL _ (List.getElem_mem hlt);rw [List.drop_eq_getElem_cons hlt,zD9] at hrr;have HRR:=zF hrr;clear hrr hcell;go_wp2_with fail;refine (zKF w1.heap.size q vV vC rows[k] wr hqi hrl (by omega) (by omega)).mono ?_;rintro e w2 ⟨hb2,hp⟩;have hb3:Below w1.heap.size w1 w2:=hbx.trans hb2
    cases hq:zCT q rows[k] with
    | none=>
     rw [hq] at hp;have hp':e=.returned (.bool false):=hp;subst hp';have HF:Hid (zAb l=.inl (2,k + 1)):=zF (by rw [zA HSP,zA HRR,hq]);have hbr2:w2.heap[w.heap.size]?=some (.cells #[.slice none 0 0,.slice none 0 0] 60 (0,0)):=(hb3.block _ hsz1).trans hbr;obtain ⟨hs0,hs1⟩:=zJ hbr2;have hz0:=zD hbr2 0;have hz1:=zD hbr2 1;clear hp;go_wp2_with fail;refine bodyPost_ret (v:=.tuple #[.agg #[.slice none 0 0,.slice none 0 0],.int .i64 2,.int .i64 ((k:Int) + 1)]) (by simp [results,Tryz.results23,go_sem,hs0,hs1]) rfl ⟨?_,?_⟩
     ·exact ((hb0.trans (hb3.mono (by omega))).setCell (p:=⟨w.heap.size,0,none⟩) (Nat.le_refl _) _).setCell (p:=⟨w.heap.size,1,none⟩) (Nat.le_refl _) _
     ·rw [zA HF];exact congrArg (fun m:Int=>Ending.returned (.tuple #[.agg #[.slice none 0 0,.slice none 0 0],.int .i64 2,.int .i64 m])) (by omega)
    | some q'=>
     rw [hq] at hp;have hp':e=.returned (.bool true)∧∃ vV vC,QInv (w1.heap.size + 1) w2 w1.heap.size q' vV vC:=hp;obtain ⟨rfl,vV',vC',hqi'⟩:=hp';have HF:Hid (zD9 ⟨[],[]⟩ 0 rows=zD9 q' (k + 1) (rows.drop (k + 1))):=zF (by rw [zA HRR,hq]);have HQO:=zF (zRJ hrl hqo hq);clear hp hq;go_wp2_with fail
     go_roundg (gk - 1)
     case measure=>omega
     case rel=>exact ⟨k + 1,q',vV',vC',by go_num,by omega,zA HQO,hqi',hb3,zA HF⟩
   ·have hkl:k=rows.length:=(by omega);subst hkl;rw [List.drop_length] at hrr;have HRR:Hid (zD9 ⟨[],[]⟩ 0 rows=.inl q):=zF hrr;clear hrr;have hz0:=zD hbrx 0;have hz1:=zD hbrx 1
    cases ended with
    | false=>
     have HF:Hid (zAb l=.inl (2,rows.length + 1)):=zF (by
      rw [zA HSP,zA HRR];dsimp only;rw [if_pos (of_decide_eq_false (zA HE))])
     go_wp2_with fail;refine bodyPost_ret (v:=.tuple #[.agg #[.slice none 0 0,.slice none 0 0],.int .i64 2,.int .i64 ((rows.length:Int) + 1)]) (by simp [results,Tryz.results23,go_sem,hr0,hr1]) rfl ⟨?_,?_⟩
     ·exact ((hb0.trans (hbx.mono (by omega))).setCell (p:=⟨w.heap.size,0,none⟩) (Nat.le_refl _) _).setCell (p:=⟨w.heap.size,1,none⟩) (Nat.le_refl _) _
     ·rw [zA HF];exact congrArg (fun m:Int=>Ending.returned (.tuple #[.agg #[.slice none 0 0,.slice none 0 0],.int .i64 2,.int .i64 m])) (by omega)
    | true=>
     have hf1:wr.cell? ⟨w1.heap.size,1,none⟩=some vC:=zE hqi.fb rfl;obtain ⟨aC,cC,rfl⟩:=zN hqi.oC
     by_cases h24:24 < q.cl.length
     ·have hd24:decide ((24:Int) < (q.cl.length:Int))=true:=(by simp;omega);have HF:Hid (zAb l=.inl (3,0)):=zF (by
       rw [zA HSP,zA HRR];dsimp only;rw [if_neg (fun h=>h (of_decide_eq_true (zA HE))),if_pos h24])
      go_wp2_with fail;refine bodyPost_ret (v:=.tuple #[.agg #[.slice none 0 0,.slice none 0 0],.int .i64 3,.int .i64 0]) (by simp [results,Tryz.results23,go_sem,hr0,hr1]) rfl ⟨?_,?_⟩
      ·exact ((hb0.trans (hbx.mono (by omega))).setCell (p:=⟨w.heap.size,0,none⟩) (Nat.le_refl _) _).setCell (p:=⟨w.heap.size,1,none⟩) (Nat.le_refl _) _
      ·rw [zA HF];rfl
     ·have hd24:decide ((24:Int) < (q.cl.length:Int))=false:=(by simp;omega);have HF:Hid (zAb l=.inr (zK q)):=zF (by
       rw [zA HSP,zA HRR];dsimp only;rw [if_neg (fun h=>h (of_decide_eq_true (zA HE))),if_neg h24])
      go_wp2_with fail;refine (zKS (w1.heap.size + 1) w1.heap.size q vV _ wr hqi (by omega) (by omega) hqo.cl).mono ?_;rintro e w2 ⟨v2,rfl,hown2,hb2⟩;have hqi2:=hqi.later hb2;have hbq:w1.heap.size < wr.heap.size:=zB hqi.fb;have hbr2:w2.heap[w.heap.size]?=some (.cells #[.slice none 0 0,.slice none 0 0] 60 (0,0)):=(hb2.block _ (by omega)).trans hbrx;obtain ⟨hs0,hs1⟩:=zJ hbr2;have hy0:=zD hbr2 0;have hy1:=zD hbr2 1;have hg0:w2.cell? ⟨w1.heap.size,0,none⟩=some vV:=zE hqi2.fb rfl;have hg1:w2.cell? ⟨w1.heap.size,1,none⟩=some (.slice aC q.cl.length cC):=zE hqi2.fb rfl;have hx0:=zD hqi2.fb 0;have hne1:w.heap.size≠w1.heap.size:=(by omega);have hne2:w1.heap.size≠w.heap.size:=(by omega);obtain ⟨a2,c2,rfl⟩:=zN hown2;have hbel:Below w.heap.size w w2:=hb0.trans ((hbx.trans (hb2.mono (by omega))).mono (by omega));have hO1:=ownsRow_setCell_below (ownsRow_setCell_below (ownsRow_setCell_below hown2 (a:=⟨w1.heap.size,0,none⟩) (by exact hbq) (.slice a2 (exv (zA6 q 8) ++ q.vars).length c2)) (a:=⟨w.heap.size,0,none⟩) (show w.heap.size < wr.heap.size by omega) (.slice a2 (exv (zA6 q 8) ++ q.vars).length c2)) (a:=⟨w.heap.size,1,none⟩) (show w.heap.size < wr.heap.size by omega) (.slice aC q.cl.length cC);have hO2:=ownsRow_setCell_below (ownsRow_setCell_below (ownsRow_setCell_below hqi2.oC (a:=⟨w1.heap.size,0,none⟩) (Nat.lt_succ_self _) (.slice a2 (exv (zA6 q 8) ++ q.vars).length c2)) (a:=⟨w.heap.size,0,none⟩) (show w.heap.size < w1.heap.size + 1 by omega) (.slice a2 (exv (zA6 q 8) ++ q.vars).length c2)) (a:=⟨w.heap.size,1,none⟩) (show w.heap.size < w1.heap.size + 1 by omega) (.slice aC q.cl.length cC);have HO1:=zF hO1;have HO2:=zF hO2;clear hO1 hO2;generalize hnn:(exv (zA6 q 8) ++ q.vars).length=nn at *;go_wp2_with fail;refine bodyPost_ret (v:=.tuple #[.agg #[.slice a2 nn c2,.slice aC q.cl.length cC],.int .i64 0,.int .i64 0]) (by simp [results,Tryz.results23,go_sem,hs0,hs1]) rfl ⟨?_,?_⟩
      ·exact ((hbel.setCell (p:=⟨w1.heap.size,0,none⟩) (by exact Nat.le_of_lt hsz1) _).setCell (p:=⟨w.heap.size,0,none⟩) (Nat.le_refl _) _).setCell (p:=⟨w.heap.size,1,none⟩) (Nat.le_refl _) _
      ·rw [zA HF];refine ⟨_,_,rfl,?_,?_⟩
       ·have:=zAG (lo:=w.heap.size) (zA HO1) (by omega)
        show World.ownsRow _ w.heap.size _ 2 _ (exv (zA6 q 8) ++ q.vars).length (zd (exv (zA6 q 8) ++ q.vars));rw [hnn];exact this
       ·exact zAG (lo:=w.heap.size) (zA HO2) (by omega)
theorem zJN {w:World} {o:Obj} {n:Nat} (h:n=w.heap.size):(w.alloc o).heap[n]?=some o:=by subst h;exact heap_alloc_new w o
structure ProgAt (lo:Nat) (w:World) (b:Nat) (q:QS):Prop where
 lo_le:lo≤b
 at_:∃ vV vC,w.heap[b]?=some (.cells #[vV,vC] 64 (0,0))∧w.ownsRow lo 139 2 vV q.vars.length (zd q.vars)∧w.ownsRow lo 74 2 vC q.cl.length (zAK q.cl)
def zO1 (l:List UInt8) (w:World) (e:Ending) (w':World):Prop:=
 Below w.heap.size w w'∧match zAb l with
  | .inl (x,i)=>e=.returned (.tuple #[.pointer none,.int .i64 (x:Int),.int .i64 (i:Int)])
  | .inr q=>∃ b,e=.returned (.tuple #[.pointer (some ⟨b,0,none⟩),.int .i64 0,.int .i64 0])∧ProgAt w.heap.size w' b q
theorem zKd (l:List UInt8) (x i:Nat) (h:zAb l=.inl (x,i)):0 < x:=by
 unfold zAb at h
 split at h
 ·simp at h;omega
 ·split at h
  ·simp at h;omega
  ·split at h
   ·simp at h;omega
   ·split at h
    ·simp at h;omega
    ·cases h
theorem zIe (l:List UInt8) (w:World):Calls Tryz.prog 16 #[.string ⟨l.toArray⟩] w fun e w'=>zO1 l w e w':=by
 go_enter Tryz.func16,Tryz.ntmps16
 go_wp2_with fail;refine (zP1 l w).mono ?_;rintro e w1 ⟨hb,hp⟩
 cases hq:zAb l with
 | inl xi=>
  obtain ⟨x,i⟩:=xi;rw [hq] at hp;have hp':e=.returned (.tuple #[.agg #[.slice none 0 0,.slice none 0 0],.int .i64 (x:Int),.int .i64 (i:Int)]):=hp;subst hp';have hx:=zKd l x i hq;have hxb:((x:Int) != 0)=true:=(by rw [bne_iff_ne];omega);have HQ:=zF hq;clear hp hq;go_wp2_with fail;go_ret3;exact ⟨hb.alloc hb.size _,by rw [zA HQ];rfl⟩
 | inr q=>
  rw [hq] at hp;have hp':∃ vV vC,e=.returned (.tuple #[.agg #[vV,vC],.int .i64 0,.int .i64 0])∧w1.ownsRow w.heap.size 139 2 vV q.vars.length (zd q.vars)∧w1.ownsRow w.heap.size 74 2 vC q.cl.length (zAK q.cl):=hp;obtain ⟨vV,vC,rfl,hV,hC⟩:=hp';have HQ:=zF hq;clear hp hq;obtain ⟨a1,c1,rfl⟩:=zN hV;obtain ⟨a2,c2,rfl⟩:=zN hC;go_wp2_with fail;go_ret3;refine ⟨(hb.alloc hb.size _).alloc (by simp;have:=hb.size;omega) _,?_⟩;rw [zA HQ];refine ⟨_,rfl,by have:=hb.size;simp;omega,_,_,zJN (by simp),(hV.alloc _).alloc _,(hC.alloc _).alloc _⟩
theorem zJv (r:List UInt8) (h:0 < dig r):zAD (dig r)=2 ^ (dig r).toNat:=by
 have:=zB3 r
 unfold zAD;rw [if_pos ⟨by omega,by omega⟩]
theorem zGP (c:Nat × Nat) (w:List UInt8):(zk c w).2=zBb w∧(zBb w=true→(zk c w).1=zQ c (zAn w)):=by
 unfold zk zBb zAn
 split
 ·next r=>
  refine ⟨rfl,?_⟩;intro h;have h':0 < dig r:=of_decide_eq_true h;show (c.1,c.2 ||| 2 ^ (dig r).toNat)=zQ c (- dig r);unfold zQ;rw [if_pos (by omega),Int.neg_neg,zJv r h']
 ·next hw=>
  have hh:¬ w.head?=some 45:=by
   intro e
   cases w with
   | nil=>simp at e
   | cons a b=>simp at e;subst e;exact hw b rfl
  rw [if_neg hh,if_neg hh];refine ⟨rfl,?_⟩;intro h;have h':0 < dig w:=of_decide_eq_true h;unfold zQ;rw [if_neg (by omega),zJv w h']
theorem zNQ (ws:List (List UInt8)):∀ (c:Nat × Nat),(ws.foldl (fun st w=>((zk st.1 w).1,st.2 && (zk st.1 w).2)) (c,false)).2=false:=by
 induction ws with
 | nil=>intro c;rfl
 | cons w ws ih=>intro c;exact ih _
theorem zSG (ws:List (List UInt8)):∀ (c:Nat × Nat),
  match zDf c ws with
  | none=>(ws.foldl (fun st w=>((zk st.1 w).1,st.2 && (zk st.1 w).2)) (c,true)).2=false
  | some c'=>ws.foldl (fun st w=>((zk st.1 w).1,st.2 && (zk st.1 w).2)) (c,true)=(c',true):=by
 induction ws with
 | nil=>intro c;rfl
 | cons w ws ih=>
  intro c;obtain ⟨h1,h2⟩:=zGP c w;rw [zDf];simp only [List.foldl_cons,Bool.true_and,h1]
  cases hg:zBb w with
  | false=>exact zNQ ws _
  | true=>
   rw [h2 hg];exact ih _
structure zEA (st:RS) (q:QS):Prop where
 cl:st.cl=q.cl
 told:st.told=q.vars.map (·.1)
 kinds:st.kinds=q.vars.map (·.2)
 seen:∀ v,st.seen.testBit v=zCk q.vars v
 used:∀ v:Nat,1≤v→v≤8→st.used.testBit v=inC q.cl v
theorem zPk (vs:List (Nat × Bool)) (x:Nat × Bool) (v:Nat):zCk (vs ++ [x]) v=(zCk vs v || (x.1 == v)):=by
 unfold zCk;rw [List.any_append];simp
theorem zDc (n v:Nat):(2 ^ n).testBit v=(n == v):=by
 rw [Nat.testBit_two_pow];rfl
theorem zNE (a:Bool) (ws:List (List UInt8)):∀ (p:PS),p.ok=false→(ws.foldl (zBG a) p).ok=false:=by
 induction ws with
 | nil=>intro p h;exact h
 | cons w ws ih=>intro p h;refine ih _ ?_;simp [zBG,h]
theorem zSb (a:Bool) (ws:List (List UInt8)):∀ (p:PS) (vs:List (Nat × Bool)),p.ok=true→p.told=vs.map (·.1)→p.kinds=vs.map (·.2)→(∀ v,p.seen.testBit v=zCk vs v)→
  match zBS a vs ws with
  | none=>(ws.foldl (zBG a) p).ok=false
  | some vs'=>(ws.foldl (zBG a) p).ok=true∧(ws.foldl (zBG a) p).told=vs'.map (·.1)∧(ws.foldl (zBG a) p).kinds=vs'.map (·.2)∧∀ v,(ws.foldl (zBG a) p).seen.testBit v=zCk vs' v:=by
 induction ws with
 | nil=>intro p vs h1 h2 h3 h4;exact ⟨h1,h2,h3,h4⟩
 | cons w ws ih=>
  intro p vs h1 h2 h3 h4;obtain ⟨d0,d1⟩:=zB3 w;obtain ⟨dn,hdn⟩:=Int.eq_ofNat_of_zero_le d0;have hvs:=zIg a p w dn hdn;have hb:zFW vs w=decide (dn=0∨p.seen.testBit dn=true):=by
   unfold zFW;rw [hdn,h4];rw [Bool.eq_iff_iff]
   simp
  rw [zBS,List.foldl_cons,hvs,hb]
  by_cases hbad:dn=0∨p.seen.testBit dn=true
  ·rw [if_pos hbad,if_pos (by simpa using hbad)];exact zNE a ws _ rfl
  ·rw [if_neg hbad,if_neg (by simpa using hbad)];have e:(dig w).toNat=dn:=(by rw [hdn];simp);rw [e];refine ih _ _ h1 (by simp [h2]) (by simp [h3]) ?_;intro v;rw [zPk];show (p.seen ||| 2 ^ dn).testBit v=_;rw [Nat.testBit_or,h4,zDc]
theorem zRl (cl:List (Nat × Nat)) (c:Nat × Nat) (v:Nat) (h1:1≤v) (h8:v≤8):inC (cl ++ [c]) v=(inC cl v || (c.1 ||| c.2).testBit v):=by
 unfold inC;rw [List.any_append]
 congr 1
 simp only [List.any_cons,List.any_nil,Bool.or_false];have e:zAD (v:Int)=2 ^ v:=(by unfold zAD;rw [if_pos ⟨by omega,by omega⟩];simp);rw [e,nat_bit,Nat.testBit_eq_decide_div_mod_eq];have hp:0 < 2 ^ v:=Nat.two_pow_pos v
 rcases Nat.mod_two_eq_zero_or_one ((c.1 ||| c.2) / 2 ^ v) with h | h
 ·rw [h];simp
 ·rw [h];simp
theorem zSX:dig []=0:=rfl
theorem zHd (row hd:List UInt8) (tl:List (List UInt8)) (h:zZ 32 row=hd :: tl) (hs:zB4 row=false):hd=[]∨[]∈tl:=by
 unfold zB4 at hs;rw [h,Bool.not_eq_false',List.any_eq_true] at hs;obtain ⟨x,hx,he⟩:=hs
 have:x=[]:=by simpa using he
 subst this;simp at hx
 rcases hx with hx | hx
 ·exact Or.inl hx
 ·exact Or.inr hx
theorem zQj (ws:List (List UInt8)) (h:[]∈ws):∀ c,zDf c ws=none:=by
 induction ws with
 | nil=>simp at h
 | cons w ws ih=>
  intro c;rw [zDf]
  rcases List.mem_cons.1 h with h | h
  ·subst h;rw [if_neg (by decide)]
  ·split
   ·exact ih h _
   ·rfl
theorem zIY (u:Bool) (ws:List (List UInt8)) (h:[]∈ws):∀ vs,zBS u vs ws=none:=by
 induction ws with
 | nil=>simp at h
 | cons w ws ih=>
  intro vs;rw [zBS]
  rcases List.mem_cons.1 h with h | h
  ·subst h;rw [if_pos (by unfold zFW;rw [zSX];rfl)]
  ·split
   ·rfl
   ·exact ih h _
theorem zJQ (st:RS) (q:QS) (hd:List UInt8) (tl:List (List UInt8)) (h:zEA st q) :
  match qOf q hd tl with
  | none=>(zEH st hd tl).2=false
  | some q'=>(zEH st hd tl).2=true∧zEA (zEH st hd tl).1 q':=by
 have hpre:∀ a:Bool,match (zAO q tl a).map (fun vs=>({ q with vars:=vs }:QS)) with
   | none=>st.cl=[]∧tl≠[]→(zAg a st tl).ok=false
   | some q'=>(st.cl=[]∧tl≠[])∧(zAg a st tl).ok=true∧zEA { st with told:=(zAg a st tl).told,kinds:=(zAg a st tl).kinds,seen:=(zAg a st tl).seen } q':=by
  intro a;unfold zAO
  by_cases hc:tl=[]∨q.cl≠[]
  ·rw [if_pos hc];rintro ⟨h1,h2⟩
   rcases hc with hc | hc
   ·exact absurd hc h2
   ·rw [h.cl] at h1;exact absurd h1 hc
  ·rw [if_neg hc];have hc1:tl≠[]:=fun e=>hc (Or.inl e)
   have hc2:st.cl=[]:=by rw [h.cl];exact Classical.byContradiction fun e=>hc (Or.inr e)
   have hv:=zSb a tl ⟨st.told,st.kinds,st.seen,true⟩ q.vars rfl h.told h.kinds h.seen
   cases hp:zBS a q.vars tl with
   | none=>rw [hp] at hv;exact fun _=>hv
   | some vs=>
    rw [hp] at hv;obtain ⟨v1,v2,v3,v4⟩:=hv;exact ⟨⟨hc2,hc1⟩,v1,h.cl,v2,v3,v4,h.used⟩
 unfold qOf
 by_cases he:hd=[101]
 ·subst he;rw [if_pos rfl];have hp:=hpre false;unfold zEH;rw [if_neg (by decide)]
  cases hq:(zAO q tl false).map (fun vs=>({ q with vars:=vs }:QS)) with
  | none=>
   rw [hq] at hp
   by_cases hc:st.cl=[]∧tl≠[]
   ·rw [if_pos ⟨Or.inl rfl,hc.1,hc.2⟩];exact hp hc
   ·rw [if_neg (fun x=>hc ⟨x.2.1,x.2.2⟩)]
  | some q'=>
   rw [hq] at hp;obtain ⟨hc,h1,h2⟩:=hp;rw [if_pos ⟨Or.inl rfl,hc.1,hc.2⟩];exact ⟨h1,h2⟩
 ·rw [if_neg he]
  by_cases ha:hd=[97]
  ·subst ha;rw [if_pos rfl];have hp:=hpre true;unfold zEH;rw [if_neg (by decide)]
   cases hq:(zAO q tl true).map (fun vs=>({ q with vars:=vs }:QS)) with
   | none=>
    rw [hq] at hp
    by_cases hc:st.cl=[]∧tl≠[]
    ·rw [if_pos ⟨Or.inr rfl,hc.1,hc.2⟩];exact hp hc
    ·rw [if_neg (fun x=>hc ⟨x.2.1,x.2.2⟩)]
   | some q'=>
    rw [hq] at hp;obtain ⟨hc,h1,h2⟩:=hp;rw [if_pos ⟨Or.inr rfl,hc.1,hc.2⟩];exact ⟨h1,h2⟩
  ·rw [if_neg ha]
   by_cases hc:hd=[99]
   ·subst hc;rw [if_pos rfl];unfold zEH;rw [if_pos rfl];have hl:=zSG tl (0,0);have hll:=zJU tl
    cases hq:zDf (0,0) tl with
    | none=>rw [hq] at hl;exact hl
    | some c=>
     rw [hq] at hl;have hl':zBF tl=(c,true):=hl;simp only [Option.map_some];rw [hl'];refine ⟨rfl,by simp [h.cl],h.told,h.kinds,h.seen,?_⟩;intro v h1 h8;dsimp only;rw [zRl _ _ _ h1 h8,Nat.testBit_or,Nat.testBit_or,Nat.testBit_or,h.used v h1 h8,Bool.or_assoc]
   ·rw [if_neg hc];unfold zEH;rw [if_neg hc,if_neg (fun x=>by rcases x.1 with h | h;exact he h;exact ha h)]
theorem zRG (st:RS) (q:QS) (row:List UInt8) (h:zEA st q) :
  match zCT q row with
  | none=>(zCF st row).2=false
  | some q'=>(zCF st row).2=true∧zEA (zCF st row).1 q':=by
 obtain ⟨hd,tl,hws⟩:∃ hd tl,zZ 32 row=hd :: tl:=by
  cases h:zZ 32 row with
  | nil=>simp [zZ] at h
  | cons a b=>exact ⟨a,b,rfl⟩
 rw [zE2 st row hd tl hws]
 cases hs:zB4 row with
 | true=>rw [zLl q row hd tl hws hs];exact zJQ st q hd tl h
 | false=>
  have hn:zCT q row=none:=(by unfold zCT;rw [hs];rfl);rw [hn];have hw:=zHd row hd tl hws hs;have hr:=zJQ st q hd tl h;have hq:qOf q hd tl=none:=by
   unfold qOf
   split
   ·next he=>
    rcases hw with hw | hw
    ·rw [hw] at he;cases he
    ·unfold zAO;split;rfl;rw [zIY _ _ hw];rfl
   ·split
    ·next he=>
     rcases hw with hw | hw
     ·rw [hw] at he;cases he
     ·unfold zAO;split;rfl;rw [zIY _ _ hw];rfl
    ·split
     ·next he=>
      rcases hw with hw | hw
      ·rw [hw] at he;cases he
      ·rw [zQj _ hw];rfl
     ·rfl
  rw [hq] at hr;exact hr
theorem zSW (rows:List (List UInt8)):∀ (st:RS) (q:QS) (i:Nat),zEA st q→
  match zD9 q i rows with
  | .inr j=>zAy st i rows=.inr j
  | .inl q'=>∃ st',zAy st i rows=.inl st'∧zEA st' q':=by
 induction rows with
 | nil=>intro st q i h;exact ⟨st,rfl,h⟩
 | cons r rows ih=>
  intro st q i h;have hr:=zRG st q r h;rw [zD9,zAy]
  cases hq:zCT q r with
  | none=>rw [hq] at hr;dsimp only;rw [if_neg (by rw [hr];decide)]
  | some q'=>
   rw [hq] at hr;dsimp only;rw [if_pos hr.1];exact ih _ _ _ hr.2
structure zCf (q:QS):Prop where
 nodup:(q.vars.map (·.1)).Nodup
 names:∀ x∈q.vars,1≤x.1∧x.1≤8
 bits:∀ c∈q.cl,c.1 < 512∧c.2 < 512
 bit0:∀ c∈q.cl,c.1.testBit 0=false∧c.2.testBit 0=false
theorem zIs (x:Int):(zAD x).testBit 0=false:=by
 unfold zAD
 split
 ·next h=>rw [Nat.testBit_two_pow];simp;omega
 ·simp
theorem zKJ (c:Nat × Nat) (x:Int) (h1:c.1.testBit 0=false) (h2:c.2.testBit 0=false):(zQ c x).1.testBit 0=false∧(zQ c x).2.testBit 0=false:=by
 unfold zQ;split
 ·refine ⟨h1,?_⟩;show (c.2 ||| _).testBit 0=false;rw [Nat.testBit_or,h2,zIs];rfl
 ·refine ⟨?_,h2⟩;show (c.1 ||| _).testBit 0=false;rw [Nat.testBit_or,h1,zIs];rfl
theorem zPr (ws:List (List UInt8)):∀ (c c':Nat × Nat),c.1.testBit 0=false→c.2.testBit 0=false→zDf c ws=some c'→c'.1.testBit 0=false∧c'.2.testBit 0=false:=by
 induction ws with
 | nil=>intro c c' h1 h2 h;simp [zDf] at h;subst h;exact ⟨h1,h2⟩
 | cons w ws ih=>
  intro c c' h1 h2 h;rw [zDf] at h
  split at h
  ·have:=zKJ c (zAn w) h1 h2
   exact ih _ _ this.1 this.2 h
  ·cases h
theorem zLL (u:Bool) (ws:List (List UInt8)):∀ (vs vs':List (Nat × Bool)),(vs.map (·.1)).Nodup→(∀ x∈vs,1≤x.1∧x.1≤8)→zBS u vs ws=some vs'→(vs'.map (·.1)).Nodup∧∀ x∈vs',1≤x.1∧x.1≤8:=by
 induction ws with
 | nil=>intro vs vs' h1 h2 h;simp [zBS] at h;subst h;exact ⟨h1,h2⟩
 | cons w ws ih=>
  intro vs vs' h1 h2 h;rw [zBS] at h
  split at h
  ·cases h
  ·next hb=>
   have hb':zFW vs w=false:=(by simpa using hb);unfold zFW at hb';rw [Bool.or_eq_false_iff] at hb';obtain ⟨hd,hv⟩:=hb';have hd':0 < dig w:=(by simpa using hd);have hbd:=zB3 w;refine ih _ _ ?_ ?_ h
   ·rw [List.map_append,List.nodup_append];refine ⟨h1,by simp,?_⟩;intro a ha b hb e;simp at hb;subst hb;subst e;rw [List.mem_map] at ha;obtain ⟨x,hx,hxe⟩:=ha
    have:zCk vs (dig w).toNat=true:=by
     unfold zCk;rw [List.any_eq_true];exact ⟨x,hx,by simpa using hxe⟩
    rw [this] at hv;cases hv
   ·intro x hx
    rcases List.mem_append.1 hx with hx | hx
    ·exact h2 x hx
    ·simp at hx;subst hx;constructor<;>(dsimp only;omega)
theorem zMT {q q':QS} {r:List UInt8} (hq:zCf q) (h:zCT q r=some q'):zCf q':=by
 have hpre:∀ u tl vs,zAO q tl u=some vs→zCf { q with vars:=vs }:=by
  intro u tl vs hv;unfold zAO at hv
  split at hv
  ·cases hv
  ·have:=zLL u tl _ _ hq.nodup hq.names hv
   exact ⟨this.1,this.2,hq.bits,hq.bit0⟩
 unfold zCT at h
 split at h
 ·split at h
  ·cases h
  ·next hd tl hws=>
   unfold qOf at h
   split at h
   ·cases hp:zAO q tl false with
    | none=>rw [hp] at h;cases h
    | some vs=>rw [hp] at h;simp at h;subst h;exact hpre _ _ _ hp
   ·split at h
    ·cases hp:zAO q tl true with
     | none=>rw [hp] at h;cases h
     | some vs=>rw [hp] at h;simp at h;subst h;exact hpre _ _ _ hp
    ·split at h
     ·cases hp:zDf (0,0) tl with
      | none=>rw [hp] at h;cases h
      | some c=>
       rw [hp] at h;simp at h;subst h;refine ⟨hq.nodup,hq.names,?_,?_⟩
       ·intro c' hc';simp at hc'
        rcases hc' with hc' | hc'
        ·exact hq.bits c' hc'
        ·subst hc';exact zN6 tl _ _ (by decide) (by decide) hp
       ·intro c' hc';simp at hc'
        rcases hc' with hc' | hc'
        ·exact hq.bit0 c' hc'
        ·subst hc';exact zPr tl _ _ (by decide) (by decide) hp
     ·cases h
 ·cases h
theorem zM1 (rows:List (List UInt8)):∀ (q q':QS) (i:Nat),zCf q→zD9 q i rows=.inl q'→zCf q':=by
 induction rows with
 | nil=>intro q q' i h e;simp [zD9] at e;subst e;exact h
 | cons r rows ih=>
  intro q q' i h e;rw [zD9] at e
  cases hq:zCT q r with
  | none=>rw [hq] at e;cases e
  | some q1=>rw [hq] at e;exact ih _ _ _ (zMT h hq) e
theorem zSZ (l:List UInt8) :
  match zAb l with
  | .inl a=>zCU l=.inl a
  | .inr q=>∃ st q0,zCU l=.inr (zW st)∧zEA st q0∧q=zK q0∧q0.cl.length≤24∧zCf q0:=by
 unfold zAb zCU
 by_cases hl:2000 < l.length
 ·rw [if_pos hl,if_pos hl]
 ·rw [if_neg hl,if_neg hl];have e1:(zZ 10 l).dropLast=(zU 10 l).1:=(by unfold zZ;simp);have e2:(zZ 10 l).getLast?=some (zU 10 l).2:=(by unfold zZ;simp);have e3:(zZ 10 l).length=(zU 10 l).1.length + 1:=(by unfold zZ;simp);rw [e1,e2,e3];have hr:=zSW (zU 10 l).1 rs0 ⟨[],[]⟩ 0 ⟨rfl,rfl,rfl,fun v=>by simp [rs0,zCk],fun v _ _=>by simp [rs0,inC]⟩
  cases hq:zD9 ⟨[],[]⟩ 0 (zU 10 l).1 with
  | inr j=>rw [hq] at hr;dsimp only;rw [hr]
  | inl q=>
   rw [hq] at hr;obtain ⟨st,h1,h2⟩:=hr;dsimp only;rw [h1];dsimp only
   by_cases hn:(zU 10 l).2=[]
   ·have c1:¬ ((zU 10 l).2≠[]):=fun h=>h hn
    have c2:¬ (some (zU 10 l).2≠some []):=fun h=>h (by rw [hn])
    rw [if_neg c1,if_neg c2,h2.cl]
    by_cases h24:24 < q.cl.length
    ·rw [if_pos h24,if_pos h24]
    ·rw [if_neg h24,if_neg h24];exact ⟨st,q,rfl,h2,rfl,by omega,zM1 _ _ _ _ ⟨by simp,by simp,by simp,by simp⟩ hq⟩
   ·have c2:some (zU 10 l).2≠some []:=fun h=>hn (by simpa using h)
    rw [if_pos hn,if_pos c2]
end Go.Proofs.YtgipjjhkhfihpaaGreatDoor
