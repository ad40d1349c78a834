import Derived.Test.YtgipjjhkhfihpaaGreatDoorAC
import Derived.Test.YtgipjjhkhfihpaaGreatDoorAG
import Derived.Test.YtgipjjhkhfihpaaGreatDoorAD
import Derived.Test.YtgipjjhkhfihpaaGreatDoorAB
import Derived.Test.YtgipjjhkhfihpaaGreatDoorAH
set_option maxRecDepth 100000
set_option maxHeartbeats 6400000
namespace Go.Proofs.YtgipjjhkhfihpaaGreatDoor
theorem zQ8 (l:List (Nat × Bool)):∀ (a v:Nat),(l.foldl (fun a x=>if x.2 then a ||| 2 ^ x.1 else a) a).testBit v=(a.testBit v || l.any (fun x=>x.2 && x.1 == v)):=by
 induction l with
 | nil=>intro a v;simp
 | cons x l ih=>
  intro a v;rw [List.foldl_cons,ih,List.any_cons]
  cases x.2 with
  | false=>simp
  | true=>
   rw [if_pos rfl,Nat.testBit_or,zDc,Bool.or_assoc];simp
theorem zSg (l:List (Nat × Bool)):(l.map (·.1)).zip (l.map (·.2))=l:=by
 induction l with
 | nil=>rfl
 | cons x l ih=>simp [ih]
theorem zSe {st:RS} {q:QS} (h:zEA st q) (v:Nat):(zW st).all.testBit v=q.vars.any (fun x=>x.2 && x.1 == v):=by
 show (zDE st st.told.length).testBit v=_;unfold zDE;rw [h.told,h.kinds,zSg,List.length_map,List.take_length,zQ8]
 simp
theorem zNC (l:List (Nat × Bool)) (hn:(l.map (·.1)).Nodup) (x:Nat × Bool) (hx:x∈l):l.any (fun y=>y.2 && y.1 == x.1)=x.2:=by
 induction l with
 | nil=>simp at hx
 | cons y l ih=>
  rw [List.map_cons,List.nodup_cons] at hn;rw [List.any_cons]
  rcases List.mem_cons.1 hx with e | hx
  ·subst e
   have:l.any (fun y=>y.2 && y.1 == x.1)=false:=by
    rw [List.any_eq_false];intro z hz hh;simp at hh;exact hn.1 (by rw [← hh.2];exact List.mem_map_of_mem hz)
   rw [this];simp
  ·rw [ih hn.2 hx]
   have:(y.1 == x.1)=false:=by
    rw [beq_eq_false_iff_ne];intro e;exact hn.1 (by rw [e];exact List.mem_map_of_mem hx)
   rw [this];simp
theorem zOF {st:RS} {q:QS} (h:zEA st q):zB0 st 8=zA6 q 8:=by
 unfold zB0 zA6
 apply List.filter_congr
 intro v hv;rw [List.mem_map] at hv;obtain ⟨u,hu,rfl⟩:=hv
 have:u < 8:=by simpa using hu
 rw [h.used (u + 1) (by omega) (by omega),h.seen,Bool.and_comm]
theorem zDv {st:RS} {q:QS} (h:zEA st q):(zW st).order=(zK q).vars.map (·.1):=by
 show zB0 st 8 ++ st.told=(exv (zA6 q 8) ++ q.vars).map (·.1);rw [zOF h,h.told,List.map_append]
 congr 1
 simp [exv,Function.comp_def]
theorem zIm {st:RS} {q:QS} (h:zEA st q) (hn:zCf q):∀ x∈(zK q).vars,(zW st).all.testBit x.1=x.2:=by
 intro x hx;rw [zSe h]
 rcases List.mem_append.1 (show x∈exv (zA6 q 8) ++ q.vars from hx) with hx | hx
 ·unfold exv at hx;rw [List.mem_map] at hx;obtain ⟨v,hv,rfl⟩:=hx;unfold zA6 at hv;rw [List.mem_filter,Bool.and_eq_true,Bool.not_eq_true'] at hv;have hh:=hv.2.1;dsimp only;rw [List.any_eq_false];intro z hz hzz;simp at hzz
  have:zCk q.vars v=true:=by unfold zCk;rw [List.any_eq_true];exact ⟨z,hz,by simpa using hzz.2⟩
  rw [hh] at this;cases this
 ·exact zNC _ hn.nodup x hx
theorem zCR {st:RS} {q:QS} (h:zEA st q) (hn:zCf q):(zW st).ends=zBR (zK q).vars:=by
 have:=zRy (zK q).vars (zW st).all (zIm h hn)
 rw [← this];show zDS (zW st).order (zW st).all (zW st).order.length=_;rw [zDv h,List.length_map]
theorem zCV (vs:List (Nat × Bool)):(zG vs).length=(zBR vs).length:=by rw [zFu];simp
theorem zRL:∀ (n:Nat) (l:List Nat),l.Nodup→(∀ x∈l,x < n)→l.length≤n:=by
 intro n
 induction n with
 | zero=>
  intro l _ h
  cases l with
  | nil=>simp
  | cons x l=>exact absurd (h x (by simp)) (by omega)
 | succ n ih=>
  intro l hn h;have h1:=ih (l.erase n) (hn.erase n) (by
   intro x hx;rw [hn.mem_erase_iff] at hx
   have:=h x hx.2;omega)
  rw [List.length_erase] at h1
  split at h1<;>omega
theorem zQn (l:List Nat) (hn:l.Nodup) (hb:∀ x∈l,1≤x∧x≤8):l.length≤8:=by
 have h:=zRL 9 (0 :: l) (by
  rw [List.nodup_cons];exact ⟨fun h=>by have:=hb 0 h;omega,hn⟩) (by
  intro x hx
  rcases List.mem_cons.1 hx with rfl | hx
  ·omega
  ·have:=hb x hx;omega)
 simpa using h
theorem zHC {q:QS} (hn:zCf q):((zK q).vars.map (·.1)).Nodup∧∀ x∈(zK q).vars,1≤x.1∧x.1≤8:=by
 show ((exv (zA6 q 8) ++ q.vars).map (·.1)).Nodup∧∀ x∈exv (zA6 q 8) ++ q.vars,1≤x.1∧x.1≤8;have e:(exv (zA6 q 8)).map (·.1)=zA6 q 8:=(by simp [exv,Function.comp_def]);have hmem:∀ v∈zA6 q 8,(1≤v∧v≤8)∧zCk q.vars v=false:=by
  intro v hv;unfold zA6 at hv;rw [List.mem_filter,Bool.and_eq_true,Bool.not_eq_true',List.mem_map] at hv;obtain ⟨⟨u,hu,rfl⟩,hh,_⟩:=hv
  have:u < 8:=by simpa using hu
  exact ⟨by omega,hh⟩
 constructor
 ·rw [List.map_append,e,List.nodup_append];refine ⟨?_,hn.nodup,?_⟩
  ·unfold zA6;refine List.Pairwise.filter _ ?_;rw [List.pairwise_map];exact List.pairwise_lt_range.imp (fun h=>by omega)
  ·intro a ha b hb e;subst e;rw [List.mem_map] at hb;obtain ⟨x,hx,hxe⟩:=hb
   have:zCk q.vars a=true:=by unfold zCk;rw [List.any_eq_true];exact ⟨x,hx,by simpa using hxe⟩
   rw [(hmem a ha).2] at this;cases this
 ·intro x hx
  rcases List.mem_append.1 hx with hx | hx
  ·unfold exv at hx;rw [List.mem_map] at hx;obtain ⟨v,hv,rfl⟩:=hx;exact (hmem v hv).1
  ·exact hn.names x hx
theorem zCp {q:QS} (hn:zCf q):(zK q).vars.length≤8:=by
 have h:=zHC hn
 have:=zQn _ h.1 (by
  intro x hx;rw [List.mem_map] at hx;obtain ⟨y,hy,rfl⟩:=hx;exact h.2 y hy)
 simpa using this
theorem zMP (vs:List (Nat × Bool)) (k:Nat):(zAE vs k).Pairwise (· < ·):=by
 unfold zAE;exact List.Pairwise.filter _ List.pairwise_lt_range
theorem zLK (vs:List (Nat × Bool)):(zBR vs).Pairwise (· < ·):=by
 unfold zBR
 split
 ·rw [List.pairwise_append];refine ⟨zMP _ _,by simp,?_⟩;intro a ha b hb;simp at hb;subst hb;exact (zG0 vs _ a ha).2
 ·simp
theorem zRq (vs:List (Nat × Bool)):∀ x∈zBR vs,0 < x∧x≤vs.length:=by
 unfold zBR
 split
 ·intro x hx
  rcases List.mem_append.1 hx with hx | hx
  ·have:=zG0 vs _ x hx;omega
  ·simp at hx;omega
 ·simp
theorem zGt (vs:List (Nat × Bool)):(zBR vs).length≤vs.length:=by
 unfold zBR
 split
 ·next h=>
  have hc:(zAE vs vs.length).length≤vs.length - 1:=by
   obtain ⟨n,hn⟩:∃ n,vs.length=n + 1:=⟨vs.length - 1,by omega⟩;rw [hn];unfold zAE;rw [show List.range (n + 1)=0 :: (List.range n).map (· + 1) from List.range_succ_eq_map,List.filter_cons,if_neg (by simp [zDN])];refine Nat.le_trans (List.length_filter_le _ _) ?_
   simp
  simp;omega
 ·simp
theorem zLd (vs:List (Nat × Bool)) (k:Nat) (h:k < (zBR vs).length):zAq (zBR vs) k≤(zBR vs).getD k 0:=by
 unfold zAq
 split
 ·have hs:=zLK vs;rw [List.pairwise_iff_getElem] at hs
  have:=hs (k - 1) k (by omega) h (by omega)
  simp only [List.getD,List.getElem?_eq_getElem h,List.getElem?_eq_getElem (show k - 1 < (zBR vs).length by omega),Option.getD_some];omega
 ·omega
theorem zQY (vs:List (Nat × Bool)) (k:Nat) (h:k < (zBR vs).length):(zBR vs).getD k 0≤vs.length:=by
 simp only [List.getD,List.getElem?_eq_getElem h,Option.getD_some];exact (zRq vs _ (List.getElem_mem h)).2
end Go.Proofs.YtgipjjhkhfihpaaGreatDoor
namespace Go.Proofs.YtgipjjhkhfihpaaGreatDoor
open Go.RowKit
theorem zJ6 (a v:Nat) (ha:a < 512) (hv:v≤8):(bits .and .i64 ((a:Int) / 2 ^ v) 1 == 0)=!a.testBit v:=by
 rw [zHz a v ha hv];cases a.testBit v<;>rfl
theorem zEn {w:World} {o:Obj} {n:Nat} (h:n=w.heap.size):(w.alloc o).heap[n]?=some o:=by subst h;exact heap_alloc_new w o
theorem zGy (a v:Nat) (ha:a < 512) (hv:v≤8):bits .andNot .i64 (a:Int) (wrap64 (2 ^ v))=((zb a (2 ^ v):Nat):Int):=by
 have h:=zH0 (v:Int) (by omega) (by omega);rw [Int.toNat_natCast] at h;have hp:=zD2 v hv;rw [h];exact zBJ _ _ (by omega) (by omega)
theorem zMG (order:List Nat) (kind:Nat) (c:Nat × Nat) (k v:Nat) (h:k < order.length) (hv:order[k]=v):zAS order kind c (k + 1)=if zGX c v && !kind.testBit v then k + 1 else zAS order kind c k:=by
 rw [zAS]
 have:order.getD k 0=v:=by rw [List.getD,List.getElem?_eq_getElem h,hv];rfl
 rw [this]
theorem zKh (order:List Nat) (kind:Nat) (c:Nat × Nat) (k:Nat):zAS order kind c k≤k:=by
 induction k with
 | zero=>exact Nat.le_refl _
 | succ k ih=>rw [zAS];split<;>omega
def zFq (order:List Nat) (kind m:Nat) (c:Nat × Nat) (j:Nat):Nat × Nat:=((order.drop m).take j).foldl (clr kind) c
theorem zMb (order:List Nat) (kind m:Nat) (c:Nat × Nat) (j v:Nat) (h:m + j < order.length) (hv:order[m + j]=v):zFq order kind m c (j + 1)=clr kind (zFq order kind m c j) v:=by
 unfold zFq;have hj:j < (order.drop m).length:=(by simp;omega);rw [List.take_succ_eq_append_getElem hj,List.foldl_append,List.getElem_drop,hv];rfl
theorem zQz (order:List Nat) (kind m:Nat) (c:Nat × Nat) (j:Nat) (h:Bd c):Bd (zFq order kind m c j):=zN4 kind _ c h
theorem zOO (order:List Nat) (kind:Nat) (c:Nat × Nat) (j:Nat) (h:zAS order kind c order.length + j=order.length):zFq order kind (zAS order kind c order.length) c j=zHu order kind c:=by
 unfold zFq zHu;rw [List.take_of_length_le (by simp;omega)]
theorem zHq (lo b p0 n0 kind:Nat) (F:zv) (w:World) (hR:RefAt lo w b F) (hl:F.order.length≤8) (hnm:∀ v∈F.order,v≤8) (hk:kind < 512) (hp0:p0 < 512) (hn0:n0 < 512) :
  Calls Tryz.prog 107 #[.pointer (some ⟨b,0,none⟩),.agg #[.int .i64 (p0:Int),.int .i64 (n0:Int)],.int .i64 kind] w fun e w'=>
   e=.returned (.agg #[.int .i64 ((zHu F.order kind (p0,n0)).1:Int),.int .i64 ((zHu F.order kind (p0,n0)).2:Int)])∧Below w.heap.size w w':=by
 obtain ⟨_,vO,vE,vC,hfb,hO,_,_⟩:=hR;obtain ⟨aO,cO,rfl⟩:=zN hO;have hbw:=zB hfb;have k0:w.cell? ⟨b,0,none⟩=some (.slice aO F.order.length cO):=zE hfb rfl;have HNM:=zF hnm;clear hnm;have hor:bits .or .i64 (p0:Int) (n0:Int)=((p0 ||| n0:Nat):Int):=zCK _ _ (by omega) (by omega);have hol:=zBD p0 n0 hp0 hn0
 go_enter Tryz.func107,Tryz.ntmps107
 go_wp2_with fail
 go_loopg [7,8] F.order.length (fun m la i wx=>∃ k:Nat,i=.int .i64 k∧la=.int .i64 ((zAS F.order kind (p0,n0) k:Int) - 1)∧k + m=F.order.length∧Below w.heap.size w wx∧wx.heap[w.heap.size]?=some (.cells #[.int .i64 p0,.int .i64 n0] 121 (0,0))∧wx.heap[w.heap.size + 1]?=some (.cells #[.int .i64 0,.int .i64 0] 121 (0,0)))
 case atStart=>exact ⟨0,rfl,rfl,by omega,((Below.refl _ _).alloc (Nat.le_refl _) _).alloc (by simp) _,by rw [heap_alloc_old _ _ (by simp)];exact heap_alloc_new _ _,zEn (by simp)⟩
 case round=>
  obtain ⟨k,rfl,rfl,hkm,hb,hc,hr⟩:=hrel;have hbs:=zB hr;have c0:wr.cell? ⟨w.heap.size,0,none⟩=some (.int .i64 p0):=zE hc rfl;have c1:wr.cell? ⟨w.heap.size,1,none⟩=some (.int .i64 n0):=zE hc rfl;have x0:wr.cell? ⟨b,0,none⟩=some (.slice aO F.order.length cO):=(by rw [hb.cell (p:=⟨b,0,none⟩) hbw];exact k0);have hlb:=zKh F.order kind (p0,n0) k
  by_cases hlt:k < F.order.length
  ·obtain ⟨g,cap,hV,hg,hg',_,hcell⟩:=zS hO (by omega);injection hV with hV _ hV2;subst hV hV2;have hx:wr.cell? ⟨g,k,none⟩=some (.int .i64 (F.order[k]:Int)):=(by rw [hb.cell (p:=⟨g,k,none⟩) hg'];exact hcell _ _ (zH1 _ _ hlt));have hv8:=zA HNM _ (List.getElem_mem hlt);have HS:=zF (zMG F.order kind (p0,n0) k F.order[k] hlt rfl);clear hcell;generalize F.order[k]=v at *;generalize zAS F.order kind (p0,n0) k=la at *;have e1:=zCx (p0 ||| n0) v hol hv8;have e2:=zJ6 kind v hk hv8;have HB:Hid (zGX (p0,n0) v=(p0 ||| n0).testBit v):=zF rfl
   cases h1:(p0 ||| n0).testBit v with
   | false=>
    rw [h1] at e1;have HL:Hid (zAS F.order kind (p0,n0) (k + 1)=la):=zF (by rw [zA HS,zA HB,h1];rfl);go_wp2_with fail
    go_roundg (gk - 1)
    case measure=>omega
    case rel=>exact ⟨k + 1,by go_num,by rw [zA HL],by omega,hb,hc,hr⟩
   | true=>
    rw [h1] at e1
    cases h2:kind.testBit v with
    | false=>
     rw [h2] at e2;have HL:Hid (zAS F.order kind (p0,n0) (k + 1)=k + 1):=zF (by rw [zA HS,zA HB,h1,h2];rfl);go_wp2_with fail
     go_roundg (gk - 1)
     case measure=>omega
     case rel=>exact ⟨k + 1,by go_num,by rw [zA HL];exact congrArg (Value.int .i64) (by omega),by omega,hb,hc,hr⟩
    | true=>
     rw [h2] at e2;have HL:Hid (zAS F.order kind (p0,n0) (k + 1)=la):=zF (by rw [zA HS,zA HB,h1,h2];rfl);go_wp2_with fail
     go_roundg (gk - 1)
     case measure=>omega
     case rel=>exact ⟨k + 1,by go_num,by rw [zA HL],by omega,hb,hc,hr⟩
  ·have hkl:k=F.order.length:=(by omega);subst hkl;have HE:=zF (zOO F.order kind (p0,n0));have HT:=zF (zMb F.order kind (zAS F.order kind (p0,n0) F.order.length) (p0,n0));have HBD:=zF (fun j=>zQz F.order kind (zAS F.order kind (p0,n0) F.order.length) (p0,n0) j ⟨hp0,hn0⟩);have HR0:Hid (zFq F.order kind (zAS F.order kind (p0,n0) F.order.length) (p0,n0) 0=(p0,n0)):=zF rfl;generalize zAS F.order kind (p0,n0) F.order.length=m at *;obtain ⟨wo,rfl⟩:∃ wo,wo=wr:=⟨_,rfl⟩;go_wp2_with fail
   go_loopg [10] F.order.length (fun q i wx=>∃ (j p n:Nat),i=.int .i64 ((m + j:Nat):Int)∧m + j + q=F.order.length + m∧m + j≤F.order.length∧zFq F.order kind m (p0,n0) j=(p,n)∧Below w.heap.size w wx∧wx.heap[w.heap.size]?=some (.cells #[.int .i64 p,.int .i64 n] 121 (0,0))∧wx.heap[w.heap.size + 1]?=some (.cells #[.int .i64 0,.int .i64 0] 121 (0,0)))
   case atStart=>exact ⟨0,p0,n0,by go_num,by omega,by omega,zA HR0,hb,hc,hr⟩
   case round=>
    obtain ⟨j,p,n,rfl,hjq,hjl,hred,hb2,hc2,hr2⟩:=hrel;have hbd:=zA HBD j;rw [hred] at hbd;have HRED:=zF hred;clear hred;have hbs2:=zB hr2;have hbs3:w.heap.size < wr.heap.size:=(by omega);have c20:wr.cell? ⟨w.heap.size,0,none⟩=some (.int .i64 p):=zE hc2 rfl;have c21:wr.cell? ⟨w.heap.size,1,none⟩=some (.int .i64 n):=zE hc2 rfl;have r20:wr.cell? ⟨w.heap.size + 1,0,none⟩=some (.int .i64 0):=zE hr2 rfl;have r21:wr.cell? ⟨w.heap.size + 1,1,none⟩=some (.int .i64 0):=zE hr2 rfl;have z0:=zD hc2 0;have z1:=zD hc2 1;have y0:=zD hr2 0;have y1:=zD hr2 1;have x20:wr.cell? ⟨b,0,none⟩=some (.slice aO F.order.length cO):=(by rw [hb2.cell (p:=⟨b,0,none⟩) hbw];exact k0);have hp9:p < 512:=hbd.1;have hn9:n < 512:=hbd.2;clear hbd
    by_cases hlt2:m + j < F.order.length
    ·obtain ⟨g,cap,hV,hg,hg',_,hcell⟩:=zS hO (by omega);injection hV with hV _ hV2;subst hV hV2;have hx:wr.cell? ⟨g,m + j,none⟩=some (.int .i64 (F.order[m + j]:Int)):=(by rw [hb2.cell (p:=⟨g,m + j,none⟩) hg'];exact hcell _ _ (zH1 _ _ hlt2));have hv8:=zA HNM _ (List.getElem_mem hlt2);have HS:=zF (zA HT j F.order[m + j] hlt2 rfl);clear hcell;generalize F.order[m + j]=v at *;have e2:=zCx kind v hk hv8;have l1:=zGy p v hp9 hv8;have l2:=zGy n v hn9 hv8
     cases h2:kind.testBit v with
     | false=>
      rw [h2] at e2;have HL:Hid (zFq F.order kind m (p0,n0) (j + 1)=(p,n)):=zF (by rw [zA HS,zA HRED];unfold clr;rw [h2];rfl);go_wp2_with fail
      go_roundg (gk - 1)
      case measure=>omega
      case rel=>exact ⟨j + 1,p,n,by go_num,by omega,by omega,zA HL,hb2,hc2,hr2⟩
     | true=>
      rw [h2] at e2;have HL:Hid (zFq F.order kind m (p0,n0) (j + 1)=(zb p (2 ^ v),zb n (2 ^ v))):=zF (by rw [zA HS,zA HRED];unfold clr;rw [h2];rfl);go_wp2_with fail
      go_region
      all_goals go_wp2_with fail
      all_goals go_region
      all_goals go_wp2_with fail
      go_roundg (gk - 1)
      case measure=>omega
      case rel=>
       refine ⟨j + 1,zb p (2 ^ v),zb n (2 ^ v),by go_num,by omega,by omega,zA HL,(((hb2.setCell (p:=⟨w.heap.size,0,none⟩) (Nat.le_refl _) _).setCell (p:=⟨w.heap.size,1,none⟩) (Nat.le_refl _) _).drew).drew,zI (zI hc2 0 _) 1 _,?_⟩;show ((wr.setCell ⟨w.heap.size,0,none⟩ (.int .i64 (zb p (2 ^ v):Nat))).setCell ⟨w.heap.size,1,none⟩ (.int .i64 (zb n (2 ^ v):Nat))).heap[w.heap.size + 1]?=_;rw [Below.heap_setCell _ _ _ _ (by simp),Below.heap_setCell _ _ _ _ (by simp)];exact hr2
    ·have HF:Hid (zHu F.order kind (p0,n0)=(p,n)):=zF (by rw [← zA HE j (by omega)];exact zA HRED);have hR:=zI (zI hr2 0 (.int .i64 p)) 1 (.int .i64 n);have j0:=zC hR 0;have j1:=zC hR 1;go_wp2_with fail;refine bodyPost_ret (v:=.agg #[.int .i64 p,.int .i64 n]) (by simp [results,Tryz.results107,go_sem,j0,j1]) rfl ⟨by rw [zA HF],?_⟩;exact (hb2.setCell (p:=⟨w.heap.size + 1,0,none⟩) (Nat.le_succ _) _).setCell (p:=⟨w.heap.size + 1,1,none⟩) (Nat.le_succ _) _
theorem zOm (cl:List (Nat × Nat)) (c:Nat × Nat) (k:Nat) (h:k < cl.length):zFm (cl.take (k + 1)) c=(zFm (cl.take k) c && !zEO cl[k] c):=by
 unfold zFm;rw [List.take_succ_eq_append_getElem h,List.all_append];simp
theorem zR4 (cl:List (Nat × Nat)) (c:Nat × Nat) (k:Nat) (h:k < cl.length) (hc:zEO cl[k] c=true):zFm cl c=false:=by
 unfold zFm;rw [List.all_eq_false];exact ⟨cl[k],List.getElem_mem h,by rw [hc];decide⟩
def RStPost (res:Option (Nat × Nat)) (w:World) (e:Ending) (w':World):Prop:=
 Below w.heap.size w w'∧∃ (c:Nat × Nat) (ok:Bool),e=.returned (.tuple #[.agg #[.int .i64 (c.1:Int),.int .i64 (c.2:Int)],.bool ok])∧((ok=true∧res=some c)∨(ok=false∧res=none))
theorem RStPost.none_ {res:Option (Nat × Nat)} {w w':World} {e:Ending} (hb:Below w.heap.size w w') (h:res=none) (c:Nat × Nat) (he:e=.returned (.tuple #[.agg #[.int .i64 (c.1:Int),.int .i64 (c.2:Int)],.bool false])):RStPost res w e w':=
 ⟨hb,c,false,he,Or.inr ⟨rfl,h⟩⟩
theorem RStPost.some_ {res:Option (Nat × Nat)} {w w':World} {e:Ending} (hb:Below w.heap.size w w') (c:Nat × Nat) (h:res=some c) (he:e=.returned (.tuple #[.agg #[.int .i64 (c.1:Int),.int .i64 (c.2:Int)],.bool true])):RStPost res w e w':=
 ⟨hb,c,true,he,Or.inl ⟨rfl,h⟩⟩
structure FW (F:zv):Prop where
 len:F.order.length≤8
 names:∀ v∈F.order,v≤8
 cl:F.cl.length≤24
 bits:∀ c∈F.cl,c.1 < 512∧c.2 < 512
 all:F.all < 512
theorem zR7 (c:Nat × Nat) (x:List UInt8):(zk c x).2=true→zAL x=if dig x=0 then (dig x.tail).toNat else (dig x).toNat:=fun _=>rfl
theorem zQa (c:Nat × Nat) (x:List UInt8):(zk c x).2=true→dig x=0→∃ r,x=45 :: r∧0 < dig r:=by
 intro h h0;unfold zk at h
 split at h
 ·next r=>exact ⟨r,rfl,of_decide_eq_true h⟩
 ·have:0 < dig x:=of_decide_eq_true h
  omega
theorem zRe (lo b:Nat) (F:zv) (ws:List (List UInt8)) (ao:Option Addr) (cap:Nat) (w:World) (hR:RefAt lo w b F) (hF:FW F) (hs:StrsAt w ao ws) (hl:ws.length≤1048576) (hws:∀ x∈ws,x.length≤1048576) :
  Calls Tryz.prog 106 #[.pointer (some ⟨b,0,none⟩),.slice ao ws.length cap] w fun e w'=>RStPost (zDH F ws) w e w':=by
 have hR0:=hR;obtain ⟨_,vO,vE,vC,hfb,_,_,hC⟩:=hR;obtain ⟨aC,cC,rfl⟩:=zN hC;have hbw:=zB hfb;have k3:w.cell? ⟨b,3,none⟩=some (.slice aC F.cl.length cC):=zE hfb rfl;have HWS:=zF hws;clear hws;have HSP:Hid (zDH F ws=(zAe F.order (0,0) 0 ws).bind (fun c=>if zFm F.cl c then some c else none)):=zF rfl
 go_enter Tryz.func106,Tryz.ntmps106
 go_wp2_with fail
 go_loopg [7,8] ws.length (fun m la i wx=>∃ (j p n last:Nat),i=.int .i64 j∧la=.int .i64 last∧j + m=ws.length∧p < 512∧n < 512∧last≤8∧zAe F.order (0,0) 0 ws=zAe F.order (p,n) last (ws.drop j)∧Below w.heap.size w wx∧
   wx.heap[w.heap.size]?=some (.cells #[.int .i64 0,.int .i64 0] 121 (0,0))∧wx.heap[w.heap.size + 1]?=some (.cells #[.int .i64 p,.int .i64 n] 121 (0,0)))
 case atStart=>exact ⟨0,0,0,0,rfl,rfl,by omega,by omega,by omega,by omega,rfl,((Below.refl _ _).alloc (Nat.le_refl _) _).alloc (by simp) _,by rw [heap_alloc_old _ _ (by simp)];exact heap_alloc_new _ _,zEn (by simp)⟩
 case round=>
  obtain ⟨j,p,n,last,rfl,rfl,hj,hp,hn,hla,hto,hb,hres,hcub⟩:=hrel;have hbs:=zB hcub;have hbs0:w.heap.size < wr.heap.size:=(by omega);have hbw1:b < wr.heap.size:=(by omega);have r0:wr.cell? ⟨w.heap.size,0,none⟩=some (.int .i64 0):=zE hres rfl;have r1:wr.cell? ⟨w.heap.size,1,none⟩=some (.int .i64 0):=zE hres rfl;have z0:=zD hres 0;have z1:=zD hres 1;have c0:wr.cell? ⟨w.heap.size + 1,0,none⟩=some (.int .i64 p):=zE hcub rfl;have c1:wr.cell? ⟨w.heap.size + 1,1,none⟩=some (.int .i64 n):=zE hcub rfl
  by_cases hlt:j < ws.length
  ·obtain ⟨g,off,cur,rfl,hg,hcur⟩:=hs (by intro e;subst e;simp at hlt);have hgw:=zB hg;have hgw1:g < wr.heap.size:=(by omega);have hcj:wr.cell? ⟨g,off + j,none⟩=some (S ws[j]):=by
    rw [hb.cell (p:=⟨g,off + j,none⟩) hgw,zC hg];exact hcur j hlt
   have HCJ:Hid (∀ wx:World,Below w.heap.size w wx→wx.cell? ⟨g,off + j,none⟩=some (S ws[j])):=zF (fun wx hx=>by
    rw [hx.cell (p:=⟨g,off + j,none⟩) hgw,zC hg];exact hcur j hlt)
   have hwl:=zA HWS _ (List.getElem_mem hlt);rw [List.drop_eq_getElem_cons hlt,zAe] at hto;have HTO:=zF hto;clear hto hcur;generalize ws[j]=x at *;go_wp2_with fail;refine (zHr x (w.heap.size + 1) p n wr hcub hp hn).mono ?_;rintro e w1 ⟨rfl,hcub1,ho1⟩;have hlt2:=zF4 (p,n) x hp hn;have HFO:=zF (zR7 (p,n) x);have HDT:=zF (zQa (p,n) x);have hB1:Below w.heap.size w w1:=hb.trans (ho1.below hb.size (fun k hk h=>by omega));have hres1:w1.heap[w.heap.size]?=some (.cells #[.int .i64 0,.int .i64 0] 121 (0,0)):=(ho1.block _ hbs0 (by omega)).trans hres;have HX1:=zF (zA HCJ w1 hB1);have hx1:=zA HX1;generalize (zk (p,n) x).1=c' at *;obtain ⟨p',n'⟩:=c';dsimp only at *;go_wp2_with fail;refine (zDr x w1).mono ?_;rintro e w2 ⟨rfl,hb2⟩;have hB2:Below w.heap.size w w2:=hB1.trans (hb2.mono hB1.size);have hres2:=zH hb2 hres1;have hcub2:=zH hb2 hcub1;have hx2:=zA HCJ w2 hB2;have r20:w2.cell? ⟨w.heap.size,0,none⟩=some (.int .i64 0):=zE hres2 rfl;have r21:w2.cell? ⟨w.heap.size,1,none⟩=some (.int .i64 0):=zE hres2 rfl;have z20:=zD hres2 0;have z21:=zD hres2 1;have c20:w2.cell? ⟨w.heap.size + 1,0,none⟩=some (.int .i64 p'):=zE hcub2 rfl;have c21:w2.cell? ⟨w.heap.size + 1,1,none⟩=some (.int .i64 n'):=zE hcub2 rfl;obtain ⟨d0,d1⟩:=zB3 x;obtain ⟨dn,hdn⟩:=Int.eq_ofNat_of_zero_le d0;rw [hdn];have hdn8:dn≤8:=(by omega);have HDN:=zF hdn;clear hdn d0 d1
   cases hok:(zk (p,n) x).2 with
   | false=>
    have HF:Hid (zDH F ws=none):=zF (by rw [zA HSP,zA HTO,if_neg (fun h=>by rw [hok] at h;cases h.1)];rfl);go_wp2_with fail;refine (zHM lo b dn F w2 (hR0.later hB2) hF.len).mono ?_;rintro e w4 ⟨⟨pl,rfl,_⟩,hw4⟩;subst hw4;have hRm:=zI (zI hres2 0 (.int .i64 p')) 1 (.int .i64 n');have jm0:=zC hRm 0;have jm1:=zC hRm 1;go_wp2_with fail;refine bodyPost_ret (v:=.tuple #[.agg #[.int .i64 p',.int .i64 n'],.bool false]) (by simp [results,Tryz.results106,go_sem,jm0,jm1]) rfl (RStPost.none_ ?_ (zA HF) (p',n') rfl);exact (hB2.setCell (p:=⟨w.heap.size,0,none⟩) (Nat.le_refl _) _).setCell (p:=⟨w.heap.size,1,none⟩) (Nat.le_refl _) _
   | true=>
    have HOK:=zF hok
    by_cases hdz:dn=0
    ·have hdb:((dn:Int) == 0)=true:=(by rw [beq_iff_eq];omega);obtain ⟨r,hxr,hdr⟩:=zA HDT hok (by rw [zA HDN];omega);have hxr2:1≤x.length:=(by rw [hxr];simp);obtain ⟨f0,f1⟩:=zB3 r;obtain ⟨vn,hvn⟩:=Int.eq_ofNat_of_zero_le f0;have hvn8:vn≤8:=(by omega);have HLV:Hid (zAL x=vn):=zF (by rw [zA HFO hok,zA HDN,if_pos (by omega),hxr];show (dig r).toNat=vn;rw [hvn];rfl);have HEX:Hid (List.take (x.length - 1) (List.drop 1 x)=r):=zF (by rw [hxr];simp);have HVN:=zF hvn;clear hxr hdr hvn f0 f1 hok hdz;go_wp2_with fail;rw [zAu,zA HEX];refine (zDr r w2).mono ?_;rintro e w3 ⟨rfl,hb3⟩;rw [zA HVN];have hB3:Below w.heap.size w w3:=hB2.trans (hb3.mono hB2.size);have hres3:=zH hb3 hres2;have hcub3:=zH hb3 hcub2;have r30:w3.cell? ⟨w.heap.size,0,none⟩=some (.int .i64 0):=zE hres3 rfl;have r31:w3.cell? ⟨w.heap.size,1,none⟩=some (.int .i64 0):=zE hres3 rfl;have z30:=zD hres3 0;have z31:=zD hres3 1;have c30:w3.cell? ⟨w.heap.size + 1,0,none⟩=some (.int .i64 p'):=zE hcub3 rfl;have c31:w3.cell? ⟨w.heap.size + 1,1,none⟩=some (.int .i64 n'):=zE hcub3 rfl;have HIF:Hid (zAe F.order (0,0) 0 ws=if last < vn∧vn∈F.order then zAe F.order (p',n') vn (ws.drop (j + 1)) else none):=zF (by
      rw [zA HTO,zA HLV]
      by_cases hcnd:last < vn∧vn∈F.order
      ·rw [if_pos ⟨zA HOK,hcnd.1,hcnd.2⟩,if_pos hcnd]
      ·rw [if_neg (fun h=>hcnd h.2),if_neg hcnd])
     go_wp2_with fail;refine (zHM lo b vn F w3 (hR0.later hB3) hF.len).mono ?_;rintro e w4 ⟨⟨pl,rfl,hpl⟩,hw4⟩;subst hw4
     by_cases hle:vn≤last
     ·have hdl:decide (vn≤last)=true:=(by simp;omega);have HF:Hid (zDH F ws=none):=zF (by rw [zA HSP,zA HIF,if_neg (by omega)];rfl);clear hle;have hRm:=zI (zI hres3 0 (.int .i64 p')) 1 (.int .i64 n');have jm0:=zC hRm 0;have jm1:=zC hRm 1;go_wp2_with fail;refine bodyPost_ret (v:=.tuple #[.agg #[.int .i64 p',.int .i64 n'],.bool false]) (by simp [results,Tryz.results106,go_sem,jm0,jm1]) rfl (RStPost.none_ ?_ (zA HF) (p',n') rfl);exact (hB3.setCell (p:=⟨w.heap.size,0,none⟩) (Nat.le_refl _) _).setCell (p:=⟨w.heap.size,1,none⟩) (Nat.le_refl _) _
     ·have hdl:decide (vn≤last)=false:=by simp;omega
      by_cases hmem:vn∈F.order
      ·have hpl2:decide (pl < 0)=false:=(by rw [hpl];simp [hmem]);have HF:Hid (zAe F.order (0,0) 0 ws=zAe F.order (p',n') vn (ws.drop (j + 1))):=zF (by rw [zA HIF,if_pos ⟨by omega,hmem⟩]);clear hle hmem hpl;go_wp2_with fail
       go_roundg (gk - 1)
       case measure=>omega
       case rel=>exact ⟨j + 1,p',n',vn,by go_num,rfl,by omega,hlt2.1,hlt2.2,by omega,zA HF,hB3,hres3,hcub3⟩
      ·have hpl2:decide (pl < 0)=true:=(by rw [hpl];simp [hmem]);have HF:Hid (zDH F ws=none):=zF (by rw [zA HSP,zA HIF,if_neg (fun h=>hmem h.2)];rfl);clear hle hmem hpl;have hRm:=zI (zI hres3 0 (.int .i64 p')) 1 (.int .i64 n');have jm0:=zC hRm 0;have jm1:=zC hRm 1;go_wp2_with fail;refine bodyPost_ret (v:=.tuple #[.agg #[.int .i64 p',.int .i64 n'],.bool false]) (by simp [results,Tryz.results106,go_sem,jm0,jm1]) rfl (RStPost.none_ ?_ (zA HF) (p',n') rfl);exact (hB3.setCell (p:=⟨w.heap.size,0,none⟩) (Nat.le_refl _) _).setCell (p:=⟨w.heap.size,1,none⟩) (Nat.le_refl _) _
    ·have hdb:((dn:Int) == 0)=false:=(by rw [beq_eq_false_iff_ne];omega);have HLV:Hid (zAL x=dn):=zF (by rw [zA HFO hok,zA HDN,if_neg (by omega)];rfl);clear hok hdz;have HIF:Hid (zAe F.order (0,0) 0 ws=if last < dn∧dn∈F.order then zAe F.order (p',n') dn (ws.drop (j + 1)) else none):=zF (by
      rw [zA HTO,zA HLV]
      by_cases hcnd:last < dn∧dn∈F.order
      ·rw [if_pos ⟨zA HOK,hcnd.1,hcnd.2⟩,if_pos hcnd]
      ·rw [if_neg (fun h=>hcnd h.2),if_neg hcnd])
     go_wp2_with fail;refine (zHM lo b dn F w2 (hR0.later hB2) hF.len).mono ?_;rintro e w4 ⟨⟨pl,rfl,hpl⟩,hw4⟩;subst hw4
     by_cases hle:dn≤last
     ·have hdl:decide (dn≤last)=true:=(by simp;omega);have HF:Hid (zDH F ws=none):=zF (by rw [zA HSP,zA HIF,if_neg (by omega)];rfl);clear hle;have hRm:=zI (zI hres2 0 (.int .i64 p')) 1 (.int .i64 n');have jm0:=zC hRm 0;have jm1:=zC hRm 1;go_wp2_with fail;refine bodyPost_ret (v:=.tuple #[.agg #[.int .i64 p',.int .i64 n'],.bool false]) (by simp [results,Tryz.results106,go_sem,jm0,jm1]) rfl (RStPost.none_ ?_ (zA HF) (p',n') rfl);exact (hB2.setCell (p:=⟨w.heap.size,0,none⟩) (Nat.le_refl _) _).setCell (p:=⟨w.heap.size,1,none⟩) (Nat.le_refl _) _
     ·have hdl:decide (dn≤last)=false:=by simp;omega
      by_cases hmem:dn∈F.order
      ·have hpl2:decide (pl < 0)=false:=(by rw [hpl];simp [hmem]);have HF:Hid (zAe F.order (0,0) 0 ws=zAe F.order (p',n') dn (ws.drop (j + 1))):=zF (by rw [zA HIF,if_pos ⟨by omega,hmem⟩]);clear hle hmem hpl;go_wp2_with fail
       go_roundg (gk - 1)
       case measure=>omega
       case rel=>exact ⟨j + 1,p',n',dn,by go_num,rfl,by omega,hlt2.1,hlt2.2,by omega,zA HF,hB2,hres2,hcub2⟩
      ·have hpl2:decide (pl < 0)=true:=(by rw [hpl];simp [hmem]);have HF:Hid (zDH F ws=none):=zF (by rw [zA HSP,zA HIF,if_neg (fun h=>hmem h.2)];rfl);clear hle hmem hpl;have hRm:=zI (zI hres2 0 (.int .i64 p')) 1 (.int .i64 n');have jm0:=zC hRm 0;have jm1:=zC hRm 1;go_wp2_with fail;refine bodyPost_ret (v:=.tuple #[.agg #[.int .i64 p',.int .i64 n'],.bool false]) (by simp [results,Tryz.results106,go_sem,jm0,jm1]) rfl (RStPost.none_ ?_ (zA HF) (p',n') rfl);exact (hB2.setCell (p:=⟨w.heap.size,0,none⟩) (Nat.le_refl _) _).setCell (p:=⟨w.heap.size,1,none⟩) (Nat.le_refl _) _
  ·have hjl:j=ws.length:=(by omega);subst hjl;rw [List.drop_length] at hto;have HTO:Hid (zDH F ws=if zFm F.cl (p,n) then some (p,n) else none):=zF (by rw [zA HSP,hto];rfl);clear hto;have HBITS:=zF hF.bits;have hcl24:=hF.cl;have x3:wr.cell? ⟨b,3,none⟩=some (.slice aC F.cl.length cC):=(by rw [hb.cell (p:=⟨b,3,none⟩) hbw];exact k3);obtain ⟨wo,rfl⟩:∃ wo,wo=wr:=⟨_,rfl⟩;go_wp2_with fail
   go_loopg [12] F.cl.length (fun q i wx=>∃ k:Nat,i=.int .i64 k∧k + q=F.cl.length∧zFm (F.cl.take k) (p,n)=true∧Below w.heap.size w wx∧
    wx.heap[w.heap.size]?=some (.cells #[.int .i64 0,.int .i64 0] 121 (0,0))∧wx.heap[w.heap.size + 1]?=some (.cells #[.int .i64 p,.int .i64 n] 121 (0,0)))
   case atStart=>exact ⟨0,rfl,by omega,rfl,hb,hres,hcub⟩
   case round=>
    obtain ⟨k,rfl,hk,hsat,hb2,hres2,hcub2⟩:=hrel;have HSAT:=zF hsat;clear hsat;have hbs2:=zB hcub2;have hbs20:w.heap.size < wr.heap.size:=(by omega);have hbw2:b < wr.heap.size:=(by omega);have y3:wr.cell? ⟨b,3,none⟩=some (.slice aC F.cl.length cC):=(by rw [hb2.cell (p:=⟨b,3,none⟩) hbw];exact k3);have r20:wr.cell? ⟨w.heap.size,0,none⟩=some (.int .i64 0):=zE hres2 rfl;have r21:wr.cell? ⟨w.heap.size,1,none⟩=some (.int .i64 0):=zE hres2 rfl;have z20:=zD hres2 0;have z21:=zD hres2 1;have c20:wr.cell? ⟨w.heap.size + 1,0,none⟩=some (.int .i64 p):=zE hcub2 rfl;have c21:wr.cell? ⟨w.heap.size + 1,1,none⟩=some (.int .i64 n):=zE hcub2 rfl
    by_cases hlt2:k < F.cl.length
    ·obtain ⟨g,cap2,hV,hg,hg',_,hcell⟩:=zS hC (by omega);injection hV with hV _ hV2;subst hV hV2;have hgw:g < wr.heap.size:=(by omega);obtain ⟨ha,hb'⟩:=zAc F.cl k hlt2;have hx0:wr.cell? ⟨g,k * 2,none⟩=some (.int .i64 (F.cl[k].1:Int)):=(by rw [hb2.cell (p:=⟨g,k * 2,none⟩) hg'];exact hcell _ _ ha);have hx1:wr.cell? ⟨g,k * 2 + 1,none⟩=some (.int .i64 (F.cl[k].2:Int)):=(by rw [hb2.cell (p:=⟨g,k * 2 + 1,none⟩) hg'];exact hcell _ _ hb');have HT:=zF (zOm F.cl (p,n) k hlt2);have HO:=zF (zR4 F.cl (p,n) k hlt2);obtain ⟨hb1,hb2x⟩:=zA HBITS _ (List.getElem_mem hlt2);clear hcell ha hb';generalize F.cl[k]=c at *;obtain ⟨xp,xn⟩:=c;dsimp only at hx0 hx1 hb1 hb2x;have h1:(bits .and .i64 (xp:Int) (xn:Int) == 0)=(xp &&& xn == 0):=(by rw [zBN _ _ (by omega) (by omega),zAN]);have h2:(bits .and .i64 (xp:Int) (p:Int) == 0)=(xp &&& p == 0):=(by rw [zBN _ _ (by omega) (by omega),zAN]);have h3:(bits .and .i64 (xn:Int) (n:Int) == 0)=(xn &&& n == 0):=(by rw [zBN _ _ (by omega) (by omega),zAN]);have HM:Hid (zEO (xp,xn) (p,n)=((xp &&& xn == 0) && ((xp &&& p == 0) && (xn &&& n == 0)))):=zF rfl;have hA:=hb2.alloc (Nat.le_of_lt hbs20) (.cells #[.int .i64 (xp:Int),.int .i64 (xn:Int)] 121);have hres3:=(heap_alloc_old wr (.cells #[.int .i64 (xp:Int),.int .i64 (xn:Int)] 121) hbs20).trans hres2;have hcub3:=(heap_alloc_old wr (.cells #[.int .i64 (xp:Int),.int .i64 (xn:Int)] 121) hbs2).trans hcub2
     cases e1:(xp &&& xn == 0) with
     | false=>
      rw [e1] at h1;have HM1:Hid (zEO (xp,xn) (p,n)=false):=zF (by rw [zA HM,e1];rfl);clear e1;go_wp2_with fail
      go_roundg (gk - 1)
      case measure=>omega
      case rel=>exact ⟨k + 1,by go_num,by omega,by rw [zA HT,zA HSAT,zA HM1];rfl,hA,hres3,hcub3⟩
     | true=>
      rw [e1] at h1
      cases e2:(xp &&& p == 0) with
      | false=>
       rw [e2] at h2;have HM1:Hid (zEO (xp,xn) (p,n)=false):=zF (by rw [zA HM,e1,e2];rfl);clear e1 e2;go_wp2_with fail
       go_roundg (gk - 1)
       case measure=>omega
       case rel=>exact ⟨k + 1,by go_num,by omega,by rw [zA HT,zA HSAT,zA HM1];rfl,hA,hres3,hcub3⟩
      | true=>
       rw [e2] at h2
       cases e3:(xn &&& n == 0) with
       | false=>
        rw [e3] at h3;have HM1:Hid (zEO (xp,xn) (p,n)=false):=zF (by rw [zA HM,e1,e2,e3];rfl);clear e1 e2 e3;go_wp2_with fail
        go_roundg (gk - 1)
        case measure=>omega
        case rel=>exact ⟨k + 1,by go_num,by omega,by rw [zA HT,zA HSAT,zA HM1];rfl,hA,hres3,hcub3⟩
       | true=>
        rw [e3] at h3;have HF:Hid (zDH F ws=none):=zF (by rw [zA HTO,zA HO (by rw [zA HM,e1,e2,e3];rfl)];rfl);clear e1 e2 e3;have hR:=zI (zI hres2 0 (.int .i64 p)) 1 (.int .i64 n);have hR':=(heap_alloc_old _ (.cells #[.int .i64 (xp:Int),.int .i64 (xn:Int)] 121) (zB hR)).trans hR;have j0:=zC hR' 0;have j1:=zC hR' 1;go_wp2_with fail;refine bodyPost_ret (v:=.tuple #[.agg #[.int .i64 p,.int .i64 n],.bool false]) (by simp [results,Tryz.results106,go_sem,j0,j1]) rfl (RStPost.none_ ?_ (zA HF) (p,n) rfl);exact ((hb2.setCell (p:=⟨w.heap.size,0,none⟩) (Nat.le_refl _) _).setCell (p:=⟨w.heap.size,1,none⟩) (Nat.le_refl _) _).alloc (by simp [World.setCell];omega) _
    ·have hkl:k=F.cl.length:=(by omega);have HF:Hid (zDH F ws=some (p,n)):=zF (by
      have:=zA HSAT
      rw [hkl,List.take_length] at this;rw [zA HTO,this];rfl)
     have hR:=zI (zI hres2 0 (.int .i64 p)) 1 (.int .i64 n);have j0:=zC hR 0;have j1:=zC hR 1;go_wp2_with fail;refine bodyPost_ret (v:=.tuple #[.agg #[.int .i64 p,.int .i64 n],.bool true]) (by simp [results,Tryz.results106,go_sem,j0,j1]) rfl (RStPost.some_ ?_ (p,n) (zA HF) rfl);exact (hb2.setCell (p:=⟨w.heap.size,0,none⟩) (Nat.le_refl _) _).setCell (p:=⟨w.heap.size,1,none⟩) (Nat.le_refl _) _
theorem zQl (x c:Nat × Nat):okC x c=!zEO x c:=by
 unfold okC zEO;have e:((x.1 &&& c.1) ||| (x.2 &&& c.2) != 0)=!((x.1 &&& c.1 == 0) && (x.2 &&& c.2 == 0)):=by
  have:(x.1 &&& c.1) ||| (x.2 &&& c.2)=0↔(x.1 &&& c.1=0∧x.2 &&& c.2=0):=by
   constructor
   ·intro h
    constructor
    ·apply Nat.eq_of_testBit_eq;intro i
     have:((x.1 &&& c.1) ||| (x.2 &&& c.2)).testBit i=false:=by rw [h];simp
     rw [Nat.testBit_or,Bool.or_eq_false_iff] at this;rw [this.1];simp
    ·apply Nat.eq_of_testBit_eq;intro i
     have:((x.1 &&& c.1) ||| (x.2 &&& c.2)).testBit i=false:=by rw [h];simp
     rw [Nat.testBit_or,Bool.or_eq_false_iff] at this;rw [this.2];simp
   ·rintro ⟨h1,h2⟩;rw [h1,h2];rfl
  rw [Bool.eq_iff_iff,bne_iff_ne,Bool.not_eq_true',Bool.and_eq_false_iff,beq_eq_false_iff_ne,beq_eq_false_iff_ne,ne_eq,this,Classical.not_and_iff_not_or_not]
 rw [e]
 cases h1:(x.1 &&& x.2 == 0)<;>cases h2:(x.1 &&& c.1 == 0)<;>cases h3:(x.2 &&& c.2 == 0)<;>simp [bne,h1]
theorem zLk (st:RS) (h:∀ v∈st.told,v≤8) (k:Nat):zDE st k < 512:=by
 unfold zDE;have hz:∀ x∈((st.told.zip st.kinds).take k),x.1≤8:=fun x hx=>h _ (List.of_mem_zip (List.mem_of_mem_take hx)).1
 suffices hh:∀ (l:List (Nat × Bool)) (a:Nat),a < 512→(∀ x∈l,x.1≤8)→l.foldl (fun a x=>if x.2 then a ||| 2 ^ x.1 else a) a < 512 from hh _ 0 (by omega) hz
 intro l
 induction l with
 | nil=>intro a ha _;exact ha
 | cons x l ih=>
  intro a ha hx;rw [List.foldl_cons]
  apply ih
  ·split
   ·have:=zD2 x.1 (hx x (by simp))
    exact zBD _ _ ha (by omega)
   ·exact ha
  ·exact fun y hy=>hx y (by simp [hy])
theorem zNy (a v:Nat) (h:a < 512) (hv:a.testBit v=true):v≤8:=by
 apply Classical.byContradiction
 intro hn
 have:a.testBit v=false:=Nat.testBit_lt_two_pow (Nat.lt_of_lt_of_le (show a < 2 ^ 9 from h) (Nat.pow_le_pow_right (by omega) (by omega)))
 rw [this] at hv;cases hv
theorem zLP {st:RS} {q0:QS} (hs:zEA st q0) (hn:zCf q0) (hc:q0.cl.length≤24):FQ (zW st) (zK q0)∧FOk (zW st)∧FW (zW st):=by
 have ho:=zDv hs;have hna:=zHC hn;have hk:=zIm hs hn;have hcl:(zW st).cl=q0.cl:=hs.cl;have hbits:∀ c∈q0.cl,Bd c:=hn.bits;have hlen:=zCp hn;have hv:∀ c∈q0.cl,∀ v,c.1.testBit v=true∨c.2.testBit v=true→v∈(zW st).order:=by
  intro c hcm v hb;have h8:v≤8:=by
   rcases hb with hb | hb
   ·exact zNy _ _ (hn.bits c hcm).1 hb
   ·exact zNy _ _ (hn.bits c hcm).2 hb
  have h1:1≤v:=by
   rcases Nat.eq_zero_or_pos v with e | e
   ·subst e
    have:=hn.bit0 c hcm
    rcases hb with hb | hb
    ·rw [this.1] at hb;cases hb
    ·rw [this.2] at hb;cases hb
   ·exact e
  show v∈zB0 st 8 ++ st.told;rw [List.mem_append]
  by_cases hsv:zCk q0.vars v=true
  ·right
   rw [hs.told,List.mem_map];unfold zCk at hsv;rw [List.any_eq_true] at hsv;obtain ⟨x,hx,he⟩:=hsv;exact ⟨x,hx,by simpa using he⟩
  ·left
   rw [zOF hs];unfold zA6;rw [List.mem_filter];refine ⟨List.mem_map.2 ⟨v - 1,by simp;omega,by omega⟩,?_⟩;rw [Bool.and_eq_true];refine ⟨by simpa using hsv,?_⟩;unfold inC;rw [List.any_eq_true];refine ⟨c,hcm,?_⟩;rw [zB8 v h1 h8,zCy,Nat.testBit_or,Bool.or_eq_true];exact hb
 have hnm:∀ v∈(zW st).order,1≤v∧v≤8:=by
  intro v hvv;rw [ho,List.mem_map] at hvv;obtain ⟨x,hx,rfl⟩:=hvv;exact hna.2 x hx
 have htold:∀ v∈st.told,v≤8:=by
  intro v hvv;rw [hs.told,List.mem_map] at hvv;obtain ⟨x,hx,rfl⟩:=hvv;exact (hn.names x hx).2
 refine ⟨⟨ho,hk,hna.1,hna.2,hcl,hc,hbits,hv⟩,⟨by rw [ho];exact hna.1,hnm,by rw [hcl];exact hbits,by rw [hcl];exact hv⟩,⟨by rw [ho];simpa using hlen,fun v h=>(hnm v h).2,by rw [hcl];exact hc,by rw [hcl];exact hn.bits,zLk st htold _⟩⟩
theorem zQN {q0:QS} (hn:zCf q0) (hc:q0.cl.length≤24):QB (zK q0):=⟨zCp hn,hc,hn.bits,(zHC hn).2⟩
theorem zFF (ss:List (Nat × Nat)) (w:List UInt8) (hs:ss.length≤9000):zDA ss w=if cnt w big < 1∨ss.length < cnt w big then none else some (ss.getD (cnt w big - 1) (0,0)):=by
 unfold zDA;rw [zJ8 w ss.length (by omega)]
 by_cases h:cnt w big < 1∨ss.length < cnt w big
 ·rw [if_pos h,if_neg (by omega)];rfl
 ·rw [if_neg h,if_pos (by omega)];have hlt:cnt w big - 1 < ss.length:=(by omega);simp only [Option.bind_some];rw [List.getElem?_eq_getElem hlt,zDG _ _ _ hlt]
theorem zRH {F:zv} {q:QS} (h:FQ F q) (x:List UInt8):zCb q 1 [x]=axR F (cnt x big):=by
 unfold zCb axR;rw [if_pos rfl,h.cl];dsimp only;rw [zJ8 x q.cl.length (by have:=h.clen;omega)]
 by_cases hb:cnt x big < 1∨q.cl.length < cnt x big
 ·rw [if_pos hb,if_neg (by omega)];rfl
 ·rw [if_neg hb,if_pos (by omega)];have hlt:cnt x big - 1 < q.cl.length:=(by omega);simp only [Option.bind_some];rw [List.getElem?_eq_getElem hlt,zDG _ _ _ hlt];simp only [Option.bind_some];unfold zBt
  by_cases hz:q.cl[cnt x big - 1].1 &&& q.cl[cnt x big - 1].2=0
  ·rw [if_pos hz,if_neg (by simp [hz])]
  ·rw [if_neg hz,if_pos (by simpa using hz)]
theorem zOn {F:zv} {q:QS} (h:FQ F q) (hF:FOk F) (truth:Bool) (ss:List (Nat × Nat)) (hs:ss.length≤9000) (x:List UInt8):zDJ q (kd truth) ss [x]=zCv F truth ss (cnt x big):=by
 unfold zDJ zCv;dsimp only;rw [zFF ss x hs]
 by_cases hb:cnt x big < 1∨ss.length < cnt x big
 ·rw [if_pos hb,if_pos hb];rfl
 ·rw [if_neg hb,if_neg hb];simp only [Option.map_some];rw [zOE h hF truth]
theorem zRK {F:zv} {q:QS} (h:FQ F q) (truth:Bool) (z:List UInt8):zGE q (kd truth) z=if 1≤cnt z big∧cnt z big≤8∧cnt z big∈F.order∧F.all.testBit (cnt z big)=truth then some (cnt z big) else none:=by
 have hd:=zN8 z;rw [zJ8 z 8 (by omega)] at hd;unfold zGE;have hbd:=zB3 z
 by_cases h0:dig z=0
 ·rw [if_pos h0] at hd;rw [if_neg (by omega),if_neg];rintro ⟨h1,h2,_⟩;rw [if_pos ⟨h1,h2⟩] at hd;cases hd
 ·rw [if_neg h0] at hd;have hc:1≤cnt z big∧cnt z big≤8:=by
   apply Classical.byContradiction
   intro hn;rw [if_neg hn] at hd;cases hd
  rw [if_pos hc] at hd;have he:cnt z big=(dig z).toNat:=Option.some.inj hd;rw [if_pos (by omega),← he]
  rcases zLr h (cnt z big) with ⟨x,h1,h2,h3,h4⟩ | ⟨h1,h2⟩
  ·rw [h1];simp only [Option.bind_some];have hk:=h.kinds x h3;rw [h2] at hk;have hp:zAl (kd truth) x.2=(F.all.testBit (cnt z big) == truth):=by
    rw [hk];unfold zAl kd;cases truth<;>cases x.2<;>rfl
   rw [hp]
   by_cases hb:F.all.testBit (cnt z big)=truth
   ·rw [if_pos (by simpa using hb),if_pos ⟨hc.1,hc.2,h4,hb⟩]
   ·rw [if_neg (by simpa using hb),if_neg (fun hh=>hb hh.2.2.2)]
  ·rw [h1,if_neg (fun hh=>h2 hh.2.2.1)];rfl
theorem zQB {F:zv} (a b:Nat × Nat) (v:Nat) (h1:1≤v) (h8:v≤8) (sa:SI F a) (sb:SI F b):zEX a b v=if a.1.testBit v=false∨b.2.testBit v=false then none else zBt (zCL a b v):=by
 by_cases ha:a.1.testBit v=true
 ·by_cases hb:b.2.testBit v=true
  ·have e:zi a b v=zCL a b v:=by
    have na:a.2.testBit v=false:=by
     cases hh:a.2.testBit v with
     | false=>rfl
     | true=>exact (zD6 sa.apart v ha hh).elim
    have nb:b.1.testBit v=false:=by
     cases hh:b.1.testBit v with
     | false=>rfl
     | true=>exact (zD6 sb.apart v hh hb).elim
    unfold zi zAV zCL;rw [zB8 v h1 h8]
    apply zGh
    ·intro u;show (zb (a.1 ||| b.1) (2 ^ v)).testBit u=(zb a.1 (2 ^ v) ||| b.1).testBit u;rw [zn,Nat.testBit_or,Nat.testBit_or,zn,Nat.testBit_two_pow]
     by_cases e:v=u
     ·subst e;simp [nb]
     ·simp [e]
    ·intro u;show (zb (a.2 ||| b.2) (2 ^ v)).testBit u=(a.2 ||| zb b.2 (2 ^ v)).testBit u;rw [zn,Nat.testBit_or,Nat.testBit_or,zn,Nat.testBit_two_pow]
     by_cases e:v=u
     ·subst e;simp [na]
     ·simp [e]
   have e1:zEX a b v=(if (zi a b v).1 &&& (zi a b v).2 != 0 then none else some (zi a b v)):=by
    unfold zEX;rw [zF8 a v h1 h8,zGD b v h1 h8,if_pos ⟨ha,hb⟩]
   rw [e1,e,if_neg (show ¬ (a.1.testBit v=false∨b.2.testBit v=false) by rw [ha,hb];simp)];unfold zBt
   by_cases hz2:(zCL a b v).1 &&& (zCL a b v).2=0
   ·rw [if_pos hz2,if_neg (by simp [hz2])]
   ·rw [if_neg hz2,if_pos (by simpa using hz2)]
  ·have hb':b.2.testBit v=false:=(by simpa using hb);rw [if_pos (Or.inr hb')];unfold zEX;rw [zGD b v h1 h8,if_neg (fun hh=>hb hh.2)]
 ·have ha':a.1.testBit v=false:=(by simpa using ha);rw [if_pos (Or.inl ha')];unfold zEX;rw [zF8 a v h1 h8,if_neg (fun hh=>ha hh.1)]
theorem zSq {F:zv} {q:QS} (h:FQ F q) (truth:Bool) (ss:List (Nat × Nat)) (hs:ss.length≤9000) (hSI:∀ c∈ss,SI F c) (x y z:List UInt8):zE9 q (kd truth) ss [x,y,z]=zF7 F truth ss (cnt x big) (cnt y big) (cnt z big):=by
 have LQ:zE9 q (kd truth) ss [x,y,z]=(zDA ss x).bind fun a=>(zDA ss y).bind fun b=>(zGE q (kd truth) z).bind fun v=>zEX a b v:=rfl
 have RN:(cnt x big < 1∨ss.length < cnt x big∨cnt y big < 1∨ss.length < cnt y big∨cnt z big < 1∨8 < cnt z big)→zF7 F truth ss (cnt x big) (cnt y big) (cnt z big)=none:=fun hh=>by unfold zF7;rw [if_pos hh]
 rw [LQ]
 by_cases hx:cnt x big < 1∨ss.length < cnt x big
 ·rw [zFF ss x hs,if_pos hx,RN (by omega)];rfl
 ·rw [zFF ss x hs,if_neg hx,Option.bind_some]
  by_cases hy:cnt y big < 1∨ss.length < cnt y big
  ·rw [zFF ss y hs,if_pos hy,RN (by omega)];rfl
  ·rw [zFF ss y hs,if_neg hy,Option.bind_some]
   by_cases hz:cnt z big < 1∨8 < cnt z big
   ·rw [zRK h truth z,if_neg (by omega),RN (by omega)];rfl
   ·have h1:1≤cnt z big:=(by omega);have h8:cnt z big≤8:=(by omega);have ia:cnt x big - 1 < ss.length:=(by omega);have ib:cnt y big - 1 < ss.length:=(by omega);have hR:zF7 F truth ss (cnt x big) (cnt y big) (cnt z big)=if F.all.testBit (cnt z big)≠truth∨ss[cnt x big - 1].1.testBit (cnt z big)=false∨ss[cnt y big - 1].2.testBit (cnt z big)=false then none else zBt (zCL ss[cnt x big - 1] ss[cnt y big - 1] (cnt z big)):=by
     unfold zF7;rw [if_neg (by omega),zDG _ _ _ ia,zDG _ _ _ ib]
    rw [hR,zDG _ _ _ ia,zDG _ _ _ ib,zRK h truth z];have sa:=hSI _ (List.getElem_mem ia);have sb:=hSI _ (List.getElem_mem ib);clear RN LQ hR;generalize ss[cnt x big - 1]=a at *;generalize ss[cnt y big - 1]=b at *;generalize cnt z big=v at *
    by_cases hk:F.all.testBit v=truth
    ·by_cases hm:v∈F.order
     ·have hc:(1≤v∧v≤8∧v∈F.order∧F.all.testBit v=truth):=⟨h1,h8,hm,hk⟩;rw [if_pos hc,Option.bind_some,zQB a b v h1 h8 sa sb]
      by_cases hh:a.1.testBit v=false∨b.2.testBit v=false
      ·rw [if_pos hh,if_pos (Or.inr hh)]
      ·rw [if_neg hh,if_neg (by rintro (h' | h');exact h' hk;exact hh h')]
     ·have hc:¬ (1≤v∧v≤8∧v∈F.order∧F.all.testBit v=truth):=fun hh=>hm hh.2.2.1
      have ha:a.1.testBit v=false:=by
       cases hh:a.1.testBit v with
       | false=>rfl
       | true=>exact absurd (sa.vars v (Or.inl hh)) hm
      rw [if_neg hc,if_pos (Or.inr (Or.inl ha))];rfl
    ·have hc:¬ (1≤v∧v≤8∧v∈F.order∧F.all.testBit v=truth):=fun hh=>hk hh.2.2.2
     rw [if_neg hc,if_pos (Or.inl hk)];rfl
theorem zSv (c:Nat × Nat) (w:List UInt8):(zk c w).2=zBb w∧(zBb w=true→(zk c w).1=zQ c (zAn w)∧(zAn w).natAbs=zAL w):=by
 obtain ⟨h1,h2⟩:=zGP c w;refine ⟨h1,fun hg=>⟨h2 hg,?_⟩⟩;unfold zBb at hg;unfold zAn zAL
 by_cases hh:w.head?=some 45
 ·rw [if_pos hh] at hg ⊢;have hd:0 < dig w.tail:=of_decide_eq_true hg;have h0:dig w=0:=by
   cases w with
   | nil=>simp at hh
   | cons a r=>
    simp at hh;subst hh
    cases r with
    | nil=>rfl
    | cons b r=>rfl
  rw [if_pos h0];omega
 ·rw [if_neg hh] at hg ⊢;have hd:0 < dig w:=of_decide_eq_true hg;rw [if_neg (by omega)];omega
theorem zSE {F:zv} {q:QS} (h:FQ F q) (ws:List (List UInt8)):∀ (c:Nat × Nat) (last:Nat),zFJ q.vars c last ws=zAe F.order c last ws:=by
 induction ws with
 | nil=>intro c last;rfl
 | cons w ws ih=>
  intro c last;obtain ⟨h1,h2⟩:=zSv c w;rw [zFJ,zAe,h1]
  cases hg:zBb w with
  | false=>rw [if_neg (by decide),if_neg (fun hh=>by cases hh.1)]
  | true=>
   obtain ⟨h3,h4⟩:=h2 hg;rw [if_pos rfl,h4,h3]
   rcases zLr h (zAL w) with ⟨x,f1,f2,f3,f4⟩ | ⟨f1,f2⟩
   ·rw [f1];dsimp only;rw [f2]
    by_cases hle:zAL w≤last
    ·rw [if_pos hle,if_neg (fun hh=>by have:=hh.2.1;omega)]
    ·rw [if_neg hle,if_pos ⟨rfl,by omega,f4⟩,ih]
   ·rw [f1];dsimp only;rw [if_neg (fun hh=>f2 hh.2.2)]
theorem zLa {F:zv} {q:QS} (h:FQ F q) (ws:List (List UInt8)):zAt q 2 ws=zDH F ws:=by
 unfold zAt zDH;rw [if_pos rfl,zSE h,h.cl]
 congr 1
 funext c
 have:zCD q.cl c=zFm q.cl c:=by
  unfold zCD zFm
  congr 1
  funext x
  exact zQl x c
 rw [this]
theorem zSV {F:zv} {q:QS} (h:FQ F q) (hF:FOk F) (truth:Bool) (ss:List (Nat × Nat)) (hs:ss.length≤9000) (hSI:∀ c∈ss,SI F c) (hd:List UInt8) (tl:List (List UInt8)):zFX q (kd truth) ss hd tl=zo F truth ss hd tl:=by
 unfold zFX
 by_cases ha:hd=[97]
 ·subst ha;rw [if_pos rfl]
  cases truth with
  | true=>
   have e1:zo F true ss [97] tl=none:=rfl;rw [e1];rfl
  | false=>
   by_cases hl:tl.length=1
   ·obtain ⟨x,rfl⟩:=List.length_eq_one_iff.1 hl;exact zRH h x
   ·have e1:zo F false ss [97] tl=none:=(by unfold zo;rw [if_neg (fun h=>hl h.2.2),if_neg (by simp),if_neg (by simp),if_neg (by simp)]);rw [e1];unfold zCb
    split
    ·split
     ·simp at hl
     ·rfl
    ·rfl
 ·rw [if_neg ha]
  by_cases hc:hd=[99]
  ·subst hc;rw [if_pos rfl]
   cases truth with
   | false=>
    have e1:zo F false ss [99] tl=none:=rfl;rw [e1];rfl
   | true=>
    have e1:zo F true ss [99] tl=zDH F tl:=rfl;rw [e1];exact zLa h tl
  ·rw [if_neg hc]
   by_cases hr:hd=[114]
   ·subst hr;rw [if_pos rfl]
    by_cases hl:tl.length=3
    ·obtain ⟨x,y,z,rfl⟩:=zG8 hl;rw [zSq h truth ss hs hSI];unfold zo;rw [if_neg (by simp),if_neg (by simp),if_pos ⟨rfl,rfl⟩];rfl
    ·have e1:zo F truth ss [114] tl=none:=(by unfold zo;rw [if_neg (by simp),if_neg (by simp),if_neg (fun h=>hl h.2),if_neg (by simp)]);rw [e1];unfold zE9
     split
     ·simp at hl
     ·rfl
   ·rw [if_neg hr]
    by_cases hdd:hd=[100]
    ·subst hdd;rw [if_pos rfl]
     by_cases hl:tl.length=1
     ·obtain ⟨x,rfl⟩:=List.length_eq_one_iff.1 hl;rw [zOn h hF truth ss hs];unfold zo;rw [if_neg (by simp),if_neg (by simp),if_neg (by simp),if_pos ⟨rfl,rfl⟩];rfl
     ·have e1:zo F truth ss [100] tl=none:=(by unfold zo;rw [if_neg (by simp),if_neg (by simp),if_neg (by simp),if_neg (fun h=>hl h.2)]);rw [e1];unfold zDJ
      split
      ·simp at hl
      ·rfl
    ·rw [if_neg hdd];unfold zo;rw [if_neg (fun h=>ha h.1),if_neg (fun h=>hc h.1),if_neg (fun h=>hr h.1),if_neg (fun h=>hdd h.1)]
theorem zGJ:cnt [] big=0:=rfl
theorem zMn (order:List Nat) (ws:List (List UInt8)) (h:[]∈ws):∀ c last,zAe order c last ws=none:=by
 induction ws with
 | nil=>simp at h
 | cons w ws ih=>
  intro c last;rw [zAe]
  rcases List.mem_cons.1 h with h | h
  ·subst h;rw [if_neg];rintro ⟨h1,_⟩;cases h1
  ·split
   ·exact ih h _ _
   ·rfl
theorem zQS (F:zv) (truth:Bool) (ss:List (Nat × Nat)) (hd:List UInt8) (tl:List (List UInt8)) (h:hd=[]∨[]∈tl):zo F truth ss hd tl=none:=by
 rcases h with h | h
 ·subst h;unfold zo;rw [if_neg (by simp),if_neg (by simp),if_neg (by simp),if_neg (by simp)]
 ·unfold zo
  split
  ·next hc=>
   obtain ⟨x,rfl⟩:=List.length_eq_one_iff.1 hc.2.2;have hx:x=[]:=(by simpa using h);subst hx;show axR F (cnt [] big)=none;rw [zGJ];rfl
  ·split
   ·unfold zDH;rw [zMn _ _ h];rfl
   ·split
    ·next hc=>
     obtain ⟨x,y,z,rfl⟩:=zG8 hc.2;show zF7 F truth ss (cnt x big) (cnt y big) (cnt z big)=none;unfold zF7;rw [if_pos];simp at h
     rcases h with h | h | h
     ·left;rw [h,zGJ];omega
     ·right;right;left;rw [h,zGJ];omega
     ·right;right;right;right;left;rw [h,zGJ];omega
    ·split
     ·next hc=>
      obtain ⟨x,rfl⟩:=List.length_eq_one_iff.1 hc.2;have hx:x=[]:=(by simpa using h);subst hx;show zCv F truth ss (cnt [] big)=none;rw [zGJ];rfl
     ·rfl
theorem zR9 {F:zv} {q:QS} (h:FQ F q) (hF:FOk F) (truth:Bool) (ss:List (Nat × Nat)) (hs:ss.length≤9000) (hSI:∀ c∈ss,SI F c) (row:List UInt8):zDb q (kd truth) ss row=zDZ F truth ss row:=by
 obtain ⟨hd,tl,hws⟩:∃ hd tl,zZ 32 row=hd :: tl:=by
  cases h:zZ 32 row with
  | nil=>simp [zZ] at h
  | cons a b=>exact ⟨a,b,rfl⟩
 rw [zH9 F truth ss row hd tl hws]
 by_cases h9:9000≤ss.length
 ·rw [if_pos (by omega)];unfold zDb;rw [if_pos h9]
 ·rw [if_neg (by omega)]
  cases hsp:zB4 row with
  | true=>rw [zLI q (kd truth) ss row hd tl h9 hsp hws,zSV h hF truth ss hs hSI]
  | false=>
   rw [zQS F truth ss hd tl (zHd row hd tl hws hsp)];unfold zDb;rw [if_neg h9,hsp];rfl
theorem zS2 {F:zv} {truth:Bool} {c:Nat × Nat} (hg:zEy (zBI F.cl) F.all (!truth) F.order c) (hb:Bd c):SI F c:=⟨hb,zII hg.apart,hg.vars⟩
theorem zNM {F:zv} (hF:FOk F) (truth:Bool) (ss:List (Nat × Nat)) (hg:∀ c∈ss,zEy (zBI F.cl) F.all (!truth) F.order c) (hb:∀ c∈ss,Bd c) (row:List UInt8) (c:Nat × Nat) (h:zDZ F truth ss row=some c):zEy (zBI F.cl) F.all (!truth) F.order c∧Bd c∧ss.length < 9000∨9000 < ss.length:=by
 unfold zDZ at h
 split at h
 ·cases h
 ·split at h
  ·cases h
  ·next h9=>
   by_cases hh:9000 < ss.length
   ·exact Or.inr hh
   ·exact Or.inl ⟨zIw hF truth ss _ _ _ hg h,zLh F truth ss _ _ c hF.bits hb h,by omega⟩
theorem zMC {F:zv} {q:QS} (h:FQ F q) (hF:FOk F) (truth:Bool) (rs:List (List UInt8)):∀ (ss:List (Nat × Nat)) (n:Nat),ss.length≤9000→(∀ c∈ss,zEy (zBI F.cl) F.all (!truth) F.order c)→(∀ c∈ss,Bd c)→zLb q (kd truth) ss n rs=zC3 F truth ss n rs:=by
 induction rs with
 | nil=>intro ss n _ _ _;rfl
 | cons r rs ih=>
  intro ss n hs hg hb;rw [zLb,zC3,zR9 h hF truth ss hs (fun c hc=>zS2 (hg c hc) (hb c hc)) r]
  cases hl:zDZ F truth ss r with
  | none=>rfl
  | some c=>
   dsimp only
   rcases zNM hF truth ss hg hb r c hl with ⟨h1,h2,h3⟩ | h9
   ·apply ih
    ·simp;omega
    ·intro c' hc'
     rcases List.mem_append.1 hc' with hc' | hc'
     ·exact hg c' hc'
     ·simp at hc';subst hc';exact h1
    ·intro c' hc'
     rcases List.mem_append.1 hc' with hc' | hc'
     ·exact hb c' hc'
     ·simp at hc';subst hc';exact h2
   ·omega
theorem zIC {F:zv} {q:QS} (h:FQ F q) (hF:FOk F) (l:List UInt8):zCM q l=match zw F l with
  | .inl (x,i)=>(0,x,i)
  | .inr (truth,_)=>(kd truth,0,0):=by
 unfold zCM zA1 zw
 by_cases hl:262144 < l.length
 ·rw [if_pos hl,if_pos hl]
 ·rw [if_neg hl,if_neg hl]
  cases hrows:(zU 10 l).1 with
  | nil=>rfl
  | cons r0 rs=>
   unfold zGA;dsimp only
   by_cases hr:r0=zA4∨r0=zCS
   ·rw [if_pos hr,if_pos hr];have hk:zFK r0=kd (r0 == zA4):=by
     unfold zFK kd
     by_cases e:r0=zA4
     ·rw [if_pos e,if_pos (by simpa using e)]
     ·rw [if_neg e,if_neg (by simpa using e)]
    unfold goQ;rw [hk,zMC h hF (r0 == zA4) rs [] 1 (by simp) (by simp) (by simp)]
    cases zC3 F (r0 == zA4) [] 1 rs with
    | inr i=>rfl
    | inl ss=>
     dsimp only;have he:zCs ss=zCX ss:=rfl;rw [he]
     by_cases hc:(zU 10 l).2=[]∧zCX ss=true
     ·rw [if_pos hc,if_pos ⟨by simpa using hc.1,hc.2⟩]
     ·rw [if_neg hc,if_neg (fun hh=>hc ⟨by simpa using hh.1,hh.2⟩)]
   ·rw [if_neg hr,if_neg hr]
def zBC (c:Nat × Nat) (v:Nat):Int:=if L c false v then -1 else if L c true v then 1 else 0
theorem zK1 {q:QS} (hq:QGood q) {kind:Nat} {rs:List zAB} {g:GS} {bs:List Bool} (h:Run q kind rs g bs) (s:Bool) (v:Nat):L g.vals s v=true↔∃ j,∃ hj:j < q.vars.length,j < bs.length∧q.vars[j].1=v∧bs.reverse.getD j false=s:=by
 have hle:bs.length≤q.vars.length:=by
  rw [h.len];have:=zN9 (zG q.vars) g.turn;rw [zAA,List.length_map] at this;exact this
 rw [h.vals,zIr _ (fun v hv=>hq.name hv) bs (by simpa using hle)]
 constructor
 ·rintro ⟨j,h1,h2,h3⟩;have hj:j < q.vars.length:=(by omega);exact ⟨j,hj,h1,by rw [← zFd j hj];exact h2,h3⟩
 ·rintro ⟨j,hj,h1,h2,h3⟩;exact ⟨j,h1,by rw [zFd j hj];exact h2,h3⟩
theorem zKp {q:QS} (hq:QGood q) {i j:Nat} (hi:i < q.vars.length) (hj:j < q.vars.length) (e:q.vars[i].1=q.vars[j].1):i=j:=zFh hq hi hj e
theorem zGO {q:QS} (hq:QGood q) {kind:Nat} {rs:List zAB} {g:GS} {bs:List Bool} (h:Run q kind rs g bs) {j:Nat} (hj:j < q.vars.length) (hb:j < bs.length):zBC g.vals q.vars[j].1=if bs.reverse.getD j false then 1 else -1:=by
 have hone:∀ s,L g.vals s q.vars[j].1=true↔bs.reverse.getD j false=s:=fun s=>by
  rw [zK1 hq h]
  constructor
  ·rintro ⟨i,hi,_,h2,h3⟩;rw [zKp hq hi hj h2] at h3;exact h3
  ·intro e;exact ⟨j,hj,hb,rfl,e⟩
 unfold zBC
 cases e:bs.reverse.getD j false with
 | true=>
  have h1:=(hone true).2 e;have h0:L g.vals false q.vars[j].1=false:=by
   cases hc:L g.vals false q.vars[j].1 with
   | false=>rfl
   | true=>have:=(hone false).1 hc;rw [e] at this;cases this
  rw [h0,h1];rfl
 | false=>
  have h1:=(hone false).2 e;rw [h1];rfl
theorem zID {q:QS} (hq:QGood q) {kind:Nat} {rs:List zAB} {g:GS} {bs:List Bool} (h:Run q kind rs g bs) {v:Nat} (hv:∀ j (hj:j < q.vars.length),j < bs.length→q.vars[j].1≠v):zBC g.vals v=0:=by
 have:∀ s,L g.vals s v=false:=fun s=>by
  cases hc:L g.vals s v with
  | false=>rfl
  | true=>
   obtain ⟨j,hj,h1,h2,_⟩:=(zK1 hq h s v).1 hc;exact absurd h2 (hv j hj h1)
 unfold zBC;rw [this,this];rfl
theorem zQr {q:QS} (hq:QGood q) {kind:Nat} {rs:List zAB} {g g':GS} {bs b2:List Bool} (h:Run q kind rs g bs) (h':Run q kind rs g' (b2 ++ bs)) (v:Nat):zBC g.vals v=0∨zBC g'.vals v=zBC g.vals v:=by
 by_cases e:∃ j,∃ hj:j < q.vars.length,j < bs.length∧q.vars[j].1=v
 ·obtain ⟨j,hj,h1,rfl⟩:=e;refine Or.inr ?_;rw [zGO hq h hj h1,zGO hq h' hj (by simp;omega),List.reverse_append,List.getD,List.getD,List.getElem?_append_left (by simpa using h1)]
 ·exact Or.inl (zID hq h (fun j hj h1 h2=>e ⟨j,hj,h1,h2⟩))
theorem zLF {q:QS} (hq:QGood q) {kind:Nat} (hk:kind=1∨kind=2) {rs:List zAB} {g:GS} {bs:List Bool} (h:Run q kind rs g bs) (hs:zHJ q kind g) (ht:g.turn < (zG q.vars).length) (bits:Nat) :
  ∃ b2,Run q kind rs (zAh rs (blW q kind) g bits) (b2 ++ bs)∧zHJ q kind (zAh rs (blW q kind) g bits)∧g.turn + 1≤(zAh rs (blW q kind) g bits).turn∧
   (∀ j (hj:j < (zG q.vars).length),g.turn + 1≤j→j < (zAh rs (blW q kind) g bits).turn→zBq q kind (zG q.vars)[j]=true)∧
   ∀ i (hi:i < (zG q.vars)[g.turn].length),zBC (zAh rs (blW q kind) g bits).vals (zG q.vars)[g.turn][i]=if bits.testBit i then 1 else -1:=by
 obtain ⟨b1,h1,h2,h3⟩:=zOl hq hk ht (hs.lose ht) bits (zG q.vars)[g.turn].length 0 g.vals bs (by omega) h.part;rw [List.drop_zero] at h1;obtain ⟨b2,r1,r2,r3,r4⟩:=zOK hq hk ((blW q kind).length - (g.turn + 1)) ⟨g.turn + 1,_⟩ _ (by show g.turn + 1 + _=_;rw [zBB];omega) (h1.done ht);have e:zAh rs (blW q kind) g bits=zE7 rs (blW q kind) ((blW q kind).length - (g.turn + 1)) ⟨g.turn + 1,zCr (zG q.vars)[g.turn] bits 0 g.vals⟩:=by
  unfold zAh zEM;rw [zHN q kind _ ht]
 rw [e];refine ⟨b2 ++ b1,by rw [List.append_assoc];exact r1,r2,r3,r4,fun i hi=>?_⟩;have hlt:=zFi g.turn i ht hi;have hx:(q.vars[zCh (zG q.vars) g.turn + i]'hlt).1=(zG q.vars)[g.turn][i]:=(by rw [← zFd _ hlt];exact zGZ g.turn i ht hi);have hl:=h.len;rw [← hx,zGO hq r1 hlt (by simp;omega)];rw [← List.append_assoc,List.reverse_append,List.getD,List.getElem?_append_right (by simp;omega)];have h4:=h3 i hi;rw [Nat.zero_add] at h4;rw [← h4,List.getD,show zCh (zG q.vars) g.turn + i - bs.reverse.length=i from by simp;omega,List.reverse_append,List.getElem?_append_left (by simp;omega)]
theorem zLX {q:QS} (hq:QGood q) {kind:Nat} (hk:kind=1∨kind=2) (ss:List Stp) :
  ∃ bs,Run q kind (zAQ kind ss) (zBO q kind ss) bs∧zHJ q kind (zBO q kind ss)∧∀ j (hj:j < (zG q.vars).length),j < (zBO q kind ss).turn→zBq q kind (zG q.vars)[j]=true:=by
 obtain ⟨b2,r1,r2,_,r4⟩:=zOK hq hk (rs:=zAQ kind ss) (blW q kind).length ⟨0,(0,0)⟩ [] (by show 0 + _=_;rw [zBB];omega) (zQT q kind _);exact ⟨b2 ++ [],r1,r2,fun j hj h=>r4 j hj (Nat.zero_le _) h⟩
theorem zIv {ss:List Stp} (h:zCs (ze ss)=true) (kind:Nat) (V:Nat × Nat):∃ i,∃ hi:i < ss.length,zO3 kind V ss[i].lits:=by
 rw [zHY,Bool.and_eq_true] at h;obtain ⟨h1,h2⟩:=h;have hp:0 < ss.length:=(by simpa using h1);obtain ⟨m,hm⟩:∃ m,ss.length=m + 1:=⟨ss.length - 1,by omega⟩;have e1:zM ss ss.length=(ss[m]'(by omega)).lits:=(by have h5:=zBU ss m (by omega);rwa [← hm] at h5);rw [e1] at h2;refine ⟨m,by omega,fun s v hl=>?_⟩;have he:zCz (ss[m]'(by omega)).lits=true:=h2;rw [(zDp _).1 he s v] at hl
 cases hl
theorem zSC {q:QS} (hq:QGood q) {kind:Nat} (hk:kind=1∨kind=2) {ss:List Stp} (hs:zNm q kind ss) (hc:zCs (ze ss)=true) {g:GS} {bs:List Bool} (h:Run q kind (zAQ kind ss) g bs) (ht:g.turn=(zG q.vars).length):zOA q kind g.vals:=by
 have hl:bs.length=q.vars.length:=(by rw [h.len,ht,zIG,zAA,List.length_map]);obtain ⟨i,hi,hh⟩:=zIv hc kind g.vals;rw [h.vals] at hh ⊢;exact zRB hq hk hs hl h.keeps i hi hh
theorem zLg {q:QS} (hq:QGood q) {kind:Nat} {rs:List zAB} {g:GS} {bs:List Bool} (h:Run q kind rs g bs) {v:Nat} (h0:L g.vals false v=true):L g.vals true v=false:=by
 cases hc:L g.vals true v with
 | false=>rfl
 | true=>
  obtain ⟨i,hi,_,i2,i3⟩:=(zK1 hq h _ _).1 h0;obtain ⟨j,hj,_,j2,j3⟩:=(zK1 hq h _ _).1 hc;rw [zKp hq hi hj (i2.trans j2.symm),j3] at i3
  cases i3
theorem zRv {q:QS} (hq:QGood q) {kind:Nat} {rs:List zAB} {g:GS} {bs:List Bool} (h:Run q kind rs g bs) (hw:zOA q kind g.vals):zBI q.cl g.vals.1=(kind == 2):=by
 rcases hw with ⟨rfl,c,hc,_,hh⟩ | ⟨rfl,c,hc,hh⟩
 ·show zBI q.cl g.vals.1=false
  cases hs:zBI q.cl g.vals.1 with
  | false=>rfl
  | true=>
   obtain ⟨v,⟨h1,h2⟩ | ⟨h1,h2⟩⟩:=(zLs _ _).1 ((zMA _ _).1 hs c hc)
   ·have:=zLg hq h (hh true v h1)
    rw [show L g.vals true v=g.vals.1.testBit v from rfl,h2] at this;cases this
   ·have:g.vals.1.testBit v=true:=hh false v h1
    rw [h2] at this;cases this
 ·show zBI q.cl g.vals.1=true;rw [zMA];intro x hx;unfold zCD at hc;have ho:=List.all_eq_true.1 hc x hx;unfold okC at ho;rw [Bool.or_eq_true] at ho;rw [zLs]
  rcases ho with ho | ho
  ·obtain ⟨s,v,h1,h2⟩:=(zCB x c).1 ho;have h3:L g.vals s v=true:=hh s v h2
   cases s with
   | true=>exact ⟨v,Or.inl ⟨h1,h3⟩⟩
   | false=>exact ⟨v,Or.inr ⟨h1,zLg hq h h3⟩⟩
  ·obtain ⟨v,h1,h2⟩:=(zJo x).1 ho
   cases hb:g.vals.1.testBit v with
   | true=>exact ⟨v,Or.inl ⟨h1,hb⟩⟩
   | false=>exact ⟨v,Or.inr ⟨h2,hb⟩⟩
theorem zQK {F:zv} {q:QS} (h:FQ F q) (hb:QB q):QGood q:=
 ⟨hb,h.nodup,fun c hc s v hl=>by
  rw [← h.order];refine h.vars c hc v ?_
  cases s with
  | true=>exact Or.inl hl
  | false=>exact Or.inr hl⟩
theorem zQA {F:zv} {q:QS} (h:FQ F q) (hF:FOk F) {l:List UInt8} {kind:Nat} {ss:List Stp} (hr:zA1 q l=.inr (kind,ze ss)) (ht:Tags q kind ss) (hb:SBs ss) :
  zNm q kind ss∧zCs (ze ss)=true∧∃ truth two,zw F l=.inr (truth,two)∧kind=kd truth:=by
 unfold zA1 at hr
 by_cases hl:262144 < l.length
 ·rw [if_pos hl] at hr;cases hr
 ·rw [if_neg hl] at hr
  cases hrows:(zU 10 l).1 with
  | nil=>rw [hrows] at hr;cases hr
  | cons r0 rs=>
   rw [hrows] at hr;unfold zGA at hr;dsimp only at hr
   by_cases hr0:r0=zA4∨r0=zCS
   ·rw [if_pos hr0] at hr;have hk:zFK r0=kd (r0 == zA4):=by
     unfold zFK kd
     by_cases e:r0=zA4
     ·rw [if_pos e,if_pos (by simpa using e)]
     ·rw [if_neg e,if_neg (by simpa using e)]
    unfold goQ at hr;rw [hk,zMC h hF (r0 == zA4) rs [] 1 (by simp) (by simp) (by simp)] at hr
    cases hrr:zC3 F (r0 == zA4) [] 1 rs with
    | inr i=>rw [hrr] at hr;cases hr
    | inl s2=>
     rw [hrr] at hr;dsimp only at hr
     split at hr
     ·next hc=>
      injection hr with hr;injection hr with e1 e2;subst e2;have hg:=zJP hF (r0 == zA4) rs [] 1 _ (by simp) hrr;have hmem:∀ s∈ss,s.lits∈ze ss:=fun s hs=>List.mem_map_of_mem hs
      refine ⟨⟨ht,fun s hs=>⟨hb.bits s hs,fun t v hv=>?_⟩,fun s hs v a b=>(hg _ (hmem s hs)).apart v a b⟩,hc.2,r0 == zA4,zJ0 rs,?_,e1.symm⟩
      ·rw [← h.order];refine (hg _ (hmem s hs)).vars v ?_
       cases t with
       | true=>exact Or.inl hv
       | false=>exact Or.inr hv
      ·unfold zw;rw [if_neg hl,hrows];dsimp only;rw [if_pos hr0,hrr];dsimp only;rw [if_pos ⟨by simpa using hc.1,hc.2⟩]
     ·cases hr
   ·rw [if_neg hr0] at hr;cases hr
def zBv (bl:BL) (g:GS) (bits:Int):Nat:=if bl.length≤g.turn then 7 else if bits < 0∨(2:Int) ^ (bl.getD g.turn ([],false)).1.length≤bits then 6 else 0
def zC2 (rs:List zAB) (bl:BL) (g:GS) (bits:Int):GS:=if zBv bl g bits=0 then zAh rs bl g bits.toNat else g
theorem zH6 (k:Nat) (h:k≤8):(2:Int) ^ k≤256:=by
 have:∀ k:Fin 9,(2:Int) ^ k.val≤256:=by decide
 exact this ⟨k,by omega⟩
theorem zG3 (k:Nat) (h:k≤8):wrap64 (2 ^ k)=(2:Int) ^ k:=by
 have h1:=zH6 k h;have h0:(0:Int)≤(2:Int) ^ k:=by
  have:∀ k:Fin 9,(0:Int)≤(2:Int) ^ k.val:=by decide
  exact this ⟨k,by omega⟩
 exact IntWalk.wrap64_in _ ⟨by omega,by omega⟩
theorem zKG (row:List Nat) (bits k:Nat) (vals:Nat × Nat) (h:k < row.length):zCr (row.drop k) bits k vals=zCr (row.drop (k + 1)) bits (k + 1) (zIq vals row[k] (bits.testBit k)):=by
 rw [List.drop_eq_getElem_cons h,zCr]
theorem zPy (b:Nat) (t:TypeId) (bl:BL) (rs:List zAB) (g:GS) (gv:GV) (bits:Int) (w:World) (hG:GameAt w b t bl rs g gv) (hR:RBd rs) (hB:BBd bl) (hp:g.vals.1 < 512∧g.vals.2 < 512) (ht:g.turn≤bl.length) (hbi:zE8 bits) :
  Calls Tryz.prog 83 #[.pointer (some ⟨b,0,none⟩),.int .i64 bits] w fun e w'=>e=.returned (.int .i64 (zBv bl g bits:Nat))∧GameAt w' b t bl rs (zC2 rs bl g bits) gv∧Only (·=b) w w':=by
 obtain ⟨turn,p,n⟩:=g;dsimp only at ht hp;have lb:=zB hG.fb;have hbl:=hB.len;obtain ⟨aB,cB,hBf⟩:=zN hG.rows.oB;have c0:w.cell? ⟨b,0,none⟩=some (.slice aB bl.length cB):=(by rw [zC hG.fb];exact congrArg some hBf);have c2:w.cell? ⟨b,2,none⟩=some (.int .i64 (turn:Int)):=zE hG.fb rfl
 by_cases hl:turn < bl.length
 ·have hd1:decide ((bl.length:Int)≤(turn:Int))=false:=decide_eq_false (by omega);have hd2:decide (bl.length≤turn)=false:=decide_eq_false (by omega);have hhl:turn < gv.hdrs.length:=(by rw [hG.rows.len];exact hl);obtain ⟨e0,e1⟩:=zIS bl gv.hdrs turn hl hhl;have hoB:=hG.rows.oB;rw [hBf] at hoB;obtain ⟨gB,cap,hVe,hg,hg',_,hcell⟩:=zS hoB (by omega);injection hVe with hVe _ hV2;subst hVe hV2;have hx0:=hcell _ _ e0;have hrow:=hG.rows.row turn hl;obtain ⟨aX,cX,hXf⟩:=zN hrow;rw [hXf] at hx0;clear hcell e0 e1
  go_enter Tryz.func83,Tryz.ntmps83
  go_wp2_with fail
  go_quiet (fail)
  have b1:Below w.heap.size w (w.drewN nq):=below_drewN (Below.refl _ _) nq;have hG1:=hG.later b1;replace hx0:(w.drewN nq).cell? ⟨gB,turn * 2,none⟩=_:=(b1.cell (p:=⟨gB,turn * 2,none⟩) hg').trans hx0;replace c0:(w.drewN nq).cell? ⟨b,0,none⟩=_:=(b1.cell (p:=⟨b,0,none⟩) lb).trans c0;replace c2:(w.drewN nq).cell? ⟨b,2,none⟩=_:=(b1.cell (p:=⟨b,2,none⟩) lb).trans c2;have hgw:gB < (w.drewN nq).heap.size:=Nat.lt_of_lt_of_le hg' b1.size;generalize w.drewN nq=w1 at *;have lb1:=zB hG1.fb;go_wp2_with fail
  go_quiet (fail)
  have b2:Below w1.heap.size w1 (w1.drewN nq):=below_drewN (Below.refl _ _) nq;have hG2:=hG1.later b2;have hb2:Below w.heap.size w (w1.drewN nq):=b1.trans (b2.mono b1.size);generalize w1.drewN nq=w2 at *;clear hG1 b2 b1 hgw lb1 hx0 c0 c2;have lb2:=zB hG2.fb;have hbd:=hB.row _ (List.getElem_mem hl);obtain ⟨row,hro⟩:∃ row,bl[turn].1=row:=⟨_,rfl⟩;have hrg:(bl.getD turn ([],false)).1=row:=(by rw [← hro];simp [List.getD,hl]);have HMG:Hid (zBv bl ⟨turn,(p,n)⟩ bits=if bits < 0∨(2:Int) ^ row.length≤bits then 6 else 0):=zF (by
   unfold zBv;rw [if_neg (by show ¬ bl.length≤turn;omega)];rw [← hrg])
  have HMW:Hid (zAh rs bl ⟨turn,(p,n)⟩ bits.toNat=zEM rs bl ⟨turn + 1,zCr row bits.toNat 0 (p,n)⟩):=zF (by unfold zAh;rw [← hrg]);rw [hro] at hbd ⊢;have HRO:=zF hro;clear hro hrg;have hlr:=hbd.1;have hw64:wrap64 (2 ^ row.length)=(2:Int) ^ row.length:=zG3 row.length hlr
  by_cases h0:bits < 0
  ·have hd3:decide (bits < 0)=true:=decide_eq_true h0;have HE:Hid (zBv bl ⟨turn,(p,n)⟩ bits=6):=zF (by rw [zA HMG,if_pos (Or.inl h0)]);have HF:Hid (zC2 rs bl ⟨turn,(p,n)⟩ bits=⟨turn,(p,n)⟩):=zF (by unfold zC2;rw [zA HE];rfl);clear h0;go_wp2_with fail;go_ret;exact ⟨by rw [zA HE];rfl,by rw [zA HF];exact hG2,Only.of_below hb2⟩
  ·have hd3:decide (bits < 0)=false:=decide_eq_false h0
   by_cases h1:(2:Int) ^ row.length≤bits
   ·have hd4:decide ((2:Int) ^ row.length≤bits)=true:=decide_eq_true h1;have HE:Hid (zBv bl ⟨turn,(p,n)⟩ bits=6):=zF (by rw [zA HMG,if_pos (Or.inr h1)]);have HF:Hid (zC2 rs bl ⟨turn,(p,n)⟩ bits=⟨turn,(p,n)⟩):=zF (by unfold zC2;rw [zA HE];rfl);clear h0 h1;go_wp2_with fail;go_ret;exact ⟨by rw [zA HE];rfl,by rw [zA HF];exact hG2,Only.of_below hb2⟩
   ·have hd4:decide ((2:Int) ^ row.length≤bits)=false:=decide_eq_false h1;have HE:Hid (zBv bl ⟨turn,(p,n)⟩ bits=0):=zF (by rw [zA HMG,if_neg (fun h=>h.elim h0 h1)]);have HF:Hid (zC2 rs bl ⟨turn,(p,n)⟩ bits=zEM rs bl ⟨turn + 1,zCr row bits.toNat 0 (p,n)⟩):=zF (by unfold zC2;rw [zA HE,if_pos rfl,zA HMW]);have hp9:(2:Int) ^ row.length≤256:=zH6 row.length hlr;obtain ⟨bn,rfl⟩:∃ bn:Nat,bits=(bn:Int):=⟨bits.toNat,by omega⟩;have hbn:bn < 512:=(by omega);clear h0 h1;go_wp2_with fail;clear hw64 hd4 hd3 hp9
    go_loopg [40] (row.length) (fun m i wx=>∃ (k:Nat) (vals:Nat × Nat),i=.int .i64 k∧k + m=row.length∧(vals.1 < 512∧vals.2 < 512)∧zCr row bn 0 (p,n)=zCr (row.drop k) bn k vals∧GameAt wx b t bl rs ⟨turn,vals⟩ gv∧Only (·=b) w wx)
    case atStart=>exact ⟨0,(p,n),rfl,by omega,hp,rfl,hG2,Only.of_below hb2⟩
    case round=>
     obtain ⟨k,vals,rfl,hk,hv9,hab,hG3,ho3⟩:=hrel;have HAB:=zF hab;clear hab;have lb3:=zB hG3.fb
     by_cases hkl:k < row.length
     ·have hr3:=hG3.rows.row turn hl;rw [hXf] at hr3;have hvv:=hbd.2 _ (List.getElem_mem hkl);have hlen:bl[turn].1.length=row.length:=(by rw [zA HRO]);obtain ⟨gX,cap,hVe,hgx,hgx',_,hcell⟩:=zS hr3 (by omega);injection hVe with hVe hV1 hV2;subst hVe hV2;have hxk:wr.cell? ⟨gX,k,none⟩=some (.int .i64 (row[k]:Int)):=hcell _ _ (by rw [zA HRO];simp [zu,hkl]);have HST:=zF (zKG row bn k vals hkl);have hsb:=zCx bn k hbn (by omega);clear hcell hr3;generalize row[k]=v at *;generalize htb:bn.testBit k=x at *;go_wp2_with fail;refine (zOJ b t bl rs ⟨turn,vals⟩ gv v x _ hG3 hv9 hvv.2).mono ?_;rintro e w5 ⟨rfl,hG5,ho5⟩;have hv5:=zAZ vals (zAF v x) hv9.1 hv9.2;go_wp2_with fail
      go_roundg (gk - 1)
      case measure=>omega
      case rel=>exact ⟨k + 1,zIq vals v x,by go_num,by omega,hv5,by rw [zA HAB,zA HST],hG5,ho3.trans ho5⟩
     ·have hke:k=row.length:=(by omega);have HE2:Hid (zCr row bn 0 (p,n)=vals):=zF (by rw [zA HAB,hke,List.drop_length];rfl);have d2:wr.cell? ⟨b,2,none⟩=some (.int .i64 (turn:Int)):=zE hG3.fb rfl;have z2:=zD hG3.fb 2;have hdk:decide ((k:Int) < (row.length:Int))=false:=decide_eq_false (by omega);have ho6:Only (·=b) wr (wr.setCell ⟨b,2,none⟩ (.int .i64 ((turn:Int) + 1))):=(Only.refl (·=b) wr).setCell (p:=⟨b,2,none⟩) (Or.inl rfl) _;have hG6:GameAt (wr.setCell ⟨b,2,none⟩ (.int .i64 ((turn:Int) + 1))) b t bl rs ⟨turn + 1,vals⟩ gv:=⟨zI hG3.fb 2 _,hG3.tt,hG3.rest ho6⟩;have ho7:=ho3.trans ho6;have HG6:=zF hG6;have HO7:=zF ho7;clear hG6 ho6 ho7;go_wp2_with fail;refine (zIV b t bl rs ⟨turn + 1,vals⟩ gv _ (zA HG6) hR hB hv9 (by show turn + 1≤_;omega)).mono ?_;rintro e w8 ⟨rfl,hG8,ho8⟩;have HE3:Hid (zC2 rs bl ⟨turn,(p,n)⟩ (bn:Int)=zEM rs bl ⟨turn + 1,vals⟩):=zF (by rw [zA HF,Int.toNat_natCast,zA HE2]);go_wp2_with fail;go_ret;exact ⟨by rw [zA HE];rfl,by rw [zA HE3];exact hG8,(zA HO7).trans ho8⟩
 ·have hd1:decide ((bl.length:Int)≤(turn:Int))=true:=decide_eq_true (by omega);have hd2:decide (bl.length≤turn)=true:=decide_eq_true (by omega);have HE:Hid (zBv bl ⟨turn,(p,n)⟩ bits=7):=zF (by unfold zBv;rw [if_pos (by show bl.length≤turn;omega)]);have HG:Hid (zC2 rs bl ⟨turn,(p,n)⟩ bits=⟨turn,(p,n)⟩):=zF (by unfold zC2;rw [zA HE];rfl)
  go_enter Tryz.func83,Tryz.ntmps83
  go_wp2_with fail
  go_quiet (fail)
  have b1:Below w.heap.size w (w.drewN nq):=below_drewN (Below.refl _ _) nq;have hG1:=hG.later b1;generalize w.drewN nq=w1 at *;go_wp2_with fail;go_ret;exact ⟨by rw [zA HE];rfl,by rw [zA HG];exact hG1,Only.of_below b1⟩
end Go.Proofs.YtgipjjhkhfihpaaGreatDoor
