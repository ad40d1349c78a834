import Derived.Test.YtgipjjhkhfihpaaGreatDoorAN
import Derived.Test.YtgipjjhkhfihpaaGreatDoorAL
import Derived.Test.YtgipjjhkhfihpaaGreatDoorAM
set_option maxRecDepth 100000
set_option maxHeartbeats 6400000
namespace Go.Proofs.YtgipjjhkhfihpaaGreatDoor
open Go.RowKit
theorem zOc (ms:List (Int × Nat)) (k:Nat) (h:k < ms.length) (p:List Stp) (n:Nat):zDd (ms.take (k + 1)).reverse p n=if zj (zM p n) (-ms[k].1) then zDd (ms.take k).reverse (zCC p ms[k].2 n ms[k].1.natAbs).1 (zCC p ms[k].2 n ms[k].1.natAbs).2 else zDd (ms.take k).reverse p n:=by
 rw [List.take_succ_eq_append_getElem h,List.reverse_append];rfl
structure zOI (ms:List (Int × Nat)):Prop where
 len:ms.length≤1000
 lit:∀ u∈ms,-8≤u.1∧u.1≤8
theorem SBd.setRef {C:SC} {S:SS} (h:SBd C S) {p:List Stp} (hl:p.length≤100000) (hb:∀ s∈p,s.lits.1 < 512∧s.lits.2 < 512):SBd C { S with ref:=p }:=h.put (Or.inl rfl) hl hb
theorem zMZ (C:SC) (S:SS) (u:US) (p:List Stp) (n:Nat) (h:zDd u.trail.reverse S.ref u.conf=(p,n)):zAW C S u=(if n≠u.conf then (({ S with ref:=p }:SS).reduce C.q (1,n)).1.keep C.room (({ S with ref:=p }:SS).reduce C.q (1,n)).2 else (({ S with ref:=p }:SS).reduce C.q (1,n)).1,(({ S with ref:=p }:SS).reduce C.q (1,n)).2):=by
 unfold zAW;rw [h];rfl
theorem zHa (b:Nat) (C:SC) (S:SS) (V:SV) (u:US) (aT:Option Addr) (cT base:Nat) (w:World) (hS:SAt w b C S V) (hB:SBd C S) (hT:w.ownsRow base 177 2 (.slice aT u.trail.length cT) u.trail.length (zBp u.trail)) (hTB:zOI u.trail) (hfar:∀ k,(Value.slice aT u.trail.length cT).ownBlock=some k→Far b V k) (hrl:S.ref.length≤90000) (hcf:u.conf≤100000) :
  Calls Tryz.prog 90 #[.pointer (some ⟨b,0,none⟩),.agg #[.int .i64 (u.vals.1:Int),.int .i64 (u.vals.2:Int),.slice aT u.trail.length cT,.int .i64 (u.conf:Int)]] w fun e w'=>e=.returned (zAv (zAW C S u).2)∧SPost b C (zAW C S u).1 V w w':=by
 obtain ⟨⟨v1,v2⟩,trail,conf⟩:=u;dsimp only at hT hTB hfar hcf ⊢;have htl:=hTB.len;have HTB:=zF hTB.lit;clear hTB
 go_enter Tryz.func90,Tryz.ntmps90
 go_wp2_with fail;generalize hw0:((w.alloc (.cells #[.int .i64 (v1:Int),.int .i64 (v2:Int),.slice aT trail.length cT,.int .i64 (conf:Int)] 161)).alloc (.cells #[.int .i64 0,.int .i64 0] 129))=u1;have hb0:Below w.heap.size w u1:=(by rw [← hw0];exact ((Below.refl _ _).alloc (Nat.le_refl _) _).alloc (by simp;try omega) _);have huu:u1.heap[w.heap.size]?=some (.cells #[.int .i64 (v1:Int),.int .i64 (v2:Int),.slice aT trail.length cT,.int .i64 (conf:Int)] 161 (0,0)):=(by rw [← hw0,heap_alloc_old _ _ (by simp;try omega)];exact zP (by simp));have nuu:Far b V (w.heap.size):=hS.fresh (by omega);have hrs:u1.heap[w.heap.size + 1]?=some (.cells #[.int .i64 0,.int .i64 0] 129 (0,0)):=(by rw [← hw0];exact zP (by simp));have nrs:Far b V (w.heap.size + 1):=hS.fresh (by omega);clear hw0;have hM:SMoved b w u1 V V:=SMoved.of_below hb0;replace hS:=hS.later hb0;have lb:=zB hS.fb;obtain ⟨cuu0,cuu1,cuu2,cuu3⟩:=zAi huu;have luu:=zB huu;obtain ⟨crs0,crs1⟩:=zJ hrs;have lrs:=zB hrs;have hT1:=zO hT hb0;go_wp2_with fail
 go_loopg [5,6] (trail.length + 1) (fun m sv i wx=>∃ (k n:Nat) (p:List Stp) (V':SV),i=.int .i64 ((k:Int) - 1)∧sv=.int .i64 (n:Int)∧k + 1≤m∧m≤k + 1∧k≤trail.length∧n≤100000∧p.length + k≤S.ref.length + trail.length∧(∀ s∈p,s.lits.1 < 512∧s.lits.2 < 512)∧zDd trail.reverse S.ref conf=zDd (trail.take k).reverse p n∧SAt wx b C { S with ref:=p } V'∧SMoved b u1 wx V V')
 case atStart=>exact ⟨trail.length,conf,S.ref,V,by go_num,rfl,by omega,by omega,by omega,hcf,by omega,hB.ref,by rw [List.take_length],hS,SMoved.of_below (Below.refl _ _)⟩
 case round=>
  obtain ⟨k,n,p,V',rfl,rfl,hkm,hkm2,hkl,hn,hpl,hpb,hex,hSr,hMr⟩:=hrel;have HEX:=zF hex;clear hex;have hur:=hMr.blk huu nuu;have hrr:=hMr.blk hrs nrs;have nrr:=hMr.far lrs nrs;have nur:=hMr.far luu nuu;have hBr:=hB.setRef (p:=p) (by omega) hpb;have lur:=zB hur;have lrr:=zB hrr;have lbr:=zB hSr.fb;have cu2:wr.cell? ⟨w.heap.size,2,none⟩=some (.slice aT trail.length cT):=zE hur rfl;have cu3:wr.cell? ⟨w.heap.size,3,none⟩=some (.int .i64 (conf:Int)):=zE hur rfl
  cases k with
  | zero=>
   have HE0:Hid (zDd trail.reverse S.ref conf=(p,n)):=zF (by rw [zA HEX];rfl);replace huu:=hur;replace hrs:=hrr;replace nuu:=nur;replace nrs:=nrr;replace hS:=hSr;replace hM:=hM.trans hMr;replace lb:=lbr;clear hur hrr nur nrr hSr hMr lbr;clear cuu0 cuu1 cuu2 cuu3;obtain ⟨cuu0,cuu1,cuu2,cuu3⟩:=zAi huu;replace luu:=zB huu;clear crs0 crs1;obtain ⟨crs0,crs1⟩:=zJ hrs;replace lrs:=zB hrs;go_wp2_with fail;refine (zFI b C { S with ref:=p } V' (1,n) _ hS hBr (Or.inl rfl) (by omega)).mono ?_;rintro e u2 ⟨rfl,V3,hS2,hM2⟩;replace huu:=hM2.blk huu nuu;replace nuu:=hM2.far luu nuu;replace hrs:=hM2.blk hrs nrs;replace nrs:=hM2.far lrs nrs;replace hM:=hM.trans hM2;replace hS:=hS2;clear hM2;replace lb:=zB hS.fb;clear cuu0 cuu1 cuu2 cuu3;obtain ⟨cuu0,cuu1,cuu2,cuu3⟩:=zAi huu;replace luu:=zB huu;clear crs0 crs1;obtain ⟨crs0,crs1⟩:=zJ hrs;replace lrs:=zB hrs;have hB3:=zG5 hBr (Or.inl rfl) n (show p.length≤99999 by omega);have HX:=zF (zMZ C S ⟨(v1,v2),trail,conf⟩ p n (zA HE0));generalize ({ S with ref:=p }:SS).reduce C.q (1,n)=R at *;obtain ⟨S3,f1,f2⟩:=R;dsimp only at hS hB3 HX ⊢
   by_cases hnc:n=conf
   ·have hq1:((n:Int) == (conf:Int))=true:=(by rw [beq_iff_eq];omega);have hq2:(n == conf)=true:=(by rw [beq_iff_eq];omega);have z0:=zD hrs 0;have z1:=zD hrs 1;have hR:=zI (zI hrs 0 (.int .i64 (f1:Int))) 1 (.int .i64 (f2:Int));have hAl:Below ((u2.setCell ⟨w.heap.size + 1,0,none⟩ (.int .i64 (f1:Int))).setCell ⟨w.heap.size + 1,1,none⟩ (.int .i64 (f2:Int))).heap.size ((u2.setCell ⟨w.heap.size + 1,0,none⟩ (.int .i64 (f1:Int))).setCell ⟨w.heap.size + 1,1,none⟩ (.int .i64 (f2:Int))) (((u2.setCell ⟨w.heap.size + 1,0,none⟩ (.int .i64 (f1:Int))).setCell ⟨w.heap.size + 1,1,none⟩ (.int .i64 (f2:Int))).alloc (.cells #[.int .i64 (f1:Int),.int .i64 (f2:Int)] 129)):=(Below.refl _ _).alloc (Nat.le_refl _) _;have hRA:=zH hAl hR;have j0:=zC hRA 0;have j1:=zC hRA 1;have j2:=zC hR 0;have j3:=zC hR 1;go_wp2_with fail;refine bodyPost_ret (v:=zAv (f1,f2)) (by simp [results,Tryz.results90,go_sem,j0,j1]) rfl ⟨by rw [zA HX],?_⟩;rw [zA HX,if_neg (fun h=>h hnc)];exact ⟨V3,((hS.set nrs 0 _).set nrs 1 _).later hAl,((hM.set (k:=w.heap.size + 1) (by omega) 0 _).set (k:=w.heap.size + 1) (by omega) 1 _).trans (SMoved.of_below hAl)⟩
   ·have hq1:((n:Int) == (conf:Int))=false:=(by rw [beq_eq_false_iff_ne];omega);have hq2:(n == conf)=false:=(by rw [beq_eq_false_iff_ne];omega);go_wp2_with fail;have nfo:Far b V3 u2.heap.size:=hS.fresh (Nat.le_refl _);generalize hw0:u2.alloc (.cells #[.int .i64 (f1:Int),.int .i64 (f2:Int)] 129)=u3;have b3:Below u2.heap.size u2 u3:=(by rw [← hw0];exact (Below.refl _ _).alloc (Nat.le_refl _) _);have hfo:u3.heap[u2.heap.size]?=some (.cells #[.int .i64 (f1:Int),.int .i64 (f2:Int)] 129 (0,0)):=(by rw [← hw0];exact heap_alloc_new _ _);clear hw0;replace hM:=hM.trans (SMoved.of_below b3);replace hS:=hS.later b3;replace lb:=zB hS.fb;replace huu:=zH b3 huu;clear cuu0 cuu1 cuu2 cuu3;obtain ⟨cuu0,cuu1,cuu2,cuu3⟩:=zAi huu;replace luu:=zB huu;replace hrs:=zH b3 hrs;clear crs0 crs1;obtain ⟨crs0,crs1⟩:=zJ hrs;replace lrs:=zB hrs;obtain ⟨cfo0,cfo1⟩:=zJ hfo;have lfo:=zB hfo;refine (zHK b C S3 V3 (f1,f2) _ hS hB3).mono ?_;rintro e u4 ⟨rfl,V4,hS2,hM2⟩;replace huu:=hM2.blk huu nuu;replace nuu:=hM2.far luu nuu;replace hrs:=hM2.blk hrs nrs;replace nrs:=hM2.far lrs nrs;replace hfo:=hM2.blk hfo nfo;replace nfo:=hM2.far lfo nfo;replace hM:=hM.trans hM2;replace hS:=hS2;clear hM2;replace lb:=zB hS.fb;clear cuu0 cuu1 cuu2 cuu3;obtain ⟨cuu0,cuu1,cuu2,cuu3⟩:=zAi huu;replace luu:=zB huu;clear crs0 crs1;obtain ⟨crs0,crs1⟩:=zJ hrs;replace lrs:=zB hrs;clear cfo0 cfo1;obtain ⟨cfo0,cfo1⟩:=zJ hfo;replace lfo:=zB hfo;have z0:=zD hrs 0;have z1:=zD hrs 1;have hR:=zI (zI hrs 0 (.int .i64 (f1:Int))) 1 (.int .i64 (f2:Int));have j0:=zC hR 0;have j1:=zC hR 1;go_wp2_with fail;refine bodyPost_ret (v:=zAv (f1,f2)) (by simp [results,Tryz.results90,go_sem,j0,j1]) rfl ⟨by rw [zA HX],?_⟩;rw [zA HX,if_pos hnc];exact ⟨V4,(hS.set nrs 0 _).set nrs 1 _,(hM.set (k:=w.heap.size + 1) (by omega) 0 _).set (k:=w.heap.size + 1) (by omega) 1 _⟩
  | succ k=>
   have hlt:k < trail.length:=(by omega);have HST:=zF (zOc trail k hlt p n);have hlit:=zA HTB _ (List.getElem_mem hlt);obtain ⟨g,cap,hVe,_,hg',_,hcell⟩:=zS hT1 (by omega);injection hVe with hVe _ hV2;subst hVe hV2;obtain ⟨e0,e1⟩:=zJz trail k hlt;have nT:Far b V g:=hfar g rfl;have hgc:∀ j u,(zBp trail)[j]?=some u→wr.cell? ⟨g,j,none⟩=some u:=fun j u hj=>by
    rw [zPX (w:=u1) (hMr.only.block g hg' nT.ts)];exact hcell j u hj
   have hx0:=hgc _ _ e0;have hx1:=hgc _ _ e1;have hgw:g < wr.heap.size:=Nat.lt_of_lt_of_le hg' hMr.only.size;clear hgc hcell e0 e1;have hlt9:=zAX p hpb n;generalize trail[k]=made at *;obtain ⟨x,ms⟩:=made;dsimp only at *;replace huu:=hur;replace hrs:=hrr;replace nuu:=nur;replace nrs:=nrr;replace hS:=hSr;replace hM:=hMr;replace lb:=lbr;clear hur hrr nur nrr hSr hMr lbr;clear cuu0 cuu1 cuu2 cuu3;obtain ⟨cuu0,cuu1,cuu2,cuu3⟩:=zAi huu;replace luu:=zB huu;clear crs0 crs1;obtain ⟨crs0,crs1⟩:=zJ hrs;replace lrs:=zB hrs;go_wp2_with fail;have nmd:Far b V' wr.heap.size:=hS.fresh (Nat.le_refl _);generalize hw0:wr.alloc (.cells #[.int .i64 x,.int .i64 (ms:Int)] 177)=u2;have b2:Below wr.heap.size wr u2:=(by rw [← hw0];exact (Below.refl _ _).alloc (Nat.le_refl _) _);have hmd:u2.heap[wr.heap.size]?=some (.cells #[.int .i64 x,.int .i64 (ms:Int)] 177 (0,0)):=(by rw [← hw0];exact heap_alloc_new _ _);clear hw0;replace hM:=hM.trans (SMoved.of_below b2);replace hS:=hS.later b2;replace lb:=zB hS.fb;replace huu:=zH b2 huu;clear cuu0 cuu1 cuu2 cuu3;obtain ⟨cuu0,cuu1,cuu2,cuu3⟩:=zAi huu;replace luu:=zB huu;replace hrs:=zH b2 hrs;clear crs0 crs1;obtain ⟨crs0,crs1⟩:=zJ hrs;replace lrs:=zB hrs;obtain ⟨cmd0,cmd1⟩:=zJ hmd;have lmd:=zB hmd;have c7:u2.cell? ⟨b,7,none⟩=some V'.r:=zE hS.fb rfl;refine (zBW _ b 6 p V'.r n _ c7 hS.oR (by omega)).mono ?_;rintro e u3 ⟨rfl,b3⟩;replace hM:=hM.trans (SMoved.of_below b3);replace hS:=hS.later b3;replace lb:=zB hS.fb;replace huu:=zH b3 huu;clear cuu0 cuu1 cuu2 cuu3;obtain ⟨cuu0,cuu1,cuu2,cuu3⟩:=zAi huu;replace luu:=zB huu;replace hrs:=zH b3 hrs;clear crs0 crs1;obtain ⟨crs0,crs1⟩:=zJ hrs;replace lrs:=zB hrs;replace hmd:=zH b3 hmd;clear cmd0 cmd1;obtain ⟨cmd0,cmd1⟩:=zJ hmd;replace lmd:=zB hmd;clear c7;generalize zM p n=cl at *;obtain ⟨l1,l2⟩:=cl;dsimp only at hlt9;go_wp2_with fail;have ncl:Far b V' u3.heap.size:=hS.fresh (Nat.le_refl _);generalize hw0:u3.alloc (.cells #[.int .i64 (l1:Int),.int .i64 (l2:Int)] 74)=u4;have b4:Below u3.heap.size u3 u4:=(by rw [← hw0];exact (Below.refl _ _).alloc (Nat.le_refl _) _);have hcl:u4.heap[u3.heap.size]?=some (.cells #[.int .i64 (l1:Int),.int .i64 (l2:Int)] 74 (0,0)):=(by rw [← hw0];exact heap_alloc_new _ _);clear hw0;replace hM:=hM.trans (SMoved.of_below b4);replace hS:=hS.later b4;replace lb:=zB hS.fb;replace huu:=zH b4 huu;clear cuu0 cuu1 cuu2 cuu3;obtain ⟨cuu0,cuu1,cuu2,cuu3⟩:=zAi huu;replace luu:=zB huu;replace hrs:=zH b4 hrs;clear crs0 crs1;obtain ⟨crs0,crs1⟩:=zJ hrs;replace lrs:=zB hrs;replace hmd:=zH b4 hmd;clear cmd0 cmd1;obtain ⟨cmd0,cmd1⟩:=zJ hmd;replace lmd:=zB hmd;obtain ⟨ccl0,ccl1⟩:=zJ hcl;have lcl:=zB hcl;refine (zCw l1 l2 (-x) _ hlt9.1 hlt9.2 (by omega) (by omega)).mono ?_;rintro e u5 ⟨rfl,b5⟩;replace hM:=hM.trans (SMoved.of_below b5);replace hS:=hS.later b5;replace lb:=zB hS.fb;replace huu:=zH b5 huu;clear cuu0 cuu1 cuu2 cuu3;obtain ⟨cuu0,cuu1,cuu2,cuu3⟩:=zAi huu;replace luu:=zB huu;replace hrs:=zH b5 hrs;clear crs0 crs1;obtain ⟨crs0,crs1⟩:=zJ hrs;replace lrs:=zB hrs;replace hmd:=zH b5 hmd;clear cmd0 cmd1;obtain ⟨cmd0,cmd1⟩:=zJ hmd;replace lmd:=zB hmd;replace hcl:=zH b5 hcl;clear ccl0 ccl1;obtain ⟨ccl0,ccl1⟩:=zJ hcl;replace lcl:=zB hcl
   cases hhl:zj (l1,l2) (-x) with
   | false=>
    have HF:Hid (zDd trail.reverse S.ref conf=zDd (trail.take k).reverse p n):=zF (by rw [zA HEX,zA HST,hhl];rfl);clear hhl;go_wp2_with fail
    go_roundg (gk - 1)
    case measure=>omega
    case rel=>exact ⟨k,n,p,V',by go_num,rfl,by omega,by omega,by omega,hn,by omega,hpb,zA HF,hS,hM⟩
   | true=>
    have HST2:Hid (zDd trail.reverse S.ref conf=zDd (trail.take k).reverse (zCC p ms n x.natAbs).1 (zCC p ms n x.natAbs).2):=zF (by rw [zA HEX,zA HST,hhl];rfl);clear hhl;go_wp2_with fail;refine (zJg x _ (by omega) (by omega)).mono ?_;rintro e w8 ⟨rfl,hw8⟩;rw [hw8];clear hw8 w8;go_wp2_with fail;have hDr:Below u5.heap.size u5 u5.drew:=(Below.refl _ _).drew;have hSd:=hS.later hDr;have hMd:=hM.trans (SMoved.of_below hDr)
    go_region_with (go_at_call 113;refine (zGV b 6 _ _ p _ 1 ms n x.natAbs _ (hSd.pat (Or.inl rfl)) (by omega) hpb (by omega)).mono ?_;rintro e u9 ⟨rfl,hgo⟩;obtain ⟨V2,hS2,hM2⟩:=hSd.put (Or.inl rfl) hgo;clear hgo)
    all_goals
     have hrb:=zOD p ms n x.natAbs hpb;generalize zCC p ms n x.natAbs=R at *;obtain ⟨q,rn⟩:=R;dsimp only at hrb HST2 hS2 ⊢;obtain ⟨hr1,hr2,hr3⟩:=hrb;have HR3:Hid (rn≤100000∧q.length + k≤S.ref.length + trail.length):=zF ⟨by omega,by omega⟩;clear hr2 hr3;go_wp2_with fail
     go_roundg (gk - 1)
     case measure=>omega
     case rel=>exact ⟨k,rn,q,V2,by go_num,rfl,by omega,by omega,by omega,(zA HR3).1,(zA HR3).2,hr1,zA HST2,hS2,hMd.trans hM2⟩
theorem zNz {q:QS} (hq:QGood q) {k:Nat} {p:List Stp} (hp:POk q k p) {a b v:Nat} {s:Bool} (ha:1≤a∧a≤p.length) (hb:1≤b∧b≤p.length) (hx:∃ x∈q.vars,x.1=v∧zAl k x.2=true)
  (hfa:Free (zM p a)) (hfb:Free (zM p b)) (hla:L (zM p a) s v=true) (hlb:L (zM p b) (!s) v=true) (hf:Free (zi (zM p a) (zM p b) v)) :
  POk q k (zCC p a b v).1∧(∃ x,(zCC p a b v).1=p ++ [x])∧(zCC p a b v).2=p.length + 1∧(zCC p a b v).1.length=p.length + 1∧zM (zCC p a b v).1 (zCC p a b v).2=zi (zM p a) (zM p b) v:=by
 have hv:1≤v∧v≤8:=(by obtain ⟨x,hx,rfl,_⟩:=hx;exact hq.qb.names x hx);have hsw:zi (zM p b) (zM p a) v=zi (zM p a) (zM p b) v:=zJe (fun s u=>by rw [zCI _ _ _ hv.1 hv.2,zCI _ _ _ hv.1 hv.2,Bool.or_comm]);have hlok:LOk q (zi (zM p a) (zM p b) v):=by
  have h1:=hp.lok a;have h2:=hp.lok b;refine ⟨zBh _ _ ⟨zBD _ _ h1.bd.1 h2.bd.1,zBD _ _ h1.bd.2 h2.bd.2⟩,fun s u hu=>?_⟩;rw [zCI _ _ _ hv.1 hv.2,Bool.and_eq_true,Bool.or_eq_true] at hu
  rcases hu.1 with hu | hu
  ·exact h1.vars s u hu
  ·exact h2.vars s u hu
 have hh:zj (zM p a) (v:Int)=L (zM p a) true v:=zBm _ v true hv.1 hv.2;unfold zCC;rw [hh]
 cases s with
 | true=>
  rw [hla,if_pos rfl];exact ⟨hp.snoc ⟨hlok,Or.inr (Or.inr (Or.inl ⟨rfl,ha,hb,hx,hla,hlb,hfa,hfb,hf,rfl⟩))⟩,⟨_,rfl⟩,rfl,by simp,zD4 _ _⟩
 | false=>
  have hno:L (zM p a) true v=false:=hfa.not hla;rw [hno,if_neg (by decide),hsw];exact ⟨hp.snoc ⟨hlok,Or.inr (Or.inr (Or.inl ⟨rfl,hb,ha,hx,hlb,hla,hfb,hfa,hf,hsw.symm⟩))⟩,⟨_,rfl⟩,rfl,by simp,zD4 _ _⟩
def zK8 (q:QS) (full:Nat × Nat) (u:Nat):Prop:=(∃ x∈q.vars,x.1=u∧x.2=true)∧L full true u=false∧L full false u=false
theorem zGs {q:QS} (hq:QGood q) {x y:Nat × Bool} (hx:x∈q.vars) (hy:y∈q.vars) (h:x.1=y.1):x=y:=by
 obtain ⟨i,hi,rfl⟩:=List.mem_iff_getElem.1 hx;obtain ⟨j,hj,rfl⟩:=List.mem_iff_getElem.1 hy
 have:=zFh hq hi hj h
 subst this;rfl
theorem zSF {q:QS} (hq:QGood q) {ref:List Stp} {cs:List Nat} (hcs:∀ s∈cs,1≤s∧s≤ref.length) {d:Nat} {path:Nat × Nat} (hpa:PathAt q d path) (full:Nat × Nat) :
  ∀ (ts:List (Int × Nat)) (vals:Nat × Nat),zFE q ref cs path ts vals→(∀ s v,L vals s v=true→L full s v=true)→∀ (p:List Stp) (n:Nat),(∃ x,p=ref ++ x)→POk q 1 p→1≤n→n≤p.length→Free (zM p n)→
   (∀ r u,L (zM p n) r u=true→L vals (!r) u=true∨zK8 q full u)→
   POk q 1 (zDd ts p n).1∧(∃ x,(zDd ts p n).1=p ++ x∧x.length≤ts.length)∧1≤(zDd ts p n).2∧(zDd ts p n).2≤(zDd ts p n).1.length∧Free (zM (zDd ts p n).1 (zDd ts p n).2)∧
   (∀ r u,L (zM (zDd ts p n).1 (zDd ts p n).2) r u=true→L path (!r) u=true∨zK8 q full u):=by
 intro ts
 induction ts with
 | nil=>
  intro vals h _ p n hpx hp h1 hn hf hc;have e:vals=path:=h;subst e;exact ⟨hp,⟨[],by simp [zDd],by simp⟩,h1,hn,hf,hc⟩
 | cons t ts ih=>
  rintro vals ⟨pre,hpre,⟨v,s,ht,⟨x,hx,hxe,hxu⟩,hn1,hn2,hcsm,hfr,hLr,hoth⟩,rfl⟩ hfull p n hpx hp h1 hn hf hc;have hv:=hq.qb.names x hx;rw [hxe] at hv;rw [ht] at hc hfull;have hsub:∀ r u,L pre r u=true→L full r u=true:=fun r u h=>hfull r u (by rw [zBH _ _ _ hv.1 hv.2,h];rfl)
  have hvf:L full s v=true:=hfull s v (by rw [zBH _ _ _ hv.1 hv.2];simp);have hrr:=hcs _ hcsm;obtain ⟨xx,hpe⟩:=hpx;have hlr:zM p t.2=zM ref t.2:=(by rw [hpe,zB9 _ _ _ hrr.2]);have hplen:t.2≤p.length:=(by rw [hpe,List.length_append];omega);have hvfree:=(zEl hq hpa ts pre hpre).1;have hloose:∀ u,zK8 q full u→u≠v:=by
   rintro u ⟨⟨y,hy,hye,hyu⟩,_,_⟩ e
   have:=zGs hq hy hx (by rw [hye,hxe,e])
   rw [this,hxu] at hyu;cases hyu
  have hcp:∀ r u,u≠v→L (zM p n) r u=true→L pre (!r) u=true∨zK8 q full u:=by
   intro r u hne hr
   rcases hc r u hr with h | h
   ·rw [zBH _ _ _ hv.1 hv.2,Bool.or_eq_true,Bool.and_eq_true] at h
    rcases h with h | ⟨_,h⟩
    ·exact Or.inl h
    ·exact absurd (of_decide_eq_true h) hne
   ·exact Or.inr h
  have hcv:∀ r,L (zM p n) r v=true→r=!s:=by
   intro r hr
   rcases hc r v hr with h | h
   ·rw [zBH _ _ _ hv.1 hv.2,Bool.or_eq_true,Bool.and_eq_true] at h
    rcases h with h | ⟨h,_⟩
    ·cases r
     ·simp only [Bool.not_false] at h;rw [hn1] at h;cases h
     ·simp only [Bool.not_true] at h;rw [hn2] at h;cases h
    ·revert h;cases r<;>cases s<;>simp
   ·exact absurd rfl (hloose v h)
  rw [zDd];have hneg:-t.1=zAF v (!s):=(by rw [ht,zI5]);have habs:t.1.natAbs=v:=(by rw [ht,zRF]);rw [hneg,habs,zBm _ _ _ hv.1 hv.2]
  cases hh:L (zM p n) (!s) v with
  | false=>
   simp only [Bool.false_eq_true,if_false]
   have:=ih pre hpre hsub p n ⟨xx,hpe⟩ hp h1 hn hf (fun r u hr=>by
    by_cases e:u=v
    ·subst e;have e2:=hcv r hr;rw [e2] at hr;rw [hr] at hh;cases hh
    ·exact hcp r u e hr)
   obtain ⟨a1,⟨y,a2,a3⟩,a4⟩:=this;exact ⟨a1,⟨y,a2,by simp;omega⟩,a4⟩
  | true=>
   simp only [if_true];have hres:∀ r u,L (zi (zM p t.2) (zM p n) v) r u=true→L pre (!r) u=true∨zK8 q full u:=by
    intro r u hr;rw [zCI _ _ _ hv.1 hv.2,Bool.and_eq_true,Bool.or_eq_true,Bool.not_eq_true'] at hr;have hne:u≠v:=of_decide_eq_false hr.2
    rcases hr.1 with hr | hr
    ·rw [hlr] at hr
     rcases hoth u r hr with h | h
     ·exact absurd h.1 hne
     ·exact Or.inl h
    ·exact hcp r u hne hr
   have hfree2:Free (zi (zM p t.2) (zM p n) v):=by
    intro u a b;have ha:=hres true u a;have hb:=hres false u b
    rcases ha with ha | ha
    ·rcases hb with hb | hb
     ·exact hvfree u hb ha
     ·have h5:L full false u=true:=hsub _ _ ha;rw [hb.2.2] at h5;cases h5
    ·rcases hb with hb | hb
     ·have h5:L full true u=true:=hsub _ _ hb;rw [ha.2.1] at h5;cases h5
     ·rw [zCI _ _ _ hv.1 hv.2,Bool.and_eq_true,Bool.or_eq_true] at a b;have hnr:∀ r,L (zM p t.2) r u=true→False:=by
       intro r hr;rw [hlr] at hr
       rcases hoth u r hr with h | h
       ·exact hloose u ha h.1
       ·have h5:=hsub _ _ h
        cases r
        ·have h6:L full true u=true:=h5;rw [ha.2.1] at h6;cases h6
        ·have h6:L full false u=true:=h5;rw [ha.2.2] at h6;cases h6
      rcases a.1 with a | a
      ·exact hnr _ a
      ·rcases b.1 with b | b
       ·exact hnr _ b
       ·exact hf u a b
   have hr:=zNz hq hp (s:=s) ⟨hrr.1,hplen⟩ ⟨h1,hn⟩ ⟨x,hx,hxe,by rw [hxu];rfl⟩ (by rw [hlr];exact hfr) hf (by rw [hlr];exact hLr) hh hfree2;obtain ⟨b1,⟨y,b2⟩,b3,b4,b5⟩:=hr
   have:=ih pre hpre hsub (zCC p t.2 n v).1 (zCC p t.2 n v).2 ⟨xx ++ [y],by rw [b2,hpe,List.append_assoc]⟩ b1 (by omega) (by omega) (by rw [b5];exact hfree2) (fun r u hu=>hres r u (by rw [← b5];exact hu))
   obtain ⟨a1,⟨z,a2,a3⟩,a4⟩:=this;exact ⟨a1,⟨y :: z,by rw [a2,b2];simp,by simp;omega⟩,a4⟩
structure FactOk (q:QS) (S:SS) (path:Nat × Nat) (f:Nat × Nat):Prop where
 inn:FactIn q S f
 on:zG2 f.1 path (S.lits f)
theorem zOy {uni vals:Nat × Nat} {c:Nat × Nat} (h:zBj uni vals c=true):Free c∧(∀ r u,L c r u=true→L vals r u=false)∧(∀ r u,L c r u=true→L vals (!r) u=true∨L uni r u=true):=by
 unfold zBj zDK at h;rw [Bool.and_eq_true,Bool.and_eq_true,Bool.not_eq_true',Bool.not_eq_true',zDp] at h;obtain ⟨⟨h1,h2⟩,h3⟩:=h;refine ⟨(zGm _).1 h2,fun r u hr=>?_,fun r u hr=>?_⟩
 ·cases hh:L vals r u with
  | false=>rfl
  | true=>rw [(zCB _ _).2 ⟨r,u,hr,hh⟩] at h1;cases h1
 ·have:=h3 r u
  rw [zDm,zES,hr] at this
  cases hh:L vals (!r) u with
  | true=>exact Or.inl rfl
  | false=>
   rw [hh] at this
   right
   simpa using this
theorem zIl {C:SC} (hq:QGood C.q) (hu:zFy C.q C.uni) {S:SS} (hS:SInv C S) (path:Nat × Nat) :
  zFE C.q S.ref (zg C.q S.kept) path (zX C S path).trail.reverse (zX C S path).vals∧(zX C S path).trail.length≤C.q.vars.length + 1∧
  ((zX C S path).conf≠0→(zX C S path).conf∈zg C.q S.kept∧zBj C.uni (zX C S path).vals (zM S.ref (zX C S path).conf)=true):=by
 have:=zMq hq hu hS.ref (cs:=zg C.q S.kept) (path:=path) (C.q.vars.length + 1) path [] rfl
 exact ⟨this.1,by simpa [zX] using this.2.1,this.2.2⟩
def zAw (S:SS):Nat:=S.ref.length + S.aff.length
def twos (p:List Stp):Nat:=(p.filter (fun s=>s.rule == 3)).length
theorem zIR {C:SC} (hq:QGood C.q) (hu:zFy C.q C.uni) {S:SS} (hS:SInv C S) {d:Nat} {path:Nat × Nat} (hpa:PathAt C.q d path) (hc:(zX C S path).conf≠0) :
  SInv C (zAW C S (zX C S path)).1∧Ext S (zAW C S (zX C S path)).1∧FactOk C.q (zAW C S (zX C S path)).1 path (zAW C S (zX C S path)).2∧(zAW C S (zX C S path)).1.nodes=S.nodes∧
  zAw (zAW C S (zX C S path)).1≤zAw S + (C.q.vars.length + 2)∧(zAW C S (zX C S path)).2.1=1∧twos (zAW C S (zX C S path)).1.ref≤twos S.ref + (zX C S path).trail.length:=by
 obtain ⟨ht,hlen,hcf⟩:=zIl hq hu hS path;obtain ⟨hcin,hcf⟩:=hcf hc;generalize zX C S path=U at *;obtain ⟨hv1,hv2,hv3,hv4⟩:=zEl hq hpa _ _ ht;obtain ⟨c1,c2,c3⟩:=zOy hcf;have hcr:=zE1 hS hcin;have hl:=hS.ref.lok U.conf;obtain ⟨e1,⟨x,e2,e3⟩,e4,e5,e6,e7⟩:=zSF hq (fun s hs=>zE1 hS hs) hpa U.vals _ _ ht (fun _ _ h=>h) S.ref U.conf ⟨[],by simp⟩ hS.ref hcr.1 hcr.2 c1 (fun r u hr=>by
  rcases c3 r u hr with h | h
  ·exact Or.inl h
  ·cases hh:L U.vals (!r) u with
   | true=>exact Or.inl rfl
   | false=>
    refine Or.inr ⟨(hu r u).1 h,?_,?_⟩
    ·cases r
     ·simpa using hh
     ·exact c2 true u hr
    ·cases r
     ·exact c2 false u hr
     ·simpa using hh)
 obtain ⟨d1,⟨y,d2,d3,d3'⟩,d4,d5,d6⟩:=zKe hq 1 _ _ e1 e4 e5 e6;unfold zAW;dsimp only;generalize zDd U.trail.reverse S.ref U.conf=r at *;generalize zBz C.q 1 r.1 r.2=dd at *;have hgrow:SInv C { S with ref:=dd.1 }:=hS.grow ⟨x ++ y,by rw [d2,e2,List.append_assoc]⟩ d1;have hext:Ext S { S with ref:=dd.1 }:=⟨⟨x ++ y,by show dd.1=_;rw [d2,e2,List.append_assoc]⟩,⟨[],by simp⟩⟩;have hlits:({ S with ref:=dd.1 }:SS).lits (1,dd.2)=zAR 1 C.q.vars.reverse (zM r.1 r.2):=d6;have hon:zG2 1 path (zAR 1 C.q.vars.reverse (zM r.1 r.2)):=by
  intro s v hv;have hs:=zEo hq 1 _ _ _ hv;show L path (s == false) v=true;rw [show (s == false)=!s from by cases s<;>rfl]
  rcases e7 s v hs with h | h
  ·exact h
  ·exfalso
   obtain ⟨⟨z,hz,hze,hzu⟩,h6,h7⟩:=h;obtain ⟨i,hi,rfl⟩:=List.mem_iff_getElem.1 hz;have hid:d≤i:=by
    rcases Nat.lt_or_ge i d with hlt | hge
    ·obtain ⟨t,ht⟩:=hpa.all i hi hlt;rw [hze] at ht
     have:=hv3 _ _ ht
     cases t
     ·rw [h7] at this;cases this
     ·rw [h6] at this;cases this
    ·exact hge
   have hg:=zJr hq 1 d C.q.vars.length (Nat.le_refl _) (zM r.1 r.2) (fun j hj hdj _ t htj=>by
    rcases e7 t _ htj with h | h
    ·rw [hpa.off hq hj hdj] at h;cases h
    ·obtain ⟨⟨z,hz,hze2,hzu2⟩,_⟩:=h
     have:=zGs hq hz (List.getElem_mem hj) hze2
     rw [this] at hzu2;rw [hzu2];rfl) i hi hid hi s
   rw [List.take_length,hze] at hg;rw [hg] at hv;cases hv
 have hfact:FactIn C.q { S with ref:=dd.1 } (1,dd.2):=⟨Or.inl rfl,d4,d5,by rw [hlits];exact e6.sub (fun s v=>zEo hq 1 _ s v),by rw [hlits];exact zIQ hq 1 _⟩;have hsize:zAw { S with ref:=dd.1 }≤zAw S + (C.q.vars.length + 2):=by
  unfold zAw;show dd.1.length + S.aff.length≤_;rw [d2,e2];simp at e3 ⊢;omega
 have htwo:twos dd.1≤twos S.ref + U.trail.length:=by
  unfold twos;rw [d2,e2,List.filter_append,List.filter_append,List.length_append,List.length_append];have h1:(x.filter (fun s=>s.rule == 3)).length≤x.length:=List.length_filter_le _ _;have h2:y.filter (fun s=>s.rule == 3)=[]:=List.filter_eq_nil_iff.2 (fun s hs=>by simpa using d3' s hs);rw [h2];simp at e3 ⊢;omega
 split
 ·have hk:=zJ1 hgrow hfact;obtain ⟨k1,k2,k3⟩:=zFS C.room { S with ref:=dd.1 } (1,dd.2);have hke:=zGb C.room { S with ref:=dd.1 } (1,dd.2);refine ⟨hk,hext.trans hke,⟨hfact.ext hke,?_⟩,k3,by unfold zAw at hsize ⊢;rw [k1,k2];exact hsize,rfl,by rw [k1];exact htwo⟩;rw [hke.lits hfact.hi,hlits];exact hon
 ·exact ⟨hgrow,hext,⟨hfact,by rw [hlits];exact hon⟩,rfl,hsize,rfl,htwo⟩
theorem zJM {q:QS} (hq:QGood q) {u:Bool} {c:Nat × Nat} {v:Nat × Bool} (hv:v∈q.vars) (hb:Bd c) (hs:zCD q.cl c=true):Bd (zm q u c v)∧zCD q.cl (zm q u c v)=true∧∀ s w,L (zm q u c v) s w=true→L c s w=true:=by
 unfold zm;have hn:=hq.qb.names v hv
 split
 ·next h=>exact ⟨zBh _ _ hb,h.2,fun s w hw=>by rw [zBo _ _ hn.1 hn.2,Bool.and_eq_true] at hw;exact hw.1⟩
 ·exact ⟨hb,hs,fun _ _ h=>h⟩
theorem zIt {q:QS} (hq:QGood q) (u:Bool):∀ (vs:List (Nat × Bool)),(∀ v∈vs,v∈q.vars)→∀ c,Bd c→zCD q.cl c=true→Bd (vs.foldl (zm q u) c)∧zCD q.cl (vs.foldl (zm q u) c)=true∧∀ s w,L (vs.foldl (zm q u) c) s w=true→L c s w=true:=by
 intro vs
 induction vs with
 | nil=>intro _ c hb hs;exact ⟨hb,hs,fun _ _ h=>h⟩
 | cons v vs ih=>
  intro hv c hb hs;obtain ⟨h1,h2,h3⟩:=zJM hq (u:=u) (hv v (by simp)) hb hs;obtain ⟨i1,i2,i3⟩:=ih (fun w hw=>hv w (by simp [hw])) _ h1 h2;exact ⟨i1,i2,fun s w h=>h3 s w (i3 s w h)⟩
theorem zOW {q:QS} (hq:QGood q) {c:Nat × Nat} (hb:Bd c) (hs:zCD q.cl c=true):Bd (zAY q c)∧zCD q.cl (zAY q c)=true∧∀ s w,L (zAY q c) s w=true→L c s w=true:=by
 obtain ⟨h1,h2,h3⟩:=zIt hq true q.vars.reverse (fun v hv=>List.mem_reverse.1 hv) c hb hs;obtain ⟨i1,i2,i3⟩:=zIt hq false q.vars.reverse (fun v hv=>List.mem_reverse.1 hv) _ h1 h2;exact ⟨i1,i2,fun s w h=>h3 s w (i3 s w h)⟩
structure zM5 (C:SC) (S:SS) (path:Nat × Nat) (r:SS × (Nat × Nat)) (more:Nat):Prop where
 inv:SInv C r.1
 ext:Ext S r.1
 size:zAw r.1≤zAw S + more
 fact:r.2.1≠0→FactOk C.q r.1 path r.2
 zero:r.2.1=0→r.2.2=0
theorem zSU {C:SC} (hq:QGood C.q) {S:SS} (hS:SInv C S) {d:Nat} {path vals:Nat × Nat} (hpa:PathAt C.q d path) {ref:List Stp} {cs:List Nat} {ts:List (Int × Nat)} (ht:zFE C.q ref cs path ts vals) :
  zM5 C S path (zBT C S path vals) 2∧(zBT C S path vals).1.nodes=S.nodes∧(zCD C.q.cl vals=true→(zBT C S path vals).2.1≠0):=by
 obtain ⟨hv1,hv2,hv3,hv4⟩:=zEl hq hpa _ _ ht;unfold zBT
 cases hf:S.kept.find? (fun f=>f.1 == 2 && zDD (S.lits f) path) with
 | some f=>
  have hm:=List.mem_of_find?_eq_some hf;have hp:=List.find?_some hf;simp only [Bool.and_eq_true,beq_iff_eq] at hp;have hk:=hS.kept f hm;have h0:f.1≠0:=(by rw [hp.1];decide);refine ⟨⟨hS,Ext.refl _,Nat.le_add_right _ _,fun _=>⟨hk,fun s v hv=>?_⟩,fun h=>absurd h h0⟩,rfl,fun _=>h0⟩;have he:=(zDp _).1 hp.2 s v;rw [zDm,hv] at he;show L path (s == (f.1 == 2)) v=true;rw [hp.1,show (s == ((2:Nat) == 2))=s from by cases s<;>rfl]
  simpa using he
 | none=>
  dsimp only
  cases hs:zCD C.q.cl vals with
  | false=>
   rw [if_neg (by decide)];exact ⟨⟨hS,Ext.refl _,Nat.le_add_right _ _,fun h=>absurd rfl h,fun _=>rfl⟩,rfl,fun h=>by cases h⟩
  | true=>
   simp only [if_true];obtain ⟨s1,s2,s3⟩:=zOW hq hv2.bd hs;have hnew:POk C.q 2 (S.aff ++ [⟨2,0,0,0,zAY C.q vals⟩]):=hS.aff.snoc ⟨zKj hv2 s1 s3,Or.inr (Or.inl ⟨rfl,rfl,rfl,rfl,hv1.sub s3,s2⟩)⟩;have hlen:(S.aff ++ [(⟨2,0,0,0,zAY C.q vals⟩:Stp)]).length=S.aff.length + 1:=(by simp);have hla:zM (S.aff ++ [⟨2,0,0,0,zAY C.q vals⟩]) (S.aff ++ [(⟨2,0,0,0,zAY C.q vals⟩:Stp)]).length=zAY C.q vals:=(by rw [hlen,zD4]);obtain ⟨d1,⟨y,d2,d3,_⟩,d4,d5,d6⟩:=zKe hq 2 _ (S.aff ++ [(⟨2,0,0,0,zAY C.q vals⟩:Stp)]).length hnew (by omega) (Nat.le_refl _) (by rw [hla];exact hv1.sub s3);rw [hla] at d6;generalize zBz C.q 2 (S.aff ++ [⟨2,0,0,0,zAY C.q vals⟩]) (S.aff ++ [(⟨2,0,0,0,zAY C.q vals⟩:Stp)]).length=dd at *;have hpre:∃ x,dd.1=S.aff ++ x:=⟨[⟨2,0,0,0,zAY C.q vals⟩] ++ y,by rw [d2,List.append_assoc]⟩;have hgrow:SInv C { S with aff:=dd.1 }:=hS.growA hpre d1;have hext:Ext S { S with aff:=dd.1 }:=⟨⟨[],by simp⟩,hpre⟩;have hlits:({ S with aff:=dd.1 }:SS).lits (2,dd.2)=zAR 2 C.q.vars.reverse (zAY C.q vals):=d6;have hon:zG2 2 path (zAR 2 C.q.vars.reverse (zAY C.q vals)):=by
    intro s v hv;have hs:=zEo hq 2 _ _ _ hv;show L path (s == true) v=true;rw [show (s == true)=s from by cases s<;>rfl]
    rcases hv4 s v (s3 s v hs) with h | h
    ·exact h
    ·exfalso
     obtain ⟨⟨z,hz,hze,hzu⟩,h6,h7⟩:=h;obtain ⟨i,hi,rfl⟩:=List.mem_iff_getElem.1 hz;have hid:d≤i:=by
      rcases Nat.lt_or_ge i d with hlt | hge
      ·obtain ⟨t,ht⟩:=hpa.all i hi hlt;rw [hze] at ht
       cases t
       ·rw [h7] at ht;cases ht
       ·rw [h6] at ht;cases ht
      ·exact hge
     have hg:=zJr hq 2 d C.q.vars.length (Nat.le_refl _) (zAY C.q vals) (fun j hj hdj _ t htj=>by
      rcases hv4 t _ (s3 t _ htj) with h | h
      ·rw [hpa.off hq hj hdj] at h;cases h
      ·obtain ⟨⟨z,hz,hze2,hzu2⟩,_⟩:=h
       have:=zGs hq hz (List.getElem_mem hj) hze2
       rw [this] at hzu2;rw [hzu2];rfl) i hi hid hi s
     rw [List.take_length,hze] at hg;rw [hg] at hv;cases hv
   have hfact:FactIn C.q { S with aff:=dd.1 } (2,dd.2):=⟨Or.inr rfl,d4,d5,by rw [hlits];exact (hv1.sub s3).sub (fun s v=>zEo hq 2 _ s v),by rw [hlits];exact zIQ hq 2 _⟩;have hk:=zJ1 hgrow hfact;obtain ⟨k1,k2,k3⟩:=zFS C.room { S with aff:=dd.1 } (2,dd.2);have hke:=zGb C.room { S with aff:=dd.1 } (2,dd.2);refine ⟨⟨hk,hext.trans hke,?_,fun _=>⟨hfact.ext hke,by rw [hke.lits hfact.hi,hlits];exact hon⟩,fun h=>by cases h⟩,k3,fun _ h=>by cases h⟩;unfold zAw;rw [k1,k2];show S.ref.length + dd.1.length≤_;rw [d2];simp;omega
theorem zJn {ref:List Stp} {uni:Nat × Nat} {cs:List Nat} {vals:Nat × Nat} (h0:∀ s∈cs,1≤s) {s:Nat} (hs:s∈cs) (hc:zBj uni vals (zM ref s)=true):zBi ref uni cs vals≠0:=by
 unfold zBi
 cases hf:cs.find? (fun s=>zBj uni vals (zM ref s)) with
 | none=>rw [List.find?_eq_none] at hf;exact absurd hc (hf s hs)
 | some t=>
  have:=h0 t (List.mem_of_find?_eq_some hf)
  show t≠0;omega
theorem zRu {C:SC} (hq:QGood C.q) (hu:zFy C.q C.uni) {S:SS} (hS:SInv C S) {path:Nat × Nat} (hpa:PathAt C.q C.q.vars.length path) (hc:(zX C S path).conf=0):zCD C.q.cl (zX C S path).vals=true:=by
 have hfull:∀ c,LOk C.q c→∀ s v,L c s v=true→L path s v=true∨L path (!s) v=true:=by
  intro c hc s v hv;obtain ⟨x,hx,rfl⟩:=List.mem_map.1 (hc.vars s v hv);obtain ⟨i,hi,rfl⟩:=List.mem_iff_getElem.1 hx;obtain ⟨t,ht⟩:=hpa.all i hi hi
  cases s<;>cases t
  ·exact Or.inl ht
  ·exact Or.inr ht
  ·exact Or.inr ht
  ·exact Or.inl ht
 have hu0:(zAd S.ref C.uni (zg C.q S.kept) path).2=0:=by
  apply Classical.byContradiction
  intro hne;obtain ⟨v,s,h1,⟨x,hx,hxe,_⟩,h2,h3,_⟩:=zOB hq hu hS.ref hne;obtain ⟨i,hi,rfl⟩:=List.mem_iff_getElem.1 hx;obtain ⟨t,ht⟩:=hpa.all i hi hi;rw [hxe] at ht
  cases t
  ·rw [h3] at ht;cases ht
  ·rw [h2] at ht;cases ht
 have hun:zX C S path=if zBi S.ref C.uni (zg C.q S.kept) path≠0 then ⟨path,[],zBi S.ref C.uni (zg C.q S.kept) path⟩ else ⟨path,[],0⟩:=by
  unfold zX;rw [zAp,if_pos hu0]
 have hc0:zBi S.ref C.uni (zg C.q S.kept) path=0:=by
  apply Classical.byContradiction
  intro hne;rw [hun,if_pos hne] at hc;exact hne hc
 rw [hun,if_neg (by simp [hc0])];unfold zCD;rw [List.all_eq_true];intro c hcm;obtain ⟨i,hi,rfl⟩:=List.mem_iff_getElem.1 hcm
 cases hok:okC C.q.cl[i] path with
 | true=>rfl
 | false=>
  exfalso
  have hin:i + 1∈zg C.q S.kept:=by
   unfold zg;exact List.mem_append_left _ (List.mem_map.2 ⟨i,List.mem_range.2 hi,rfl⟩)
  refine zJn (fun s hs=>(zE1 hS hs).1) hin ?_ hc0;have hl:=hS.ref.lok (i + 1);rw [hS.ax i hi] at hl ⊢;have hme:zEr C.q.cl[i] path=false:=by
   unfold okC at hok;rw [Bool.or_eq_false_iff] at hok;exact hok.1
  have hcl:zHS C.q.cl[i]=false:=by
   unfold okC at hok;rw [Bool.or_eq_false_iff] at hok;exact hok.2
  unfold zBj zDK;rw [hme,hcl];simp only [Bool.not_false,Bool.and_self,Bool.true_and];rw [zDp];intro s v;rw [zDm,zES]
  cases hv:L C.q.cl[i] s v with
  | false=>rfl
  | true=>
   rcases hfull _ hl s v hv with h | h
   ·rw [(zCB _ _).2 ⟨s,v,hv,h⟩] at hme;cases hme
   ·rw [h];rfl
theorem zHI {C:SC} {S:SS} (h:SInv C S) (n:Nat):SInv C { S with nodes:=n }:=
 ⟨h.ref,h.len,h.ax,h.aff,fun f hf=>⟨(h.kept f hf).kind,(h.kept f hf).lo,(h.kept f hf).hi,(h.kept f hf).free,(h.kept f hf).red⟩,h.room,h.most⟩
def zDx:(SS × (Nat × Nat)) ⊕ (SS × (Nat × Nat))→SS × (Nat × Nat)
 | .inl r=>r
 | .inr r=>(r.1,(0,0))
def zSj {α β:Type}:α ⊕ β→Bool
 | .inl _=>false
 | .inr _=>true
theorem zKi {C:SC} (hq:QGood C.q) (hu:zFy C.q C.uni) {S:SS} (hS:SInv C S) {d:Nat} {path:Nat × Nat} (hpa:PathAt C.q d path) :
  zM5 C S path (zDx (zAa C S path)) (10 * ((zDx (zAa C S path)).1.nodes - S.nodes))∧
  (((zDx (zAa C S path)).1.nodes=S.nodes∧(0 < C.budget∧C.budget≤S.nodes)∧zAa C S path=.inl (S,(0,0)))∨
   ((zDx (zAa C S path)).1.nodes=S.nodes + 1∧¬ (0 < C.budget∧C.budget≤S.nodes)∧((zDx (zAa C S path)).2.1=0→zSj (zAa C S path)=true∧d≠C.q.vars.length))):=by
 have hvl:=hq.qb.vl
 by_cases hb:0 < C.budget∧C.budget≤S.nodes
 ·have e:zAa C S path=.inl (S,(0,0)):=(by unfold zAa;rw [if_pos hb]);rw [e];exact ⟨⟨hS,Ext.refl _,by simp [zDx],fun h=>absurd rfl h,fun _=>rfl⟩,Or.inl ⟨rfl,hb,rfl⟩⟩
 ·have hS1:=zHI hS (S.nodes + 1);have hx1:Ext S { S with nodes:=S.nodes + 1 }:=⟨⟨[],by simp⟩,⟨[],by simp⟩⟩;obtain ⟨ht,_,_⟩:=zIl hq hu hS1 path;have hex:(zX C { S with nodes:=S.nodes + 1 } path).conf≠0→_:=fun h=>zIR hq hu hS1 hpa h
  have hcu:=zSU hq hS1 hpa ht;have hlf:d=C.q.vars.length→(zX C { S with nodes:=S.nodes + 1 } path).conf=0→zCD C.q.cl (zX C { S with nodes:=S.nodes + 1 } path).vals=true:=fun hd h=>zRu hq hu hS1 (by rw [← hd];exact hpa) h
  unfold zAa;rw [if_neg hb];dsimp only;generalize zX C { S with nodes:=S.nodes + 1 } path=U at *;have hsz:zAw { S with nodes:=S.nodes + 1 }=zAw S:=rfl
  by_cases hc:U.conf≠0
  ·rw [if_pos hc];obtain ⟨a1,a2,a3,a4,a5,a6,_⟩:=hex hc;have hn:(zAW C { S with nodes:=S.nodes + 1 } U).1.nodes=S.nodes + 1:=a4;refine ⟨⟨a1,hx1.trans a2,?_,fun _=>a3,fun h=>?_⟩,Or.inr ⟨hn,hb,fun h=>?_⟩⟩
   ·show zAw (zAW C { S with nodes:=S.nodes + 1 } U).1≤zAw S + 10 * ((zAW C { S with nodes:=S.nodes + 1 } U).1.nodes - S.nodes);rw [hn];omega
   ·have h':(zAW C { S with nodes:=S.nodes + 1 } U).2.1=0:=h;rw [a6] at h';cases h'
   ·have h':(zAW C { S with nodes:=S.nodes + 1 } U).2.1=0:=h;rw [a6] at h';cases h'
  ·rw [if_neg hc];have hc0:U.conf=0:=(by omega);obtain ⟨b1,b2,b3⟩:=hcu;generalize zBT C { S with nodes:=S.nodes + 1 } path U.vals=r at *;have hn:r.1.nodes=S.nodes + 1:=b2
   by_cases hr:r.2.1≠0
   ·rw [if_pos hr];refine ⟨⟨b1.inv,hx1.trans b1.ext,?_,b1.fact,b1.zero⟩,Or.inr ⟨hn,hb,fun h=>absurd h hr⟩⟩;show zAw r.1≤zAw S + 10 * (r.1.nodes - S.nodes)
    have:=b1.size
    rw [hn];omega
   ·rw [if_neg hr];refine ⟨⟨b1.inv,hx1.trans b1.ext,?_,fun h=>absurd rfl h,fun _=>rfl⟩,Or.inr ⟨hn,hb,fun _=>⟨rfl,fun hd=>hr (b3 (hlf hd hc0))⟩⟩⟩;show zAw r.1≤zAw S + 10 * (r.1.nodes - S.nodes)
    have:=b1.size
    rw [hn];omega
theorem zJW (S:SS) (k:Nat) (p:List Stp):(S.put k p).proof k=p:=by
 unfold SS.put SS.proof;split<;>rfl
theorem zPM (S:SS) (k:Nat) (p:List Stp):(S.put k p).nodes=S.nodes:=by unfold SS.put;split<;>rfl
theorem zSd (S:SS) (k:Nat) (p:List Stp) (h:∃ x,p=S.proof k ++ x):Ext S (S.put k p):=by
 unfold SS.put;unfold SS.proof at h
 split
 ·next e=>rw [if_pos e] at h;exact ⟨⟨[],by simp⟩,h⟩
 ·next e=>rw [if_neg e] at h;exact ⟨h,⟨[],by simp⟩⟩
theorem zQF (S:SS) (k:Nat) (p:List Stp) (n:Nat) (h:p.length≤(S.proof k).length + n):zAw (S.put k p)≤zAw S + n:=by
 unfold SS.put zAw;unfold SS.proof at h
 split
 ·next e=>rw [if_pos e] at h;show S.ref.length + p.length≤_;omega
 ·next e=>rw [if_neg e] at h;show p.length + S.aff.length≤_;omega
theorem SInv.pok {C:SC} {S:SS} (h:SInv C S) {k:Nat} (hk:k=1∨k=2):POk C.q k (S.proof k):=by
 rcases hk with rfl | rfl
 ·exact h.ref
 ·exact h.aff
theorem zSL {C:SC} {S:SS} (h:SInv C S) {k:Nat} (hk:k=1∨k=2) {p:List Stp} (hp:∃ x,p=S.proof k ++ x) (hok:POk C.q k p):SInv C (S.put k p):=by
 rcases hk with rfl | rfl
 ·exact h.grow hp hok
 ·exact h.growA hp hok
theorem zKn {k:Nat} {path c:Nat × Nat} {v:Nat} {s:Bool} (h1:1≤v) (h8:v≤8) (h:zG2 k (zQ path (zAF v s)) c):∀ t u,L c t u=true→(u≠v→L path (t == (k == 2)) u=true):=by
 intro t u ht hne
 have:=h t u ht
 rw [zBH _ _ _ h1 h8,Bool.or_eq_true,Bool.and_eq_true] at this
 rcases this with h | ⟨_,h⟩
 ·exact h
 ·exact absurd (of_decide_eq_true h) hne
theorem zSi {q:QS} (hq:QGood q) {d:Nat} {path:Nat × Nat} (hpa:PathAt q d path) (hd:d < q.vars.length) {k:Nat} {c:Nat × Nat} {s:Bool} (h:zG2 k (zQ path (zAF q.vars[d].1 s)) c) (hh:zs c q.vars[d].1=true):L c (s == (k == 2)) q.vars[d].1=true:=by
 have hv:=zDt hq d hd;have key:∀ t,L c t q.vars[d].1=true→t=(s == (k == 2)):=by
  intro t ht
  have:=h t _ ht
  rw [zBH _ _ _ hv.1 hv.2,hpa.off hq hd (Nat.le_refl _),Bool.false_or,Bool.and_eq_true,beq_iff_eq] at this;have h2:=this.1
  revert h2
  generalize (k == 2)=b
  cases t<;>cases s<;>cases b<;>simp
 rw [zCl _ _ hv.1 hv.2,Bool.or_eq_true] at hh
 rcases hh with hh | hh
 ·rw [← key true hh];exact hh
 ·rw [← key false hh];exact hh
theorem zIu {C:SC} (hq:QGood C.q) {S:SS} {d:Nat} {path:Nat × Nat} (hpa:PathAt C.q (d + 1) path) (hd:d < C.q.vars.length) {f:Nat × Nat} (hf:FactOk C.q S path f) (hh:zs (S.lits f) C.q.vars[d].1=true):zAl f.1 C.q.vars[d].2=true:=
 zPC hq f.1 d hd _ hf.inn.red (fun i hi hdi s=>by
  cases hl:L (S.lits f) s C.q.vars[i].1 with
  | false=>rfl
  | true=>
   have:=hf.on s _ hl
   rw [hpa.off hq hi (by omega)] at this;cases this) hh
theorem zSB {C:SC} (hq:QGood C.q) {S:SS} (hS:SInv C S) {d:Nat} {path:Nat × Nat} (hpa:PathAt C.q d path) (hd:d < C.q.vars.length) {a b:Nat × Nat} {s:Bool}
  (ha:FactOk C.q S (zQ path (zAF C.q.vars[d].1 s)) a) (hb:FactOk C.q S (zQ path (zAF C.q.vars[d].1 (!s))) b) (hha:zs (S.lits a) C.q.vars[d].1=true) (hhb:zs (S.lits b) C.q.vars[d].1=true) :
  zM5 C S path (zCP C S a b C.q.vars[d].1) 2∧(zCP C S a b C.q.vars[d].1).1.nodes=S.nodes∧(zCP C S a b C.q.vars[d].1).2.1≠0:=by
 have hv:=zDt hq d hd;have p1:=zIu hq (hpa.next hq hd s) hd ha hha;have p2:=zIu hq (hpa.next hq hd (!s)) hd hb hhb;have hk:b.1=a.1:=by
  rcases ha.inn.kind with h1 | h1<;>rcases hb.inn.kind with h2 | h2<;>rw [h1] at p1 ⊢<;>rw [h2] at p2 ⊢<;>revert p1 p2<;>cases C.q.vars[d].2<;>simp [zAl]
 have hla:=zSi hq hpa hd ha.on hha;have hlb:=zSi hq hpa hd hb.on hhb;rw [hk] at hlb;have hlb':L (S.lits b) (!(s == (a.1 == 2))) C.q.vars[d].1=true:=by
  rw [show (!(s == (a.1 == 2)))=((!s) == (a.1 == 2)) from by generalize (a.1 == 2)=b;cases s<;>cases b<;>rfl];exact hlb
 have hsa:S.lits a=zM (S.proof a.1) a.2:=rfl;have hsb:S.lits b=zM (S.proof a.1) b.2:=(by unfold SS.lits;rw [hk]);have hbhi:=hb.inn.hi;rw [hk] at hbhi;have hres:∀ t u,L (zi (S.lits a) (S.lits b) C.q.vars[d].1) t u=true→L path (t == (a.1 == 2)) u=true:=by
  intro t u ht;rw [zCI _ _ _ hv.1 hv.2,Bool.and_eq_true,Bool.or_eq_true,Bool.not_eq_true'] at ht;have hne:u≠C.q.vars[d].1:=of_decide_eq_false ht.2
  rcases ht.1 with ht | ht
  ·exact zKn hv.1 hv.2 ha.on t u ht hne
  ·have:=zKn hv.1 hv.2 hb.on t u ht hne
   rwa [hk] at this
 have hfree:Free (zi (S.lits a) (S.lits b) C.q.vars[d].1):=hpa.free.flip (a.1 == 2) hres;have hfa:=ha.inn.free;have hfb:=hb.inn.free;rw [hsa] at hla hfa;rw [hsb] at hlb' hfb;rw [hsa,hsb] at hres hfree;obtain ⟨r1,⟨x,r2⟩,r3,r4,r5⟩:=zNz hq (hS.pok ha.inn.kind) ⟨ha.inn.lo,ha.inn.hi⟩ ⟨hb.inn.lo,hbhi⟩ ⟨_,List.getElem_mem hd,rfl,p1⟩ hfa hfb hla hlb' hfree;unfold zCP;dsimp only;generalize zCC (S.proof a.1) a.2 b.2 C.q.vars[d].1=r at *;obtain ⟨d1,⟨y,d2,d3,_⟩,d4,d5,d6⟩:=zKe hq a.1 r.1 r.2 r1 (by omega) (by omega) (by rw [r5];exact hfree);rw [r5] at d6;generalize zBz C.q a.1 r.1 r.2=dd at *;have hpre:∃ z,dd.1=S.proof a.1 ++ z:=⟨[x] ++ y,by rw [d2,r2,List.append_assoc]⟩;have hinv:=zSL hS ha.inn.kind hpre d1;have hext:=zSd S a.1 dd.1 hpre;have hlits:(S.put a.1 dd.1).lits (a.1,dd.2)=zAR a.1 C.q.vars.reverse (zi (zM (S.proof a.1) a.2) (zM (S.proof a.1) b.2) C.q.vars[d].1):=by
  unfold SS.lits;rw [zJW];exact d6
 have hon:zG2 a.1 path ((S.put a.1 dd.1).lits (a.1,dd.2)):=by
  intro t u ht;rw [hlits] at ht;exact hres t u (zEo hq a.1 _ _ _ ht)
 have hfact:FactIn C.q (S.put a.1 dd.1) (a.1,dd.2):=⟨ha.inn.kind,d4,by rw [zJW];exact d5,by rw [hlits];exact hfree.sub (fun s v=>zEo hq _ _ s v),by rw [hlits];exact zIQ hq _ _⟩;have hkk:=zJ1 hinv hfact;obtain ⟨k1,k2,k3⟩:=zFS C.room (S.put a.1 dd.1) (a.1,dd.2);have hke:=zGb C.room (S.put a.1 dd.1) (a.1,dd.2);have ha0:a.1≠0:=(by rcases ha.inn.kind with h | h<;>rw [h]<;>decide);refine ⟨⟨hkk,hext.trans hke,?_,fun _=>⟨hfact.ext hke,by rw [hke.lits hfact.hi];exact hon⟩,fun h=>absurd h ha0⟩,k3.trans (zPM _ _ _),ha0⟩;have hz:zAw ((S.put a.1 dd.1).keep C.room (a.1,dd.2))=zAw (S.put a.1 dd.1):=(by unfold zAw;rw [k1,k2]);rw [hz]
 apply zQF
 rw [d2,r2];simp;omega
structure LookOk (C:SC) (m:Nat) (path:Nat × Nat) (S:SS) (r:SS × (Nat × Nat)):Prop where
 inv:SInv C r.1
 ext:Ext S r.1
 fact:r.2.1≠0→FactOk C.q r.1 path r.2
 zero:r.2.1=0→r.2.2=0
 unknown:r.2.1=0→0 < C.budget∧C.budget≤r.1.nodes
 mono:S.nodes≤r.1.nodes
 some:¬ (0 < C.budget∧C.budget≤S.nodes)→S.nodes + 1≤r.1.nodes
 most:r.1.nodes + 1≤S.nodes + 2 ^ (m + 1)
 budget:0 < C.budget→S.nodes≤C.budget→r.1.nodes≤C.budget
 size:zAw r.1≤zAw S + 12 * (r.1.nodes - S.nodes)
theorem zMQ (q:QS) (d:Nat) (h:d < q.vars.length):q.vars.getD d (0,false)=q.vars[d]:=by
 rw [List.getD,List.getElem?_eq_getElem h];rfl
theorem zIT (S:SS) (f:Nat × Nat) (_h1:f.1=0) (h2:f.2=0) (v:Nat):zs (S.lits f) v=false:=by
 unfold SS.lits;rw [h2,zE4 _ _ (by omega)];unfold zs;simp
theorem FactOk.up {q:QS} (hq:QGood q) {S:SS} {d:Nat} (hd:d < q.vars.length) {path:Nat × Nat} {s:Bool} {f:Nat × Nat} (h:FactOk q S (zQ path (zAF q.vars[d].1 s)) f) (hh:zs (S.lits f) q.vars[d].1=false):FactOk q S path f:=by
 have hv:=zDt hq d hd;refine ⟨h.inn,fun t u ht=>?_⟩;refine zKn hv.1 hv.2 h.on t u ht (fun e=>?_);subst e;rw [zCl _ _ hv.1 hv.2,Bool.or_eq_false_iff] at hh
 cases t
 ·rw [hh.2] at ht;cases ht
 ·rw [hh.1] at ht;cases ht
theorem zKA {C:SC} (hq:QGood C.q) (hu:zFy C.q C.uni):∀ (m d:Nat) (path:Nat × Nat) (S:SS),SInv C S→PathAt C.q d path→d + m=C.q.vars.length→LookOk C m path S (z8 C m path d S):=by
 intro m
 induction m with
 | zero=>
  intro d path S hS hpa hdm;obtain ⟨n1,n2⟩:=zKi hq hu hS hpa;have hl:z8 C 0 path d S=zDx (zAa C S path):=by
   rw [z8]
   cases zAa C S path with
   | inl r=>rfl
   | inr r=>rfl
  rw [hl];generalize zDx (zAa C S path)=r at *;have hsz:=n1.size
  rcases n2 with ⟨h1,h2,h3⟩ | ⟨h1,h2,h3⟩
  ·exact ⟨n1.inv,n1.ext,n1.fact,n1.zero,fun _=>by rw [h1];exact h2,by omega,fun h=>absurd h2 h,by rw [h1];simp,fun _ h=>by omega,by omega⟩
  ·exact ⟨n1.inv,n1.ext,n1.fact,n1.zero,fun h=>absurd (by omega) (h3 h).2,by omega,fun _=>by omega,by rw [h1];simp,fun h4 h5=>by
    have:S.nodes < C.budget:=by
     apply Classical.byContradiction
     intro hh;exact h2 ⟨h4,by omega⟩
    omega,by omega⟩
 | succ m ih=>
  intro d path S hS hpa hdm;have hd:d < C.q.vars.length:=(by omega);obtain ⟨n1,n2⟩:=zKi hq hu hS hpa;have hpow:2 ^ (m + 1 + 1)=2 ^ (m + 1) + 2 ^ (m + 1):=(by rw [Nat.pow_succ 2 (m + 1)];omega);have hpos:0 < 2 ^ (m + 1):=Nat.pow_pos (by decide);rw [z8]
  cases hn:zAa C S path with
  | inl r=>
   rw [hn] at n1 n2;simp only [zDx] at n1 n2;dsimp only;have hsz:=n1.size
   rcases n2 with ⟨h1,h2,h3⟩ | ⟨h1,h2,h3⟩
   ·exact ⟨n1.inv,n1.ext,n1.fact,n1.zero,fun _=>by rw [h1];exact h2,by omega,fun h=>absurd h2 h,by omega,fun _ h=>by omega,by omega⟩
   ·exact ⟨n1.inv,n1.ext,n1.fact,n1.zero,fun h=>absurd (h3 h).1 (by simp [zSj]),by omega,fun _=>by omega,by omega,fun h4 h5=>by
     have:S.nodes < C.budget:=by
      apply Classical.byContradiction
      intro hh;exact h2 ⟨h4,by omega⟩
     omega,by omega⟩
  | inr r=>
   obtain ⟨S1,vals⟩:=r;rw [hn] at n1 n2;simp only [zDx] at n1 n2;dsimp only
   rcases n2 with ⟨_,_,h3⟩ | ⟨h1,h2,_⟩
   ·cases h3
   have hsz:=n1.size;have hbud:0 < C.budget→S.nodes≤C.budget→S1.nodes≤C.budget:=fun h4 h5=>by
    have:S.nodes < C.budget:=by
     apply Classical.byContradiction
     intro hh;exact h2 ⟨h4,by omega⟩
    omega
   have hS1:=n1.inv;have hE1:=n1.ext;dsimp only at hS1 hE1 hsz h1;rw [zMQ _ _ hd];obtain ⟨s,hs⟩:∃ s:Bool,(if zj vals (-(C.q.vars[d].1:Int)) then -(C.q.vars[d].1:Int) else (C.q.vars[d].1:Int))=zAF C.q.vars[d].1 s:=by
    split
    ·exact ⟨false,rfl⟩
    ·exact ⟨true,rfl⟩
   rw [hs,zI5];have la:=ih (d + 1) _ S1 hS1 (hpa.next hq hd s) (by omega);generalize z8 C m (zQ path (zAF C.q.vars[d].1 s)) (d + 1) S1=a at *;have la1:=la.mono;have la2:=la.most;have la3:=la.size
   cases hha:zs (a.1.lits a.2) C.q.vars[d].1 with
   | false=>
    simp only [Bool.false_eq_true,if_false];exact ⟨la.inv,hE1.trans la.ext,fun h=>(la.fact h).up hq hd hha,la.zero,la.unknown,by omega,fun _=>by omega,by omega,fun h4 h5=>la.budget h4 (hbud h4 h5),by omega⟩
   | true=>
    simp only [if_true];have ha0:a.2.1≠0:=fun h=>by rw [zIT _ _ h (la.zero h)] at hha;cases hha
    have hfa:=la.fact ha0;have lb:=ih (d + 1) _ a.1 la.inv (hpa.next hq hd (!s)) (by omega);generalize z8 C m (zQ path (zAF C.q.vars[d].1 (!s))) (d + 1) a.1=b at *;have lb1:=lb.mono;have lb2:=lb.most;have lb3:=lb.size
    cases hhb:zs (b.1.lits b.2) C.q.vars[d].1 with
    | false=>
     simp only [Bool.false_eq_true,if_false];exact ⟨lb.inv,(hE1.trans la.ext).trans lb.ext,fun h=>(lb.fact h).up hq hd hhb,lb.zero,lb.unknown,by omega,fun _=>by omega,by omega,fun h4 h5=>lb.budget h4 (la.budget h4 (hbud h4 h5)),by omega⟩
    | true=>
     simp only [if_true];have hb0:b.2.1≠0:=fun h=>by rw [zIT _ _ h (lb.zero h)] at hhb;cases hhb
     have hfb:=lb.fact hb0;have hfa':FactOk C.q b.1 (zQ path (zAF C.q.vars[d].1 s)) a.2:=⟨hfa.inn.ext lb.ext,by rw [lb.ext.lits hfa.inn.hi];exact hfa.on⟩;obtain ⟨j1,j2,j3⟩:=zSB hq lb.inv hpa hd hfa' hfb (by rw [lb.ext.lits hfa.inn.hi];exact hha) hhb;generalize zCP C b.1 a.2 b.2 C.q.vars[d].1=j at *;have jz:=j1.size;exact ⟨j1.inv,((hE1.trans la.ext).trans lb.ext).trans j1.ext,j1.fact,j1.zero,fun h=>absurd h j3,by omega,fun _=>by omega,by omega,fun h4 h5=>by rw [j2];exact lb.budget h4 (la.budget h4 (hbud h4 h5)),by omega⟩
structure CBd (C:SC):Prop where
 qg:QGood C.q
 uni:zFy C.q C.uni
 ub:C.uni.1 < 512∧C.uni.2 < 512
 budget:C.budget≤1048576
 room:C.room≤64
structure LIn (C:SC) (S:SS):Prop where
 inv:SInv C S
 size:zAw S≤100 + 12 * S.nodes
 nodes:S.nodes≤2000
theorem zQ7 {q:QS} {k:Nat} {p:List Stp} (h:POk q k p):∀ s∈p,s.lits.1 < 512∧s.lits.2 < 512:=by
 intro s hs;obtain ⟨i,hi,rfl⟩:=List.mem_iff_getElem.1 hs;exact (h i hi).1.bd
theorem zIb (S:SS):S.ref.length≤zAw S∧S.aff.length≤zAw S:=⟨Nat.le_add_right _ _,Nat.le_add_left _ _⟩
theorem LIn.bd {C:SC} {S:SS} (hC:CBd C) (h:LIn C S):SBd C S:=by
 have h1:=h.size;have h2:=h.nodes;have h3:=zIb S;have h4:=hC.room;have h5:=h.inv.room;have h6:=h.inv.most;refine ⟨hC.qg.qb,hC.ub,zQ7 h.inv.ref,zQ7 h.inv.aff,by omega,by omega,by omega,fun f hf=>?_,hC.budget,h4,by omega,by omega⟩;have hk:=h.inv.kept f hf;have hi:=hk.hi;refine ⟨by rcases hk.kind with e | e<;>omega,?_⟩;unfold SS.proof at hi
 split at hi<;>omega
def zBl (C:SC):Nat→Nat × Nat→Nat→Nat × Nat→SS→SS × (Nat × Nat)
 | 0,_,_,_,s=>(s,(0,0))
 | m + 1,path,depth,vals,s1=>
   let v:=(C.q.vars.getD depth (0,false)).1
   let side:Int:=if zj vals (-(v:Int)) then -(v:Int) else v
   let a:=z8 C m (zQ path side) (depth + 1) s1
   if zs (a.1.lits a.2) v then
    let b:=z8 C m (zQ path (-side)) (depth + 1) a.1
    if zs (b.1.lits b.2) v then zCP C b.1 a.2 b.2 v else b
   else a
def zDT (C:SC) (m:Nat) (path:Nat × Nat) (d:Nat):(SS × (Nat × Nat)) ⊕ (SS × (Nat × Nat))→SS × (Nat × Nat)
 | .inl r=>r
 | .inr r=>zBl C m path d r.2 r.1
theorem zRR (C:SC) (m:Nat) (path:Nat × Nat) (d:Nat) (S:SS):z8 C m path d S=zDT C m path d (zAa C S path):=by
 cases m with
 | zero=>rw [z8];cases zAa C S path<;>rfl
 | succ m=>rw [z8];cases zAa C S path<;>rfl
structure LookIn (C:SC) (m d:Nat) (path:Nat × Nat) (S:SS):Prop where
 lin:LIn C S
 path:PathAt C.q d path
 dm:d + m=C.q.vars.length
 most:S.nodes + 2 ^ (m + 1)≤2001
structure BranchIn (C:SC) (m d:Nat) (path vals:Nat × Nat) (S:SS):Prop where
 lin:LIn C S
 path:PathAt C.q d path
 vals:vals.1 < 512∧vals.2 < 512
 dm:d + m=C.q.vars.length
 most:S.nodes + 2 ^ (m + 1)≤2002
def LookSpec (m:Nat):Prop:=∀ (b:Nat) (C:SC) (S:SS) (V:SV) (path:Nat × Nat) (d:Nat) (w:World),CBd C→LookIn C m d path S→SAt w b C S V→
 Calls Tryz.prog 62 #[.pointer (some ⟨b,0,none⟩),zAj path,.int .i64 (d:Int)] w fun e w'=>e=.returned (zAv (z8 C m path d S).2)∧SPost b C (z8 C m path d S).1 V w w'
def zF5 (m:Nat):Prop:=∀ (b:Nat) (C:SC) (S:SS) (V:SV) (path vals:Nat × Nat) (d:Nat) (w:World),CBd C→BranchIn C m d path vals S→SAt w b C S V→
 Calls Tryz.prog 92 #[.pointer (some ⟨b,0,none⟩),zAj path,.int .i64 (d:Int),zAj vals] w fun e w'=>e=.returned (zAv (zBl C m path d vals S).2)∧SPost b C (zBl C m path d vals S).1 V w w'
theorem LookIn.lk {C:SC} (hC:CBd C) {m d:Nat} {path:Nat × Nat} {S:SS} (h:LookIn C m d path S):LookOk C m path S (z8 C m path d S):=zKA hC.qg hC.uni m d path S h.lin.inv h.path h.dm
theorem LookIn.out {C:SC} (hC:CBd C) {m d:Nat} {path:Nat × Nat} {S:SS} (h:LookIn C m d path S):LIn C (z8 C m path d S).1:=by
 have hk:=h.lk hC;have h1:=h.lin.size;have h2:=hk.size;have h3:=hk.mono;have h4:=hk.most;have h5:=h.most;generalize 2 ^ (m + 1)=X at *;exact ⟨hk.inv,by omega,by omega⟩
theorem BranchIn.near {C:SC} (hC:CBd C) {m d:Nat} {path vals:Nat × Nat} {S:SS} (h:BranchIn C (m + 1) d path vals S) (hd:d < C.q.vars.length) (s:Bool):LookIn C m (d + 1) (zQ path (zAF C.q.vars[d].1 s)) S:=by
 have h1:=h.dm;have h2:=h.most;refine ⟨h.lin,h.path.next hC.qg hd s,by omega,?_⟩;have hpow:2 ^ (m + 1 + 1)=2 ^ (m + 1) + 2 ^ (m + 1):=(by rw [Nat.pow_succ 2 (m + 1)];omega);have hpos:0 < 2 ^ (m + 1):=Nat.pow_pos (by decide);generalize 2 ^ (m + 1 + 1)=Y at *;generalize 2 ^ (m + 1)=X at *;omega
theorem BranchIn.far {C:SC} (hC:CBd C) {m d:Nat} {path vals:Nat × Nat} {S:SS} (h:BranchIn C (m + 1) d path vals S) (hd:d < C.q.vars.length) (s t:Bool):LookIn C m (d + 1) (zQ path (zAF C.q.vars[d].1 t)) (z8 C m (zQ path (zAF C.q.vars[d].1 s)) (d + 1) S).1:=by
 have h1:=h.dm;have h2:=h.most;have hn:=h.near hC hd s;have h3:=(hn.lk hC).most;refine ⟨hn.out hC,h.path.next hC.qg hd t,by omega,?_⟩;have hpow:2 ^ (m + 1 + 1)=2 ^ (m + 1) + 2 ^ (m + 1):=(by rw [Nat.pow_succ 2 (m + 1)];omega);generalize 2 ^ (m + 1 + 1)=Y at *;generalize 2 ^ (m + 1)=X at *;omega
theorem LookIn.node {C:SC} (_hC:CBd C) {m d:Nat} {path:Nat × Nat} {S:SS} (h:LookIn C m d path S) (_hb:¬ (0 < C.budget∧C.budget≤S.nodes)):LIn C { S with nodes:=S.nodes + 1 }:=by
 have h1:=h.lin.size;have h5:=h.most;have hpow:2 ^ (m + 1)=2 ^ m + 2 ^ m:=(by rw [Nat.pow_succ 2 m];omega);have hpos:0 < 2 ^ m:=Nat.pow_pos (by decide);generalize 2 ^ (m + 1)=X at *;generalize 2 ^ m=Y at *;refine ⟨zHI h.lin.inv _,?_,?_⟩
 ·show zAw S≤100 + 12 * (S.nodes + 1);omega
 ·show S.nodes + 1≤2000;omega
theorem zRC {C:SC} (hC:CBd C) {S:SS} (h:SInv C S) {d:Nat} {path:Nat × Nat} (hp:PathAt C.q d path):((zX C S path).vals.1 < 512∧(zX C S path).vals.2 < 512)∧zOI (zX C S path).trail∧(zX C S path).conf≤S.ref.length:=by
 obtain ⟨h1,h2,h3⟩:=zIl hC.qg hC.uni h path;obtain ⟨_,t2,_,_⟩:=zEl hC.qg hp _ _ h1;have hvl:=hC.qg.qb.vl;refine ⟨t2.bd,⟨by omega,?_⟩,?_⟩
 ·have key:∀ (ts:List (Int × Nat)) (vals:Nat × Nat),zFE C.q S.ref (zg C.q S.kept) path ts vals→∀ u∈ts,-8≤u.1∧u.1≤8:=by
   intro ts
   induction ts with
   | nil=>intro vals _ u hu;cases hu
   | cons t ts ih=>
    rintro vals ⟨pre,hpre,⟨v,s,ht,⟨x,hx,hxe,hxu⟩,_⟩,rfl⟩ u hu
    rcases List.mem_cons.1 hu with rfl | hu
    ·have hv:=hC.qg.qb.names x hx;rw [ht];unfold zAF
     split<;>omega
    ·exact ih pre hpre u hu
  intro u hu;exact key _ _ h1 u (List.mem_reverse.2 hu)
 ·by_cases h0:(zX C S path).conf=0
  ·omega
  ·exact (zE1 h (h3 h0).1).2
theorem zQG {C:SC} {S:SS} {path:Nat × Nat} (hb:0 < C.budget∧C.budget≤S.nodes):zAa C S path=.inl (S,(0,0)):=by unfold zAa;rw [if_pos hb]
theorem zO2 {C:SC} {S:SS} {path:Nat × Nat} (hb:¬ (0 < C.budget∧C.budget≤S.nodes)) (hc:(zX C { S with nodes:=S.nodes + 1 } path).conf≠0):zAa C S path=.inl (zAW C { S with nodes:=S.nodes + 1 } (zX C { S with nodes:=S.nodes + 1 } path)):=by
 unfold zAa;rw [if_neg hb];dsimp only;rw [if_pos hc]
theorem zRr {C:SC} {S:SS} {path:Nat × Nat} (hb:¬ (0 < C.budget∧C.budget≤S.nodes)) (hc:(zX C { S with nodes:=S.nodes + 1 } path).conf=0) (hr:(zBT C { S with nodes:=S.nodes + 1 } path (zX C { S with nodes:=S.nodes + 1 } path).vals).2.1≠0):zAa C S path=.inl (zBT C { S with nodes:=S.nodes + 1 } path (zX C { S with nodes:=S.nodes + 1 } path).vals):=by
 unfold zAa;rw [if_neg hb];dsimp only;rw [if_neg (fun h=>h hc),if_pos hr]
theorem zSc {C:SC} {S:SS} {path:Nat × Nat} (hb:¬ (0 < C.budget∧C.budget≤S.nodes)) (hc:(zX C { S with nodes:=S.nodes + 1 } path).conf=0) (hr:(zBT C { S with nodes:=S.nodes + 1 } path (zX C { S with nodes:=S.nodes + 1 } path).vals).2.1=0):zAa C S path=.inr ((zBT C { S with nodes:=S.nodes + 1 } path (zX C { S with nodes:=S.nodes + 1 } path).vals).1,(zX C { S with nodes:=S.nodes + 1 } path).vals):=by
 unfold zAa;rw [if_neg hb];dsimp only;rw [if_neg (fun h=>h hc),if_neg (fun h=>h hr)]
theorem LookIn.branch {C:SC} (hC:CBd C) {m d:Nat} {path:Nat × Nat} {S:SS} (h:LookIn C m d path S) {r:SS} {vals:Nat × Nat} (hn:zAa C S path=.inr (r,vals)) (hv:vals.1 < 512∧vals.2 < 512):BranchIn C m d path vals r:=by
 obtain ⟨n1,n2⟩:=zKi hC.qg hC.uni h.lin.inv h.path;rw [hn] at n1 n2;simp only [zDx] at n1 n2
 rcases n2 with ⟨_,_,h3⟩ | ⟨h1,h2,_⟩
 ·cases h3
 have hsz:=n1.size;have hi:=n1.inv;dsimp only at hsz hi;have h4:=h.lin.size;have h5:=h.most;have hpow:2 ^ (m + 1)=2 ^ m + 2 ^ m:=(by rw [Nat.pow_succ 2 m];omega);have hpos:0 < 2 ^ m:=Nat.pow_pos (by decide);refine ⟨⟨hi,by omega,?_⟩,h.path,hv,h.dm,?_⟩
 ·generalize 2 ^ (m + 1)=X at *;generalize 2 ^ m=Y at *;omega
 ·generalize 2 ^ (m + 1)=X at *;generalize 2 ^ m=Y at *;omega
theorem LookSpec.next {m:Nat} (h:LookSpec m) (b:Nat) (C:SC) (S:SS) (V:SV) (path:Nat × Nat) (d:Nat) (w:World) (hC:CBd C) (hi:LookIn C m (d + 1) path S) (hS:SAt w b C S V) :
 Calls Tryz.prog 62 #[.pointer (some ⟨b,0,none⟩),zAj path,.int .i64 ((d:Int) + 1)] w fun e w'=>e=.returned (zAv (z8 C m path (d + 1) S).2)∧SPost b C (z8 C m path (d + 1) S).1 V w w':=h b C S V path (d + 1) w hC hi hS
theorem zNB (C:SC) (m d:Nat) (path vals:Nat × Nat) (S:SS) (v:Nat) (x y:Int) (hv:(C.q.vars.getD d (0,false)).1=v) (hx:(if zj vals (-(v:Int)) then -(v:Int) else (v:Int))=x) (hy:-x=y) :
  zBl C (m + 1) path d vals S=if zs ((z8 C m (zQ path x) (d + 1) S).1.lits (z8 C m (zQ path x) (d + 1) S).2) v then
   (if zs ((z8 C m (zQ path y) (d + 1) (z8 C m (zQ path x) (d + 1) S).1).1.lits (z8 C m (zQ path y) (d + 1) (z8 C m (zQ path x) (d + 1) S).1).2) v then zCP C (z8 C m (zQ path y) (d + 1) (z8 C m (zQ path x) (d + 1) S).1).1 (z8 C m (zQ path x) (d + 1) S).2 (z8 C m (zQ path y) (d + 1) (z8 C m (zQ path x) (d + 1) S).1).2 v else z8 C m (zQ path y) (d + 1) (z8 C m (zQ path x) (d + 1) S).1)
   else z8 C m (zQ path x) (d + 1) S:=by
 rw [zBl];dsimp only;rw [hv,hx,hy]
theorem LookOk.kind {C:SC} {m:Nat} {path:Nat × Nat} {S:SS} {r:SS × (Nat × Nat)} (h:LookOk C m path S r) {v:Nat} (hh:zs (r.1.lits r.2) v=true):r.2.1=1∨r.2.1=2:=by
 have ha0:r.2.1≠0:=fun e=>by rw [zIT _ _ e (h.zero e)] at hh;cases hh
 exact (h.fact ha0).inn.kind
theorem LIn.plen {C:SC} {S:SS} (h:LIn C S) (k:Nat):(S.proof k).length≤99990:=by
 have h1:=h.size;have h2:=h.nodes;have h3:=zIb S;unfold SS.proof
 split<;>omega
theorem SAt.setNodes {w:World} {b:Nat} {C:SC} {S:SS} {V:SV} (h:SAt w b C S V) (n:Nat):SAt (w.setCell ⟨b,5,none⟩ (.int .i64 (n:Int))) b C { S with nodes:=n } V:=
 ⟨zI h.fb 5 _,zR h.oV (zT h.oV h.fb (by decide)) _,zR h.oC (zT h.oC h.fb (by decide)) _,zR h.oR (zT h.oR h.fb (by decide)) _,zR h.oA (zT h.oA h.fb (by decide)) _,
  h.oK.keep (T:=fun j=>j=b) ((Only.refl (fun j=>j=b) w).setCell (p:=⟨b,5,none⟩) (Or.inl rfl) _) (fun j hj e=>by subst e;obtain ⟨c,hc⟩:=h.oK.blk j hj;exact absurd (zc hc h.fb) (by decide)),h.ap⟩
theorem zOv (b:Nat) (C:SC) (S:SS) (V:SV) (f p:Nat × Nat) (w:World) (hS:SAt w b C S V) (hB:SBd C S) (hp:p.1 < 512∧p.2 < 512) :
  Calls Tryz.prog 116 #[.pointer (some ⟨b,0,none⟩),zAv f,zAj p] w fun e w'=>e=.returned (.bool (zDD (S.lits f) p))∧Below w.heap.size w w':=by
 obtain ⟨fk,fs⟩:=f;obtain ⟨p1,p2⟩:=p;have hlt:=hB.lits (fk,fs)
 go_enter Tryz.func116,Tryz.ntmps116
 go_wp2_with fail;generalize hw0:((w.alloc (.cells #[.int .i64 (fk:Int),.int .i64 (fs:Int)] 129)).alloc (.cells #[.int .i64 (p1:Int),.int .i64 (p2:Int)] 74))=u1;have hBw:Below w.heap.size w u1:=(by rw [← hw0];exact ((Below.refl _ _).alloc (Nat.le_refl _) _).alloc (by simp) _);have hfa:u1.heap[w.heap.size]?=some (.cells #[.int .i64 (fk:Int),.int .i64 (fs:Int)] 129 (0,0)):=(by rw [← hw0,heap_alloc_old _ _ (by simp)];exact zP (by simp));have hpa:u1.heap[w.heap.size + 1]?=some (.cells #[.int .i64 (p1:Int),.int .i64 (p2:Int)] 74 (0,0)):=(by rw [← hw0];exact zP (by simp));clear hw0;obtain ⟨cfa0,cfa1⟩:=zJ hfa;have lfa:=zB hfa;obtain ⟨cpa0,cpa1⟩:=zJ hpa;have lpa:=zB hpa;refine (zG1 b C S V (fk,fs) _ (hS.later hBw) hB).mono ?_;rintro e u2 ⟨rfl,b2⟩;replace hBw:=hBw.trans (b2.mono hBw.size);replace hfa:=zH b2 hfa;clear cfa0 cfa1;obtain ⟨cfa0,cfa1⟩:=zJ hfa;replace lfa:=zB hfa;replace hpa:=zH b2 hpa;clear cpa0 cpa1;obtain ⟨cpa0,cpa1⟩:=zJ hpa;replace lpa:=zB hpa;have HH:Hid (zDD (S.lits (fk,fs)) (p1,p2)=zCz (zAz (S.lits (fk,fs)) (p1,p2))):=zF rfl;have HHS:Hid (zDD (S.lits (fk,fs)) (p1,p2)=zDD (S.lits (fk,fs)) (p1,p2)):=zF rfl;generalize hea:S.lits (fk,fs)=c at *;have HEC:=zF hea;clear hea HHS;obtain ⟨c1,c2⟩:=c;have hm:=zDe (c1,c2) (p1,p2) hlt;go_wp2_with fail;generalize hw0:u2.alloc (.cells #[.int .i64 (c1:Int),.int .i64 (c2:Int)] 74)=u3;have b3:Below u2.heap.size u2 u3:=(by rw [← hw0];exact (Below.refl _ _).alloc (Nat.le_refl _) _);have hcu:u3.heap[u2.heap.size]?=some (.cells #[.int .i64 (c1:Int),.int .i64 (c2:Int)] 74 (0,0)):=(by rw [← hw0];exact heap_alloc_new _ _);clear hw0;replace hBw:=hBw.trans (b3.mono hBw.size);replace hfa:=zH b3 hfa;clear cfa0 cfa1;obtain ⟨cfa0,cfa1⟩:=zJ hfa;replace lfa:=zB hfa;replace hpa:=zH b3 hpa;clear cpa0 cpa1;obtain ⟨cpa0,cpa1⟩:=zJ hpa;replace lpa:=zB hpa;obtain ⟨ccu0,ccu1⟩:=zJ hcu;have lcu:=zB hcu;refine (zC5 c1 c2 p1 p2 _ hlt.1 hlt.2 hp.1 hp.2).mono ?_;rintro e u4 ⟨rfl,b4⟩;replace hBw:=hBw.trans (b4.mono hBw.size);replace hfa:=zH b4 hfa;clear cfa0 cfa1;obtain ⟨cfa0,cfa1⟩:=zJ hfa;replace lfa:=zB hfa;replace hpa:=zH b4 hpa;clear cpa0 cpa1;obtain ⟨cpa0,cpa1⟩:=zJ hpa;replace lpa:=zB hpa;replace hcu:=zH b4 hcu;clear ccu0 ccu1;obtain ⟨ccu0,ccu1⟩:=zJ hcu;replace lcu:=zB hcu;generalize hea:zAz (c1,c2) (p1,p2)=c at *;have HED:=zF hea;clear hea;obtain ⟨d1,d2⟩:=c;go_wp2_with fail;generalize hw0:u4.alloc (.cells #[.int .i64 (d1:Int),.int .i64 (d2:Int)] 74)=u5;have b5:Below u4.heap.size u4 u5:=(by rw [← hw0];exact (Below.refl _ _).alloc (Nat.le_refl _) _);have hle:u5.heap[u4.heap.size]?=some (.cells #[.int .i64 (d1:Int),.int .i64 (d2:Int)] 74 (0,0)):=(by rw [← hw0];exact heap_alloc_new _ _);clear hw0;replace hBw:=hBw.trans (b5.mono hBw.size);replace hfa:=zH b5 hfa;clear cfa0 cfa1;obtain ⟨cfa0,cfa1⟩:=zJ hfa;replace lfa:=zB hfa;replace hpa:=zH b5 hpa;clear cpa0 cpa1;obtain ⟨cpa0,cpa1⟩:=zJ hpa;replace lpa:=zB hpa;replace hcu:=zH b5 hcu;clear ccu0 ccu1;obtain ⟨ccu0,ccu1⟩:=zJ hcu;replace lcu:=zB hcu;obtain ⟨cle0,cle1⟩:=zJ hle;have lle:=zB hle;refine (zEh d1 d2 _ hm.1 hm.2).mono ?_;rintro e u6 ⟨rfl,b6⟩;replace hBw:=hBw.trans (b6.mono hBw.size);replace hfa:=zH b6 hfa;clear cfa0 cfa1;obtain ⟨cfa0,cfa1⟩:=zJ hfa;replace lfa:=zB hfa;replace hpa:=zH b6 hpa;clear cpa0 cpa1;obtain ⟨cpa0,cpa1⟩:=zJ hpa;replace lpa:=zB hpa;replace hcu:=zH b6 hcu;clear ccu0 ccu1;obtain ⟨ccu0,ccu1⟩:=zJ hcu;replace lcu:=zB hcu;replace hle:=zH b6 hle;clear cle0 cle1;obtain ⟨cle0,cle1⟩:=zJ hle;replace lle:=zB hle;go_wp2_with fail;go_ret;exact ⟨by rw [zA HEC,zA HH];rfl,hBw⟩
end Go.Proofs.YtgipjjhkhfihpaaGreatDoor
