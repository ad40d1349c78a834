import Derived.Test.YtgipjjhkhfihpaaGreatDoorKG
import Derived.Test.YtgipjjhkhfihpaaGreatDoorKF
set_option maxRecDepth 100000
set_option maxHeartbeats 6400000
namespace Go.Proofs.YtgipjjhkhfihpaaGreatDoor
open Go.RowKit
theorem zSt (lo b:Nat) (F:zv) (ss:List (Nat × Nat)) (aS:Option Addr) (cS:Nat) (lS:Nat) (truth:Bool) (hd:List UInt8) (tl:List (List UInt8)) (g off cap:Nat) (w:World) (hIn:zF2 lo b F ss aS cS lS hd tl g off cap w) (hhd:hd=[100]) (hln:tl.length=1) :
  Calls Tryz.prog 86 #[.pointer (some ⟨b,0,none⟩),.slice aS ss.length cS,.slice (some ⟨g,off,none⟩) (tl.length + 1) cap,.bool truth] w fun e w'=>RStPost (zo F truth ss hd tl) w e w':=by
 have HLN:=zF hln;have HHD:=zF hhd;clear hln hhd;obtain ⟨hR,hF,hS,hSB,hSb,hs,hl,hcap,hws⟩:=hIn;obtain ⟨i0,hi,hz0,hz1,hz2⟩:=info_parts Tryz.info3;have hR0:=hR;obtain ⟨_,vO,vE,vC,hfb,_,_,hC⟩:=hR;obtain ⟨aC,cC,rfl⟩:=zN hC;have hbw:=zB hfb;obtain ⟨g',off',cur,he,hg,hcur⟩:=hs (by simp);injection he with he;injection he with e1 e2 e3;subst e1 e2;clear e3;have hgw:=zB hg;have HC0:Hid (∀ wx:World,Below w.heap.size w wx→wx.cell? ⟨g,off,none⟩=some (S hd)):=zF (fun wx hx=>by
  rw [hx.cell (p:=⟨g,off,none⟩) hgw,zC hg];exact hcur 0 (by simp))
 have HCJ:Hid (∀ (wx:World) (j:Nat) (hj:j < tl.length),Below w.heap.size w wx→wx.cell? ⟨g,off + (j + 1),none⟩=some (S tl[j])):=zF (fun wx j hj hx=>by
  rw [hx.cell (p:=⟨g,off + (j + 1),none⟩) hgw,zC hg];exact hcur (j + 1) (by simpa using hj))
 have HST:Hid (∀ (wx:World) (ao:Option Addr),Below w.heap.size w wx→(tl≠[]→ao=some ⟨g,off + 1,none⟩)→StrsAt wx ao tl):=zF (fun wx ao hx ho hne=>⟨g,off + 1,cur,ho hne,(hx.block _ hgw).trans hg,fun j hj=>by
  have h1:=hcur (1 + j) (by simp;omega);rw [← Nat.add_assoc] at h1;rw [h1];simp [show 1 + j=j + 1 from by omega]⟩)
 have HWS:=zF hws;clear hcur hws hs hg
 go_enter Tryz.func86,Tryz.ntmps86
 go_wp2_with fail
 go_loopg [11,12] tl.length (fun m v i wx=>∃ j:Nat,i=.int .i64 (j + 1)∧j + m=tl.length∧wx.ownsRow (w.heap.size + 2) 3 1 v j (zu (zG6 (tl.take j)))∧Below w.heap.size w wx∧
   wx.heap[w.heap.size]?=some (.cells #[.int .i64 0,.int .i64 0] 121 (0,0))∧wx.heap[w.heap.size + 1]?=some (.cells #[.int .i64 0,.int .i64 0] 121 (0,0)))
 case atStart=>exact ⟨0,rfl,by omega,World.ownsRow_nil _ _ _ _,((Below.refl _ _).alloc (Nat.le_refl _) _).alloc (by simp) _,by rw [heap_alloc_old _ _ (by simp)];exact heap_alloc_new _ _,zEn (by simp)⟩
 case round=>
  obtain ⟨j,rfl,hj,hown,hb,hres,hnon⟩:=hrel;have hbs:=zB hnon
  by_cases hlt:j < tl.length
  ·have hcj:=zA HCJ wr j hlt hb;have hxl:=zA HWS _ (List.getElem_mem hlt);have HT:=zF (zEY tl j hlt);have hgw1:g < wr.heap.size:=(by omega);generalize tl[j]=x at *;go_wp2_with fail;refine (zEi x 1048576 wr hxl (by omega)).mono ?_;rintro e w1 ⟨rfl,hw1⟩;subst hw1;rw [show cnt x 1048576=cnt x big from rfl]
   go_wp2_with (at_builtin;refine zV rfl _ _ 25 rfl (w.heap.size + 2) i0 (.int .i64 0) 1 8 Tryz.underlying25 hi hz0 hz1 hz2 rfl (by decide) _ _ _ hown rfl rfl rfl (by simp [Value.oneCell']) (by unfold maxLen;omega) (by omega) (by omega) ?_;intro v' w2 hown' hgrow hnn)
   go_roundg (gk - 1)
   case measure=>omega
   case rel=>
    have hlto:=hown.lt;refine ⟨j + 1,by go_num,by omega,by rw [zA HT];exact hown',za hb hgrow hown (by omega) (by omega),?_,?_⟩
    ·rw [hgrow.block _ (by omega) (fun e=>by have:=hlto _ e.symm;omega)];exact hres
    ·rw [hgrow.block _ (by omega) (fun e=>by have:=hlto _ e.symm;omega)];exact hnon
  ·have hjl:j=tl.length:=(by omega);subst hjl;rw [List.take_length] at hown;clear hj hlt hi hz0 hz1 hz2 HCJ;obtain ⟨aK,cK,rfl⟩:=zN hown;have hc0:=zA HC0 wr hb;have hgw1:g < wr.heap.size:=(by omega);have hbw1:b < wr.heap.size:=(by omega);have hbs0:w.heap.size < wr.heap.size:=(by omega);have r0:wr.cell? ⟨w.heap.size,0,none⟩=some (.int .i64 0):=zE hres rfl;have r1:wr.cell? ⟨w.heap.size,1,none⟩=some (.int .i64 0):=zE hres rfl;have zr0:=zD hres 0;have zr1:=zD hres 1;have n0:wr.cell? ⟨w.heap.size + 1,0,none⟩=some (.int .i64 0):=zE hnon rfl;have n1:wr.cell? ⟨w.heap.size + 1,1,none⟩=some (.int .i64 0):=zE hnon rfl;have x1:wr.cell? ⟨b,1,none⟩=some (.int .i64 F.all):=(by rw [hb.cell (p:=⟨b,1,none⟩) hbw,zC hfb];rfl);have x3:wr.cell? ⟨b,3,none⟩=some (.slice aC F.cl.length cC):=(by rw [hb.cell (p:=⟨b,3,none⟩) hbw,zC hfb];rfl);have HK:Hid (∀ (i:Nat) (hi:i < tl.length),∃ gK,aK=some ⟨gK,0,none⟩∧gK < wr.heap.size∧wr.cell? ⟨gK,i,none⟩=some (.int .i64 (cnt tl[i] big:Nat))∧tl.length≤cK):=zF (fun i hi=>by
    obtain ⟨gK,capK,hVe,_,hg',hcap',hcell⟩:=zS hown (by omega);injection hVe with hVe _ hV2;subst hVe hV2;exact ⟨gK,rfl,hg',hcell _ _ (by unfold zu zG6;simp [hi]),hcap'⟩)
   have HBITS:=zF hF.bits;have hc24:=hF.cl;have hall:=hF.all;have HSB:=zF hSb;have HCELL:Hid (∀ (m:Nat) (hm:m < F.cl.length),∃ g2,aC=some ⟨g2,0,none⟩∧g2 < w.heap.size∧w.cell? ⟨g2,m * 2,none⟩=some (.int .i64 (F.cl[m].1:Int))∧w.cell? ⟨g2,m * 2 + 1,none⟩=some (.int .i64 (F.cl[m].2:Int))):=zF (fun m hm=>by
    obtain ⟨g2,cap2,hVe,hg2,hg2',_,hcell⟩:=zS hC (by omega);injection hVe with hVe _ hV2;subst hVe hV2;obtain ⟨hpa,hpb⟩:=zAc F.cl m hm;exact ⟨g2,rfl,hg2',hcell _ _ hpa,hcell _ _ hpb⟩)
   have HSEL:Hid (∀ (m:Nat) (hm:m < ss.length),∃ g2,aS=some ⟨g2,0,none⟩∧g2 < w.heap.size∧w.cell? ⟨g2,m * 2,none⟩=some (.int .i64 (ss[m].1:Int))∧w.cell? ⟨g2,m * 2 + 1,none⟩=some (.int .i64 (ss[m].2:Int))):=zF (fun m hm=>by
    obtain ⟨g2,cap2,hVe,hg2,hg2',_,hcell⟩:=zS hS (by omega);injection hVe with hVe _ hV2;subst hVe hV2;obtain ⟨hpa,hpb⟩:=zAc ss m hm;exact ⟨g2,rfl,hg2',hcell _ _ hpa,hcell _ _ hpb⟩)
   have HFW:=zF hF;clear hSb hown hC hfb hS hF;have hln:=zA HLN;have hhd:=zA HHD;subst hhd;have hbwr:=hb;have hreswr:=hres;have h01:0 < tl.length:=(by omega);have HSP:Hid (zo F truth ss [100] tl=zCv F truth ss (cnt tl[0] big)):=zF (by unfold zo;rw [if_neg (by simp),if_neg (by simp),if_neg (by simp),if_pos ⟨rfl,hln⟩,zC6 _ _ _ h01]);have hlb:((tl.length:Int) == 1)=true:=(by rw [beq_iff_eq];omega);have hi0:(0:Int) < (tl.length:Int):=(by omega);clear hln;obtain ⟨gK,rfl,hgK,kc0,hcK⟩:=zA HK 0 h01;generalize cnt tl[0] big=c at *
   by_cases hc1:c < 1
   ·have HF:Hid (zo F truth ss [100] tl=none):=zF (by rw [zA HSP];unfold zCv;rw [if_pos (Or.inl hc1)]);have hq1:decide ((c:Int) < 1)=true:=(by simp;omega);clear hc1;have hRq:=zI (zI hreswr 0 (.int .i64 0)) 1 (.int .i64 0);have jq0:=zC hRq 0;have jq1:=zC hRq 1;go_wp2_with fail;refine bodyPost_ret (v:=.tuple #[.agg #[.int .i64 0,.int .i64 0],.bool false]) (by simp [results,Tryz.results86,go_sem,jq0,jq1]) rfl (RStPost.none_ ?_ (zA HF) (0,0) rfl);exact (hbwr.setCell (p:=⟨w.heap.size,0,none⟩) (Nat.le_refl _) _).setCell (p:=⟨w.heap.size,1,none⟩) (Nat.le_refl _) _
   ·have hq1:decide ((c:Int) < 1)=false:=by simp;omega
    by_cases hc2:ss.length < c
    ·have HF:Hid (zo F truth ss [100] tl=none):=zF (by rw [zA HSP];unfold zCv;rw [if_pos (Or.inr hc2)]);have hq2:decide (ss.length < c)=true:=(by simp;omega);have hq2':decide ((ss.length:Int) < (c:Int))=true:=(by simp;omega);clear hc1 hc2;have hRq:=zI (zI hreswr 0 (.int .i64 0)) 1 (.int .i64 0);have jq0:=zC hRq 0;have jq1:=zC hRq 1;go_wp2_with fail;refine bodyPost_ret (v:=.tuple #[.agg #[.int .i64 0,.int .i64 0],.bool false]) (by simp [results,Tryz.results86,go_sem,jq0,jq1]) rfl (RStPost.none_ ?_ (zA HF) (0,0) rfl);exact (hbwr.setCell (p:=⟨w.heap.size,0,none⟩) (Nat.le_refl _) _).setCell (p:=⟨w.heap.size,1,none⟩) (Nat.le_refl _) _
    ·obtain ⟨m,rfl⟩:∃ m,c=m + 1:=⟨c - 1,by omega⟩;have hm:m < ss.length:=(by omega);have hq2:decide (ss.length < m + 1)=false:=(by simp;omega);have hq2':decide ((ss.length:Int) < (m:Int) + 1)=false:=(by simp;omega);have hq3:decide ((m:Int) + 1 < 1)=false:=(by simp;omega);have HAP:Hid (zo F truth ss [100] tl=some (zHu F.order (zCa F truth) ss[m])):=zF (by rw [zA HSP];unfold zCv;rw [if_neg (by omega),Nat.add_sub_cancel,zC6 _ _ _ hm]);obtain ⟨g2,rfl,hg2',hy0,hy1⟩:=zA HSEL m hm;have hx0:wr.cell? ⟨g2,m * 2,none⟩=some (.int .i64 (ss[m].1:Int)):=(by rw [hb.cell (p:=⟨g2,m * 2,none⟩) hg2'];exact hy0);have hx1:wr.cell? ⟨g2,m * 2 + 1,none⟩=some (.int .i64 (ss[m].2:Int)):=(by rw [hb.cell (p:=⟨g2,m * 2 + 1,none⟩) hg2'];exact hy1);have hlt9:=zA HSB _ (List.getElem_mem hm);have hg2w:g2 < wr.heap.size:=zAm hx0;have hRq0:=hR0.later hb;have hFl:=(zA HFW).len;have hFn:=(zA HFW).names;have HFN:=zF hFn;clear hc1 hc2 hy0 hy1 HCELL HSEL HK HBITS HSB HST HWS HC0 hR0 hFn;generalize ss[m]=c at *;obtain ⟨p,n⟩:=c;have hp9:p < 512:=hlt9.1;have hn9:n < 512:=hlt9.2;dsimp only at hx0 hx1;have hkd:bits .andNot .i64 510 (F.all:Int)=((zb 510 F.all:Nat):Int):=zBJ 510 F.all (by omega) (by omega);have hk9:zb 510 F.all < 512:=zDl 510 F.all (by omega)
     cases truth with
     | false=>
      have HKR:Hid (zCa F false=F.all):=zF rfl;go_wp2_with fail;refine (zHq lo b p n F.all F wr hRq0 hFl (zA HFN) hall hp9 hn9).mono ?_;rintro e w1 ⟨rfl,hb1⟩;have hr1:=(hb1.block _ hbs0).trans hres;have hB1:Below w.heap.size w w1:=hb.trans (hb1.mono hb.size);rw [zA HKR] at HAP;generalize zHu F.order F.all (p,n)=c at *;obtain ⟨p',n'⟩:=c;have q0:w1.cell? ⟨w.heap.size,0,none⟩=some (.int .i64 0):=zE hr1 rfl;have q1:w1.cell? ⟨w.heap.size,1,none⟩=some (.int .i64 0):=zE hr1 rfl;have y0:=zD hr1 0;have y1:=zD hr1 1;have hlw1:=zB hr1;have hRq:=zI (zI hr1 0 (.int .i64 p')) 1 (.int .i64 n');have hRq':=(heap_alloc_old _ (.cells #[.int .i64 (p':Int),.int .i64 (n':Int)] 121) (zB hRq)).trans hRq;have jq0:=zC hRq' 0;have jq1:=zC hRq' 1;dsimp only;go_wp2_with fail;refine bodyPost_ret (v:=.tuple #[.agg #[.int .i64 p',.int .i64 n'],.bool true]) (by simp [results,Tryz.results86,go_sem,jq0,jq1]) rfl (RStPost.some_ ?_ (p',n') (zA HAP) rfl);exact ((hB1.setCell (p:=⟨w.heap.size,0,none⟩) (Nat.le_refl _) _).setCell (p:=⟨w.heap.size,1,none⟩) (Nat.le_refl _) _).alloc (by simp [World.setCell];omega) _
     | true=>
      have HKR:Hid (zCa F true=zb 510 F.all):=zF rfl;go_wp2_with fail;refine (zHq lo b p n (zb 510 F.all) F wr hRq0 hFl (zA HFN) hk9 hp9 hn9).mono ?_;rintro e w1 ⟨rfl,hb1⟩;have hr1:=(hb1.block _ hbs0).trans hres;have hB1:Below w.heap.size w w1:=hb.trans (hb1.mono hb.size);rw [zA HKR] at HAP;generalize zHu F.order (zb 510 F.all) (p,n)=c at *;obtain ⟨p',n'⟩:=c;have q0:w1.cell? ⟨w.heap.size,0,none⟩=some (.int .i64 0):=zE hr1 rfl;have q1:w1.cell? ⟨w.heap.size,1,none⟩=some (.int .i64 0):=zE hr1 rfl;have y0:=zD hr1 0;have y1:=zD hr1 1;have hlw1:=zB hr1;have hRq:=zI (zI hr1 0 (.int .i64 p')) 1 (.int .i64 n');have hRq':=(heap_alloc_old _ (.cells #[.int .i64 (p':Int),.int .i64 (n':Int)] 121) (zB hRq)).trans hRq;have jq0:=zC hRq' 0;have jq1:=zC hRq' 1;dsimp only;go_wp2_with fail;refine bodyPost_ret (v:=.tuple #[.agg #[.int .i64 p',.int .i64 n'],.bool true]) (by simp [results,Tryz.results86,go_sem,jq0,jq1]) rfl (RStPost.some_ ?_ (p',n') (zA HAP) rfl);exact ((hB1.setCell (p:=⟨w.heap.size,0,none⟩) (Nat.le_refl _) _).setCell (p:=⟨w.heap.size,1,none⟩) (Nat.le_refl _) _).alloc (by simp [World.setCell];omega) _
theorem zP8 (lo b:Nat) (F:zv) (ss:List (Nat × Nat)) (aS:Option Addr) (cS:Nat) (lS:Nat) (truth:Bool) (hd:List UInt8) (tl:List (List UInt8)) (g off cap:Nat) (w:World) (hIn:zF2 lo b F ss aS cS lS hd tl g off cap w) (hno:¬ (hd=[97]∧truth=false∧tl.length=1)∧¬ (hd=[99]∧truth=true)∧¬ (hd=[114]∧tl.length=3)∧¬ (hd=[100]∧tl.length=1)) :
  Calls Tryz.prog 86 #[.pointer (some ⟨b,0,none⟩),.slice aS ss.length cS,.slice (some ⟨g,off,none⟩) (tl.length + 1) cap,.bool truth] w fun e w'=>RStPost (zo F truth ss hd tl) w e w':=by
 have HNOO:=zF hno;clear hno;obtain ⟨hR,hF,hS,hSB,hSb,hs,hl,hcap,hws⟩:=hIn;obtain ⟨i0,hi,hz0,hz1,hz2⟩:=info_parts Tryz.info3;have hR0:=hR;obtain ⟨_,vO,vE,vC,hfb,_,_,hC⟩:=hR;obtain ⟨aC,cC,rfl⟩:=zN hC;have hbw:=zB hfb;obtain ⟨g',off',cur,he,hg,hcur⟩:=hs (by simp);injection he with he;injection he with e1 e2 e3;subst e1 e2;clear e3;have hgw:=zB hg;have HC0:Hid (∀ wx:World,Below w.heap.size w wx→wx.cell? ⟨g,off,none⟩=some (S hd)):=zF (fun wx hx=>by
  rw [hx.cell (p:=⟨g,off,none⟩) hgw,zC hg];exact hcur 0 (by simp))
 have HCJ:Hid (∀ (wx:World) (j:Nat) (hj:j < tl.length),Below w.heap.size w wx→wx.cell? ⟨g,off + (j + 1),none⟩=some (S tl[j])):=zF (fun wx j hj hx=>by
  rw [hx.cell (p:=⟨g,off + (j + 1),none⟩) hgw,zC hg];exact hcur (j + 1) (by simpa using hj))
 have HST:Hid (∀ (wx:World) (ao:Option Addr),Below w.heap.size w wx→(tl≠[]→ao=some ⟨g,off + 1,none⟩)→StrsAt wx ao tl):=zF (fun wx ao hx ho hne=>⟨g,off + 1,cur,ho hne,(hx.block _ hgw).trans hg,fun j hj=>by
  have h1:=hcur (1 + j) (by simp;omega);rw [← Nat.add_assoc] at h1;rw [h1];simp [show 1 + j=j + 1 from by omega]⟩)
 have HWS:=zF hws;clear hcur hws hs hg
 go_enter Tryz.func86,Tryz.ntmps86
 go_wp2_with fail
 go_loopg [11,12] tl.length (fun m v i wx=>∃ j:Nat,i=.int .i64 (j + 1)∧j + m=tl.length∧wx.ownsRow (w.heap.size + 2) 3 1 v j (zu (zG6 (tl.take j)))∧Below w.heap.size w wx∧
   wx.heap[w.heap.size]?=some (.cells #[.int .i64 0,.int .i64 0] 121 (0,0))∧wx.heap[w.heap.size + 1]?=some (.cells #[.int .i64 0,.int .i64 0] 121 (0,0)))
 case atStart=>exact ⟨0,rfl,by omega,World.ownsRow_nil _ _ _ _,((Below.refl _ _).alloc (Nat.le_refl _) _).alloc (by simp) _,by rw [heap_alloc_old _ _ (by simp)];exact heap_alloc_new _ _,zEn (by simp)⟩
 case round=>
  obtain ⟨j,rfl,hj,hown,hb,hres,hnon⟩:=hrel;have hbs:=zB hnon
  by_cases hlt:j < tl.length
  ·have hcj:=zA HCJ wr j hlt hb;have hxl:=zA HWS _ (List.getElem_mem hlt);have HT:=zF (zEY tl j hlt);have hgw1:g < wr.heap.size:=(by omega);generalize tl[j]=x at *;go_wp2_with fail;refine (zEi x 1048576 wr hxl (by omega)).mono ?_;rintro e w1 ⟨rfl,hw1⟩;subst hw1;rw [show cnt x 1048576=cnt x big from rfl]
   go_wp2_with (at_builtin;refine zV rfl _ _ 25 rfl (w.heap.size + 2) i0 (.int .i64 0) 1 8 Tryz.underlying25 hi hz0 hz1 hz2 rfl (by decide) _ _ _ hown rfl rfl rfl (by simp [Value.oneCell']) (by unfold maxLen;omega) (by omega) (by omega) ?_;intro v' w2 hown' hgrow hnn)
   go_roundg (gk - 1)
   case measure=>omega
   case rel=>
    have hlto:=hown.lt;refine ⟨j + 1,by go_num,by omega,by rw [zA HT];exact hown',za hb hgrow hown (by omega) (by omega),?_,?_⟩
    ·rw [hgrow.block _ (by omega) (fun e=>by have:=hlto _ e.symm;omega)];exact hres
    ·rw [hgrow.block _ (by omega) (fun e=>by have:=hlto _ e.symm;omega)];exact hnon
  ·have hjl:j=tl.length:=(by omega);subst hjl;rw [List.take_length] at hown;clear hj hlt hi hz0 hz1 hz2 HCJ;obtain ⟨aK,cK,rfl⟩:=zN hown;have hc0:=zA HC0 wr hb;have hgw1:g < wr.heap.size:=(by omega);have hbw1:b < wr.heap.size:=(by omega);have hbs0:w.heap.size < wr.heap.size:=(by omega);have r0:wr.cell? ⟨w.heap.size,0,none⟩=some (.int .i64 0):=zE hres rfl;have r1:wr.cell? ⟨w.heap.size,1,none⟩=some (.int .i64 0):=zE hres rfl;have zr0:=zD hres 0;have zr1:=zD hres 1;have n0:wr.cell? ⟨w.heap.size + 1,0,none⟩=some (.int .i64 0):=zE hnon rfl;have n1:wr.cell? ⟨w.heap.size + 1,1,none⟩=some (.int .i64 0):=zE hnon rfl;have x1:wr.cell? ⟨b,1,none⟩=some (.int .i64 F.all):=(by rw [hb.cell (p:=⟨b,1,none⟩) hbw,zC hfb];rfl);have x3:wr.cell? ⟨b,3,none⟩=some (.slice aC F.cl.length cC):=(by rw [hb.cell (p:=⟨b,3,none⟩) hbw,zC hfb];rfl);have HK:Hid (∀ (i:Nat) (hi:i < tl.length),∃ gK,aK=some ⟨gK,0,none⟩∧gK < wr.heap.size∧wr.cell? ⟨gK,i,none⟩=some (.int .i64 (cnt tl[i] big:Nat))∧tl.length≤cK):=zF (fun i hi=>by
    obtain ⟨gK,capK,hVe,_,hg',hcap',hcell⟩:=zS hown (by omega);injection hVe with hVe _ hV2;subst hVe hV2;exact ⟨gK,rfl,hg',hcell _ _ (by unfold zu zG6;simp [hi]),hcap'⟩)
   have HBITS:=zF hF.bits;have hc24:=hF.cl;have hall:=hF.all;have HSB:=zF hSb;have HCELL:Hid (∀ (m:Nat) (hm:m < F.cl.length),∃ g2,aC=some ⟨g2,0,none⟩∧g2 < w.heap.size∧w.cell? ⟨g2,m * 2,none⟩=some (.int .i64 (F.cl[m].1:Int))∧w.cell? ⟨g2,m * 2 + 1,none⟩=some (.int .i64 (F.cl[m].2:Int))):=zF (fun m hm=>by
    obtain ⟨g2,cap2,hVe,hg2,hg2',_,hcell⟩:=zS hC (by omega);injection hVe with hVe _ hV2;subst hVe hV2;obtain ⟨hpa,hpb⟩:=zAc F.cl m hm;exact ⟨g2,rfl,hg2',hcell _ _ hpa,hcell _ _ hpb⟩)
   have HSEL:Hid (∀ (m:Nat) (hm:m < ss.length),∃ g2,aS=some ⟨g2,0,none⟩∧g2 < w.heap.size∧w.cell? ⟨g2,m * 2,none⟩=some (.int .i64 (ss[m].1:Int))∧w.cell? ⟨g2,m * 2 + 1,none⟩=some (.int .i64 (ss[m].2:Int))):=zF (fun m hm=>by
    obtain ⟨g2,cap2,hVe,hg2,hg2',_,hcell⟩:=zS hS (by omega);injection hVe with hVe _ hV2;subst hVe hV2;obtain ⟨hpa,hpb⟩:=zAc ss m hm;exact ⟨g2,rfl,hg2',hcell _ _ hpa,hcell _ _ hpb⟩)
   have HFW:=zF hF;clear hSb hown hC hfb hS hF;have hno:=zA HNOO;have HF:Hid (zo F truth ss hd tl=none):=zF (by unfold zo;rw [if_neg hno.1,if_neg hno.2.1,if_neg hno.2.2.1,if_neg hno.2.2.2]);have hbwr:=hb;have hreswr:=hres
   by_cases ha:hd=[97]
   ·subst ha
    cases truth with
    | true=>
     clear hno;have hRq:=zI (zI hreswr 0 (.int .i64 0)) 1 (.int .i64 0);have jq0:=zC hRq 0;have jq1:=zC hRq 1;go_wp2_with fail;refine bodyPost_ret (v:=.tuple #[.agg #[.int .i64 0,.int .i64 0],.bool false]) (by simp [results,Tryz.results86,go_sem,jq0,jq1]) rfl (RStPost.none_ ?_ (zA HF) (0,0) rfl);exact (hbwr.setCell (p:=⟨w.heap.size,0,none⟩) (Nat.le_refl _) _).setCell (p:=⟨w.heap.size,1,none⟩) (Nat.le_refl _) _
    | false=>
     have h1:tl.length≠1:=fun h=>hno.1 ⟨rfl,rfl,h⟩
     have hlb:((tl.length:Int) == 1)=false:=(by rw [beq_eq_false_iff_ne];omega);clear hno h1;have hRq:=zI (zI hreswr 0 (.int .i64 0)) 1 (.int .i64 0);have jq0:=zC hRq 0;have jq1:=zC hRq 1;go_wp2_with fail;refine bodyPost_ret (v:=.tuple #[.agg #[.int .i64 0,.int .i64 0],.bool false]) (by simp [results,Tryz.results86,go_sem,jq0,jq1]) rfl (RStPost.none_ ?_ (zA HF) (0,0) rfl);exact (hbwr.setCell (p:=⟨w.heap.size,0,none⟩) (Nat.le_refl _) _).setCell (p:=⟨w.heap.size,1,none⟩) (Nat.le_refl _) _
   ·have hab:(hd == [97])=false:=by simp [ha]
    by_cases hc:hd=[99]
    ·subst hc;have ht:truth=false:=by
      cases truth with
      | false=>rfl
      | true=>exact absurd ⟨rfl,rfl⟩ hno.2.1
     subst ht;clear hno ha hab;have hRq:=zI (zI hreswr 0 (.int .i64 0)) 1 (.int .i64 0);have jq0:=zC hRq 0;have jq1:=zC hRq 1;go_wp2_with fail;refine bodyPost_ret (v:=.tuple #[.agg #[.int .i64 0,.int .i64 0],.bool false]) (by simp [results,Tryz.results86,go_sem,jq0,jq1]) rfl (RStPost.none_ ?_ (zA HF) (0,0) rfl);exact (hbwr.setCell (p:=⟨w.heap.size,0,none⟩) (Nat.le_refl _) _).setCell (p:=⟨w.heap.size,1,none⟩) (Nat.le_refl _) _
    ·have hcb:(hd == [99])=false:=by simp [hc]
     by_cases hr:hd=[114]
     ·subst hr;have h1:tl.length≠3:=fun h=>hno.2.2.1 ⟨rfl,h⟩
      have hlb:((tl.length:Int) == 3)=false:=(by rw [beq_eq_false_iff_ne];omega);clear hno h1 ha hab hc hcb;have hRq:=zI (zI hreswr 0 (.int .i64 0)) 1 (.int .i64 0);have jq0:=zC hRq 0;have jq1:=zC hRq 1;go_wp2_with fail;refine bodyPost_ret (v:=.tuple #[.agg #[.int .i64 0,.int .i64 0],.bool false]) (by simp [results,Tryz.results86,go_sem,jq0,jq1]) rfl (RStPost.none_ ?_ (zA HF) (0,0) rfl);exact (hbwr.setCell (p:=⟨w.heap.size,0,none⟩) (Nat.le_refl _) _).setCell (p:=⟨w.heap.size,1,none⟩) (Nat.le_refl _) _
     ·have hrb:(hd == [114])=false:=by simp [hr]
      by_cases hdd:hd=[100]
      ·subst hdd;have h1:tl.length≠1:=fun h=>hno.2.2.2 ⟨rfl,h⟩
       have hlb:((tl.length:Int) == 1)=false:=(by rw [beq_eq_false_iff_ne];omega);clear hno h1 ha hab hc hcb hr hrb;have hRq:=zI (zI hreswr 0 (.int .i64 0)) 1 (.int .i64 0);have jq0:=zC hRq 0;have jq1:=zC hRq 1;go_wp2_with fail;refine bodyPost_ret (v:=.tuple #[.agg #[.int .i64 0,.int .i64 0],.bool false]) (by simp [results,Tryz.results86,go_sem,jq0,jq1]) rfl (RStPost.none_ ?_ (zA HF) (0,0) rfl);exact (hbwr.setCell (p:=⟨w.heap.size,0,none⟩) (Nat.le_refl _) _).setCell (p:=⟨w.heap.size,1,none⟩) (Nat.le_refl _) _
      ·have hdb:(hd == [100])=false:=(by simp [hdd]);clear hno ha hc hr hdd;have hRq:=zI (zI hreswr 0 (.int .i64 0)) 1 (.int .i64 0);have jq0:=zC hRq 0;have jq1:=zC hRq 1;go_wp2_with fail;refine bodyPost_ret (v:=.tuple #[.agg #[.int .i64 0,.int .i64 0],.bool false]) (by simp [results,Tryz.results86,go_sem,jq0,jq1]) rfl (RStPost.none_ ?_ (zA HF) (0,0) rfl);exact (hbwr.setCell (p:=⟨w.heap.size,0,none⟩) (Nat.le_refl _) _).setCell (p:=⟨w.heap.size,1,none⟩) (Nat.le_refl _) _
theorem zKc (x v:Nat):(x &&& 2 ^ v == 0)=!x.testBit v:=by
 cases h:x.testBit v with
 | false=>
  have:x &&& 2 ^ v=0:=by
   apply Nat.eq_of_testBit_eq
   intro i;rw [Nat.testBit_and,Nat.testBit_two_pow,Nat.zero_testBit]
   by_cases e:v=i
   ·subst e;rw [h];rfl
   ·simp [e]
  rw [this];rfl
 | true=>
  have:x &&& 2 ^ v≠0:=fun e=>by
   have h2:(x &&& 2 ^ v).testBit v=true:=(by rw [Nat.testBit_and,Nat.testBit_two_pow,h];simp);rw [e] at h2;simp at h2
  simpa using this
theorem zGF (a v:Nat) (ha:a < 512) (hv:v≤8):(bits .and .i64 (a:Int) (wrap64 (2 ^ v)) == 0)=!a.testBit v:=by
 have h:=zH0 (v:Int) (by omega) (by omega);rw [Int.toNat_natCast] at h;have hp:=zD2 v hv;rw [h,zBN _ _ (by omega) (by omega),zAN,zKc]
theorem zNt (a v:Nat) (ha:a < 512) (hv:v≤8):(bits .and .i64 (a:Int) (wrap64 (2 ^ v)) != 0)=a.testBit v:=by
 have h:=zGF a v ha hv;rw [bne,h];simp
theorem zSx (lo b:Nat) (F:zv) (ss:List (Nat × Nat)) (aS:Option Addr) (cS:Nat) (lS:Nat) (truth:Bool) (hd:List UInt8) (tl:List (List UInt8)) (g off cap:Nat) (w:World) (hIn:zF2 lo b F ss aS cS lS hd tl g off cap w) (hhd:hd=[114]) (hln:tl.length=3) :
  Calls Tryz.prog 86 #[.pointer (some ⟨b,0,none⟩),.slice aS ss.length cS,.slice (some ⟨g,off,none⟩) (tl.length + 1) cap,.bool truth] w fun e w'=>RStPost (zo F truth ss hd tl) w e w':=by
 have HLN:=zF hln;have HHD:=zF hhd;clear hln hhd;obtain ⟨hR,hF,hS,hSB,hSb,hs,hl,hcap,hws⟩:=hIn;obtain ⟨i0,hi,hz0,hz1,hz2⟩:=info_parts Tryz.info3;have hR0:=hR;obtain ⟨_,vO,vE,vC,hfb,_,_,hC⟩:=hR;obtain ⟨aC,cC,rfl⟩:=zN hC;have hbw:=zB hfb;obtain ⟨g',off',cur,he,hg,hcur⟩:=hs (by simp);injection he with he;injection he with e1 e2 e3;subst e1 e2;clear e3;have hgw:=zB hg;have HC0:Hid (∀ wx:World,Below w.heap.size w wx→wx.cell? ⟨g,off,none⟩=some (S hd)):=zF (fun wx hx=>by
  rw [hx.cell (p:=⟨g,off,none⟩) hgw,zC hg];exact hcur 0 (by simp))
 have HCJ:Hid (∀ (wx:World) (j:Nat) (hj:j < tl.length),Below w.heap.size w wx→wx.cell? ⟨g,off + (j + 1),none⟩=some (S tl[j])):=zF (fun wx j hj hx=>by
  rw [hx.cell (p:=⟨g,off + (j + 1),none⟩) hgw,zC hg];exact hcur (j + 1) (by simpa using hj))
 have HST:Hid (∀ (wx:World) (ao:Option Addr),Below w.heap.size w wx→(tl≠[]→ao=some ⟨g,off + 1,none⟩)→StrsAt wx ao tl):=zF (fun wx ao hx ho hne=>⟨g,off + 1,cur,ho hne,(hx.block _ hgw).trans hg,fun j hj=>by
  have h1:=hcur (1 + j) (by simp;omega);rw [← Nat.add_assoc] at h1;rw [h1];simp [show 1 + j=j + 1 from by omega]⟩)
 have HWS:=zF hws;clear hcur hws hs hg
 go_enter Tryz.func86,Tryz.ntmps86
 go_wp2_with fail
 go_loopg [11,12] tl.length (fun m v i wx=>∃ j:Nat,i=.int .i64 (j + 1)∧j + m=tl.length∧wx.ownsRow (w.heap.size + 2) 3 1 v j (zu (zG6 (tl.take j)))∧Below w.heap.size w wx∧
   wx.heap[w.heap.size]?=some (.cells #[.int .i64 0,.int .i64 0] 121 (0,0))∧wx.heap[w.heap.size + 1]?=some (.cells #[.int .i64 0,.int .i64 0] 121 (0,0)))
 case atStart=>exact ⟨0,rfl,by omega,World.ownsRow_nil _ _ _ _,((Below.refl _ _).alloc (Nat.le_refl _) _).alloc (by simp) _,by rw [heap_alloc_old _ _ (by simp)];exact heap_alloc_new _ _,zEn (by simp)⟩
 case round=>
  obtain ⟨j,rfl,hj,hown,hb,hres,hnon⟩:=hrel;have hbs:=zB hnon
  by_cases hlt:j < tl.length
  ·have hcj:=zA HCJ wr j hlt hb;have hxl:=zA HWS _ (List.getElem_mem hlt);have HT:=zF (zEY tl j hlt);have hgw1:g < wr.heap.size:=(by omega);generalize tl[j]=x at *;go_wp2_with fail;refine (zEi x 1048576 wr hxl (by omega)).mono ?_;rintro e w1 ⟨rfl,hw1⟩;subst hw1;rw [show cnt x 1048576=cnt x big from rfl]
   go_wp2_with (at_builtin;refine zV rfl _ _ 25 rfl (w.heap.size + 2) i0 (.int .i64 0) 1 8 Tryz.underlying25 hi hz0 hz1 hz2 rfl (by decide) _ _ _ hown rfl rfl rfl (by simp [Value.oneCell']) (by unfold maxLen;omega) (by omega) (by omega) ?_;intro v' w2 hown' hgrow hnn)
   go_roundg (gk - 1)
   case measure=>omega
   case rel=>
    have hlto:=hown.lt;refine ⟨j + 1,by go_num,by omega,by rw [zA HT];exact hown',za hb hgrow hown (by omega) (by omega),?_,?_⟩
    ·rw [hgrow.block _ (by omega) (fun e=>by have:=hlto _ e.symm;omega)];exact hres
    ·rw [hgrow.block _ (by omega) (fun e=>by have:=hlto _ e.symm;omega)];exact hnon
  ·have hjl:j=tl.length:=(by omega);subst hjl;rw [List.take_length] at hown;clear hj hlt hi hz0 hz1 hz2 HCJ;obtain ⟨aK,cK,rfl⟩:=zN hown;have hc0:=zA HC0 wr hb;have hgw1:g < wr.heap.size:=(by omega);have hbw1:b < wr.heap.size:=(by omega);have hbs0:w.heap.size < wr.heap.size:=(by omega);have r0:wr.cell? ⟨w.heap.size,0,none⟩=some (.int .i64 0):=zE hres rfl;have r1:wr.cell? ⟨w.heap.size,1,none⟩=some (.int .i64 0):=zE hres rfl;have zr0:=zD hres 0;have zr1:=zD hres 1;have n0:wr.cell? ⟨w.heap.size + 1,0,none⟩=some (.int .i64 0):=zE hnon rfl;have n1:wr.cell? ⟨w.heap.size + 1,1,none⟩=some (.int .i64 0):=zE hnon rfl;have x1:wr.cell? ⟨b,1,none⟩=some (.int .i64 F.all):=(by rw [hb.cell (p:=⟨b,1,none⟩) hbw,zC hfb];rfl);have x3:wr.cell? ⟨b,3,none⟩=some (.slice aC F.cl.length cC):=(by rw [hb.cell (p:=⟨b,3,none⟩) hbw,zC hfb];rfl);have HK:Hid (∀ (i:Nat) (hi:i < tl.length),∃ gK,aK=some ⟨gK,0,none⟩∧gK < wr.heap.size∧wr.cell? ⟨gK,i,none⟩=some (.int .i64 (cnt tl[i] big:Nat))∧tl.length≤cK):=zF (fun i hi=>by
    obtain ⟨gK,capK,hVe,_,hg',hcap',hcell⟩:=zS hown (by omega);injection hVe with hVe _ hV2;subst hVe hV2;exact ⟨gK,rfl,hg',hcell _ _ (by unfold zu zG6;simp [hi]),hcap'⟩)
   have HBITS:=zF hF.bits;have hc24:=hF.cl;have hall:=hF.all;have HSB:=zF hSb;have HCELL:Hid (∀ (m:Nat) (hm:m < F.cl.length),∃ g2,aC=some ⟨g2,0,none⟩∧g2 < w.heap.size∧w.cell? ⟨g2,m * 2,none⟩=some (.int .i64 (F.cl[m].1:Int))∧w.cell? ⟨g2,m * 2 + 1,none⟩=some (.int .i64 (F.cl[m].2:Int))):=zF (fun m hm=>by
    obtain ⟨g2,cap2,hVe,hg2,hg2',_,hcell⟩:=zS hC (by omega);injection hVe with hVe _ hV2;subst hVe hV2;obtain ⟨hpa,hpb⟩:=zAc F.cl m hm;exact ⟨g2,rfl,hg2',hcell _ _ hpa,hcell _ _ hpb⟩)
   have HSEL:Hid (∀ (m:Nat) (hm:m < ss.length),∃ g2,aS=some ⟨g2,0,none⟩∧g2 < w.heap.size∧w.cell? ⟨g2,m * 2,none⟩=some (.int .i64 (ss[m].1:Int))∧w.cell? ⟨g2,m * 2 + 1,none⟩=some (.int .i64 (ss[m].2:Int))):=zF (fun m hm=>by
    obtain ⟨g2,cap2,hVe,hg2,hg2',_,hcell⟩:=zS hS (by omega);injection hVe with hVe _ hV2;subst hVe hV2;obtain ⟨hpa,hpb⟩:=zAc ss m hm;exact ⟨g2,rfl,hg2',hcell _ _ hpa,hcell _ _ hpb⟩)
   have HFW:=zF hF;clear hSb hown hC hfb hS hF;have hln:=zA HLN;have hhd:=zA HHD;subst hhd;have hbwr:=hb;have hreswr:=hres;have h01:0 < tl.length:=(by omega);have h11:1 < tl.length:=(by omega);have h21:2 < tl.length:=(by omega);have HSP:Hid (zo F truth ss [114] tl=zF7 F truth ss (cnt tl[0] big) (cnt tl[1] big) (cnt tl[2] big)):=zF (by unfold zo;rw [if_neg (by simp),if_neg (by simp),if_pos ⟨rfl,hln⟩,zC6 _ _ _ h01,zC6 _ _ _ h11,zC6 _ _ _ h21]);have hlb:((tl.length:Int) == 3)=true:=(by rw [beq_iff_eq];omega);have hi0:(0:Int) < (tl.length:Int):=(by omega);have hi1:(1:Int) < (tl.length:Int):=(by omega);have hi2:(2:Int) < (tl.length:Int):=(by omega);clear hln;obtain ⟨gK,rfl,hgK,kc0,hcK⟩:=zA HK 0 h01;obtain ⟨gK',hgg,_,kc1,_⟩:=zA HK 1 h11;injection hgg with hgg;injection hgg with hgg _ _;subst hgg;obtain ⟨gK',hgg,_,kc2,_⟩:=zA HK 2 h21;injection hgg with hgg;injection hgg with hgg _ _;subst hgg;generalize cnt tl[0] big=i at *;generalize cnt tl[1] big=j at *;generalize cnt tl[2] big=v at *;have HBAD:Hid (i < 1∨ss.length < i∨j < 1∨ss.length < j∨v < 1∨8 < v→zo F truth ss [114] tl=none):=zF (fun h=>by rw [zA HSP];unfold zF7;rw [if_pos h])
   by_cases hc0:i < 1
   ·have HF:Hid (zo F truth ss [114] tl=none):=zF (zA HBAD (Or.inl hc0));have hq0:decide ((i:Int) < 1)=true:=(by simp;omega);have hp0:decide (i < 1)=true:=(by simp;omega);clear hc0;go_wp2_with fail;have hRq:=zI (zI hreswr 0 (.int .i64 0)) 1 (.int .i64 0);have jq0:=zC hRq 0;have jq1:=zC hRq 1;go_wp2_with fail;refine bodyPost_ret (v:=.tuple #[.agg #[.int .i64 0,.int .i64 0],.bool false]) (by simp [results,Tryz.results86,go_sem,jq0,jq1]) rfl (RStPost.none_ ?_ (zA HF) (0,0) rfl);exact (hbwr.setCell (p:=⟨w.heap.size,0,none⟩) (Nat.le_refl _) _).setCell (p:=⟨w.heap.size,1,none⟩) (Nat.le_refl _) _
   ·have hq0:decide ((i:Int) < 1)=false:=(by simp;omega);have hp0:decide (i < 1)=false:=by simp;omega
    by_cases hc1:ss.length < i
    ·have HF:Hid (zo F truth ss [114] tl=none):=zF (zA HBAD (Or.inr (Or.inl hc1)));have hq1:decide ((ss.length:Int) < (i:Int))=true:=(by simp;omega);have hp1:decide (ss.length < i)=true:=(by simp;omega);clear hc1;go_wp2_with fail;have hRq:=zI (zI hreswr 0 (.int .i64 0)) 1 (.int .i64 0);have jq0:=zC hRq 0;have jq1:=zC hRq 1;go_wp2_with fail;refine bodyPost_ret (v:=.tuple #[.agg #[.int .i64 0,.int .i64 0],.bool false]) (by simp [results,Tryz.results86,go_sem,jq0,jq1]) rfl (RStPost.none_ ?_ (zA HF) (0,0) rfl);exact (hbwr.setCell (p:=⟨w.heap.size,0,none⟩) (Nat.le_refl _) _).setCell (p:=⟨w.heap.size,1,none⟩) (Nat.le_refl _) _
    ·have hq1:decide ((ss.length:Int) < (i:Int))=false:=(by simp;omega);have hp1:decide (ss.length < i)=false:=by simp;omega
     by_cases hc2:j < 1
     ·have HF:Hid (zo F truth ss [114] tl=none):=zF (zA HBAD (Or.inr (Or.inr (Or.inl hc2))));have hq2:decide ((j:Int) < 1)=true:=(by simp;omega);have hp2:decide (j < 1)=true:=(by simp;omega);clear hc2;go_wp2_with fail;have hRq:=zI (zI hreswr 0 (.int .i64 0)) 1 (.int .i64 0);have jq0:=zC hRq 0;have jq1:=zC hRq 1;go_wp2_with fail;refine bodyPost_ret (v:=.tuple #[.agg #[.int .i64 0,.int .i64 0],.bool false]) (by simp [results,Tryz.results86,go_sem,jq0,jq1]) rfl (RStPost.none_ ?_ (zA HF) (0,0) rfl);exact (hbwr.setCell (p:=⟨w.heap.size,0,none⟩) (Nat.le_refl _) _).setCell (p:=⟨w.heap.size,1,none⟩) (Nat.le_refl _) _
     ·have hq2:decide ((j:Int) < 1)=false:=(by simp;omega);have hp2:decide (j < 1)=false:=by simp;omega
      by_cases hc3:ss.length < j
      ·have HF:Hid (zo F truth ss [114] tl=none):=zF (zA HBAD (Or.inr (Or.inr (Or.inr (Or.inl hc3)))));have hq3:decide ((ss.length:Int) < (j:Int))=true:=(by simp;omega);have hp3:decide (ss.length < j)=true:=(by simp;omega);clear hc3;go_wp2_with fail;have hRq:=zI (zI hreswr 0 (.int .i64 0)) 1 (.int .i64 0);have jq0:=zC hRq 0;have jq1:=zC hRq 1;go_wp2_with fail;refine bodyPost_ret (v:=.tuple #[.agg #[.int .i64 0,.int .i64 0],.bool false]) (by simp [results,Tryz.results86,go_sem,jq0,jq1]) rfl (RStPost.none_ ?_ (zA HF) (0,0) rfl);exact (hbwr.setCell (p:=⟨w.heap.size,0,none⟩) (Nat.le_refl _) _).setCell (p:=⟨w.heap.size,1,none⟩) (Nat.le_refl _) _
      ·have hq3:decide ((ss.length:Int) < (j:Int))=false:=(by simp;omega);have hp3:decide (ss.length < j)=false:=by simp;omega
       by_cases hc4:v < 1
       ·have HF:Hid (zo F truth ss [114] tl=none):=zF (zA HBAD (Or.inr (Or.inr (Or.inr (Or.inr (Or.inl hc4))))));have hq4:decide ((v:Int) < 1)=true:=(by simp;omega);have hp4:decide (v < 1)=true:=(by simp;omega);clear hc4;go_wp2_with fail;have hRq:=zI (zI hreswr 0 (.int .i64 0)) 1 (.int .i64 0);have jq0:=zC hRq 0;have jq1:=zC hRq 1;go_wp2_with fail;refine bodyPost_ret (v:=.tuple #[.agg #[.int .i64 0,.int .i64 0],.bool false]) (by simp [results,Tryz.results86,go_sem,jq0,jq1]) rfl (RStPost.none_ ?_ (zA HF) (0,0) rfl);exact (hbwr.setCell (p:=⟨w.heap.size,0,none⟩) (Nat.le_refl _) _).setCell (p:=⟨w.heap.size,1,none⟩) (Nat.le_refl _) _
       ·have hq4:decide ((v:Int) < 1)=false:=(by simp;omega);have hp4:decide (v < 1)=false:=by simp;omega
        by_cases hc5:8 < v
        ·have HF:Hid (zo F truth ss [114] tl=none):=zF (zA HBAD (Or.inr (Or.inr (Or.inr (Or.inr (Or.inr (hc5)))))));have hq5:decide ((8:Int) < (v:Int))=true:=(by simp;omega);have hp5:decide (8 < v)=true:=(by simp;omega);clear hc5;go_wp2_with fail;have hRq:=zI (zI hreswr 0 (.int .i64 0)) 1 (.int .i64 0);have jq0:=zC hRq 0;have jq1:=zC hRq 1;go_wp2_with fail;refine bodyPost_ret (v:=.tuple #[.agg #[.int .i64 0,.int .i64 0],.bool false]) (by simp [results,Tryz.results86,go_sem,jq0,jq1]) rfl (RStPost.none_ ?_ (zA HF) (0,0) rfl);exact (hbwr.setCell (p:=⟨w.heap.size,0,none⟩) (Nat.le_refl _) _).setCell (p:=⟨w.heap.size,1,none⟩) (Nat.le_refl _) _
        ·have hq5:decide ((8:Int) < (v:Int))=false:=(by simp;omega);have hp5:decide (8 < v)=false:=(by simp;omega);obtain ⟨m0,rfl⟩:∃ m,i=m + 1:=⟨i - 1,by omega⟩;obtain ⟨m1,rfl⟩:∃ m,j=m + 1:=⟨j - 1,by omega⟩;have hm0:m0 < ss.length:=(by omega);have hm1:m1 < ss.length:=(by omega);have hv8:v≤8:=(by omega);have hv1:1≤v:=(by omega);have HAP:Hid (zo F truth ss [114] tl=if F.all.testBit v≠truth∨ss[m0].1.testBit v=false∨ss[m1].2.testBit v=false then none else zBt (zCL ss[m0] ss[m1] v)):=zF (by rw [zA HSP];unfold zF7;rw [if_neg (by omega),Nat.add_sub_cancel,Nat.add_sub_cancel,zC6 _ _ _ hm0,zC6 _ _ _ hm1]);clear hq0 hp0 hq1 hp1 hq2 hp2 hq3 hp3 hc0 hc1 hc2 hc3 hc4 hc5;have hq0:decide ((m0:Int) + 1 < 1)=false:=(by simp;omega);have hq1:decide ((ss.length:Int) < (m0:Int) + 1)=false:=(by simp;omega);have hp1:decide (ss.length < m0 + 1)=false:=(by simp;omega);have hq2:decide ((m1:Int) + 1 < 1)=false:=(by simp;omega);have hq3:decide ((ss.length:Int) < (m1:Int) + 1)=false:=(by simp;omega);have hp3:decide (ss.length < m1 + 1)=false:=(by simp;omega);obtain ⟨g2,rfl,hg2',hy0,hy1⟩:=zA HSEL m0 hm0;obtain ⟨g3,hgg,hg3',hy2,hy3⟩:=zA HSEL m1 hm1;injection hgg with hgg;injection hgg with hgg _ _;subst hgg;have hx0:wr.cell? ⟨g2,m0 * 2,none⟩=some (.int .i64 (ss[m0].1:Int)):=(by rw [hb.cell (p:=⟨g2,m0 * 2,none⟩) hg2'];exact hy0);have hx1:wr.cell? ⟨g2,m0 * 2 + 1,none⟩=some (.int .i64 (ss[m0].2:Int)):=(by rw [hb.cell (p:=⟨g2,m0 * 2 + 1,none⟩) hg2'];exact hy1);have hx2:wr.cell? ⟨g2,m1 * 2,none⟩=some (.int .i64 (ss[m1].1:Int)):=(by rw [hb.cell (p:=⟨g2,m1 * 2,none⟩) hg2'];exact hy2);have hx3:wr.cell? ⟨g2,m1 * 2 + 1,none⟩=some (.int .i64 (ss[m1].2:Int)):=(by rw [hb.cell (p:=⟨g2,m1 * 2 + 1,none⟩) hg2'];exact hy3);have hlt0:=zA HSB _ (List.getElem_mem hm0);have hlt1:=zA HSB _ (List.getElem_mem hm1);have hg2w:g2 < wr.heap.size:=zAm hx0;clear hy0 hy1 hy2 hy3 HCELL HSEL HK HBITS HSB HST HWS HC0 hR0 HBAD HSP HFW;generalize ss[m0]=ca at *;generalize ss[m1]=cb at *;obtain ⟨p1,n1⟩:=ca;obtain ⟨p2,n2⟩:=cb;have hp19:p1 < 512:=hlt0.1;have hn19:n1 < 512:=hlt0.2;have hp29:p2 < 512:=hlt1.1;have hn29:n2 < 512:=hlt1.2;clear hlt0 hlt1;dsimp only at hx0 hx1 hx2 hx3 HAP;have bu:=zNt F.all v hall hv8;have ba:=zGF p1 v hp19 hv8;have bb:=zGF n2 v hn29 hv8;have l1:=zGy p1 v hp19 hv8;have l2:=zGy n2 v hn29 hv8;have lt1:=zDl p1 (2 ^ v) hp19;have lt2:=zDl n2 (2 ^ v) hn29;have o1:bits .or .i64 ((zb p1 (2 ^ v):Nat):Int) (p2:Int)=((zb p1 (2 ^ v) ||| p2:Nat):Int):=zCK _ _ (by omega) (by omega);have o2:bits .or .i64 (n1:Int) ((zb n2 (2 ^ v):Nat):Int)=((n1 ||| zb n2 (2 ^ v):Nat):Int):=zCK _ _ (by omega) (by omega);have HR2:Hid (zCL (p1,n1) (p2,n2) v=(zb p1 (2 ^ v) ||| p2,n1 ||| zb n2 (2 ^ v))):=zF rfl;have hor1:=zBD _ _ lt1 hp29;have hor2:=zBD _ _ hn19 lt2;have hand:(bits .and .i64 ((zb p1 (2 ^ v) ||| p2:Nat):Int) ((n1 ||| zb n2 (2 ^ v):Nat):Int) == 0)=((zb p1 (2 ^ v) ||| p2) &&& (n1 ||| zb n2 (2 ^ v)) == 0):=by rw [zBN _ _ (by omega) (by omega),zAN]
         cases hbu:F.all.testBit v with
         | false=>
          rw [hbu] at bu HAP
          cases truth with
          | false=>
           cases hba:p1.testBit v with
           | false=>
            rw [hba] at ba;have HF:Hid (zo F false ss [114] tl=none):=zF (by rw [zA HAP,if_pos (Or.inr (Or.inl hba))]);clear hba;have hRq:=zI (zI hres 0 (.int .i64 0)) 1 (.int .i64 0);have hR1:=(heap_alloc_old _ (.cells #[.int .i64 (p1:Int),.int .i64 (n1:Int)] 121) (zB hRq)).trans hRq;have hR2:=(heap_alloc_old _ (.cells #[.int .i64 (p2:Int),.int .i64 (n2:Int)] 121) (zB hR1)).trans hR1;have jq0:=zC hR2 0;have jq1:=zC hR2 1;go_wp2_with fail;refine bodyPost_ret (v:=.tuple #[.agg #[.int .i64 0,.int .i64 0],.bool false]) (by simp [results,Tryz.results86,go_sem,jq0,jq1]) rfl (RStPost.none_ ?_ (zA HF) (0,0) rfl);exact (((hb.setCell (p:=⟨w.heap.size,0,none⟩) (Nat.le_refl _) _).setCell (p:=⟨w.heap.size,1,none⟩) (Nat.le_refl _) _).alloc (by simp [World.setCell];omega) _).alloc (by simp [World.setCell];omega) _
           | true=>
            rw [hba] at ba
            cases hbb:n2.testBit v with
            | false=>
             rw [hbb] at bb;have HF:Hid (zo F false ss [114] tl=none):=zF (by rw [zA HAP,if_pos (Or.inr (Or.inr hbb))]);clear hba hbb;have hRq:=zI (zI hres 0 (.int .i64 0)) 1 (.int .i64 0);have hR1:=(heap_alloc_old _ (.cells #[.int .i64 (p1:Int),.int .i64 (n1:Int)] 121) (zB hRq)).trans hRq;have hR2:=(heap_alloc_old _ (.cells #[.int .i64 (p2:Int),.int .i64 (n2:Int)] 121) (zB hR1)).trans hR1;have jq0:=zC hR2 0;have jq1:=zC hR2 1;go_wp2_with fail;refine bodyPost_ret (v:=.tuple #[.agg #[.int .i64 0,.int .i64 0],.bool false]) (by simp [results,Tryz.results86,go_sem,jq0,jq1]) rfl (RStPost.none_ ?_ (zA HF) (0,0) rfl);exact (((hb.setCell (p:=⟨w.heap.size,0,none⟩) (Nat.le_refl _) _).setCell (p:=⟨w.heap.size,1,none⟩) (Nat.le_refl _) _).alloc (by simp [World.setCell];omega) _).alloc (by simp [World.setCell];omega) _
            | true=>
             rw [hbb] at bb;have HAQ:Hid (zo F false ss [114] tl=zBt (zb p1 (2 ^ v) ||| p2,n1 ||| zb n2 (2 ^ v))):=zF (by rw [zA HAP,if_neg (by rw [hba,hbb];simp),zA HR2]);clear hba hbb;generalize zb p1 (2 ^ v) ||| p2=p at *;generalize n1 ||| zb n2 (2 ^ v)=n at *;go_wp2_with fail;have hz0:Below w.heap.size w (((wr.alloc (.cells #[.int .i64 (p1:Int),.int .i64 (n1:Int)] 121)).alloc (.cells #[.int .i64 (p2:Int),.int .i64 (n2:Int)] 121)).alloc (.cells #[.int .i64 (p:Int),.int .i64 (n:Int)] 121)):=((hb.alloc (Nat.le_of_lt hbs0) _).alloc (by simp;omega) _).alloc (by simp;omega) _;have hz1:(((wr.alloc (.cells #[.int .i64 (p1:Int),.int .i64 (n1:Int)] 121)).alloc (.cells #[.int .i64 (p2:Int),.int .i64 (n2:Int)] 121)).alloc (.cells #[.int .i64 (p:Int),.int .i64 (n:Int)] 121)).heap[w.heap.size]?=some (.cells #[.int .i64 0,.int .i64 0] 121 (0,0)):=by
              rw [heap_alloc_old _ _ (by simp;omega),heap_alloc_old _ _ (by simp;omega),heap_alloc_old _ _ hbs0];exact hres
             have hz2:(((wr.alloc (.cells #[.int .i64 (p1:Int),.int .i64 (n1:Int)] 121)).alloc (.cells #[.int .i64 (p2:Int),.int .i64 (n2:Int)] 121)).alloc (.cells #[.int .i64 (p:Int),.int .i64 (n:Int)] 121)).heap[wr.heap.size + 1 + 1]?=some (.cells #[.int .i64 (p:Int),.int .i64 (n:Int)] 121 (0,0)):=zEn (by simp);generalize (((wr.alloc (.cells #[.int .i64 (p1:Int),.int .i64 (n1:Int)] 121)).alloc (.cells #[.int .i64 (p2:Int),.int .i64 (n2:Int)] 121)).alloc (.cells #[.int .i64 (p:Int),.int .i64 (n:Int)] 121))=wz at *;obtain ⟨cz0,cz1⟩:=zJ hz2;obtain ⟨rz0,rz1⟩:=zJ hz1;have fz0:=zD hz1 0;have fz1:=zD hz1 1;have hczl:=zB hz2;have hne1:w.heap.size≠wr.heap.size + 1 + 1:=(by omega);have hne2:wr.heap.size + 1 + 1≠w.heap.size:=(by omega);clear hx0 hx1 hx2 hx3 kc0 kc1 kc2 r0 r1 zr0 zr1 n0 x1 x3 hq0 hq1 hp1 hq2 hq3 hp3 hq4 hp4 hq5 hp5 ba bb bu l1 l2 o1 o2
             go_region
             all_goals go_wp2_with fail
             all_goals
              have hRq:=zI (zI hz1 0 (.int .i64 p)) 1 (.int .i64 n);have jq0:=zC hRq 0;have jq1:=zC hRq 1;refine bodyPost_ret (v:=.tuple #[.agg #[.int .i64 p,.int .i64 n],.bool (p &&& n == 0)]) (by simp [results,Tryz.results86,go_sem,jq0,jq1]) rfl ?_;have hB:Below w.heap.size w ((wz.setCell ⟨w.heap.size,0,none⟩ (.int .i64 p)).setCell ⟨w.heap.size,1,none⟩ (.int .i64 n)).drew:=((hz0.setCell (p:=⟨w.heap.size,0,none⟩) (Nat.le_refl _) _).setCell (p:=⟨w.heap.size,1,none⟩) (Nat.le_refl _) _).drew
              cases hcl:(p &&& n == 0) with
              | false=>exact RStPost.none_ hB (by rw [zA HAQ];unfold zBt;rw [if_neg (by simpa using hcl)]) (p,n) rfl
              | true=>exact RStPost.some_ hB (p,n) (by rw [zA HAQ];unfold zBt;rw [if_pos (by simpa using hcl)]) rfl
          | true=>
           have HF:Hid (zo F true ss [114] tl=none):=zF (by rw [zA HAP,if_pos (Or.inl (by simp))]);have hRq:=zI (zI hres 0 (.int .i64 0)) 1 (.int .i64 0);have hR1:=(heap_alloc_old _ (.cells #[.int .i64 (p1:Int),.int .i64 (n1:Int)] 121) (zB hRq)).trans hRq;have hR2:=(heap_alloc_old _ (.cells #[.int .i64 (p2:Int),.int .i64 (n2:Int)] 121) (zB hR1)).trans hR1;have jq0:=zC hR2 0;have jq1:=zC hR2 1;go_wp2_with fail;refine bodyPost_ret (v:=.tuple #[.agg #[.int .i64 0,.int .i64 0],.bool false]) (by simp [results,Tryz.results86,go_sem,jq0,jq1]) rfl (RStPost.none_ ?_ (zA HF) (0,0) rfl);exact (((hb.setCell (p:=⟨w.heap.size,0,none⟩) (Nat.le_refl _) _).setCell (p:=⟨w.heap.size,1,none⟩) (Nat.le_refl _) _).alloc (by simp [World.setCell];omega) _).alloc (by simp [World.setCell];omega) _
         | true=>
          rw [hbu] at bu HAP
          cases truth with
          | false=>
           have HF:Hid (zo F false ss [114] tl=none):=zF (by rw [zA HAP,if_pos (Or.inl (by simp))]);have hRq:=zI (zI hres 0 (.int .i64 0)) 1 (.int .i64 0);have hR1:=(heap_alloc_old _ (.cells #[.int .i64 (p1:Int),.int .i64 (n1:Int)] 121) (zB hRq)).trans hRq;have hR2:=(heap_alloc_old _ (.cells #[.int .i64 (p2:Int),.int .i64 (n2:Int)] 121) (zB hR1)).trans hR1;have jq0:=zC hR2 0;have jq1:=zC hR2 1;go_wp2_with fail;refine bodyPost_ret (v:=.tuple #[.agg #[.int .i64 0,.int .i64 0],.bool false]) (by simp [results,Tryz.results86,go_sem,jq0,jq1]) rfl (RStPost.none_ ?_ (zA HF) (0,0) rfl);exact (((hb.setCell (p:=⟨w.heap.size,0,none⟩) (Nat.le_refl _) _).setCell (p:=⟨w.heap.size,1,none⟩) (Nat.le_refl _) _).alloc (by simp [World.setCell];omega) _).alloc (by simp [World.setCell];omega) _
          | true=>
           cases hba:p1.testBit v with
           | false=>
            rw [hba] at ba;have HF:Hid (zo F true ss [114] tl=none):=zF (by rw [zA HAP,if_pos (Or.inr (Or.inl hba))]);clear hba;have hRq:=zI (zI hres 0 (.int .i64 0)) 1 (.int .i64 0);have hR1:=(heap_alloc_old _ (.cells #[.int .i64 (p1:Int),.int .i64 (n1:Int)] 121) (zB hRq)).trans hRq;have hR2:=(heap_alloc_old _ (.cells #[.int .i64 (p2:Int),.int .i64 (n2:Int)] 121) (zB hR1)).trans hR1;have jq0:=zC hR2 0;have jq1:=zC hR2 1;go_wp2_with fail;refine bodyPost_ret (v:=.tuple #[.agg #[.int .i64 0,.int .i64 0],.bool false]) (by simp [results,Tryz.results86,go_sem,jq0,jq1]) rfl (RStPost.none_ ?_ (zA HF) (0,0) rfl);exact (((hb.setCell (p:=⟨w.heap.size,0,none⟩) (Nat.le_refl _) _).setCell (p:=⟨w.heap.size,1,none⟩) (Nat.le_refl _) _).alloc (by simp [World.setCell];omega) _).alloc (by simp [World.setCell];omega) _
           | true=>
            rw [hba] at ba
            cases hbb:n2.testBit v with
            | false=>
             rw [hbb] at bb;have HF:Hid (zo F true ss [114] tl=none):=zF (by rw [zA HAP,if_pos (Or.inr (Or.inr hbb))]);clear hba hbb;have hRq:=zI (zI hres 0 (.int .i64 0)) 1 (.int .i64 0);have hR1:=(heap_alloc_old _ (.cells #[.int .i64 (p1:Int),.int .i64 (n1:Int)] 121) (zB hRq)).trans hRq;have hR2:=(heap_alloc_old _ (.cells #[.int .i64 (p2:Int),.int .i64 (n2:Int)] 121) (zB hR1)).trans hR1;have jq0:=zC hR2 0;have jq1:=zC hR2 1;go_wp2_with fail;refine bodyPost_ret (v:=.tuple #[.agg #[.int .i64 0,.int .i64 0],.bool false]) (by simp [results,Tryz.results86,go_sem,jq0,jq1]) rfl (RStPost.none_ ?_ (zA HF) (0,0) rfl);exact (((hb.setCell (p:=⟨w.heap.size,0,none⟩) (Nat.le_refl _) _).setCell (p:=⟨w.heap.size,1,none⟩) (Nat.le_refl _) _).alloc (by simp [World.setCell];omega) _).alloc (by simp [World.setCell];omega) _
            | true=>
             rw [hbb] at bb;have HAQ:Hid (zo F true ss [114] tl=zBt (zb p1 (2 ^ v) ||| p2,n1 ||| zb n2 (2 ^ v))):=zF (by rw [zA HAP,if_neg (by rw [hba,hbb];simp),zA HR2]);clear hba hbb;generalize zb p1 (2 ^ v) ||| p2=p at *;generalize n1 ||| zb n2 (2 ^ v)=n at *;go_wp2_with fail;have hz0:Below w.heap.size w (((wr.alloc (.cells #[.int .i64 (p1:Int),.int .i64 (n1:Int)] 121)).alloc (.cells #[.int .i64 (p2:Int),.int .i64 (n2:Int)] 121)).alloc (.cells #[.int .i64 (p:Int),.int .i64 (n:Int)] 121)):=((hb.alloc (Nat.le_of_lt hbs0) _).alloc (by simp;omega) _).alloc (by simp;omega) _;have hz1:(((wr.alloc (.cells #[.int .i64 (p1:Int),.int .i64 (n1:Int)] 121)).alloc (.cells #[.int .i64 (p2:Int),.int .i64 (n2:Int)] 121)).alloc (.cells #[.int .i64 (p:Int),.int .i64 (n:Int)] 121)).heap[w.heap.size]?=some (.cells #[.int .i64 0,.int .i64 0] 121 (0,0)):=by
              rw [heap_alloc_old _ _ (by simp;omega),heap_alloc_old _ _ (by simp;omega),heap_alloc_old _ _ hbs0];exact hres
             have hz2:(((wr.alloc (.cells #[.int .i64 (p1:Int),.int .i64 (n1:Int)] 121)).alloc (.cells #[.int .i64 (p2:Int),.int .i64 (n2:Int)] 121)).alloc (.cells #[.int .i64 (p:Int),.int .i64 (n:Int)] 121)).heap[wr.heap.size + 1 + 1]?=some (.cells #[.int .i64 (p:Int),.int .i64 (n:Int)] 121 (0,0)):=zEn (by simp);generalize (((wr.alloc (.cells #[.int .i64 (p1:Int),.int .i64 (n1:Int)] 121)).alloc (.cells #[.int .i64 (p2:Int),.int .i64 (n2:Int)] 121)).alloc (.cells #[.int .i64 (p:Int),.int .i64 (n:Int)] 121))=wz at *;obtain ⟨cz0,cz1⟩:=zJ hz2;obtain ⟨rz0,rz1⟩:=zJ hz1;have fz0:=zD hz1 0;have fz1:=zD hz1 1;have hczl:=zB hz2;have hne1:w.heap.size≠wr.heap.size + 1 + 1:=(by omega);have hne2:wr.heap.size + 1 + 1≠w.heap.size:=(by omega);clear hx0 hx1 hx2 hx3 kc0 kc1 kc2 r0 r1 zr0 zr1 n0 x1 x3 hq0 hq1 hp1 hq2 hq3 hp3 hq4 hp4 hq5 hp5 ba bb bu l1 l2 o1 o2
             go_region
             all_goals go_wp2_with fail
             all_goals
              have hRq:=zI (zI hz1 0 (.int .i64 p)) 1 (.int .i64 n);have jq0:=zC hRq 0;have jq1:=zC hRq 1;refine bodyPost_ret (v:=.tuple #[.agg #[.int .i64 p,.int .i64 n],.bool (p &&& n == 0)]) (by simp [results,Tryz.results86,go_sem,jq0,jq1]) rfl ?_;have hB:Below w.heap.size w ((wz.setCell ⟨w.heap.size,0,none⟩ (.int .i64 p)).setCell ⟨w.heap.size,1,none⟩ (.int .i64 n)).drew:=((hz0.setCell (p:=⟨w.heap.size,0,none⟩) (Nat.le_refl _) _).setCell (p:=⟨w.heap.size,1,none⟩) (Nat.le_refl _) _).drew
              cases hcl:(p &&& n == 0) with
              | false=>exact RStPost.none_ hB (by rw [zA HAQ];unfold zBt;rw [if_neg (by simpa using hcl)]) (p,n) rfl
              | true=>exact RStPost.some_ hB (p,n) (by rw [zA HAQ];unfold zBt;rw [if_pos (by simpa using hcl)]) rfl
theorem zQH (lo b:Nat) (F:zv) (ss:List (Nat × Nat)) (aS:Option Addr) (cS:Nat) (lS:Nat) (truth:Bool) (hd:List UInt8) (tl:List (List UInt8)) (g off cap:Nat) (w:World) (hIn:zF2 lo b F ss aS cS lS hd tl g off cap w) :
  Calls Tryz.prog 86 #[.pointer (some ⟨b,0,none⟩),.slice aS ss.length cS,.slice (some ⟨g,off,none⟩) (tl.length + 1) cap,.bool truth] w fun e w'=>RStPost (zo F truth ss hd tl) w e w':=by
 by_cases h1:hd=[97]∧truth=false∧tl.length=1
 ·exact zSy lo b F ss aS cS lS truth hd tl g off cap w hIn h1.1 h1.2.1 h1.2.2
 ·by_cases h2:hd=[99]∧truth=true
  ·exact zSm lo b F ss aS cS lS truth hd tl g off cap w hIn h2.1 h2.2
  ·by_cases h3:hd=[114]∧tl.length=3
   ·exact zSx lo b F ss aS cS lS truth hd tl g off cap w hIn h3.1 h3.2
   ·by_cases h4:hd=[100]∧tl.length=1
    ·exact zSt lo b F ss aS cS lS truth hd tl g off cap w hIn h4.1 h4.2
    ·exact zP8 lo b F ss aS cS lS truth hd tl g off cap w hIn ⟨h1,h2,h3,h4⟩
theorem zGi (F:zv) (truth:Bool) (a b:List (List UInt8)):∀ (ss:List (Nat × Nat)) (n:Nat),zC3 F truth ss n (a ++ b)=match zC3 F truth ss n a with
  | .inr i=>.inr i
  | .inl ss'=>zC3 F truth ss' (n + a.length) b:=by
 induction a with
 | nil=>intro ss n;rfl
 | cons r a ih=>
  intro ss n;rw [List.cons_append,zC3,zC3]
  cases zDZ F truth ss r with
  | none=>rfl
  | some c=>
   dsimp only;rw [ih,show n + 1 + a.length=n + (r :: a).length from by simp;omega]
theorem zPu (rs:List (List UInt8)) (r:List UInt8):zJ0 (rs ++ [r])=zJ0 rs + (if zFp r then 1 else 0):=by
 unfold zJ0;rw [List.filter_append,List.length_append]
 congr 1
 cases h:zFp r<;>simp [h]
def PState (F:zv) (rows:List (List UInt8)) (truth:Bool) (ss:List (Nat × Nat)) (two:Nat):Prop:=
 (rows=[]∧truth=false∧ss=[]∧two=0)∨∃ r0 rs,rows=r0 :: rs∧(r0=zA4∨r0=zCS)∧truth=(r0 == zA4)∧zC3 F truth [] 1 rs=.inl ss∧two=zJ0 rs
theorem zSI (rs:List (List UInt8)):zJ0 rs≤rs.length:=List.length_filter_le _ _
theorem PState.two_le {F:zv} {rows:List (List UInt8)} {truth:Bool} {ss:List (Nat × Nat)} {two:Nat} (h:PState F rows truth ss two):two≤rows.length:=by
 rcases h with ⟨_,_,_,rfl⟩ | ⟨r0,rs,rfl,_,_,_,rfl⟩
 ·omega
 ·have:=zSI rs;simp;omega
theorem zKb (F:zv) (l:List UInt8) (hl:¬ 262144 < l.length) (row:List UInt8) (hp:[row] <+: (zU 10 l).1) (hr:¬ (row=zA4∨row=zCS)):zw F l=.inl (5,1):=by
 obtain ⟨rest,hrest⟩:=hp;unfold zw;rw [if_neg hl,← hrest];show (if row=zA4∨row=zCS then _ else _)=_;rw [if_neg hr]
theorem zLt (F:zv) (l:List UInt8) (hl:¬ 262144 < l.length) (r0 row:List UInt8) (rs:List (List UInt8)) (ss:List (Nat × Nat)) (hp:(r0 :: rs ++ [row]) <+: (zU 10 l).1) (hr:r0=zA4∨r0=zCS) (hrs:zC3 F (r0 == zA4) [] 1 rs=.inl ss) (hn:zDZ F (r0 == zA4) ss row=none):zw F l=.inl (5,rs.length + 2):=by
 obtain ⟨rest,hrest⟩:=hp;unfold zw;rw [if_neg hl,← hrest,List.cons_append,List.cons_append];dsimp only;rw [if_pos hr,List.append_assoc,zGi,hrs];dsimp only;rw [List.singleton_append,zC3,hn];dsimp only;rw [show 1 + rs.length + 1=rs.length + 2 from by omega]
theorem zNj (F:zv) (l:List UInt8) (hl:¬ 262144 < l.length) (truth:Bool) (ss:List (Nat × Nat)) (two:Nat) (h:PState F (zU 10 l).1 truth ss two):zw F l=if (zU 10 l).2=[]∧zCX ss=true then .inr (truth,two) else .inl (5,(zU 10 l).1.length + 1):=by
 unfold zw;rw [if_neg hl]
 rcases h with ⟨h1,h2,h3,h4⟩ | ⟨r0,rs,h1,h2,h3,h4,h5⟩
 ·rw [h1,h3];dsimp only;rw [if_neg (by intro h;cases h.2)];rfl
 ·rw [h1];dsimp only;rw [if_pos h2,← h3,h4,h5];rfl
theorem PState.step {F:zv} {rows:List (List UInt8)} {truth:Bool} {ss:List (Nat × Nat)} {two:Nat} (h:PState F rows truth ss two) (hne:rows≠[]) (row:List UInt8) (c:Nat × Nat) (hl:zDZ F truth ss row=some c):PState F (rows ++ [row]) truth (ss ++ [c]) (two + if zFp row then 1 else 0):=by
 rcases h with ⟨h1,_⟩ | ⟨r0,rs,h1,h2,h3,h4,h5⟩
 ·exact absurd h1 hne
 ·refine Or.inr ⟨r0,rs ++ [row],by rw [h1];rfl,h2,h3,?_,by rw [h5,zPu]⟩;rw [zGi,h4];dsimp only;rw [zC3,hl];rfl
theorem zN7 {F:zv} {truth:Bool} {ss:List (Nat × Nat)} {row:List UInt8} {c:Nat × Nat} (h:zDZ F truth ss row=some c) (hs:ss.length≤9000):ss.length + 1≤9000:=by
 unfold zDZ at h
 split at h
 ·cases h
 ·split at h
  ·cases h
  ·next h9=>omega
def zI4 (F:zv) (l:List UInt8) (w:World) (e:Ending) (w':World):Prop:=
 Below w.heap.size w w'∧match zw F l with
  | .inl (x,i)=>e=.returned (.tuple #[.int .i64 0,.int .i64 (x:Int),.int .i64 (i:Int),.int .i64 0])
  | .inr (truth,two)=>e=.returned (.tuple #[.int .i64 (if truth then 2 else 1),.int .i64 0,.int .i64 0,.int .i64 (two:Int)])
attribute [local go_sem] zHH
theorem zB2 (lo b:Nat) (F:zv) (l:List UInt8) (w:World) (hR:RefAt lo w b F) (hF:FW F) :
  Calls Tryz.prog 57 #[.pointer (some ⟨b,0,none⟩),.string ⟨l.toArray⟩] w fun e w'=>zI4 F l w e w':=by
 by_cases hlong:262144 < l.length
 ·have hd:decide ((262144:Int) < (l.length:Int))=true:=(by simp;omega);have HF:Hid (zw F l=.inl (1,0)):=zF (by unfold zw;rw [if_pos hlong]);clear hlong
  go_enter Tryz.func57,Tryz.ntmps57
  go_wp2_with fail;refine bodyPost_ret (v:=.tuple #[.int .i64 0,.int .i64 1,.int .i64 0,.int .i64 0]) (by simp [results,Tryz.results57,go_sem]) rfl ⟨Below.refl _ _,by rw [zA HF];rfl⟩
 ·have hd:decide ((262144:Int) < (l.length:Int))=false:=(by simp;omega);have hll:l.length≤262144:=(by omega);have HLG:=zF hlong;clear hlong;obtain ⟨i0,hi,hz0,hz1,hz2⟩:=info_parts Tryz.info121;have HFW:=zF hF;have HBIT:=zF hF.bits;clear hF
  go_enter Tryz.func57,Tryz.ntmps57
  go_wp2_with fail
  go_loopg [8,9,10,11,12,13] l.length (fun m tr v tw nn t i wx=>∃ (k s:Nat) (truth:Bool) (ss:List (Nat × Nat)) (two:Nat) (tt:List UInt8),i=.int .i64 k∧k + m=l.length∧tr=.bool truth∧tw=.int .i64 two∧nn=.int .i64 ((zU 10 (l.take k)).1.length:Nat)∧t=S tt∧tt.length=s∧s + (zU 10 (l.take k)).2.length=k∧
   wx.ownsRow w.heap.size 121 2 v ss.length (zAK ss)∧Below w.heap.size w wx∧PState F (zU 10 (l.take k)).1 truth ss two∧ss.length≤9000∧(∀ c∈ss,Bd c))
  case atStart=>exact ⟨0,0,false,[],0,[],rfl,by omega,rfl,rfl,rfl,rfl,rfl,rfl,World.ownsRow_nil _ _ _ _,Below.refl _ _,Or.inl ⟨rfl,rfl,rfl,rfl⟩,by simp,by simp⟩
  case round=>
   obtain ⟨k,s,truth,ss,two,tt,rfl,hkm,rfl,rfl,rfl,rfl,hts,hsk,hown,hb,hst,hs9,hbd⟩:=hrel;have HST:=zF hst;have HBD:=zF hbd;have HSK:=zF hsk;have htl:=hst.two_le;have hcs:=zA9 10 (l.take k);rw [List.length_take] at hcs;have hsle:s≤k:=(by omega);have HP:=zF (zHU 10 l k s (by omega) hsk);clear hst hbd hsk;have hbs:=hb.size;obtain ⟨aS,cS,rfl⟩:=zN hown
   by_cases hlt:k < l.length
   ·have hdl:decide ((k:Int) < (l.length:Int))=true:=by simp;omega
    by_cases hc:l[k]=10
    ·have hcb:((l[k].toNat:Int) != 10)=false:=(by rw [hc];rfl);have HCT:Hid (zU 10 (l.take (k + 1))=((zU 10 (l.take k)).1 ++ [(zU 10 (l.take k)).2],[])):=zF (by rw [zB1 10 l k hlt];unfold zt;rw [if_pos hc]);have HPX:=zF (zGu 10 l (k + 1));rw [zA HCT] at HPX;have htx:(ByteArray.mk l.toArray).extract 0 (k + 1)=⟨(l.take (k + 1)).toArray⟩:=(by rw [zAu];rfl);have hrw:(ByteArray.mk l.toArray).extract s k=⟨((zU 10 (l.take k)).2).toArray⟩:=(by rw [zAu,zA HP]);have hrl:(zU 10 (l.take k)).2.length≤262144:=(by omega);have hrn:(zU 10 (l.take k)).1.length≤262144:=(by omega);clear hc;generalize (zU 10 (l.take k)).2=row at *;generalize hrows:(zU 10 (l.take k)).1=rows at *;clear hrows
     by_cases hr0:rows.length=0
     ·have hz:rows=[]:=List.eq_nil_of_length_eq_zero hr0;subst hz
      rcases zA HST with ⟨_,htr,hss,htw⟩ | ⟨r0,rs,h1,_⟩
      ·subst htr hss htw
       by_cases ht:row=zA4
       ·have hrt:(row == [112,114,111,111,102,32,116,114,117,101])=true:=(by rw [ht];rfl);have HST2:Hid (PState F [row] true [] 0):=zF (Or.inr ⟨row,[],rfl,Or.inl ht,by rw [ht];rfl,rfl,rfl⟩);clear ht;go_wp2_with fail
        go_roundg (gk - 1)
        case measure=>omega
        case rel=>
         refine ⟨k + 1,k + 1,true,[],0,l.take (k + 1),by go_num,by omega,rfl,rfl,by rw [zA HCT];rfl,rfl,by simp;omega,by rw [zA HCT];rfl,hown,hb,?_,hs9,zA HBD⟩;rw [zA HCT];exact zA HST2
       ·have hrt:(row == [112,114,111,111,102,32,116,114,117,101])=false:=by rw [beq_eq_false_iff_ne];exact ht
        by_cases hf:row=zCS
        ·have hrf:(row == [112,114,111,111,102,32,102,97,108,115,101])=true:=(by rw [hf];rfl);have HST2:Hid (PState F [row] false [] 0):=zF (Or.inr ⟨row,[],rfl,Or.inr hf,by rw [hf];rfl,rfl,rfl⟩);clear ht hf;go_wp2_with fail
         go_roundg (gk - 1)
         case measure=>omega
         case rel=>
          refine ⟨k + 1,k + 1,false,[],0,l.take (k + 1),by go_num,by omega,rfl,rfl,by rw [zA HCT];rfl,rfl,by simp;omega,by rw [zA HCT];rfl,hown,hb,?_,hs9,zA HBD⟩;rw [zA HCT];exact zA HST2
        ·have hrf:(row == [112,114,111,111,102,32,102,97,108,115,101])=false:=(by rw [beq_eq_false_iff_ne];exact hf);have HF:Hid (zw F l=.inl (5,1)):=zF (zKb F l (zA HLG) row (zA HPX) (fun h=>h.elim ht hf));clear ht hf;go_wp2_with fail;refine bodyPost_ret (v:=.tuple #[.int .i64 0,.int .i64 5,.int .i64 1,.int .i64 0]) (by simp [results,Tryz.results57,go_sem]) rfl ⟨hb,by rw [zA HF];rfl⟩
      ·cases h1
     ·have hn1:(((rows.length:Nat):Int) + 1 == 1)=false:=(by rw [beq_eq_false_iff_ne];omega);have HNE:Hid (rows≠[]):=zF (fun e=>hr0 (by rw [e];rfl));clear hr0;have HNONE:Hid (zDZ F truth ss row=none→zw F l=.inl (5,rows.length + 1)):=zF (fun hn=>by
       rcases zA HST with ⟨h1,_⟩ | ⟨r0,rs,h1,h2,h3,h4,_⟩
       ·exact absurd h1 (zA HNE)
       ·have hpx:=zA HPX;rw [h1] at hpx ⊢;rw [h3] at h4 hn;exact zLt F l (zA HLG) r0 row rs ss hpx h2 h4 hn)
      go_wp2_with fail;refine (zKR row 32 wr (by omega)).mono ?_;rintro e w1 ⟨v,rfl,hown1,hb1⟩;have hB1:Below w.heap.size w w1:=hb.trans (hb1.mono hbs);have hwl:(zZ 32 row).length≤262145:=(by have:=zA9 32 row;simp [zZ];omega);have hwl2:∀ x∈zZ 32 row,x.length≤1048576:=fun x hx=>by have:=zDq 32 row x hx;omega
      obtain ⟨hd,tl,hws⟩:∃ hd tl,zZ 32 row=hd :: tl:=by
       cases h:zZ 32 row with
       | nil=>simp [zZ] at h
       | cons a b=>exact ⟨a,b,rfl⟩
      have HLR:=zF (zH9 F truth ss row hd tl hws);have HTWO:Hid (zFp row=(hd == [114])):=zF (by unfold zFp;rw [hws];rfl);rw [hws] at hown1 hwl hwl2;clear hws
      rcases hown1.2 with ⟨_,h0⟩ | ⟨g,cap,cur,rfl,hbg,hg,hnc,hcm,hcs2,htake⟩
      ·simp at h0
      simp only [List.length_cons] at hwl hnc;have hSTR:StrsAt w1 (some ⟨g,0,none⟩) (hd :: tl):=fun _=>⟨g,0,cur,rfl,hg,fun j hj=>by
       have h1:=hown1.cellAt j (by simpa using hj);rw [zC hg] at h1;rw [Nat.zero_add,h1,List.getElem?_map,List.getElem?_eq_getElem hj];rfl⟩
      have hIn:zF2 lo b F ss aS cS w.heap.size hd tl g 0 cap w1:=⟨hR.later hB1,zA HFW,zO hown hb1,hs9,zA HBD,hSTR,by omega,by omega,fun x hx=>hwl2 x (List.mem_cons_of_mem _ hx)⟩;have HIN:=zF hIn;have hwc:w1.cell? ⟨g,0,none⟩=some (S hd):=(by rw [hown1.cellAt 0 (by simp)];rfl);have hownw:=zO hown hb1;have hgw:=zB hg;clear hwl2 htake hcs2 hcm hIn hSTR hown1;simp only [List.length_cons];go_wp2_with fail;refine (zQH lo b F ss aS cS w.heap.size truth hd tl g 0 cap w1 (zA HIN)).mono ?_;rintro e w2 ⟨hb2,c,ok,rfl,hok⟩;obtain ⟨p,n⟩:=c;dsimp only;have hB2:Below w.heap.size w w2:=hB1.trans (hb2.mono hB1.size);have hBz:Below w.heap.size w (w2.alloc (.cells #[.int .i64 (p:Int),.int .i64 (n:Int)] 121)):=hB2.alloc hB2.size _;have hownz:(w2.alloc (.cells #[.int .i64 (p:Int),.int .i64 (n:Int)] 121)).ownsRow w.heap.size 121 2 (.slice aS ss.length cS) ss.length (zAK ss):=(zO hownw hb2).alloc _;have hbsz:=hBz.size;have hwc2:w2.cell? ⟨g,0,none⟩=some (S hd):=(by rw [hb2.cell (p:=⟨g,0,none⟩) hgw];exact hwc);have hgw2:g < w2.heap.size:=zAm hwc2
      rcases hok with ⟨rfl,hok⟩ | ⟨rfl,hok⟩
      ·by_cases h9:ss.length=9000
       ·have hq9:((ss.length:Int) == 9000)=true:=(by rw [beq_iff_eq];omega);have HF:Hid (zw F l=.inl (5,rows.length + 1)):=zF (zA HNONE (by rw [zA HLR,if_pos h9]));clear hok h9;go_wp2_with fail;refine bodyPost_ret (v:=.tuple #[.int .i64 0,.int .i64 5,.int .i64 ((rows.length:Int) + 1),.int .i64 0]) (by simp [results,Tryz.results57,go_sem]) rfl ⟨hBz,?_⟩;rw [zA HF];exact congrArg (fun m:Int=>Ending.returned (.tuple #[.int .i64 0,.int .i64 5,.int .i64 m,.int .i64 0])) (by simp)
       ·have hq9:((ss.length:Int) == 9000)=false:=(by rw [beq_eq_false_iff_ne];omega);have HLS:Hid (zDZ F truth ss row=some (p,n)):=zF (by rw [zA HLR,if_neg h9];exact hok);have HCB:Hid (Bd (p,n)):=zF (zLh F truth ss hd tl (p,n) (zA HBIT) (zA HBD) hok);clear hok h9
        by_cases hr:hd=[114]
        ·subst hr;have HTW:Hid ((if zFp row then 1 else 0)=1):=zF (by rw [zA HTWO];rfl)
         go_wp2_with (at_builtin;refine zBL rfl _ _ 90 rfl w.heap.size i0 (.agg #[.int .i64 0,.int .i64 0]) 2 16 Tryz.underlying90 hi hz0 hz1 hz2 rfl (by decide) _ _ _ hownz rfl _ rfl (by simp) rfl (by simp [Value.oneCell']) (by unfold maxLen;omega) (by omega) hbsz ?_;intro v' w4 hown4 hgrow hnn)
         go_roundg (gk - 1)
         case measure=>omega
         case rel=>
          refine ⟨k + 1,k + 1,truth,ss ++ [(p,n)],two + 1,l.take (k + 1),by go_num,by omega,rfl,by go_num,by rw [zA HCT];exact congrArg (Value.int .i64) (by simp),rfl,by simp;omega,by rw [zA HCT];rfl,?_,za hBz hgrow hownz (Nat.le_refl _) hbsz,?_,?_,?_⟩
          ·rw [zD5];simpa using hown4
          ·rw [zA HCT]
           have:=(zA HST).step (zA HNE) row (p,n) (zA HLS)
           rw [zA HTW] at this;exact this
          ·have:=zN7 (zA HLS) hs9;simpa using this
          ·intro c hc
           rcases List.mem_append.1 hc with hc | hc
           ·exact zA HBD c hc
           ·simp at hc;subst hc;exact zA HCB
        ·have hrb:(hd == [114])=false:=(by simp [hr]);have HTW:Hid ((if zFp row then 1 else 0)=0):=zF (by rw [zA HTWO,hrb];rfl);clear hr
         go_wp2_with (at_builtin;refine zBL rfl _ _ 90 rfl w.heap.size i0 (.agg #[.int .i64 0,.int .i64 0]) 2 16 Tryz.underlying90 hi hz0 hz1 hz2 rfl (by decide) _ _ _ hownz rfl _ rfl (by simp) rfl (by simp [Value.oneCell']) (by unfold maxLen;omega) (by omega) hbsz ?_;intro v' w4 hown4 hgrow hnn)
         go_roundg (gk - 1)
         case measure=>omega
         case rel=>
          refine ⟨k + 1,k + 1,truth,ss ++ [(p,n)],two,l.take (k + 1),by go_num,by omega,rfl,rfl,by rw [zA HCT];exact congrArg (Value.int .i64) (by simp),rfl,by simp;omega,by rw [zA HCT];rfl,?_,za hBz hgrow hownz (Nat.le_refl _) hbsz,?_,?_,?_⟩
          ·rw [zD5];simpa using hown4
          ·rw [zA HCT]
           have:=(zA HST).step (zA HNE) row (p,n) (zA HLS)
           rw [zA HTW] at this;exact this
          ·have:=zN7 (zA HLS) hs9;simpa using this
          ·intro c hc
           rcases List.mem_append.1 hc with hc | hc
           ·exact zA HBD c hc
           ·simp at hc;subst hc;exact zA HCB
      ·have HF:Hid (zw F l=.inl (5,rows.length + 1)):=zF (zA HNONE (by
        rw [zA HLR]
        split
        ·rfl
        ·exact hok))
       clear hok;go_wp2_with fail;refine bodyPost_ret (v:=.tuple #[.int .i64 0,.int .i64 5,.int .i64 ((rows.length:Int) + 1),.int .i64 0]) (by simp [results,Tryz.results57,go_sem]) rfl ⟨hBz,?_⟩;rw [zA HF];exact congrArg (fun m:Int=>Ending.returned (.tuple #[.int .i64 0,.int .i64 5,.int .i64 m,.int .i64 0])) (by simp)
    ·have hcb:((l[k].toNat:Int) != 10)=true:=by
      rw [bne_iff_ne];intro e;exact hc (by apply UInt8.toNat_inj.1;show _=10;omega)
     have HCT:Hid (zU 10 (l.take (k + 1))=((zU 10 (l.take k)).1,(zU 10 (l.take k)).2 ++ [l[k]])):=zF (by rw [zB1 10 l k hlt];unfold zt;rw [if_neg hc]);clear hc;go_wp2_with fail
     go_roundg (gk - 1)
     case measure=>omega
     case rel=>
      refine ⟨k + 1,s,truth,ss,two,tt,by go_num,by omega,rfl,rfl,by rw [zA HCT],rfl,hts,?_,hown,hb,?_,hs9,zA HBD⟩
      ·rw [zA HCT];have:=zA HSK;simp;omega
      ·rw [zA HCT];exact zA HST
   ·have hkl:k=l.length:=(by omega);subst hkl;have HT:Hid (l.take l.length=l):=zF List.take_length;rw [zA HT] at HST HSK hcs ⊢;have hdl:decide ((l.length:Int) < (l.length:Int))=false:=(by simp);have HEND:=zF (zNj F l (zA HLG) truth ss two (zA HST));have hrn:(zU 10 l).1.length≤262144:=(by omega);clear HP
    by_cases htail:(zU 10 l).2=[]
    ·have hsl:¬ s < l.length:=(by have:=zA HSK;rw [htail] at this;simp at this;omega);have hq1:decide ((s:Int) < (l.length:Int))=false:=(by simp;omega);have hq2:decide (s < l.length)=false:=by simp;omega
     by_cases hss:ss=[]
     ·have HF:Hid (zw F l=.inl (5,(zU 10 l).1.length + 1)):=zF (by rw [zA HEND,hss,if_neg (by intro h;cases h.2)]);subst hss;clear htail hsl;go_wp2_with fail
      go_quiet (fail)
      go_wp2_with fail;refine bodyPost_ret (v:=.tuple #[.int .i64 0,.int .i64 5,.int .i64 (((zU 10 l).1.length:Int) + 1),.int .i64 0]) (by simp [results,Tryz.results57,go_sem]) rfl ⟨below_drewN hb nq,?_⟩;rw [zA HF];exact congrArg (fun m:Int=>Ending.returned (.tuple #[.int .i64 0,.int .i64 5,.int .i64 m,.int .i64 0])) (by simp)
     ·have hpos:0 < ss.length:=List.length_pos_iff.2 hss;obtain ⟨m,hm⟩:∃ m,ss.length=m + 1:=⟨ss.length - 1,by omega⟩;have hml:m < ss.length:=(by omega);have HEL:Hid (zCX ss=(ss[m].1 ||| ss[m].2 == 0)):=zF (by
       unfold zCX
       have:ss.getLast?=some ss[m]:=by rw [List.getLast?_eq_getElem?,show ss.length - 1=m from by omega,List.getElem?_eq_getElem hml]
       rw [this])
      obtain ⟨g,cap,hVe,hg,hg',_,hcell⟩:=zS hown (by omega);injection hVe with hVe _ hV2;subst hVe hV2;obtain ⟨ha,hb'⟩:=zAc ss m hml;have hx0:wr.cell? ⟨g,m * 2,none⟩=some (.int .i64 (ss[m].1:Int)):=hcell _ _ ha;have hx1:wr.cell? ⟨g,m * 2 + 1,none⟩=some (.int .i64 (ss[m].2:Int)):=hcell _ _ hb';have hlt9:=zA HBD _ (List.getElem_mem hml);clear hcell ha hb' hss hpos;generalize ss[m]=c at *;obtain ⟨p,n⟩:=c;have hp9:p < 512:=hlt9.1;have hn9:n < 512:=hlt9.2;dsimp only at hx0 hx1 HEL;have hor:bits .or .i64 (p:Int) (n:Int)=((p ||| n:Nat):Int):=zCK _ _ (by omega) (by omega);have hne:(((p ||| n:Nat):Int) != 0)=(p ||| n != 0):=(by rw [Bool.eq_iff_iff,bne_iff_ne,bne_iff_ne];omega);have hmI:(m:Int) < (ss.length:Int):=(by omega);have hmI2:(m:Int) < (m:Int) + 1:=(by omega);have hwm:IntKind.i64.wrap (m:Int)=(m:Int):=zBa m (by omega);have hm0:decide ((m:Int) < 0)=false:=(by simp);rw [hm];rw [hm] at hown;have HTAIL:=zF htail
      cases hz:(p ||| n == 0) with
      | false=>
       have hnz:(p ||| n != 0)=true:=(by rw [bne,hz];rfl);rw [hnz] at hne;have HF:Hid (zw F l=.inl (5,(zU 10 l).1.length + 1)):=zF (by rw [zA HEND,if_neg (by rw [zA HEL,hz];intro h;cases h.2)]);clear htail hsl hz hnz;go_wp2_with fail
       go_quiet (fail)
       go_wp2_with fail;refine bodyPost_ret (v:=.tuple #[.int .i64 0,.int .i64 5,.int .i64 (((zU 10 l).1.length:Int) + 1),.int .i64 0]) (by simp [results,Tryz.results57,go_sem]) rfl ⟨below_drewN hb nq,?_⟩;rw [zA HF];exact congrArg (fun m:Int=>Ending.returned (.tuple #[.int .i64 0,.int .i64 5,.int .i64 m,.int .i64 0])) (by simp)
      | true=>
       have hnz:(p ||| n != 0)=false:=(by rw [bne,hz];rfl);rw [hnz] at hne;have HF:Hid (zw F l=.inr (truth,two)):=zF (by rw [zA HEND,if_pos ⟨htail,by rw [zA HEL,hz]⟩]);clear htail hsl hz hnz
       cases truth with
       | true=>
        go_wp2_with fail
        go_quiet (fail)
        go_wp2_with fail;refine bodyPost_ret (v:=.tuple #[.int .i64 2,.int .i64 0,.int .i64 0,.int .i64 (two:Int)]) (by simp [results,Tryz.results57,go_sem]) rfl ⟨below_drewN hb nq,?_⟩;rw [zA HF];rfl
       | false=>
        go_wp2_with fail
        go_quiet (fail)
        go_wp2_with fail;refine bodyPost_ret (v:=.tuple #[.int .i64 1,.int .i64 0,.int .i64 0,.int .i64 (two:Int)]) (by simp [results,Tryz.results57,go_sem]) rfl ⟨below_drewN hb nq,?_⟩;rw [zA HF];rfl
    ·have hsl:s < l.length:=by
      have h1:0 < (zU 10 l).2.length:=List.length_pos_iff.2 htail
      have:=zA HSK;omega
     have hq1:decide ((s:Int) < (l.length:Int))=true:=(by simp;omega);have hq2:decide (s < l.length)=true:=(by simp;omega);have HF:Hid (zw F l=.inl (5,(zU 10 l).1.length + 1)):=zF (by rw [zA HEND,if_neg (fun h=>htail h.1)]);clear htail hsl;go_wp2_with fail
     go_quiet (fail)
     go_wp2_with fail;refine bodyPost_ret (v:=.tuple #[.int .i64 0,.int .i64 5,.int .i64 (((zU 10 l).1.length:Int) + 1),.int .i64 0]) (by simp [results,Tryz.results57,go_sem]) rfl ⟨below_drewN hb nq,?_⟩;rw [zA HF];exact congrArg (fun m:Int=>Ending.returned (.tuple #[.int .i64 0,.int .i64 5,.int .i64 m,.int .i64 0])) (by simp)
end Go.Proofs.YtgipjjhkhfihpaaGreatDoor
namespace Go.Proofs.YtgipjjhkhfihpaaGreatDoor
open Go.RowKit
theorem zRc (lo b:Nat) (F:zv) (hl:F.order.length≤8) (hnm:∀ v∈F.order,v≤8) (hall:F.all < 512) (hcl:∀ c∈F.cl,c.1 < 512∧c.2 < 512) (hcl2:F.cl.length≤24) :
  ∀ (d k t:Nat) (w:World),k + d=F.order.length→t < 512→RefAt lo w b F→
  Calls Tryz.prog 85 #[.pointer (some ⟨b,0,none⟩),.int .i64 k,.int .i64 t] w fun e w'=>e=.returned (.bool (zA5 (zBI F.cl) F.all (F.order.drop k) t))∧Below w.heap.size w w':=by
 intro d
 induction d with
 | zero=>
  intro k t w hk ht hR;have hR0:=hR;obtain ⟨_,vO,vE,vC,hfb,hO,_,_⟩:=hR;obtain ⟨aO,cO,rfl⟩:=zN hO;have k0:w.cell? ⟨b,0,none⟩=some (.slice aO F.order.length cO):=zE hfb rfl;have HF:Hid (zA5 (zBI F.cl) F.all (F.order.drop k) t=zBI F.cl t):=zF (by rw [show k=F.order.length from by omega,List.drop_length];rfl);have hkb:((k:Int) == (F.order.length:Int))=true:=(by rw [beq_iff_eq];omega);have hkb2:(k == F.order.length)=true:=(by rw [beq_iff_eq];omega);clear hk
  go_enter Tryz.func85,Tryz.ntmps85
  go_wp2_with fail;refine (zFr lo b t F w hR0 ht hcl (by omega)).mono ?_;rintro e w1 ⟨rfl,hb1⟩;go_wp2_with fail;go_ret;exact ⟨zAI (zA HF).symm,hb1⟩
 | succ d ih=>
  intro k t w hk ht hR;have hR0:=hR;obtain ⟨_,vO,vE,vC,hfb,hO,_,_⟩:=hR;obtain ⟨aO,cO,rfl⟩:=zN hO;have hbw:=zB hfb;have k0:w.cell? ⟨b,0,none⟩=some (.slice aO F.order.length cO):=zE hfb rfl;have hkl:k < F.order.length:=(by omega);obtain ⟨g,cap,hV,hg,hg',_,hcell⟩:=zS hO (by omega);injection hV with hV _ hV2;subst hV hV2;have hx:w.cell? ⟨g,k,none⟩=some (.int .i64 (F.order[k]:Int)):=hcell _ _ (zH1 _ _ hkl);have hv8:=hnm _ (List.getElem_mem hkl);have HF:Hid (zA5 (zBI F.cl) F.all (F.order.drop k) t=if zA5 (zBI F.cl) F.all (F.order.drop (k + 1)) (t ||| 2 ^ F.order[k]) != F.all.testBit F.order[k] then zA5 (zBI F.cl) F.all (F.order.drop (k + 1)) (t ||| 2 ^ F.order[k]) else zA5 (zBI F.cl) F.all (F.order.drop (k + 1)) t):=zF (by rw [List.drop_eq_getElem_cons hkl];rfl);have hkb:((k:Int) == (F.order.length:Int))=false:=(by rw [beq_eq_false_iff_ne];omega);have hkb2:(k == F.order.length)=false:=(by rw [beq_eq_false_iff_ne];omega);have hkI:(k:Int) < (F.order.length:Int):=(by omega);have HK:=zF hk;have HNM:=zF hnm;have HCL:=zF hcl;clear hcell hk hnm hcl;generalize F.order[k]=v at *;have hor:=zF1 t ht (v:Int) (by omega) (by omega);rw [Int.toNat_natCast] at hor;have hp2:2 ^ v < 512:=(by have:=zD2 v hv8;omega);have hto:=zBD t (2 ^ v) ht hp2;have HIH1:=zF (fun wx hx=>ih (k + 1) (t ||| 2 ^ v) wx (by have:=zA HK;omega) hto hx);have HIH2:=zF (fun wx hx=>ih (k + 1) t wx (by have:=zA HK;omega) ht hx);have hk1:((k:Int) + 1)=((k + 1:Nat):Int):=(by omega);have HK1:=zF hk1;clear ih hk1
  go_enter Tryz.func85,Tryz.ntmps85
  go_wp2_with fail;rw [zA HK1];refine (zA HIH1 w hR0).mono ?_;rintro e w1 ⟨rfl,hb1⟩;have hR1:=hR0.later hb1;have y1:w1.cell? ⟨b,1,none⟩=some (.int .i64 F.all):=(by rw [hb1.cell (p:=⟨b,1,none⟩) hbw,zC hfb];rfl);generalize zA5 (zBI F.cl) F.all (F.order.drop (k + 1)) (t ||| 2 ^ v)=a at *;go_wp2_with fail;refine (zDW b F.all v w1 hall hv8 y1).mono ?_;rintro e w2 ⟨rfl,hw2⟩;subst hw2;generalize F.all.testBit v=u at *
  cases a with
  | false=>
   cases u with
   | false=>
    have HG:Hid (zA5 (zBI F.cl) F.all (F.order.drop k) t=zA5 (zBI F.cl) F.all (F.order.drop (k + 1)) t):=zF (by rw [zA HF];rfl);go_wp2_with fail
    try rw [zA HK1]
    refine (zA HIH2 w2 hR1).mono ?_;rintro e w3 ⟨rfl,hb3⟩;have hb13:=zBw hb1 hb3;go_wp2_with fail;go_ret;exact ⟨zAI (zA HG).symm,hb13⟩
   | true=>
    have HG:Hid (zA5 (zBI F.cl) F.all (F.order.drop k) t=false):=zF (by rw [zA HF];rfl);go_wp2_with fail;go_ret;exact ⟨zAI (zA HG).symm,hb1⟩
  | true=>
   cases u with
   | false=>
    have HG:Hid (zA5 (zBI F.cl) F.all (F.order.drop k) t=true):=zF (by rw [zA HF];rfl);go_wp2_with fail;go_ret;exact ⟨zAI (zA HG).symm,hb1⟩
   | true=>
    have HG:Hid (zA5 (zBI F.cl) F.all (F.order.drop k) t=zA5 (zBI F.cl) F.all (F.order.drop (k + 1)) t):=zF (by rw [zA HF];rfl);go_wp2_with fail
    try rw [zA HK1]
    refine (zA HIH2 w2 hR1).mono ?_;rintro e w3 ⟨rfl,hb3⟩;have hb13:=zBw hb1 hb3;go_wp2_with fail;go_ret;exact ⟨zAI (zA HG).symm,hb13⟩
theorem zFj (lo b:Nat) (F:zv) (hl:F.order.length≤8) (hnm:∀ v∈F.order,v≤8) (hall:F.all < 512) (hcl:∀ c∈F.cl,c.1 < 512∧c.2 < 512) (hcl2:F.cl.length≤24) (w:World) (hR:RefAt lo w b F) :
  Calls Tryz.prog 56 #[.pointer (some ⟨b,0,none⟩)] w fun e w'=>e=.returned (.bool (zA5 (zBI F.cl) F.all F.order 0))∧Below w.heap.size w w':=by
 have HC:Hid (Calls Tryz.prog 85 #[.pointer (some ⟨b,0,none⟩),.int .i64 0,.int .i64 0] w fun e w'=>e=.returned (.bool (zA5 (zBI F.cl) F.all F.order 0))∧Below w.heap.size w w'):=zF (zRc lo b F hl hnm hall hcl hcl2 F.order.length 0 0 w (by omega) (by omega) hR)
 go_enter Tryz.func56,Tryz.ntmps56
 go_wp2_with fail;refine (zA HC).mono ?_;rintro e w1 ⟨rfl,hb1⟩;go_wp2_with fail;go_ret;exact ⟨rfl,hb1⟩
end Go.Proofs.YtgipjjhkhfihpaaGreatDoor
