import Derived.Test.YtgipjjhkhfihpaaGreatDoorKR
import Derived.Test.YtgipjjhkhfihpaaGreatDoorKM
import Derived.Test.YtgipjjhkhfihpaaGreatDoorKA
import Derived.Lib.ItoaLen
import Derived.Test.YtgipjjhkhfihpaaGreatDoorKG
set_option maxRecDepth 100000
set_option maxHeartbeats 6400000
namespace Go.Proofs.YtgipjjhkhfihpaaGreatDoor
open Go.RowKit
theorem zLy:zF5 0:=by
 intro b C S V path vals d w hC hI hS;obtain ⟨p1,p2⟩:=path;obtain ⟨v1,v2⟩:=vals;obtain ⟨aV,cV,hVf⟩:=zN hS.oV;have hvl:=hC.qg.qb.vl;have hdm:=hI.dm;have HX:Hid (zBl C 0 (p1,p2) d (v1,v2) S=(S,(0,0))):=zF rfl;have hbw:=zB hS.fb;have hd1:decide ((C.q.vars.length:Int)≤(d:Int))=true:=decide_eq_true (by omega);have hd2:decide (C.q.vars.length≤d)=true:=decide_eq_true (by omega);have hbE:Below w.heap.size w (((w.alloc (.cells #[.int .i64 (p1:Int),.int .i64 (p2:Int)] 74)).alloc (.cells #[.int .i64 (v1:Int),.int .i64 (v2:Int)] 74)).alloc (.cells #[.int .i64 0,.int .i64 0] 129)):=(((Below.refl _ _).alloc (Nat.le_refl _) _).alloc (by simp;try omega) _).alloc (by simp;try omega) _;have cb0:(((w.alloc (.cells #[.int .i64 (p1:Int),.int .i64 (p2:Int)] 74)).alloc (.cells #[.int .i64 (v1:Int),.int .i64 (v2:Int)] 74)).alloc (.cells #[.int .i64 0,.int .i64 0] 129)).cell? ⟨b,0,none⟩=some (.slice aV C.q.vars.length cV):=by rw [hbE.cell (p:=⟨b,0,none⟩) hbw];rw [zC hS.fb];exact congrArg some hVf
 go_enter Tryz.func92,Tryz.ntmps92
 go_wp2_with fail;generalize hw0:(((w.alloc (.cells #[.int .i64 (p1:Int),.int .i64 (p2:Int)] 74)).alloc (.cells #[.int .i64 (v1:Int),.int .i64 (v2:Int)] 74)).alloc (.cells #[.int .i64 0,.int .i64 0] 129))=u1;have hb0:Below w.heap.size w u1:=(by rw [← hw0];exact (((Below.refl _ _).alloc (Nat.le_refl _) _).alloc (by simp;try omega) _).alloc (by simp;try omega) _);have hpa:u1.heap[w.heap.size]?=some (.cells #[.int .i64 (p1:Int),.int .i64 (p2:Int)] 74 (0,0)):=(by rw [← hw0,heap_alloc_old _ _ (by simp;try omega),heap_alloc_old _ _ (by simp;try omega)];exact zP (by simp));have npa:Far b V (w.heap.size):=hS.fresh (by omega);have hva:u1.heap[w.heap.size + 1]?=some (.cells #[.int .i64 (v1:Int),.int .i64 (v2:Int)] 74 (0,0)):=(by rw [← hw0,heap_alloc_old _ _ (by simp;try omega)];exact zP (by simp));have nva:Far b V (w.heap.size + 1):=hS.fresh (by omega);have hrs:u1.heap[w.heap.size + 2]?=some (.cells #[.int .i64 0,.int .i64 0] 129 (0,0)):=(by rw [← hw0];exact zP (by simp));have nrs:Far b V (w.heap.size + 2):=hS.fresh (by omega);clear hw0;have hM:SMoved b w u1 V V:=SMoved.of_below hb0;replace hS:=hS.later hb0;have lb:=zB hS.fb;obtain ⟨cpa0,cpa1⟩:=zJ hpa;have lpa:=zB hpa;obtain ⟨cva0,cva1⟩:=zJ hva;have lva:=zB hva;obtain ⟨crs0,crs1⟩:=zJ hrs;have lrs:=zB hrs;have j0:u1.cell? ⟨w.heap.size + 1 + 1,0,none⟩=some (.int .i64 0):=crs0;have j1:u1.cell? ⟨w.heap.size + 1 + 1,1,none⟩=some (.int .i64 0):=crs1;refine bodyPost_ret (v:=zAv (0,0)) (by simp [results,Tryz.results92,go_sem,j0,j1]) rfl ⟨by rw [zA HX],?_⟩;rw [zA HX];exact ⟨V,hS,hM⟩
theorem zLe (m:Nat) (hLk:LookSpec m):zF5 (m + 1):=by
 intro b C S V path vals d w hC hI hS;obtain ⟨p1,p2⟩:=path;obtain ⟨v1,v2⟩:=vals;obtain ⟨aV,cV,hVf⟩:=zN hS.oV;have hvl:=hC.qg.qb.vl;have hdm:=hI.dm;have hd:d < C.q.vars.length:=(by omega);have hp:p1 < 512∧p2 < 512:=hI.path.bd;have hvb:v1 < 512∧v2 < 512:=hI.vals;have hvn:=hC.qg.qb.names _ (List.getElem_mem hd);have hoV:=hS.oV;rw [hVf] at hoV;have HBA:Hid (∀ x y:Int,(if zj (v1,v2) (-(C.q.vars[d].1:Int)) then -(C.q.vars[d].1:Int) else (C.q.vars[d].1:Int))=x→-x=y→_):=zF (fun x y hx hy=>zNB C m d (p1,p2) (v1,v2) S C.q.vars[d].1 x y (by rw [zMQ _ _ hd]) hx hy);have HNR:Hid (∀ s,LookIn C m (d + 1) (zQ (p1,p2) (zAF C.q.vars[d].1 s)) S):=zF (fun s=>hI.near hC hd s);have HFA:Hid (∀ s t,LookIn C m (d + 1) (zQ (p1,p2) (zAF C.q.vars[d].1 t)) (z8 C m (zQ (p1,p2) (zAF C.q.vars[d].1 s)) (d + 1) S).1):=zF (fun s t=>hI.far hC hd s t);obtain ⟨g,cap,hVe,hg,hg',_,hcell⟩:=zS hoV (by omega);injection hVe with hVe _ hV2;subst hVe hV2;obtain ⟨ha,_⟩:=zCG C.q.vars d hd;have hx:=hcell _ _ ha;clear hcell ha;obtain ⟨vn,hvne⟩:∃ X,X=C.q.vars[d].1:=⟨_,rfl⟩;rw [← hvne] at hvn HBA HNR HFA hx;clear hvne;have hbw:=zB hS.fb;have hd1:decide ((C.q.vars.length:Int)≤(d:Int))=false:=decide_eq_false (by omega);have hd2:decide (C.q.vars.length≤d)=false:=decide_eq_false (by omega);have hd3:decide ((d:Int) < (C.q.vars.length:Int))=true:=decide_eq_true (by omega);have hd4:decide (d < C.q.vars.length)=true:=decide_eq_true (by omega);have hbE:Below w.heap.size w (((w.alloc (.cells #[.int .i64 (p1:Int),.int .i64 (p2:Int)] 74)).alloc (.cells #[.int .i64 (v1:Int),.int .i64 (v2:Int)] 74)).alloc (.cells #[.int .i64 0,.int .i64 0] 129)):=(((Below.refl _ _).alloc (Nat.le_refl _) _).alloc (by simp;try omega) _).alloc (by simp;try omega) _;have cb0:(((w.alloc (.cells #[.int .i64 (p1:Int),.int .i64 (p2:Int)] 74)).alloc (.cells #[.int .i64 (v1:Int),.int .i64 (v2:Int)] 74)).alloc (.cells #[.int .i64 0,.int .i64 0] 129)).cell? ⟨b,0,none⟩=some (.slice (some ⟨g,0,none⟩) C.q.vars.length cV):=(by rw [hbE.cell (p:=⟨b,0,none⟩) hbw];rw [zC hS.fb];exact congrArg some hVf);have cg0:(((w.alloc (.cells #[.int .i64 (p1:Int),.int .i64 (p2:Int)] 74)).alloc (.cells #[.int .i64 (v1:Int),.int .i64 (v2:Int)] 74)).alloc (.cells #[.int .i64 0,.int .i64 0] 129)).cell? ⟨g,d * 2,none⟩=some (.int .i64 (vn:Int)):=(by rw [hbE.cell (p:=⟨g,d * 2,none⟩) hg'];exact hx);have hge:g < w.heap.size + 1 + 1 + 1:=by omega
 go_enter Tryz.func92,Tryz.ntmps92
 go_wp2_with fail;generalize hw0:(((w.alloc (.cells #[.int .i64 (p1:Int),.int .i64 (p2:Int)] 74)).alloc (.cells #[.int .i64 (v1:Int),.int .i64 (v2:Int)] 74)).alloc (.cells #[.int .i64 0,.int .i64 0] 129))=u1;have hb0:Below w.heap.size w u1:=(by rw [← hw0];exact (((Below.refl _ _).alloc (Nat.le_refl _) _).alloc (by simp;try omega) _).alloc (by simp;try omega) _);have hpa:u1.heap[w.heap.size]?=some (.cells #[.int .i64 (p1:Int),.int .i64 (p2:Int)] 74 (0,0)):=(by rw [← hw0,heap_alloc_old _ _ (by simp;try omega),heap_alloc_old _ _ (by simp;try omega)];exact zP (by simp));have npa:Far b V (w.heap.size):=hS.fresh (by omega);have hva:u1.heap[w.heap.size + 1]?=some (.cells #[.int .i64 (v1:Int),.int .i64 (v2:Int)] 74 (0,0)):=(by rw [← hw0,heap_alloc_old _ _ (by simp;try omega)];exact zP (by simp));have nva:Far b V (w.heap.size + 1):=hS.fresh (by omega);have hrs:u1.heap[w.heap.size + 2]?=some (.cells #[.int .i64 0,.int .i64 0] 129 (0,0)):=(by rw [← hw0];exact zP (by simp));have nrs:Far b V (w.heap.size + 2):=hS.fresh (by omega);clear hw0;have hM:SMoved b w u1 V V:=SMoved.of_below hb0;replace hS:=hS.later hb0;have lb:=zB hS.fb;obtain ⟨cpa0,cpa1⟩:=zJ hpa;have lpa:=zB hpa;obtain ⟨cva0,cva1⟩:=zJ hva;have lva:=zB hva;obtain ⟨crs0,crs1⟩:=zJ hrs;have lrs:=zB hrs;clear hd1 hd2 hd3 hd4;refine (zCw v1 v2 (-(vn:Int)) _ hvb.1 hvb.2 (by omega) (by omega)).mono ?_;rintro e u2 ⟨rfl,b2⟩;replace hM:=hM.trans (SMoved.of_below b2);replace hS:=hS.later b2;replace lb:=zB hS.fb;replace hpa:=zH b2 hpa;clear cpa0 cpa1;obtain ⟨cpa0,cpa1⟩:=zJ hpa;replace lpa:=zB hpa;replace hva:=zH b2 hva;clear cva0 cva1;obtain ⟨cva0,cva1⟩:=zJ hva;replace lva:=zB hva;replace hrs:=zH b2 hrs;clear crs0 crs1;obtain ⟨crs0,crs1⟩:=zJ hrs;replace lrs:=zB hrs;clear cb0 hx cg0 hbE hge
 cases hhl:zj (v1,v2) (-(vn:Int)) with
 | true=>
  have HB2:=zF (zA HBA (-(vn:Int)) (vn:Int) (by rw [hhl];rfl) (by omega));have hLN:LookIn C m (d + 1) (zQ (p1,p2) (-(vn:Int))) S:=zA HNR false;have hLF:LookIn C m (d + 1) (zQ (p1,p2) (vn:Int)) (z8 C m (zQ (p1,p2) (-(vn:Int))) (d + 1) S).1:=zA HFA false true;clear HBA HNR HFA hhl;go_wp2_with fail;refine (zCH p1 p2 (-(vn:Int)) _ hp.1 hp.2 (by omega) (by omega)).mono ?_;rintro e u3 ⟨rfl,b3⟩;replace hM:=hM.trans (SMoved.of_below b3);replace hS:=hS.later b3;replace lb:=zB hS.fb;replace hpa:=zH b3 hpa;clear cpa0 cpa1;obtain ⟨cpa0,cpa1⟩:=zJ hpa;replace lpa:=zB hpa;replace hva:=zH b3 hva;clear cva0 cva1;obtain ⟨cva0,cva1⟩:=zJ hva;replace lva:=zB hva;replace hrs:=zH b3 hrs;clear crs0 crs1;obtain ⟨crs0,crs1⟩:=zJ hrs;replace lrs:=zB hrs;have hw9:(zQ (p1,p2) (-(vn:Int))).1 < 512∧(zQ (p1,p2) (-(vn:Int))).2 < 512:=zAZ (p1,p2) (-(vn:Int)) hp.1 hp.2;generalize zQ (p1,p2) (-(vn:Int))=nr at *;obtain ⟨n1,n2⟩:=nr;dsimp only at hw9 ⊢;go_wp2_with fail;have nnr:Far b V u3.heap.size:=hS.fresh (Nat.le_refl _);generalize hw0:u3.alloc (.cells #[.int .i64 (n1:Int),.int .i64 (n2:Int)] 74)=u4;have b4:Below u3.heap.size u3 u4:=(by rw [← hw0];exact (Below.refl _ _).alloc (Nat.le_refl _) _);have hnr:u4.heap[u3.heap.size]?=some (.cells #[.int .i64 (n1:Int),.int .i64 (n2:Int)] 74 (0,0)):=(by rw [← hw0];exact heap_alloc_new _ _);clear hw0;replace hM:=hM.trans (SMoved.of_below b4);replace hS:=hS.later b4;replace lb:=zB hS.fb;replace hpa:=zH b4 hpa;clear cpa0 cpa1;obtain ⟨cpa0,cpa1⟩:=zJ hpa;replace lpa:=zB hpa;replace hva:=zH b4 hva;clear cva0 cva1;obtain ⟨cva0,cva1⟩:=zJ hva;replace lva:=zB hva;replace hrs:=zH b4 hrs;clear crs0 crs1;obtain ⟨crs0,crs1⟩:=zJ hrs;replace lrs:=zB hrs;obtain ⟨cnr0,cnr1⟩:=zJ hnr;have lnr:=zB hnr;have hlo:=hLN.out hC;have hkk:=hLN.lk hC;refine (hLk.next b C S V (n1,n2) d _ hC hLN hS).mono ?_;rintro e u5 ⟨rfl,V2,hS2,hM2⟩;replace hpa:=hM2.blk hpa npa;replace npa:=hM2.far lpa npa;replace hva:=hM2.blk hva nva;replace nva:=hM2.far lva nva;replace hrs:=hM2.blk hrs nrs;replace nrs:=hM2.far lrs nrs;replace hnr:=hM2.blk hnr nnr;replace nnr:=hM2.far lnr nnr;replace hM:=hM.trans hM2;replace hS:=hS2;clear hM2;replace lb:=zB hS.fb;clear cpa0 cpa1;obtain ⟨cpa0,cpa1⟩:=zJ hpa;replace lpa:=zB hpa;clear cva0 cva1;obtain ⟨cva0,cva1⟩:=zJ hva;replace lva:=zB hva;clear crs0 crs1;obtain ⟨crs0,crs1⟩:=zJ hrs;replace lrs:=zB hrs;clear cnr0 cnr1;obtain ⟨cnr0,cnr1⟩:=zJ hnr;replace lnr:=zB hnr;clear hLN;generalize z8 C m (n1,n2) (d + 1) S=R at *;obtain ⟨S2,f1,f2⟩:=R;dsimp only at hS hlo hkk hLF HB2 ⊢;have hB2:=hlo.bd hC;go_wp2_with fail;have nfi:Far b V2 u5.heap.size:=hS.fresh (Nat.le_refl _);generalize hw0:u5.alloc (.cells #[.int .i64 (f1:Int),.int .i64 (f2:Int)] 129)=u6;have b6:Below u5.heap.size u5 u6:=(by rw [← hw0];exact (Below.refl _ _).alloc (Nat.le_refl _) _);have hfi:u6.heap[u5.heap.size]?=some (.cells #[.int .i64 (f1:Int),.int .i64 (f2:Int)] 129 (0,0)):=(by rw [← hw0];exact heap_alloc_new _ _);clear hw0;replace hM:=hM.trans (SMoved.of_below b6);replace hS:=hS.later b6;replace lb:=zB hS.fb;replace hpa:=zH b6 hpa;clear cpa0 cpa1;obtain ⟨cpa0,cpa1⟩:=zJ hpa;replace lpa:=zB hpa;replace hva:=zH b6 hva;clear cva0 cva1;obtain ⟨cva0,cva1⟩:=zJ hva;replace lva:=zB hva;replace hrs:=zH b6 hrs;clear crs0 crs1;obtain ⟨crs0,crs1⟩:=zJ hrs;replace lrs:=zB hrs;replace hnr:=zH b6 hnr;clear cnr0 cnr1;obtain ⟨cnr0,cnr1⟩:=zJ hnr;replace lnr:=zB hnr;obtain ⟨cfi0,cfi1⟩:=zJ hfi;have lfi:=zB hfi;refine (zGa b C S2 V2 (f1,f2) vn _ hS hB2).mono ?_;rintro e u7 ⟨rfl,b7⟩;replace hM:=hM.trans (SMoved.of_below b7);replace hS:=hS.later b7;replace lb:=zB hS.fb;replace hpa:=zH b7 hpa;clear cpa0 cpa1;obtain ⟨cpa0,cpa1⟩:=zJ hpa;replace lpa:=zB hpa;replace hva:=zH b7 hva;clear cva0 cva1;obtain ⟨cva0,cva1⟩:=zJ hva;replace lva:=zB hva;replace hrs:=zH b7 hrs;clear crs0 crs1;obtain ⟨crs0,crs1⟩:=zJ hrs;replace lrs:=zB hrs;replace hnr:=zH b7 hnr;clear cnr0 cnr1;obtain ⟨cnr0,cnr1⟩:=zJ hnr;replace lnr:=zB hnr;replace hfi:=zH b7 hfi;clear cfi0 cfi1;obtain ⟨cfi0,cfi1⟩:=zJ hfi;replace lfi:=zB hfi
  cases hh1:zs (S2.lits (f1,f2)) vn with
  | false=>
   have HX:Hid (zBl C (m + 1) (p1,p2) d (v1,v2) S=(S2,(f1,f2))):=zF (by rw [zA HB2,hh1];rfl);clear hh1;have z0:=zD hrs 0;have z1:=zD hrs 1;have hR:=zI (zI hrs 0 (.int .i64 (f1:Int))) 1 (.int .i64 (f2:Int));have j0:=zC hR 0;have j1:=zC hR 1;go_wp2_with fail;refine bodyPost_ret (v:=zAv (f1,f2)) (by simp [results,Tryz.results92,go_sem,j0,j1]) rfl ⟨by rw [zA HX],?_⟩;rw [zA HX];exact ⟨_,(hS.set nrs 0 _).set nrs 1 _,(hM.set (k:=w.heap.size + 2) (by omega) 0 _).set (k:=w.heap.size + 2) (by omega) 1 _⟩
  | true=>
   have hki:=hkk.kind hh1;have HB3:=zF ((zA HB2).trans (if_pos hh1));clear hh1 HB2 hkk;go_wp2_with fail;refine (zCH p1 p2 (vn:Int) _ hp.1 hp.2 (by omega) (by omega)).mono ?_;rintro e u8 ⟨rfl,b8⟩;replace hM:=hM.trans (SMoved.of_below b8);replace hS:=hS.later b8;replace lb:=zB hS.fb;replace hpa:=zH b8 hpa;clear cpa0 cpa1;obtain ⟨cpa0,cpa1⟩:=zJ hpa;replace lpa:=zB hpa;replace hva:=zH b8 hva;clear cva0 cva1;obtain ⟨cva0,cva1⟩:=zJ hva;replace lva:=zB hva;replace hrs:=zH b8 hrs;clear crs0 crs1;obtain ⟨crs0,crs1⟩:=zJ hrs;replace lrs:=zB hrs;replace hnr:=zH b8 hnr;clear cnr0 cnr1;obtain ⟨cnr0,cnr1⟩:=zJ hnr;replace lnr:=zB hnr;replace hfi:=zH b8 hfi;clear cfi0 cfi1;obtain ⟨cfi0,cfi1⟩:=zJ hfi;replace lfi:=zB hfi;have hw9b:(zQ (p1,p2) (vn:Int)).1 < 512∧(zQ (p1,p2) (vn:Int)).2 < 512:=zAZ (p1,p2) (vn:Int) hp.1 hp.2;generalize zQ (p1,p2) (vn:Int)=fr at *;obtain ⟨r1,r2⟩:=fr;dsimp only at hw9b ⊢;go_wp2_with fail;have nfr:Far b V2 u8.heap.size:=hS.fresh (Nat.le_refl _);generalize hw0:u8.alloc (.cells #[.int .i64 (r1:Int),.int .i64 (r2:Int)] 74)=u9;have b9:Below u8.heap.size u8 u9:=(by rw [← hw0];exact (Below.refl _ _).alloc (Nat.le_refl _) _);have hfr:u9.heap[u8.heap.size]?=some (.cells #[.int .i64 (r1:Int),.int .i64 (r2:Int)] 74 (0,0)):=(by rw [← hw0];exact heap_alloc_new _ _);clear hw0;replace hM:=hM.trans (SMoved.of_below b9);replace hS:=hS.later b9;replace lb:=zB hS.fb;replace hpa:=zH b9 hpa;clear cpa0 cpa1;obtain ⟨cpa0,cpa1⟩:=zJ hpa;replace lpa:=zB hpa;replace hva:=zH b9 hva;clear cva0 cva1;obtain ⟨cva0,cva1⟩:=zJ hva;replace lva:=zB hva;replace hrs:=zH b9 hrs;clear crs0 crs1;obtain ⟨crs0,crs1⟩:=zJ hrs;replace lrs:=zB hrs;replace hnr:=zH b9 hnr;clear cnr0 cnr1;obtain ⟨cnr0,cnr1⟩:=zJ hnr;replace lnr:=zB hnr;replace hfi:=zH b9 hfi;clear cfi0 cfi1;obtain ⟨cfi0,cfi1⟩:=zJ hfi;replace lfi:=zB hfi;obtain ⟨cfr0,cfr1⟩:=zJ hfr;have lfr:=zB hfr;have hlo2:=hLF.out hC;refine (hLk.next b C S2 V2 (r1,r2) d _ hC hLF hS).mono ?_;rintro e u10 ⟨rfl,V3,hS2,hM2⟩;replace hpa:=hM2.blk hpa npa;replace npa:=hM2.far lpa npa;replace hva:=hM2.blk hva nva;replace nva:=hM2.far lva nva;replace hrs:=hM2.blk hrs nrs;replace nrs:=hM2.far lrs nrs;replace hnr:=hM2.blk hnr nnr;replace nnr:=hM2.far lnr nnr;replace hfi:=hM2.blk hfi nfi;replace nfi:=hM2.far lfi nfi;replace hfr:=hM2.blk hfr nfr;replace nfr:=hM2.far lfr nfr;replace hM:=hM.trans hM2;replace hS:=hS2;clear hM2;replace lb:=zB hS.fb;clear cpa0 cpa1;obtain ⟨cpa0,cpa1⟩:=zJ hpa;replace lpa:=zB hpa;clear cva0 cva1;obtain ⟨cva0,cva1⟩:=zJ hva;replace lva:=zB hva;clear crs0 crs1;obtain ⟨crs0,crs1⟩:=zJ hrs;replace lrs:=zB hrs;clear cnr0 cnr1;obtain ⟨cnr0,cnr1⟩:=zJ hnr;replace lnr:=zB hnr;clear cfi0 cfi1;obtain ⟨cfi0,cfi1⟩:=zJ hfi;replace lfi:=zB hfi;clear cfr0 cfr1;obtain ⟨cfr0,cfr1⟩:=zJ hfr;replace lfr:=zB hfr;clear hLF;generalize z8 C m (r1,r2) (d + 1) S2=R at *;obtain ⟨S3,g1,g2⟩:=R;dsimp only at hS hlo2 HB3 ⊢;have hB3:=hlo2.bd hC;go_wp2_with fail;have nse:Far b V3 u10.heap.size:=hS.fresh (Nat.le_refl _);generalize hw0:u10.alloc (.cells #[.int .i64 (g1:Int),.int .i64 (g2:Int)] 129)=u11;have b11:Below u10.heap.size u10 u11:=(by rw [← hw0];exact (Below.refl _ _).alloc (Nat.le_refl _) _);have hse:u11.heap[u10.heap.size]?=some (.cells #[.int .i64 (g1:Int),.int .i64 (g2:Int)] 129 (0,0)):=(by rw [← hw0];exact heap_alloc_new _ _);clear hw0;replace hM:=hM.trans (SMoved.of_below b11);replace hS:=hS.later b11;replace lb:=zB hS.fb;replace hpa:=zH b11 hpa;clear cpa0 cpa1;obtain ⟨cpa0,cpa1⟩:=zJ hpa;replace lpa:=zB hpa;replace hva:=zH b11 hva;clear cva0 cva1;obtain ⟨cva0,cva1⟩:=zJ hva;replace lva:=zB hva;replace hrs:=zH b11 hrs;clear crs0 crs1;obtain ⟨crs0,crs1⟩:=zJ hrs;replace lrs:=zB hrs;replace hnr:=zH b11 hnr;clear cnr0 cnr1;obtain ⟨cnr0,cnr1⟩:=zJ hnr;replace lnr:=zB hnr;replace hfi:=zH b11 hfi;clear cfi0 cfi1;obtain ⟨cfi0,cfi1⟩:=zJ hfi;replace lfi:=zB hfi;replace hfr:=zH b11 hfr;clear cfr0 cfr1;obtain ⟨cfr0,cfr1⟩:=zJ hfr;replace lfr:=zB hfr;obtain ⟨cse0,cse1⟩:=zJ hse;have lse:=zB hse;refine (zGa b C S3 V3 (g1,g2) vn _ hS hB3).mono ?_;rintro e u12 ⟨rfl,b12⟩;replace hM:=hM.trans (SMoved.of_below b12);replace hS:=hS.later b12;replace lb:=zB hS.fb;replace hpa:=zH b12 hpa;clear cpa0 cpa1;obtain ⟨cpa0,cpa1⟩:=zJ hpa;replace lpa:=zB hpa;replace hva:=zH b12 hva;clear cva0 cva1;obtain ⟨cva0,cva1⟩:=zJ hva;replace lva:=zB hva;replace hrs:=zH b12 hrs;clear crs0 crs1;obtain ⟨crs0,crs1⟩:=zJ hrs;replace lrs:=zB hrs;replace hnr:=zH b12 hnr;clear cnr0 cnr1;obtain ⟨cnr0,cnr1⟩:=zJ hnr;replace lnr:=zB hnr;replace hfi:=zH b12 hfi;clear cfi0 cfi1;obtain ⟨cfi0,cfi1⟩:=zJ hfi;replace lfi:=zB hfi;replace hfr:=zH b12 hfr;clear cfr0 cfr1;obtain ⟨cfr0,cfr1⟩:=zJ hfr;replace lfr:=zB hfr;replace hse:=zH b12 hse;clear cse0 cse1;obtain ⟨cse0,cse1⟩:=zJ hse;replace lse:=zB hse
   cases hh2:zs (S3.lits (g1,g2)) vn with
   | false=>
    have HX:Hid (zBl C (m + 1) (p1,p2) d (v1,v2) S=(S3,(g1,g2))):=zF (by rw [zA HB3,hh2];rfl);clear hh2;have z0:=zD hrs 0;have z1:=zD hrs 1;have hR:=zI (zI hrs 0 (.int .i64 (g1:Int))) 1 (.int .i64 (g2:Int));have j0:=zC hR 0;have j1:=zC hR 1;go_wp2_with fail;refine bodyPost_ret (v:=zAv (g1,g2)) (by simp [results,Tryz.results92,go_sem,j0,j1]) rfl ⟨by rw [zA HX],?_⟩;rw [zA HX];exact ⟨_,(hS.set nrs 0 _).set nrs 1 _,(hM.set (k:=w.heap.size + 2) (by omega) 0 _).set (k:=w.heap.size + 2) (by omega) 1 _⟩
   | true=>
    have HX:Hid (zBl C (m + 1) (p1,p2) d (v1,v2) S=zCP C S3 (f1,f2) (g1,g2) vn):=zF (by rw [zA HB3,hh2];rfl);clear hh2;have hpl:=hlo2.plen f1;go_wp2_with fail;refine (zKt b C S3 V3 (f1,f2) (g1,g2) vn _ hS hB3 hki hpl (by omega)).mono ?_;rintro e u13 ⟨rfl,V4,hS2,hM2⟩;replace hpa:=hM2.blk hpa npa;replace npa:=hM2.far lpa npa;replace hva:=hM2.blk hva nva;replace nva:=hM2.far lva nva;replace hrs:=hM2.blk hrs nrs;replace nrs:=hM2.far lrs nrs;replace hnr:=hM2.blk hnr nnr;replace nnr:=hM2.far lnr nnr;replace hfi:=hM2.blk hfi nfi;replace nfi:=hM2.far lfi nfi;replace hfr:=hM2.blk hfr nfr;replace nfr:=hM2.far lfr nfr;replace hse:=hM2.blk hse nse;replace nse:=hM2.far lse nse;replace hM:=hM.trans hM2;replace hS:=hS2;clear hM2;replace lb:=zB hS.fb;clear cpa0 cpa1;obtain ⟨cpa0,cpa1⟩:=zJ hpa;replace lpa:=zB hpa;clear cva0 cva1;obtain ⟨cva0,cva1⟩:=zJ hva;replace lva:=zB hva;clear crs0 crs1;obtain ⟨crs0,crs1⟩:=zJ hrs;replace lrs:=zB hrs;clear cnr0 cnr1;obtain ⟨cnr0,cnr1⟩:=zJ hnr;replace lnr:=zB hnr;clear cfi0 cfi1;obtain ⟨cfi0,cfi1⟩:=zJ hfi;replace lfi:=zB hfi;clear cfr0 cfr1;obtain ⟨cfr0,cfr1⟩:=zJ hfr;replace lfr:=zB hfr;clear cse0 cse1;obtain ⟨cse0,cse1⟩:=zJ hse;replace lse:=zB hse;generalize zCP C S3 (f1,f2) (g1,g2) vn=R at *;obtain ⟨S4,j1',j2'⟩:=R;dsimp only at hS HX ⊢;have z0:=zD hrs 0;have z1:=zD hrs 1;have hR:=zI (zI hrs 0 (.int .i64 (j1':Int))) 1 (.int .i64 (j2':Int));have j0:=zC hR 0;have j1:=zC hR 1;go_wp2_with fail;refine bodyPost_ret (v:=zAv (j1',j2')) (by simp [results,Tryz.results92,go_sem,j0,j1]) rfl ⟨by rw [zA HX],?_⟩;rw [zA HX];exact ⟨_,(hS.set nrs 0 _).set nrs 1 _,(hM.set (k:=w.heap.size + 2) (by omega) 0 _).set (k:=w.heap.size + 2) (by omega) 1 _⟩
 | false=>
  have HB2:=zF (zA HBA (vn:Int) (-(vn:Int)) (by rw [hhl];rfl) rfl);have hLN:LookIn C m (d + 1) (zQ (p1,p2) (vn:Int)) S:=zA HNR true;have hLF:LookIn C m (d + 1) (zQ (p1,p2) (-(vn:Int))) (z8 C m (zQ (p1,p2) (vn:Int)) (d + 1) S).1:=zA HFA true false;clear HBA HNR HFA hhl;go_wp2_with fail;refine (zCH p1 p2 (vn:Int) _ hp.1 hp.2 (by omega) (by omega)).mono ?_;rintro e u3 ⟨rfl,b3⟩;replace hM:=hM.trans (SMoved.of_below b3);replace hS:=hS.later b3;replace lb:=zB hS.fb;replace hpa:=zH b3 hpa;clear cpa0 cpa1;obtain ⟨cpa0,cpa1⟩:=zJ hpa;replace lpa:=zB hpa;replace hva:=zH b3 hva;clear cva0 cva1;obtain ⟨cva0,cva1⟩:=zJ hva;replace lva:=zB hva;replace hrs:=zH b3 hrs;clear crs0 crs1;obtain ⟨crs0,crs1⟩:=zJ hrs;replace lrs:=zB hrs;have hw9:(zQ (p1,p2) (vn:Int)).1 < 512∧(zQ (p1,p2) (vn:Int)).2 < 512:=zAZ (p1,p2) (vn:Int) hp.1 hp.2;generalize zQ (p1,p2) (vn:Int)=nr at *;obtain ⟨n1,n2⟩:=nr;dsimp only at hw9 ⊢;go_wp2_with fail;have nnr:Far b V u3.heap.size:=hS.fresh (Nat.le_refl _);generalize hw0:u3.alloc (.cells #[.int .i64 (n1:Int),.int .i64 (n2:Int)] 74)=u4;have b4:Below u3.heap.size u3 u4:=(by rw [← hw0];exact (Below.refl _ _).alloc (Nat.le_refl _) _);have hnr:u4.heap[u3.heap.size]?=some (.cells #[.int .i64 (n1:Int),.int .i64 (n2:Int)] 74 (0,0)):=(by rw [← hw0];exact heap_alloc_new _ _);clear hw0;replace hM:=hM.trans (SMoved.of_below b4);replace hS:=hS.later b4;replace lb:=zB hS.fb;replace hpa:=zH b4 hpa;clear cpa0 cpa1;obtain ⟨cpa0,cpa1⟩:=zJ hpa;replace lpa:=zB hpa;replace hva:=zH b4 hva;clear cva0 cva1;obtain ⟨cva0,cva1⟩:=zJ hva;replace lva:=zB hva;replace hrs:=zH b4 hrs;clear crs0 crs1;obtain ⟨crs0,crs1⟩:=zJ hrs;replace lrs:=zB hrs;obtain ⟨cnr0,cnr1⟩:=zJ hnr;have lnr:=zB hnr;have hlo:=hLN.out hC;have hkk:=hLN.lk hC;refine (hLk.next b C S V (n1,n2) d _ hC hLN hS).mono ?_;rintro e u5 ⟨rfl,V2,hS2,hM2⟩;replace hpa:=hM2.blk hpa npa;replace npa:=hM2.far lpa npa;replace hva:=hM2.blk hva nva;replace nva:=hM2.far lva nva;replace hrs:=hM2.blk hrs nrs;replace nrs:=hM2.far lrs nrs;replace hnr:=hM2.blk hnr nnr;replace nnr:=hM2.far lnr nnr;replace hM:=hM.trans hM2;replace hS:=hS2;clear hM2;replace lb:=zB hS.fb;clear cpa0 cpa1;obtain ⟨cpa0,cpa1⟩:=zJ hpa;replace lpa:=zB hpa;clear cva0 cva1;obtain ⟨cva0,cva1⟩:=zJ hva;replace lva:=zB hva;clear crs0 crs1;obtain ⟨crs0,crs1⟩:=zJ hrs;replace lrs:=zB hrs;clear cnr0 cnr1;obtain ⟨cnr0,cnr1⟩:=zJ hnr;replace lnr:=zB hnr;clear hLN;generalize z8 C m (n1,n2) (d + 1) S=R at *;obtain ⟨S2,f1,f2⟩:=R;dsimp only at hS hlo hkk hLF HB2 ⊢;have hB2:=hlo.bd hC;go_wp2_with fail;have nfi:Far b V2 u5.heap.size:=hS.fresh (Nat.le_refl _);generalize hw0:u5.alloc (.cells #[.int .i64 (f1:Int),.int .i64 (f2:Int)] 129)=u6;have b6:Below u5.heap.size u5 u6:=(by rw [← hw0];exact (Below.refl _ _).alloc (Nat.le_refl _) _);have hfi:u6.heap[u5.heap.size]?=some (.cells #[.int .i64 (f1:Int),.int .i64 (f2:Int)] 129 (0,0)):=(by rw [← hw0];exact heap_alloc_new _ _);clear hw0;replace hM:=hM.trans (SMoved.of_below b6);replace hS:=hS.later b6;replace lb:=zB hS.fb;replace hpa:=zH b6 hpa;clear cpa0 cpa1;obtain ⟨cpa0,cpa1⟩:=zJ hpa;replace lpa:=zB hpa;replace hva:=zH b6 hva;clear cva0 cva1;obtain ⟨cva0,cva1⟩:=zJ hva;replace lva:=zB hva;replace hrs:=zH b6 hrs;clear crs0 crs1;obtain ⟨crs0,crs1⟩:=zJ hrs;replace lrs:=zB hrs;replace hnr:=zH b6 hnr;clear cnr0 cnr1;obtain ⟨cnr0,cnr1⟩:=zJ hnr;replace lnr:=zB hnr;obtain ⟨cfi0,cfi1⟩:=zJ hfi;have lfi:=zB hfi;refine (zGa b C S2 V2 (f1,f2) vn _ hS hB2).mono ?_;rintro e u7 ⟨rfl,b7⟩;replace hM:=hM.trans (SMoved.of_below b7);replace hS:=hS.later b7;replace lb:=zB hS.fb;replace hpa:=zH b7 hpa;clear cpa0 cpa1;obtain ⟨cpa0,cpa1⟩:=zJ hpa;replace lpa:=zB hpa;replace hva:=zH b7 hva;clear cva0 cva1;obtain ⟨cva0,cva1⟩:=zJ hva;replace lva:=zB hva;replace hrs:=zH b7 hrs;clear crs0 crs1;obtain ⟨crs0,crs1⟩:=zJ hrs;replace lrs:=zB hrs;replace hnr:=zH b7 hnr;clear cnr0 cnr1;obtain ⟨cnr0,cnr1⟩:=zJ hnr;replace lnr:=zB hnr;replace hfi:=zH b7 hfi;clear cfi0 cfi1;obtain ⟨cfi0,cfi1⟩:=zJ hfi;replace lfi:=zB hfi
  cases hh1:zs (S2.lits (f1,f2)) vn with
  | false=>
   have HX:Hid (zBl C (m + 1) (p1,p2) d (v1,v2) S=(S2,(f1,f2))):=zF (by rw [zA HB2,hh1];rfl);clear hh1;have z0:=zD hrs 0;have z1:=zD hrs 1;have hR:=zI (zI hrs 0 (.int .i64 (f1:Int))) 1 (.int .i64 (f2:Int));have j0:=zC hR 0;have j1:=zC hR 1;go_wp2_with fail;refine bodyPost_ret (v:=zAv (f1,f2)) (by simp [results,Tryz.results92,go_sem,j0,j1]) rfl ⟨by rw [zA HX],?_⟩;rw [zA HX];exact ⟨_,(hS.set nrs 0 _).set nrs 1 _,(hM.set (k:=w.heap.size + 2) (by omega) 0 _).set (k:=w.heap.size + 2) (by omega) 1 _⟩
  | true=>
   have hki:=hkk.kind hh1;have HB3:=zF ((zA HB2).trans (if_pos hh1));clear hh1 HB2 hkk;go_wp2_with fail;refine (zCH p1 p2 (-(vn:Int)) _ hp.1 hp.2 (by omega) (by omega)).mono ?_;rintro e u8 ⟨rfl,b8⟩;replace hM:=hM.trans (SMoved.of_below b8);replace hS:=hS.later b8;replace lb:=zB hS.fb;replace hpa:=zH b8 hpa;clear cpa0 cpa1;obtain ⟨cpa0,cpa1⟩:=zJ hpa;replace lpa:=zB hpa;replace hva:=zH b8 hva;clear cva0 cva1;obtain ⟨cva0,cva1⟩:=zJ hva;replace lva:=zB hva;replace hrs:=zH b8 hrs;clear crs0 crs1;obtain ⟨crs0,crs1⟩:=zJ hrs;replace lrs:=zB hrs;replace hnr:=zH b8 hnr;clear cnr0 cnr1;obtain ⟨cnr0,cnr1⟩:=zJ hnr;replace lnr:=zB hnr;replace hfi:=zH b8 hfi;clear cfi0 cfi1;obtain ⟨cfi0,cfi1⟩:=zJ hfi;replace lfi:=zB hfi;have hw9b:(zQ (p1,p2) (-(vn:Int))).1 < 512∧(zQ (p1,p2) (-(vn:Int))).2 < 512:=zAZ (p1,p2) (-(vn:Int)) hp.1 hp.2;generalize zQ (p1,p2) (-(vn:Int))=fr at *;obtain ⟨r1,r2⟩:=fr;dsimp only at hw9b ⊢;go_wp2_with fail;have nfr:Far b V2 u8.heap.size:=hS.fresh (Nat.le_refl _);generalize hw0:u8.alloc (.cells #[.int .i64 (r1:Int),.int .i64 (r2:Int)] 74)=u9;have b9:Below u8.heap.size u8 u9:=(by rw [← hw0];exact (Below.refl _ _).alloc (Nat.le_refl _) _);have hfr:u9.heap[u8.heap.size]?=some (.cells #[.int .i64 (r1:Int),.int .i64 (r2:Int)] 74 (0,0)):=(by rw [← hw0];exact heap_alloc_new _ _);clear hw0;replace hM:=hM.trans (SMoved.of_below b9);replace hS:=hS.later b9;replace lb:=zB hS.fb;replace hpa:=zH b9 hpa;clear cpa0 cpa1;obtain ⟨cpa0,cpa1⟩:=zJ hpa;replace lpa:=zB hpa;replace hva:=zH b9 hva;clear cva0 cva1;obtain ⟨cva0,cva1⟩:=zJ hva;replace lva:=zB hva;replace hrs:=zH b9 hrs;clear crs0 crs1;obtain ⟨crs0,crs1⟩:=zJ hrs;replace lrs:=zB hrs;replace hnr:=zH b9 hnr;clear cnr0 cnr1;obtain ⟨cnr0,cnr1⟩:=zJ hnr;replace lnr:=zB hnr;replace hfi:=zH b9 hfi;clear cfi0 cfi1;obtain ⟨cfi0,cfi1⟩:=zJ hfi;replace lfi:=zB hfi;obtain ⟨cfr0,cfr1⟩:=zJ hfr;have lfr:=zB hfr;have hlo2:=hLF.out hC;refine (hLk.next b C S2 V2 (r1,r2) d _ hC hLF hS).mono ?_;rintro e u10 ⟨rfl,V3,hS2,hM2⟩;replace hpa:=hM2.blk hpa npa;replace npa:=hM2.far lpa npa;replace hva:=hM2.blk hva nva;replace nva:=hM2.far lva nva;replace hrs:=hM2.blk hrs nrs;replace nrs:=hM2.far lrs nrs;replace hnr:=hM2.blk hnr nnr;replace nnr:=hM2.far lnr nnr;replace hfi:=hM2.blk hfi nfi;replace nfi:=hM2.far lfi nfi;replace hfr:=hM2.blk hfr nfr;replace nfr:=hM2.far lfr nfr;replace hM:=hM.trans hM2;replace hS:=hS2;clear hM2;replace lb:=zB hS.fb;clear cpa0 cpa1;obtain ⟨cpa0,cpa1⟩:=zJ hpa;replace lpa:=zB hpa;clear cva0 cva1;obtain ⟨cva0,cva1⟩:=zJ hva;replace lva:=zB hva;clear crs0 crs1;obtain ⟨crs0,crs1⟩:=zJ hrs;replace lrs:=zB hrs;clear cnr0 cnr1;obtain ⟨cnr0,cnr1⟩:=zJ hnr;replace lnr:=zB hnr;clear cfi0 cfi1;obtain ⟨cfi0,cfi1⟩:=zJ hfi;replace lfi:=zB hfi;clear cfr0 cfr1;obtain ⟨cfr0,cfr1⟩:=zJ hfr;replace lfr:=zB hfr;clear hLF;generalize z8 C m (r1,r2) (d + 1) S2=R at *;obtain ⟨S3,g1,g2⟩:=R;dsimp only at hS hlo2 HB3 ⊢;have hB3:=hlo2.bd hC;go_wp2_with fail;have nse:Far b V3 u10.heap.size:=hS.fresh (Nat.le_refl _);generalize hw0:u10.alloc (.cells #[.int .i64 (g1:Int),.int .i64 (g2:Int)] 129)=u11;have b11:Below u10.heap.size u10 u11:=(by rw [← hw0];exact (Below.refl _ _).alloc (Nat.le_refl _) _);have hse:u11.heap[u10.heap.size]?=some (.cells #[.int .i64 (g1:Int),.int .i64 (g2:Int)] 129 (0,0)):=(by rw [← hw0];exact heap_alloc_new _ _);clear hw0;replace hM:=hM.trans (SMoved.of_below b11);replace hS:=hS.later b11;replace lb:=zB hS.fb;replace hpa:=zH b11 hpa;clear cpa0 cpa1;obtain ⟨cpa0,cpa1⟩:=zJ hpa;replace lpa:=zB hpa;replace hva:=zH b11 hva;clear cva0 cva1;obtain ⟨cva0,cva1⟩:=zJ hva;replace lva:=zB hva;replace hrs:=zH b11 hrs;clear crs0 crs1;obtain ⟨crs0,crs1⟩:=zJ hrs;replace lrs:=zB hrs;replace hnr:=zH b11 hnr;clear cnr0 cnr1;obtain ⟨cnr0,cnr1⟩:=zJ hnr;replace lnr:=zB hnr;replace hfi:=zH b11 hfi;clear cfi0 cfi1;obtain ⟨cfi0,cfi1⟩:=zJ hfi;replace lfi:=zB hfi;replace hfr:=zH b11 hfr;clear cfr0 cfr1;obtain ⟨cfr0,cfr1⟩:=zJ hfr;replace lfr:=zB hfr;obtain ⟨cse0,cse1⟩:=zJ hse;have lse:=zB hse;refine (zGa b C S3 V3 (g1,g2) vn _ hS hB3).mono ?_;rintro e u12 ⟨rfl,b12⟩;replace hM:=hM.trans (SMoved.of_below b12);replace hS:=hS.later b12;replace lb:=zB hS.fb;replace hpa:=zH b12 hpa;clear cpa0 cpa1;obtain ⟨cpa0,cpa1⟩:=zJ hpa;replace lpa:=zB hpa;replace hva:=zH b12 hva;clear cva0 cva1;obtain ⟨cva0,cva1⟩:=zJ hva;replace lva:=zB hva;replace hrs:=zH b12 hrs;clear crs0 crs1;obtain ⟨crs0,crs1⟩:=zJ hrs;replace lrs:=zB hrs;replace hnr:=zH b12 hnr;clear cnr0 cnr1;obtain ⟨cnr0,cnr1⟩:=zJ hnr;replace lnr:=zB hnr;replace hfi:=zH b12 hfi;clear cfi0 cfi1;obtain ⟨cfi0,cfi1⟩:=zJ hfi;replace lfi:=zB hfi;replace hfr:=zH b12 hfr;clear cfr0 cfr1;obtain ⟨cfr0,cfr1⟩:=zJ hfr;replace lfr:=zB hfr;replace hse:=zH b12 hse;clear cse0 cse1;obtain ⟨cse0,cse1⟩:=zJ hse;replace lse:=zB hse
   cases hh2:zs (S3.lits (g1,g2)) vn with
   | false=>
    have HX:Hid (zBl C (m + 1) (p1,p2) d (v1,v2) S=(S3,(g1,g2))):=zF (by rw [zA HB3,hh2];rfl);clear hh2;have z0:=zD hrs 0;have z1:=zD hrs 1;have hR:=zI (zI hrs 0 (.int .i64 (g1:Int))) 1 (.int .i64 (g2:Int));have j0:=zC hR 0;have j1:=zC hR 1;go_wp2_with fail;refine bodyPost_ret (v:=zAv (g1,g2)) (by simp [results,Tryz.results92,go_sem,j0,j1]) rfl ⟨by rw [zA HX],?_⟩;rw [zA HX];exact ⟨_,(hS.set nrs 0 _).set nrs 1 _,(hM.set (k:=w.heap.size + 2) (by omega) 0 _).set (k:=w.heap.size + 2) (by omega) 1 _⟩
   | true=>
    have HX:Hid (zBl C (m + 1) (p1,p2) d (v1,v2) S=zCP C S3 (f1,f2) (g1,g2) vn):=zF (by rw [zA HB3,hh2];rfl);clear hh2;have hpl:=hlo2.plen f1;go_wp2_with fail;refine (zKt b C S3 V3 (f1,f2) (g1,g2) vn _ hS hB3 hki hpl (by omega)).mono ?_;rintro e u13 ⟨rfl,V4,hS2,hM2⟩;replace hpa:=hM2.blk hpa npa;replace npa:=hM2.far lpa npa;replace hva:=hM2.blk hva nva;replace nva:=hM2.far lva nva;replace hrs:=hM2.blk hrs nrs;replace nrs:=hM2.far lrs nrs;replace hnr:=hM2.blk hnr nnr;replace nnr:=hM2.far lnr nnr;replace hfi:=hM2.blk hfi nfi;replace nfi:=hM2.far lfi nfi;replace hfr:=hM2.blk hfr nfr;replace nfr:=hM2.far lfr nfr;replace hse:=hM2.blk hse nse;replace nse:=hM2.far lse nse;replace hM:=hM.trans hM2;replace hS:=hS2;clear hM2;replace lb:=zB hS.fb;clear cpa0 cpa1;obtain ⟨cpa0,cpa1⟩:=zJ hpa;replace lpa:=zB hpa;clear cva0 cva1;obtain ⟨cva0,cva1⟩:=zJ hva;replace lva:=zB hva;clear crs0 crs1;obtain ⟨crs0,crs1⟩:=zJ hrs;replace lrs:=zB hrs;clear cnr0 cnr1;obtain ⟨cnr0,cnr1⟩:=zJ hnr;replace lnr:=zB hnr;clear cfi0 cfi1;obtain ⟨cfi0,cfi1⟩:=zJ hfi;replace lfi:=zB hfi;clear cfr0 cfr1;obtain ⟨cfr0,cfr1⟩:=zJ hfr;replace lfr:=zB hfr;clear cse0 cse1;obtain ⟨cse0,cse1⟩:=zJ hse;replace lse:=zB hse;generalize zCP C S3 (f1,f2) (g1,g2) vn=R at *;obtain ⟨S4,j1',j2'⟩:=R;dsimp only at hS HX ⊢;have z0:=zD hrs 0;have z1:=zD hrs 1;have hR:=zI (zI hrs 0 (.int .i64 (j1':Int))) 1 (.int .i64 (j2':Int));have j0:=zC hR 0;have j1:=zC hR 1;go_wp2_with fail;refine bodyPost_ret (v:=zAv (j1',j2')) (by simp [results,Tryz.results92,go_sem,j0,j1]) rfl ⟨by rw [zA HX],?_⟩;rw [zA HX];exact ⟨_,(hS.set nrs 0 _).set nrs 1 _,(hM.set (k:=w.heap.size + 2) (by omega) 0 _).set (k:=w.heap.size + 2) (by omega) 1 _⟩
abbrev P0:Stp:=⟨0,0,0,0,(0,0)⟩
theorem zMI (m:List Bool) (i j:Nat):(m.set i true).getD j false=(decide (i=j∧i < m.length) || m.getD j false):=by
 rw [List.getD,List.getD,List.getElem?_set]
 by_cases e:i=j
 ·subst e
  by_cases h:i < m.length
  ·simp [h]
  ·simp [h]
 ·simp [e]
structure zFC (q:QS) (k:Nat) (p:List Stp) (last i:Nat) (m:List Bool):Prop where
 len:m.length=p.length + 1
 at_:∀ j,m.getD j false=true→j≤last∧1≤j∧Free (zM p j)
 closed:∀ j (h:j < p.length),i≤j→m.getD (j + 1) false=true→p[j].rule≠1→(0 < p[j].first∧p[j].first < j + 1→m.getD p[j].first false=true)∧(0 < p[j].second∧p[j].second < j + 1→m.getD p[j].second false=true)
 last:i < last→m.getD last false=true
theorem zFU (b:Bool) (i n:Nat) (m:List Bool):(zy b i n m).length=m.length:=by
 unfold zy;split<;>simp
theorem zHh (b:Bool) (i n:Nat) (m:List Bool) (j:Nat):(zy b i n m).getD j false=(decide (b=true∧0 < n∧n < i∧n=j∧n < m.length) || m.getD j false):=by
 unfold zy
 split
 ·next h=>
  rw [zMI];simp only [h.1,h.2.1,h.2.2,true_and]
 ·next h=>
  have:¬ (b=true∧0 < n∧n < i∧n=j∧n < m.length):=fun hh=>h ⟨hh.1,hh.2.1,hh.2.2.1⟩
  simp [this]
theorem zNG {q:QS} {k:Nat} {p:List Stp} (hp:POk q k p) (j:Nat) (h:j < p.length) (hr:p[j].rule≠1):(0 < p[j].first→p[j].first≤j∧Free (zM p p[j].first))∧(0 < p[j].second→p[j].second≤j∧Free (zM p p[j].second)):=by
 have hlen:(p.take j).length=j:=(by simp;omega);have hla:∀ n,n≤j→zM (p.take j) n=zM p n:=fun n hn=>by
  conv=>rhs;rw [← List.take_append_drop j p]
  rw [zB9 _ _ _ (by omega)]
 rcases (hp j h).2 with ⟨h1,_⟩ | ⟨_,_,h1,h2,_⟩ | ⟨_,h1,h2,_,_,_,h3,h4,_⟩ | ⟨_,h1,h2,h3,_⟩
 ·exact absurd h1 hr
 ·exact ⟨fun h=>by omega,fun h=>by omega⟩
 ·rw [hlen] at h1 h2;exact ⟨fun _=>⟨h1.2,by rw [← hla _ h1.2];exact h3⟩,fun _=>⟨h2.2,by rw [← hla _ h2.2];exact h4⟩⟩
 ·rw [hlen] at h1;exact ⟨fun _=>⟨h1.2,by rw [← hla _ h1.2];exact h3⟩,fun h=>by omega⟩
theorem zL6 {q:QS} {k:Nat} {p:List Stp} (hp:POk q k p) {last i:Nat} (hi:i < p.length) (h1:1≤last) (hl:last≤p.length) (hf:Free (zM p last)) {m:List Bool} (h:zFC q k p last (i + 1) m):zFC q k p last i (zC8 p last (i + 1) m):=by
 have hg:p.getD (i + 1 - 1) P0=p[i]:=(by rw [Nat.add_sub_cancel,List.getD,List.getElem?_eq_getElem hi];rfl);unfold zC8;rw [show (⟨0,0,0,0,(0,0)⟩:Stp)=P0 from rfl,hg];dsimp only;have hm1:∀ j,(if i + 1=last then m.set (i + 1) true else m).getD j false=(decide (i + 1=last∧i + 1=j) || m.getD j false):=by
  intro j
  split
  ·next e=>rw [zMI];simp only [e,true_and];rw [h.len];simp only [show last < p.length + 1 from by omega,and_true]
  ·next e=>simp [e]
 have hm1l:(if i + 1=last then m.set (i + 1) true else m).length=p.length + 1:=by
  split
  ·rw [List.length_set];exact h.len
  ·exact h.len
 generalize (if i + 1=last then m.set (i + 1) true else m)=m1 at *;have hat1:∀ j,m1.getD j false=true→j≤last∧1≤j∧Free (zM p j):=by
  intro j hj;rw [hm1,Bool.or_eq_true] at hj
  rcases hj with hj | hj
  ·have:=of_decide_eq_true hj
   rw [← this.2,this.1];exact ⟨Nat.le_refl _,h1,hf⟩
  ·exact h.at_ j hj
 have hah:=zNG hp i hi;generalize hb:(m1.getD (i + 1) false && decide (p[i].rule≠1))=b at *;have hget:∀ j,(zy b (i + 1) p[i].second (zy b (i + 1) p[i].first m1)).getD j false=true↔((b=true∧0 < p[i].second∧p[i].second < i + 1∧p[i].second=j)∨(b=true∧0 < p[i].first∧p[i].first < i + 1∧p[i].first=j)∨m1.getD j false=true):=by
  intro j;rw [zHh,zHh,zFU,Bool.or_eq_true,Bool.or_eq_true,decide_eq_true_eq,decide_eq_true_eq,hm1l]
  constructor
  ·rintro (⟨a,b,c,d,_⟩ | ⟨a,b,c,d,_⟩ | a)
   ·exact Or.inl ⟨a,b,c,d⟩
   ·exact Or.inr (Or.inl ⟨a,b,c,d⟩)
   ·exact Or.inr (Or.inr a)
  ·rintro (⟨a,b,c,d⟩ | ⟨a,b,c,d⟩ | a)
   ·exact Or.inl ⟨a,b,c,d,by omega⟩
   ·exact Or.inr (Or.inl ⟨a,b,c,d,by omega⟩)
   ·exact Or.inr (Or.inr a)
 have hbt:b=true→m1.getD (i + 1) false=true∧p[i].rule≠1:=by
  intro e;rw [← hb,Bool.and_eq_true,decide_eq_true_eq] at e;exact e
 refine ⟨by rw [zFU,zFU];exact hm1l,fun j hj=>?_,fun j hj hij hm hr=>?_,fun hil=>?_⟩
 ·rw [hget] at hj
  rcases hj with ⟨e,h2,h3,rfl⟩ | ⟨e,h2,h3,rfl⟩ | hj
  ·obtain ⟨e1,e2⟩:=hbt e
   have:=(hat1 _ e1).1
   exact ⟨by omega,h2,((hah e2).2 h2).2⟩
  ·obtain ⟨e1,e2⟩:=hbt e
   have:=(hat1 _ e1).1
   exact ⟨by omega,h2,((hah e2).1 h2).2⟩
  ·exact hat1 j hj
 ·by_cases e:j=i
  ·subst e;have hm2:m1.getD (j + 1) false=true:=by
    rw [hget] at hm
    rcases hm with ⟨_,_,h3,h4⟩ | ⟨_,_,h3,h4⟩ | hm
    ·omega
    ·omega
    ·exact hm
   have hbb:b=true:=(by rw [← hb,hm2];simpa using hr);exact ⟨fun hh=>(hget _).2 (Or.inr (Or.inl ⟨hbb,hh.1,hh.2,rfl⟩)),fun hh=>(hget _).2 (Or.inl ⟨hbb,hh.1,hh.2,rfl⟩)⟩
  ·have hm2:m.getD (j + 1) false=true:=by
    rw [hget] at hm
    rcases hm with ⟨_,_,h3,h4⟩ | ⟨_,_,h3,h4⟩ | hm
    ·omega
    ·omega
    ·rw [hm1,Bool.or_eq_true] at hm
     rcases hm with hm | hm
     ·have:=of_decide_eq_true hm;omega
     ·exact hm
   have up:∀ n,m.getD n false=true→(zy b (i + 1) p[i].second (zy b (i + 1) p[i].first m1)).getD n false=true:=fun n hn=>(hget n).2 (Or.inr (Or.inr (by rw [hm1,hn];simp)))
   have:=h.closed j hj (by omega) hm2 hr
   exact ⟨fun hh=>up _ (this.1 hh),fun hh=>up _ (this.2 hh)⟩
 ·rw [hget]
  right;right
  rw [hm1]
  by_cases e:i + 1=last
  ·simp [e]
  ·rw [h.last (by omega)];simp
theorem zP0 {q:QS} {k:Nat} {p:List Stp} (hp:POk q k p) {last:Nat} (h1:1≤last) (hl:last≤p.length) (hf:Free (zM p last)):∀ (i:Nat) (m:List Bool),i≤p.length→zFC q k p last i m→zFC q k p last 0 (zBg p last i m):=by
 intro i
 induction i with
 | zero=>intro m _ h;exact h
 | succ i ih=>intro m hi h;exact ih _ (by omega) (zL6 hp (by omega) h1 hl hf h)
theorem zQb {q:QS} {k:Nat} {p:List Stp} (hp:POk q k p) {last:Nat} (h1:1≤last) (hl:last≤p.length) (hf:Free (zM p last)):zFC q k p last 0 (zBP p last):=by
 have hno:∀ j,(List.replicate (p.length + 1) false).getD j false=false:=fun j=>by
  rw [List.getD,List.getElem?_replicate];split<;>rfl
 refine zP0 hp h1 hl hf _ _ (Nat.le_refl _) ⟨by simp,fun j hj=>?_,fun j hj hij=>by omega,fun h=>by omega⟩;rw [hno] at hj;cases hj
structure zFZ (q:QS) (k:Nat) (p:List Stp) (mk:List Bool) (last i:Nat) (sh:List Stp) (nums:List Nat):Prop where
 ok:POk q k sh
 free:∀ s∈sh,Free s.lits
 nlen:nums.length=p.length + 1
 zero:nums.getD 0 0=0
 nums:∀ j,1≤j→j≤i→mk.getD j false=true→1≤nums.getD j 0∧nums.getD j 0≤sh.length∧zM sh (nums.getD j 0)=zM p j
 len:sh.length≤i
 twos:twos sh≤twos (p.take i)
 last:last≤i→∃ s,sh.getLast?=some s∧s.lits=zM p last
theorem zGz (p:List Stp) (s:Stp):twos (p ++ [s])=twos p + (if s.rule=3 then 1 else 0):=by
 unfold twos;rw [List.filter_append,List.length_append]
 by_cases h:s.rule=3
 ·simp [h]
 ·simp [h]
theorem zJu (m:List Nat) (i j x:Nat) (h:i < m.length):(m.set i x).getD j 0=if i=j then x else m.getD j 0:=by
 rw [List.getD,List.getD,List.getElem?_set]
 by_cases e:i=j
 ·subst e;simp [h]
 ·simp [e]
theorem zKf {q:QS} {k:Nat} {p:List Stp} (hp:POk q k p) {mk:List Bool} {last i:Nat} (hi:i < p.length) (_h1:1≤last) (hM:zFC q k p last 0 mk) {sh:List Stp} {nums:List Nat} (h:zFZ q k p mk last i sh nums) (hm:mk.getD (i + 1) false=true) :
  zFZ q k p mk last (i + 1) (sh ++ [zBZ nums i (p.getD i P0)]) (nums.set (i + 1) (sh.length + 1)):=by
 have hg:p.getD i P0=p[i]:=(by rw [List.getD,List.getElem?_eq_getElem hi];rfl);rw [hg];have htl:(p.take i).length=i:=(by simp;omega);have hla:∀ n,n≤i→zM (p.take i) n=zM p n:=fun n hn=>by
  conv=>rhs;rw [← List.take_append_drop i p]
  rw [zB9 _ _ _ (by omega)]
 have hlits:(zBZ nums i p[i]).lits=p[i].lits:=rfl;have hrule:(zBZ nums i p[i]).rule=p[i].rule:=rfl;have hvar:(zBZ nums i p[i]).var=p[i].var:=rfl;have hself:zM p (i + 1)=p[i].lits:=zBU p i hi;have hcl:=hM.closed i hi (by omega) hm;have hnew:zRV q k sh (zBZ nums i p[i]):=by
  obtain ⟨hlok,hst⟩:=hp i hi;refine ⟨hlok,?_⟩;rw [hrule,hlits,hvar]
  rcases hst with ⟨r1,r2,r3,r4,r5,r6⟩ | ⟨r1,r2,r3,r4,r5⟩ | ⟨r1,r2,r3,r4,r5,r6,r7,r8,r9,r10⟩ | ⟨r1,r2,r3,r4,r5⟩
  ·left
   have e1:(zBZ nums i p[i]).first=p[i].first:=by show (if p[i].rule≠1∧_ then _ else _)=_;rw [if_neg (by simp [r1])]
   have e2:(zBZ nums i p[i]).second=0:=by show (if p[i].second≤i then _ else _)=_;rw [if_pos (by omega),r5];exact h.zero
   rw [e1,e2];exact ⟨r1,r2,r3,r4,rfl,r6⟩
  ·right;left
   have e1:(zBZ nums i p[i]).first=0:=by show (if p[i].rule≠1∧p[i].first≤i then _ else _)=_;rw [if_pos ⟨by omega,by omega⟩,r3];exact h.zero
   have e2:(zBZ nums i p[i]).second=0:=by show (if p[i].second≤i then _ else _)=_;rw [if_pos (by omega),r4];exact h.zero
   rw [e1,e2];exact ⟨r1,r2,rfl,rfl,r5⟩
  ·right;right;left
   rw [htl] at r2 r3;have hr:p[i].rule≠1:=(by omega);have n1:=h.nums p[i].first r2.1 r2.2 ((hcl hr).1 ⟨by omega,by omega⟩);have n2:=h.nums p[i].second r3.1 r3.2 ((hcl hr).2 ⟨by omega,by omega⟩);have e1:(zBZ nums i p[i]).first=nums.getD p[i].first 0:=by show (if p[i].rule≠1∧p[i].first≤i then _ else _)=_;rw [if_pos ⟨hr,r2.2⟩]
   have e2:(zBZ nums i p[i]).second=nums.getD p[i].second 0:=by show (if p[i].second≤i then _ else _)=_;rw [if_pos r3.2]
   rw [hla _ r2.2] at r5 r7 r10;rw [hla _ r3.2] at r6 r8 r10;rw [e1,e2,n1.2.2,n2.2.2];exact ⟨r1,⟨n1.1,n1.2.1⟩,⟨n2.1,n2.2.1⟩,r4,r5,r6,r7,r8,r9,r10⟩
  ·right;right;right
   rw [htl] at r2;have hr:p[i].rule≠1:=(by omega);have n1:=h.nums p[i].first r2.1 r2.2 ((hcl hr).1 ⟨by omega,by omega⟩);have e1:(zBZ nums i p[i]).first=nums.getD p[i].first 0:=by show (if p[i].rule≠1∧p[i].first≤i then _ else _)=_;rw [if_pos ⟨hr,r2.2⟩]
   have e2:(zBZ nums i p[i]).second=0:=by show (if p[i].second≤i then _ else _)=_;rw [if_pos (by omega),r3];exact h.zero
   rw [hla _ r2.2] at r4 r5;rw [e1,e2,n1.2.2];exact ⟨r1,⟨n1.1,n1.2.1⟩,rfl,r4,r5⟩
 have hsl:=h.len;refine ⟨h.ok.snoc hnew,fun s hs=>?_,by rw [List.length_set];exact h.nlen,?_,fun j hj1 hji hmj=>?_,by simp;omega,?_,fun hli=>?_⟩
 ·rcases List.mem_append.1 hs with hs | hs
  ·exact h.free s hs
  ·simp at hs;subst hs;rw [hlits,← hself];exact (hM.at_ _ hm).2.2
 ·rw [zJu _ _ _ _ (by rw [h.nlen];omega),if_neg (by omega)];exact h.zero
 ·rw [zJu _ _ _ _ (by rw [h.nlen];omega)]
  by_cases e:i + 1=j
  ·subst e;rw [if_pos rfl];exact ⟨by omega,by simp,by rw [zD4,hlits,hself]⟩
  ·rw [if_neg e]
   have:=h.nums j hj1 (by omega) hmj
   exact ⟨this.1,by rw [List.length_append];omega,by rw [zB9 _ _ _ this.2.1];exact this.2.2⟩
 ·rw [zGz,hrule,List.take_succ_eq_append_getElem hi,zGz]
  have:=h.twos
  omega
 ·by_cases e:last=i + 1
  ·exact ⟨zBZ nums i p[i],by simp,by rw [hlits,e,hself]⟩
  ·have:=(hM.at_ _ hm).1
   omega
theorem zKU {q:QS} {k:Nat} {p:List Stp} {mk:List Bool} {last i:Nat} (hi:i < p.length) (hM:zFC q k p last 0 mk) (h1:1≤last) {sh:List Stp} {nums:List Nat} (h:zFZ q k p mk last i sh nums) (hm:mk.getD (i + 1) false=false):zFZ q k p mk last (i + 1) sh nums:=by
 refine ⟨h.ok,h.free,h.nlen,h.zero,fun j hj1 hji hmj=>?_,by have:=h.len;omega,?_,fun hli=>?_⟩
 ·by_cases e:j=i + 1
  ·subst e;rw [hm] at hmj;cases hmj
  ·exact h.nums j hj1 (by omega) hmj
 ·rw [List.take_succ_eq_append_getElem hi,zGz]
  have:=h.twos
  omega
 ·by_cases e:last=i + 1
  ·have:=hM.last (by omega)
   rw [e,hm] at this;cases this
  ·exact h.last (by omega)
theorem zMd {q:QS} {k:Nat} {p:List Stp} (hp:POk q k p) {mk:List Bool} {last:Nat} (h1:1≤last) (hM:zFC q k p last 0 mk):∀ (m:Nat) (sh:List Stp) (nums:List Nat),m≤p.length→zFZ q k p mk last (p.length - m) sh nums→zFZ q k p mk last p.length (zBk p mk m sh nums).1 (zBk p mk m sh nums).2:=by
 intro m
 induction m with
 | zero=>intro sh nums _ h;simpa [zBk] using h
 | succ m ih=>
  intro sh nums hm h;rw [zBk];have hi:p.length - (m + 1) < p.length:=(by omega);have hn:p.length - m=p.length - (m + 1) + 1:=by omega
  cases hmk:mk.getD (p.length - (m + 1) + 1) false with
  | true=>
   rw [if_pos rfl];exact ih _ _ (by omega) (by rw [hn];exact zKf hp hi h1 hM h hmk)
  | false=>
   rw [if_neg (by decide)];exact ih _ _ (by omega) (by rw [hn];exact zKU hi hM h1 h hmk)
theorem zLZ {q:QS} {k:Nat} {p:List Stp} (hp:POk q k p) {last:Nat} (h1:1≤last) (hl:last≤p.length) (hf:Free (zM p last)) :
  POk q k (z6 p last)∧(∀ s∈z6 p last,Free s.lits)∧(z6 p last).length≤p.length∧twos (z6 p last)≤twos p∧∃ s,(z6 p last).getLast?=some s∧s.lits=zM p last:=by
 have hM:=zQb hp h1 hl hf;have hz:∀ j,(List.replicate (p.length + 1) 0).getD j 0=0:=fun j=>by
  rw [List.getD,List.getElem?_replicate];split<;>rfl
 have h:=zMd hp h1 hM p.length [] (List.replicate (p.length + 1) 0) (Nat.le_refl _) (by
  rw [Nat.sub_self];exact ⟨zOH q k,fun s hs=>by simp at hs,by simp,hz 0,fun j h1 h2=>by omega,by simp,by simp [twos],fun h=>by omega⟩)
 have ht:=h.twos;rw [List.take_length] at ht;exact ⟨h.ok,h.free,h.len,ht,h.last hl⟩
def zFv (m:List (List UInt8)):List UInt8:=m.flatMap (· ++ [10])
theorem zIO (c:UInt8) (r:List UInt8) (h:c∉r):∀ (st:List (List UInt8) × List UInt8),r.foldl (zt c) st=(st.1,st.2 ++ r):=by
 induction r with
 | nil=>intro st;simp
 | cons b r ih=>
  intro st;rw [List.mem_cons,not_or] at h;rw [List.foldl_cons,ih h.2];unfold zt;rw [if_neg (Ne.symm h.1)]
  simp
theorem zRY (m:List (List UInt8)) (h:∀ r∈m,(10:UInt8)∉r):∀ (st:List (List UInt8)),(zFv m).foldl (zt 10) (st,[])=(st ++ m,[]):=by
 induction m with
 | nil=>intro st;simp [zFv]
 | cons r m ih=>
  intro st;have e:zFv (r :: m)=r ++ (10 :: zFv m):=(by simp [zFv]);rw [e,List.foldl_append,zIO 10 r (h r (by simp)),List.foldl_cons];have e2:zt 10 (st,[] ++ r) 10=(st ++ [r],[]):=(by unfold zt;simp);rw [e2,ih (fun x hx=>h x (by simp [hx]))]
  simp
theorem zQO (l:List UInt8) (c:UInt8):dec (l ++ [c])=dec l * 10 + (c.toNat - 48):=by unfold dec;rw [List.foldl_append];rfl
theorem zEu (d:Nat) (h:d < 10):(UInt8.ofNat (48 + d)).toNat=48 + d:=by
 rw [UInt8.toNat_ofNat'];omega
theorem zEq (u:Nat):dec (Lib.decDigits u)=u∧(Lib.decDigits u).all zAU=true∧Lib.decDigits u≠[]∧(1≤u→(Lib.decDigits u).head?≠some 48):=by
 induction u using Nat.strongRecOn with
 | _ u ih=>
  by_cases h:u < 10
  ·rw [Lib.decDigits,dif_pos h];have hb:=zEu u h;refine ⟨by show 0 * 10 + ((UInt8.ofNat (48 + u)).toNat - 48)=u;rw [hb];omega,by simp [zAU];omega,by simp,fun h1 e=>?_⟩;have e':UInt8.ofNat (48 + u)=48:=(by injection e);have h5:=congrArg UInt8.toNat e';rw [hb] at h5;have h6:(48:UInt8).toNat=48:=rfl;omega
  ·rw [Lib.decDigits,dif_neg h];obtain ⟨i1,i2,i3,i4⟩:=ih (u / 10) (by omega);have hb:=zEu (u % 10) (by omega);refine ⟨by rw [zQO,i1,hb];omega,?_,by simp,fun _=>?_⟩
   ·rw [List.all_append,i2];simp [zAU];omega
   ·cases hd:Lib.decDigits (u / 10) with
    | nil=>exact absurd hd i3
    | cons a r=>
     have:=i4 (by omega)
     rw [hd] at this
     simpa using this
theorem zCg (u:Nat) (h:u < 1000000):(Lib.decDigits u).length≤6:=by
 obtain ⟨h1,h2,h3,h4⟩:=zEq u
 by_cases h0:u=0
 ·subst h0;rw [Lib.decDigits,dif_pos (by decide)];simp
 ·apply Classical.byContradiction
  intro hn;have h6:=zNb _ h2 h3 (h4 (by omega)) 6 (by omega);have hm:=zEd (Lib.decDigits u) (6 + 1);rw [h1] at hm
  have:(10:Nat) ^ 6=1000000:=by decide
  omega
theorem zDw (u:Nat) (h1:1≤u) (h:u≤100000):cnt (Lib.decDigits u) big=u:=by
 obtain ⟨a,b,c,d⟩:=zEq u;unfold cnt;rw [if_pos ⟨b,zCg u (by omega),d h1,by rw [a];unfold big;omega⟩,a]
theorem zJO (u:Nat) (x:UInt8) (hx:zAU x=false):x∉Lib.decDigits u:=by
 intro hm
 have:=(zEq u).2.1
 rw [List.all_eq_true] at this;rw [this x hm] at hx;cases hx
theorem zCu (v:Nat) (h:v < 10):Lib.decDigits v=[UInt8.ofNat (48 + v)]:=by rw [Lib.decDigits,dif_pos h]
theorem zGr (v:Nat):Lib.itoa (zAF v true)=Lib.decDigits v:=by
 have e0:zAF v true=(v:Int):=rfl;unfold Lib.itoa;rw [e0,if_neg (by omega)];simp
theorem zG4 (v:Nat) (h:1≤v):Lib.itoa (zAF v false)=45 :: Lib.decDigits v:=by
 have e0:zAF v false=-(v:Int):=rfl;unfold Lib.itoa;rw [e0,if_pos (by omega)];simp
theorem zPz (v:Nat) (h1:1≤v) (h8:v≤8):dig (Lib.decDigits v)=(v:Int):=by
 rw [zCu v (by omega)];have hb:=zEu v (by omega);show (if 49≤((UInt8.ofNat (48 + v)).toNat:Int)∧((UInt8.ofNat (48 + v)).toNat:Int)≤56 then ((UInt8.ofNat (48 + v)).toNat:Int) - 48 else 0)=(v:Int);rw [hb,if_pos (by omega)];omega
theorem zKL (c:Nat × Nat) (v:Nat) (s:Bool) (h1:1≤v) (h8:v≤8):zk c (Lib.itoa (zAF v s))=(zQ c (zAF v s),true)∧zAL (Lib.itoa (zAF v s))=v:=by
 have hd:=zPz v h1 h8
 cases s with
 | true=>
  rw [zGr];have hs:=zCu v (by omega);have hne:UInt8.ofNat (48 + v)≠45:=fun e=>by
   have:=congrArg UInt8.toNat e
   rw [zEu v (by omega)] at this;simp at this;omega
  constructor
  ·unfold zk
   split
   ·next r he=>rw [hs] at he;injection he with he;exact absurd he hne
   ·next he=>
    rw [hd];have e0:zAF v true=(v:Int):=rfl;unfold zQ;rw [e0,if_neg (by omega),zB8 v h1 h8]
    simp;omega
  ·unfold zAL;rw [hd,if_neg (by omega)];simp
 | false=>
  rw [zG4 v h1]
  constructor
  ·show ((c.1,c.2 ||| 2 ^ (dig (Lib.decDigits v)).toNat),decide (0 < dig (Lib.decDigits v)))=_;rw [hd];have e0:zAF v false=-(v:Int):=rfl;unfold zQ;rw [e0,if_pos (by omega),Int.neg_neg,zB8 v h1 h8]
   simp;omega
  ·have h0:dig (45 :: Lib.decDigits v)=0:=by
    rw [zCu v (by omega)];rfl
   unfold zAL;rw [if_pos h0];show (dig (Lib.decDigits v)).toNat=v;rw [hd];simp
def zCd (s:Stp):List (List UInt8):=
 if s.rule=1 then [[97],Lib.decDigits s.first]
 else if s.rule=2 then [99] :: (zAJ s.lits).map Lib.itoa
 else if s.rule=3 then [[114],Lib.decDigits s.first,Lib.decDigits s.second,Lib.decDigits s.var]
 else [[100],Lib.decDigits s.first]
def zDa:List (List UInt8)→List UInt8
 | []=>[]
 | [w]=>w
 | w :: ws=>w ++ 32 :: zDa ws
theorem zP5 (ws:List (List UInt8)) (h:∀ w∈ws,(32:UInt8)∉w):ws≠[]→∀ st,(zDa ws).foldl (zt 32) (st,[])=(st ++ ws.dropLast,ws.getLastD []):=by
 induction ws with
 | nil=>intro h;exact absurd rfl h
 | cons w ws ih=>
  intro _ st
  cases ws with
  | nil=>
   show w.foldl (zt 32) (st,[])=_;rw [zIO 32 w (h w (by simp))];simp
  | cons x ws=>
   show (w ++ 32 :: zDa (x :: ws)).foldl (zt 32) (st,[])=_;rw [List.foldl_append,zIO 32 w (h w (by simp)),List.foldl_cons]
   have:zt 32 (st,[] ++ w) 32=(st ++ [w],[]):=by simp [zt]
   rw [this,ih (fun y hy=>h y (by simp [hy])) (by simp) (st ++ [w])]
   simp
theorem zPs (ws:List (List UInt8)) (h0:ws≠[]) (h:∀ w∈ws,(32:UInt8)∉w):zZ 32 (zDa ws)=ws:=by
 unfold zZ zU;rw [zP5 ws h h0 []];simp only [List.nil_append];rw [List.getLastD_eq_getLast?,List.getLast?_eq_some_getLast h0];exact List.dropLast_concat_getLast h0
def zA2 (s:Stp):List UInt8:=zDa (zCd s)
def zGo (truth:Bool):List UInt8:=if truth then zA4 else zCS
def zDM (truth:Bool) (p:List Stp):List UInt8:=zFv (zGo truth :: p.map zA2)
theorem zMJ (truth:Bool):(truth=false∧kd truth=1)∨(truth=true∧kd truth=2):=by cases truth<;>simp [kd]
theorem zHV (p:List Stp) (n:Nat) (h1:1≤n) (hn:n≤p.length):(p.map (·.lits)).getD (n - 1) (0,0)=zM p n:=by
 obtain ⟨m,rfl⟩:∃ m,n=m + 1:=⟨n - 1,by omega⟩;rw [zBU p m (by omega),List.getD,Nat.add_sub_cancel,List.getElem?_map,List.getElem?_eq_getElem (by omega)];rfl
theorem zEb {c:Nat × Nat} (h:Free c):c.1 &&& c.2=0:=zII (fun v a b=>h v a b)
theorem zND {q:QS} (_hq:QGood q) {F:zv} (hF:FQ F q) {c:Nat × Nat} (hc:LOk q c) (hf:Free c):∀ (k v:Nat) (acc:Nat × Nat) (last:Nat),v + k=9→1≤v→last < v→(∀ s u,u < v→L acc s u=L c s u)→(∀ s u,v≤u→L acc s u=false)→zAe F.order acc last ((zAP c k v).map Lib.itoa)=some c:=by
 intro k
 induction k with
 | zero=>
  intro v acc last hv h1 _ ha hb;simp only [zAP,List.map_nil,zAe]
  congr 1
  apply zJe
  intro s u
  rcases Nat.lt_or_ge u v with h | h
  ·exact ha s u h
  ·rw [hb s u h]
   cases hh:L c s u with
   | false=>rfl
   | true=>have:=zS1 hc.bd hh;omega
 | succ k ih=>
  intro v acc last hv h1 hla ha hb;have h8:v≤8:=(by omega);have hp:zj c (v:Int)=L c true v:=zBm c v true h1 h8;have hn:zj c (-(v:Int))=L c false v:=zBm c v false h1 h8;have one:∀ s,L c s v=true→zAe F.order acc last (Lib.itoa (zAF v s) :: (zAP c k (v + 1)).map Lib.itoa)=some c:=by
   intro s hs;obtain ⟨w1,w2⟩:=zKL acc v s h1 h8;have hm:v∈F.order:=(by rw [hF.order];exact hc.vars s v hs);rw [zAe,w1,w2,if_pos ⟨rfl,hla,hm⟩];have hno:=hf.not hs;refine ih (v + 1) _ v (by omega) (by omega) (by omega) (fun t u hu=>?_) (fun t u hu=>?_)
   ·rw [zBH _ _ _ h1 h8]
    by_cases e:u=v
    ·subst e;rw [hb t u (Nat.le_refl _)]
     cases s<;>cases t<;>simp_all
    ·rw [ha t u (by omega)];simp [e]
   ·rw [zBH _ _ _ h1 h8,hb t u (by omega)]
    have:u≠v:=by omega
    simp [this]
  rw [zAP,hp,hn]
  cases e1:L c true v with
  | true=>
   have e2:=hf.not e1;simp only [Bool.not_true] at e2;rw [e2]
   simpa [zAF] using one true e1
  | false=>
   cases e2:L c false v with
   | true=>simpa [zAF] using one false e2
   | false=>
    simp only [Bool.false_eq_true,if_false,List.nil_append];refine ih (v + 1) acc last (by omega) (by omega) (by omega) (fun t u hu=>?_) (fun t u hu=>hb t u (by omega))
    by_cases e:u=v
    ·subst e;rw [hb t u (Nat.le_refl _)]
     cases t
     ·exact e2.symm
     ·exact e1.symm
    ·exact ha t u (by omega)
theorem zNc {q:QS} (hq:QGood q) {F:zv} (hF:FQ F q) (hO:FOk F) {truth:Bool} {p:List Stp} (hl:p.length≤9000) {s:Stp} (hs:zRV q (kd truth) p s) (hf:Free s.lits) :
  ∃ hd tl,zCd s=hd :: tl∧zo F truth (p.map (·.lits)) hd tl=some s.lits∧(hd=[114]↔s.rule=3)∧∀ w∈zCd s,(32:UInt8)∉w∧(10:UInt8)∉w:=by
 have nd:∀ u,(32:UInt8)∉Lib.decDigits u∧(10:UInt8)∉Lib.decDigits u:=fun u=>⟨zJO u 32 (by decide),zJO u 10 (by decide)⟩
 obtain ⟨hlok,hst⟩:=hs
 rcases hst with ⟨r1,r2,r3,r4,_,r6⟩ | ⟨r1,r2,_,_,_,r6⟩ | ⟨r1,r2,r3,⟨x,hx,hxe,hxp⟩,r5,r6,r7,r8,r9,r10⟩ | ⟨r1,r2,_,r4,r5⟩
 ·have ht:truth=false:=(zMJ truth).elim (fun h=>h.1) (fun h=>by omega);subst ht;have hclen:=hF.clen;have hw:zCd s=[[97],Lib.decDigits s.first]:=(by unfold zCd;rw [if_pos r1]);refine ⟨[97],[Lib.decDigits s.first],hw,?_,⟨fun h=>by simp at h,fun h=>by omega⟩,fun w hm=>?_⟩
  ·unfold zo;rw [if_pos ⟨rfl,rfl,rfl⟩];show axR F (cnt (Lib.decDigits s.first) big)=_;rw [zDw s.first r3 (by omega)];unfold axR;rw [hF.cl,if_neg (by omega),← r6];unfold zBt;rw [if_pos (zEb hf)]
  ·rw [hw] at hm
   rcases List.mem_cons.1 hm with rfl | hm
   ·decide
   ·simp at hm;subst hm;exact nd _
 ·have ht:truth=true:=(zMJ truth).elim (fun h=>by omega) (fun h=>h.1);subst ht;have hw:zCd s=[99] :: (zAJ s.lits).map Lib.itoa:=(by unfold zCd;rw [if_neg (by omega),if_pos r1]);refine ⟨[99],(zAJ s.lits).map Lib.itoa,hw,?_,⟨fun h=>by simp at h,fun h=>by omega⟩,fun w hm=>?_⟩
  ·unfold zo;rw [if_neg (by simp),if_pos ⟨rfl,rfl⟩];unfold zDH;rw [show zAJ s.lits=zAP s.lits 8 1 from rfl,zND hq hF hlok hf 8 1 (0,0) 0 rfl (Nat.le_refl _) (by omega) (fun t u hu=>by
    have:u=0:=by omega
    subst this;rw [zDh]
    cases hh:L s.lits t 0 with
    | false=>rfl
    | true=>have:=hq.name (hlok.vars t 0 hh);omega) (fun t u _=>zDh t u)]
   show (if zFm F.cl s.lits then some s.lits else none)=_
   have:zFm F.cl s.lits=true:=by
    rw [hF.cl];unfold zFm;unfold zCD at r6;rw [← r6]
    congr 1
    funext y
    rw [zQl]
   rw [if_pos this]
  ·rw [hw] at hm
   rcases List.mem_cons.1 hm with rfl | hm
   ·decide
   ·obtain ⟨z,hz,rfl⟩:=List.mem_map.1 hm;obtain ⟨u,t,h1,h8,rfl,_⟩:=(zEv _ _).1 hz
    cases t with
    | true=>rw [zGr];exact nd u
    | false=>
     rw [zG4 u h1]
     have:=nd u
     simp [this.1,this.2]
 ·have hv:=hq.qb.names x hx;rw [hxe] at hv;have hw:zCd s=[[114],Lib.decDigits s.first,Lib.decDigits s.second,Lib.decDigits s.var]:=(by unfold zCd;rw [if_neg (by omega),if_neg (by omega),if_pos r1]);refine ⟨[114],[Lib.decDigits s.first,Lib.decDigits s.second,Lib.decDigits s.var],hw,?_,⟨fun _=>r1,fun _=>rfl⟩,fun w hm=>?_⟩
  ·unfold zo;rw [if_neg (by simp),if_neg (by simp),if_pos ⟨rfl,rfl⟩];show zF7 F truth (p.map (·.lits)) (cnt (Lib.decDigits s.first) big) (cnt (Lib.decDigits s.second) big) (cnt (Lib.decDigits s.var) big)=_;rw [zDw s.first r2.1 (by omega),zDw s.second r3.1 (by omega),zDw s.var hv.1 (by omega)];unfold zF7;rw [List.length_map,if_neg (by omega),zHV p _ r2.1 r2.2,zHV p _ r3.1 r3.2];have hk:F.all.testBit s.var=truth:=by
    rw [← hxe,hF.kinds x hx]
    revert hxp
    unfold zAl kd
    cases truth<;>cases x.2<;>simp
   have e1:(zM p s.first).1.testBit s.var=true:=r5;have e2:(zM p s.second).2.testBit s.var=true:=r6;rw [if_neg (by rw [hk,e1,e2];simp)];have hr:zCL (zM p s.first) (zM p s.second) s.var=s.lits:=by
    rw [r10];have n1:=r7.not r5;have n2:=r8.not r6;simp only [Bool.not_true,Bool.not_false] at n1 n2
    apply zJe
    intro t u;rw [zCI _ _ _ hv.1 hv.2];unfold zCL
    by_cases e:u=s.var
    ·subst e
     cases t
     ·have n1':(zM p s.first).2.testBit s.var=false:=n1;simp [L,zn,n1']
     ·have n2':(zM p s.second).1.testBit s.var=false:=n2;simp [L,zn,n2']
    ·have e':s.var≠u:=Ne.symm e
     cases t<;>simp [L,zn,e,e']
   rw [hr];unfold zBt;rw [if_pos (zEb hf)]
  ·rw [hw] at hm
   rcases List.mem_cons.1 hm with rfl | hm
   ·decide
   ·simp at hm
    rcases hm with rfl | rfl | rfl<;>exact nd _
 ·have hw:zCd s=[[100],Lib.decDigits s.first]:=(by unfold zCd;rw [if_neg (by omega),if_neg (by omega),if_neg (by omega)]);refine ⟨[100],[Lib.decDigits s.first],hw,?_,⟨fun h=>by simp at h,fun h=>by omega⟩,fun w hm=>?_⟩
  ·unfold zo;rw [if_neg (by simp),if_neg (by simp),if_neg (by simp),if_pos ⟨rfl,rfl⟩];show zCv F truth (p.map (·.lits)) (cnt (Lib.decDigits s.first) big)=_;rw [zDw s.first r2.1 (by omega)];unfold zCv;rw [List.length_map,if_neg (by omega),zHV p _ r2.1 r2.2,← zOE hF hO truth,← r5]
  ·rw [hw] at hm
   rcases List.mem_cons.1 hm with rfl | hm
   ·decide
   ·simp at hm;subst hm;exact nd _
end Go.Proofs.YtgipjjhkhfihpaaGreatDoor
