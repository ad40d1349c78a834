import Derived.Test.YtgipjjhkhfihpaaGreatDoorLB
import Derived.Test.YtgipjjhkhfihpaaGreatDoorLD
import Derived.Test.YtgipjjhkhfihpaaGreatDoorLC
import Derived.Test.YtgipjjhkhfihpaaGreatDoorKK
import Derived.Test.YtgipjjhkhfihpaaGreatDoorKI
import Derived.Test.YtgipjjhkhfihpaaGreatDoorKC
import Derived.Test.YtgipjjhkhfihpaaGreatDoorKL
set_option maxRecDepth 100000
set_option maxHeartbeats 6400000
namespace Go.Proofs.YtgipjjhkhfihpaaGreatDoor
open Go.RowKit
theorem zJT (b:Nat) (t:TypeId) (bl:BL) (rs:List zAB) (g:GS) (gv:GV) (w:World) (hG:GameAt w b t bl rs g gv) :
  Calls Tryz.prog 36 #[.pointer (some ⟨b,0,none⟩)] w fun e w'=>e=.returned (.int .i64 (g.turn:Int))∧w'=w:=by
 have lb:=zB hG.fb
 go_enter Tryz.func36,Tryz.ntmps36
 go_wp2_with fail;refine (zOb b t bl rs g gv w hG).mono ?_;rintro e w1 ⟨rfl,hw1⟩;subst hw1;go_wp2_with fail;go_ret;exact ⟨rfl,rfl⟩
theorem zHt (b:Nat) (t:TypeId) (bl:BL) (rs:List zAB) (g:GS) (gv:GV) (w:World) (hG:GameAt w b t bl rs g gv) (hp:g.vals.1 < 512∧g.vals.2 < 512) :
  Calls Tryz.prog 37 #[.pointer (some ⟨b,0,none⟩)] w fun e w'=>∃ k,e=.returned (.slice (some ⟨k,0,none⟩) 8 8)∧w.heap.size≤k∧w'.heap[k]?=some (.cells (zCo g.vals 8).toArray 3 (0,0))∧Below w.heap.size w w':=by
 have lb:=zB hG.fb
 go_enter Tryz.func37,Tryz.ntmps37
 go_wp2_with fail;refine (zLz b t bl rs g gv w hG hp).mono ?_;rintro e w1 ⟨k,rfl,h1,h2,h3⟩;go_wp2_with fail;go_ret;exact ⟨k,rfl,h1,h2,h3⟩
theorem zFg (b:Nat) (t:TypeId) (bl:BL) (rs:List zAB) (g:GS) (gv:GV) (bits:Int) (w:World) (hG:GameAt w b t bl rs g gv) (hR:RBd rs) (hB:BBd bl) (hp:g.vals.1 < 512∧g.vals.2 < 512) (ht:g.turn≤bl.length) (hbi:zE8 bits) :
  Calls Tryz.prog 53 #[.pointer (some ⟨b,0,none⟩),.int .i64 bits] w fun e w'=>e=.returned (.int .i64 (zBv bl g bits:Nat))∧GameAt w' b t bl rs (zC2 rs bl g bits) gv∧Only (·=b) w w':=by
 have lb:=zB hG.fb
 go_enter Tryz.func53,Tryz.ntmps53
 go_wp2_with fail;refine (zPy b t bl rs g gv bits w hG hR hB hp ht hbi).mono ?_;rintro e w1 ⟨rfl,h2,h3⟩;go_wp2_with fail;go_ret;exact ⟨rfl,h2,h3⟩
def zI1 (n:Nat) (gv:GV):Prop:=(∀ k,gv.vB.ownBlock=some k→n≤k)∧(∀ k,gv.vR.ownBlock=some k→n≤k)∧∀ j (hj:j < gv.hdrs.length) k,gv.hdrs[j].ownBlock=some k→n≤k
def zN5 (g:GS) (gv:GV):Value:=.agg #[gv.vB,gv.vR,.int .i64 (g.turn:Int),.int .i64 (g.vals.1:Int),.int .i64 (g.vals.2:Int)]
def zRd (q:QS) (kind:Nat) (ss:List Stp) (w:World) (e:Ending) (w':World):Prop:=
 ∃ gv,e=.returned (zN5 (zBO q kind ss) gv)∧GRows w' (blW q kind) (zAQ kind ss) gv∧zI1 w.heap.size gv∧Below w.heap.size w w'
theorem zQL (bs:List (List Nat)) (h:∀ b∈bs,b≠[]):bs.length≤bs.flatten.length:=by
 induction bs with
 | nil=>simp
 | cons b bs ih=>
  have h1:=ih (fun x hx=>h x (List.mem_cons_of_mem _ hx));have h2:0 < b.length:=List.length_pos_iff.2 (h b (by simp));simp only [List.flatten_cons,List.length_append,List.length_cons];omega
theorem zDR (vs:List (Nat × Bool)) (h:vs.length≤8):(zG vs).length≤8:=by
 have:=zQL (zG vs) (fun b hb=>(zB6 vs b hb).1)
 rw [zAA,List.length_map] at this;omega
theorem zEg (vs:List (Nat × Bool)) (h:vs.length≤8) (b:List Nat) (hb:b∈zG vs):b.length≤8:=by
 have h1:b.length≤(zG vs).flatten.length:=by
  have:=(List.sublist_flatten_of_mem hb).length_le
  exact this
 rw [zAA,List.length_map] at h1;omega
theorem zE0 {q:QS} (hQ:QB q) (kind:Nat):BBd (blW q kind):=by
 refine ⟨by rw [zBB];exact zDR q.vars hQ.vl,fun x hx=>?_⟩;obtain ⟨b,hb,rfl⟩:=List.mem_map.1 (show x∈(zG q.vars).map _ from hx);refine ⟨zEg q.vars hQ.vl b hb,fun v hv=>?_⟩;have hm:v∈(zG q.vars).flatten:=List.mem_flatten.2 ⟨b,hb,hv⟩;rw [zAA] at hm;obtain ⟨y,hy,rfl⟩:=List.mem_map.1 hm;exact hQ.names y hy
theorem zIA {ss:List Stp} (h:SBs ss) (kind:Nat):RBd (zAQ kind ss):=by
 refine ⟨?_,fun r hr=>?_⟩
 ·unfold zAQ;rw [List.length_map];exact Nat.le_trans (List.length_filter_le _ _) h.len
 ·unfold zAQ at hr;obtain ⟨s,hs,rfl⟩:=List.mem_map.1 hr;have hs':=h.bits s (List.mem_filter.1 hs).1;have hm:=zDe (zM ss s.first) s.lits (zAX ss h.bits s.first);unfold zB5 zDj
  split
  ·exact ⟨⟨hs'.2,hs'.1⟩,hm.2,hm.1⟩
  ·exact ⟨hs',hm⟩
structure OAt (u wx:World) (gb:Nat) (bl:BL) (hdrs:List Value) (vR:Value) (k:Nat) (vB:Value):Prop where
 gg:wx.heap[gb]?=some (.cells #[vB,vR,.int .i64 0,.int .i64 0,.int .i64 0] 76 (0,0))
 oB:wx.ownsRow u.heap.size 111 2 vB k (zDV (bl.take k) (hdrs.take k))
 only:Only (·=gb) u wx
theorem zKC (bl:BL) (hdrs:List Value) (k:Nat) (h:k < bl.length) (hh:k < hdrs.length):zDV (bl.take (k + 1)) (hdrs.take (k + 1))=zDV (bl.take k) (hdrs.take k) ++ [hdrs[k],.bool bl[k].2]:=by
 unfold zDV;rw [List.take_succ_eq_append_getElem h,List.take_succ_eq_append_getElem hh,List.zip_append (by simp;omega),List.flatMap_append]
 simp
theorem zOh (q:QS) (ss:List Stp) (aV aC aS:Option Addr) (cV cC cS kind:Nat) (w:World) (hV:w.ownsRow 0 139 2 (.slice aV q.vars.length cV) q.vars.length (zd q.vars)) (hl:q.vars.length≤8)
  (hS:w.ownsRow 0 134 6 (.slice aS ss.length cS) ss.length (zAk ss)) (hSB:SBs ss) (hk:kind=1∨kind=2) (hQ:QB q) :
  Calls Tryz.prog 26 #[.agg #[.slice aV q.vars.length cV,.slice aC q.cl.length cC],.agg #[.int .i64 (kind:Int),.slice aS ss.length cS]] w fun e w'=>zRd q kind ss w e w':=by
 obtain ⟨i1,hi1,hz10,hz11,hz12⟩:=info_parts zOk
 go_enter Tryz.func26,Tryz.ntmps26
 go_wp2_with fail;generalize hw0:(((w.alloc (.cells #[.slice aV q.vars.length cV,.slice aC q.cl.length cC] 60)).alloc (.cells #[.int .i64 (kind:Int),.slice aS ss.length cS] 67)).alloc (.cells #[.slice none 0 0,.slice none 0 0,.int .i64 0,.int .i64 0,.int .i64 0] 76))=u1;have hB:Below w.heap.size w u1:=(by rw [← hw0];exact (((Below.refl _ _).alloc (Nat.le_refl _) _).alloc (by simp;try omega) _).alloc (by simp;try omega) _);have hff:u1.heap[w.heap.size]?=some (.cells #[.slice aV q.vars.length cV,.slice aC q.cl.length cC] 60 (0,0)):=(by rw [← hw0,heap_alloc_old _ _ (by simp;try omega),heap_alloc_old _ _ (by simp;try omega)];exact zP (by simp));have hpp:u1.heap[w.heap.size + 1]?=some (.cells #[.int .i64 (kind:Int),.slice aS ss.length cS] 67 (0,0)):=(by rw [← hw0,heap_alloc_old _ _ (by simp;try omega)];exact zP (by simp));have hrs:u1.heap[w.heap.size + 1 + 1]?=some (.cells #[.slice none 0 0,.slice none 0 0,.int .i64 0,.int .i64 0,.int .i64 0] 76 (0,0)):=(by rw [← hw0];exact zP (by simp));clear hw0;obtain ⟨cff0,cff1⟩:=zJ hff;have lff:=zB hff;obtain ⟨cpp0,cpp1⟩:=zJ hpp;have lpp:=zB hpp;obtain ⟨crs0,crs1,crs2,crs3,crs4⟩:=zGc hrs;have lrs:=zB hrs;have hsz1:w.heap.size≤u1.heap.size:=hB.size;refine (zL5 ss aS cS kind _ (zO hS hB) hSB hk).mono ?_;rintro e u2 ⟨vR,rfl,hoR,b2⟩;replace hB:=hB.trans (b2.mono hB.size);replace hff:=zH b2 hff;clear cff0 cff1;obtain ⟨cff0,cff1⟩:=zJ hff;replace lff:=zB hff;replace hpp:=zH b2 hpp;clear cpp0 cpp1;obtain ⟨cpp0,cpp1⟩:=zJ hpp;replace lpp:=zB hpp;replace hrs:=zH b2 hrs;clear crs0 crs1 crs2 crs3 crs4;obtain ⟨crs0,crs1,crs2,crs3,crs4⟩:=zGc hrs;replace lrs:=zB hrs;have hsz2:w.heap.size + 1 + 1 < u2.heap.size:=lrs;obtain ⟨aR,cR,rfl⟩:=zN hoR;have HRlt:Hid (∀ k,(Value.slice aR (zAQ kind ss).length cR).ownBlock=some k→u1.heap.size≤k∧k < u2.heap.size):=zF (fun k hk=>hoR.lt k hk);have hRl:(zAQ kind ss).length≤9000:=(by have h1:=zHc kind ss ss.length;have h2:=hSB.len;unfold zAr at h1;rw [List.take_length] at h1;unfold zAQ;omega);generalize hrw:zAQ kind ss=rs at *;have HRW:=zF hrw;clear hrw;go_wp2_with fail;generalize hw0:u2.alloc (.cells #[.slice none 0 0,.slice aR rs.length cR,.int .i64 0,.int .i64 0,.int .i64 0] 76)=u3;have b3:Below u2.heap.size u2 u3:=(by rw [← hw0];exact (Below.refl _ _).alloc (Nat.le_refl _) _);have hgg:u3.heap[u2.heap.size]?=some (.cells #[.slice none 0 0,.slice aR rs.length cR,.int .i64 0,.int .i64 0,.int .i64 0] 76 (0,0)):=(by rw [← hw0];exact heap_alloc_new _ _);clear hw0;replace hB:=hB.trans (b3.mono hB.size);replace hff:=zH b3 hff;clear cff0 cff1;obtain ⟨cff0,cff1⟩:=zJ hff;replace lff:=zB hff;replace hpp:=zH b3 hpp;clear cpp0 cpp1;obtain ⟨cpp0,cpp1⟩:=zJ hpp;replace lpp:=zB hpp;replace hrs:=zH b3 hrs;clear crs0 crs1 crs2 crs3 crs4;obtain ⟨crs0,crs1,crs2,crs3,crs4⟩:=zGc hrs;replace lrs:=zB hrs;replace hoR:=zO hoR b3;obtain ⟨cgg0,cgg1,cgg2,cgg3,cgg4⟩:=zGc hgg;have lgg:=zB hgg;have hsz3:u2.heap.size < u3.heap.size:=lgg;refine (zHs 0 w.heap.size q _ aV cV cff0 lff (zO hV hB) (by omega)).mono ?_;rintro e u4 ⟨v,hdrs,rfl,hoH,hRA,b4⟩;replace hB:=hB.trans (b4.mono hB.size);replace hff:=zH b4 hff;clear cff0 cff1;obtain ⟨cff0,cff1⟩:=zJ hff;replace lff:=zB hff;replace hpp:=zH b4 hpp;clear cpp0 cpp1;obtain ⟨cpp0,cpp1⟩:=zJ hpp;replace lpp:=zB hpp;replace hrs:=zH b4 hrs;clear crs0 crs1 crs2 crs3 crs4;obtain ⟨crs0,crs1,crs2,crs3,crs4⟩:=zGc hrs;replace lrs:=zB hrs;replace hgg:=zH b4 hgg;clear cgg0 cgg1 cgg2 cgg3 cgg4;obtain ⟨cgg0,cgg1,cgg2,cgg3,cgg4⟩:=zGc hgg;replace lgg:=zB hgg;replace hoR:=zO hoR b4;obtain ⟨aH,cH,rfl⟩:=zN hoH;go_wp2_with fail;have hHl:=hRA.len;have hbl:(zG q.vars).length≤8:=zDR q.vars hl;obtain ⟨bl,hbl0⟩:∃ bl,blW q kind=bl:=⟨_,rfl⟩;have hbll:bl.length=(zG q.vars).length:=(by rw [← hbl0,zBB]);have HBL:=zF hbl0;clear hbl0
 go_loopg [13] ((zG q.vars).length) (fun m i wx=>∃ (k:Nat) (vB:Value),i=.int .i64 k∧k + m=(zG q.vars).length∧OAt u4 wx u2.heap.size bl hdrs (.slice aR rs.length cR) k vB)
 case atStart=>exact ⟨0,.slice none 0 0,rfl,by omega,hgg,World.ownsRow_nil _ _ _ _,Only.refl _ _⟩
 case round=>
  obtain ⟨k,vB,rfl,hkm,⟨hgr,hoB,hon⟩⟩:=hrel;have lgr:=zB hgr;have hBr:Below w.heap.size w wr:=hB.trans (hon.below (B:=w.heap.size) hB.size (fun j hj e=>by omega));have hffr:=(hon.block _ lff (by omega)).trans hff;have hppr:=(hon.block _ lpp (by omega)).trans hpp;have f0:wr.cell? ⟨w.heap.size,0,none⟩=some (.slice aV q.vars.length cV):=zE hffr rfl;have f1:wr.cell? ⟨w.heap.size,1,none⟩=some (.slice aC q.cl.length cC):=zE hffr rfl;have p0:wr.cell? ⟨w.heap.size + 1,0,none⟩=some (.int .i64 (kind:Int)):=zE hppr rfl;have p1:wr.cell? ⟨w.heap.size + 1,1,none⟩=some (.slice aS ss.length cS):=zE hppr rfl;have lf:=zB hffr;have lp:=zB hppr;obtain ⟨aB,cB,rfl⟩:=zN hoB;have g0:wr.cell? ⟨u2.heap.size,0,none⟩=some (.slice aB k cB):=zE hgr rfl;have hoHr:=zY hoH hon (fun j hj e=>by have:=(hoH.lt j hj).1;omega)
  by_cases hlt:k < (zG q.vars).length
  ·have hkh:k < hdrs.length:=(by omega);have hkb:k < bl.length:=(by omega);have hXr:=zY (hRA.row k hlt).1 hon (fun j hj e=>by have:=((hRA.row k hlt).1.lt j hj).1;omega);have hb8:=zEg q.vars hl _ (List.getElem_mem hlt);have HSN:=zF (zKC bl hdrs k hkb hkh);have HWN:Hid (bl[k].2=zBq q kind (zG q.vars)[k]):=zF (by
    have h:=zHN q kind k hlt;rw [zA HBL] at h;rw [show bl.getD k ([],false)=bl[k] from by simp [List.getD,hkb]] at h;rw [h])
   obtain ⟨gH,cap,hVe,hg,hg',_,hcell⟩:=zS hoHr (by omega);injection hVe with hVe _ hV2;subst hVe hV2;have hxk:wr.cell? ⟨gH,k,none⟩=some hdrs[k]:=hcell _ _ (by simp [hkh]);obtain ⟨aX,cX,hXf⟩:=zN hXr;rw [hXf] at hxk hXr;have HXF:=zF hXf;clear hcell hXf;have hX0:=zAG (lo:=0) hXr (Nat.zero_le _);have hne0:=zT hoB hgr (by decide);have HNE:=zF hne0;clear hne0;have hVr:=zO hV hBr;obtain ⟨wo,rfl⟩:∃ wo,wo=wr:=⟨_,rfl⟩
   go_upto_region 30 with fail
   go_region_law (first | (refine zFa rfl 50 _ _ rfl #[.agg #[.slice aV q.vars.length cV,.slice aC q.cl.length cC],.agg #[.int .i64 (kind:Int),.slice aS ss.length cS],.slice aX (zG q.vars)[k].length cX] (by simp [Act.eval]) (zQP _) ?_;refine (zQv q aV aC aS cV q.cl.length cC ss.length cS kind (zG q.vars)[k] _ _ (zO hVr (Below.refl _ wo).drew) hl hk (zO hX0 (Below.refl _ wo).drew) hb8).mono ?_;rintro e v1 ⟨rfl,y1⟩;refine ⟨_,rfl,?_⟩;have x1:Below wo.heap.size wo v1:=Below.trans (Below.refl _ wo).drew y1;have hgv:=(x1.block _ lgr).trans hgr;have gv0:v1.cell? ⟨u2.heap.size,0,none⟩=some (.slice aB k cB):=(by rw [zC hgv];rfl);have lgv:=zB hgv) | (refine zDy rfl (.tmp 18) (.tmp 25) 71 rfl u4.heap.size 111 i1 (.agg #[.slice none 0 0,.bool false]) 2 32 Tryz.underlying71 hi1 hz10 hz11 hz12 rfl (by decide) (.slice aB k cB) k (zDV (bl.take k) (hdrs.take k)) ((zO hoB x1).alloc _) (by simp [Act.eval]) ⟨v1.heap.size,0,none⟩ 1 1 [.slice aX (zG q.vars)[k].length cX,.bool (zBq q kind (zG q.vars)[k])] (by simp [Act.eval]) rfl (zBX v1 [.slice aX (zG q.vars)[k].length cX,.bool (zBq q kind (zG q.vars)[k])] 111) (by simp [Value.oneCell']) (by decide) (by unfold maxLen;omega) (by omega) (by have:=x1.size;have:=hon.size;simp;omega) ?_;intro v' w' hown' hgrow hmv;obtain ⟨g4,cap4,rfl,hg4,hg4',hcap4,hcell4⟩:=zS hown' (by omega);have hgg':w'.heap[u2.heap.size]?=some (.cells #[.slice aB k cB,.slice aR rs.length cR,.int .i64 0,.int .i64 0,.int .i64 0] 76 (0,0)):=(hgrow.block _ (by simp;omega) (fun e=>zA HNE e.symm)).trans ((heap_alloc_old v1 _ lgv).trans hgv);have gw0:w'.cell? ⟨u2.heap.size,0,none⟩=some (.slice aB k cB):=(by rw [zC hgg'];rfl);have gz0:=zD hgg' 0;have lgw:=zB hgg'))
   all_goals
    have hns:=zT hown' hgg' (by decide);have HO:Hid (OAt u4 (w'.setCell ⟨u2.heap.size,0,none⟩ (.slice (some ⟨g4,0,none⟩) (k + 1) cap4)) u2.heap.size bl hdrs (.slice aR rs.length cR) (k + 1) (.slice (some ⟨g4,0,none⟩) (k + 1) cap4)):=zF ⟨zI hgg' 0 _,by rw [zA HSN,zA HXF,zA HWN];exact zR hown' (p:=⟨u2.heap.size,0,none⟩) hns _,(((hon.trans (Only.of_below x1)).alloc _).grown hgrow (fun j hj=>Or.inr (hoB.lt j hj).1)).setAt 0 _⟩;clear hown' hgrow hmv hcell4 hns;go_wp2_with fail
    go_roundg (gk - 1)
    case measure=>omega
    case rel=>exact ⟨k + 1,_,by go_num,by omega,zA HO⟩
  ·have hkn:k=(zG q.vars).length:=(by omega);subst hkn;have hdk:decide (((zG q.vars).length:Int) < ((zG q.vars).length:Int))=false:=(by simp);have hRr:=zY hoR hon (fun j hj e=>by have:=(zA HRlt j hj).2;omega);have hG:GameAt wr u2.heap.size 76 bl rs ⟨0,(0,0)⟩ ⟨.slice aB (zG q.vars).length cB,.slice aR rs.length cR,hdrs⟩:=by
    refine ⟨hgr,Or.inl rfl,?_,zAG hRr (Nat.zero_le _),by rw [hbll];exact hHl,fun j hj=>?_⟩
    ·have h:=zAG (lo:=0) hoB (Nat.zero_le _);rw [List.take_of_length_le (by omega),List.take_of_length_le (by omega)] at h;rw [hbll];exact h
    ·have hj':j < (zG q.vars).length:=(by omega);have h:=zAG (lo:=0) (zY (hRA.row j hj').1 hon (fun i hi e=>by have:=((hRA.row j hj').1.lt i hi).1;omega)) (Nat.zero_le _);have hrow:bl[j].1=(zG q.vars)[j]:=by
      have h2:=zHN q kind j hj';rw [zA HBL] at h2;rw [show bl.getD j ([],false)=bl[j] from by simp [List.getD,hj]] at h2;rw [h2]
     rw [hrow];exact h
   have hFr:zI1 w.heap.size ⟨.slice aB (zG q.vars).length cB,.slice aR rs.length cR,hdrs⟩:=by
    refine ⟨fun j hj=>?_,fun j hj=>?_,fun i hi j hj=>?_⟩
    ·have:=(hoB.lt j hj).1;have:=hB.size;omega
    ·have:=(zA HRlt j hj).1;omega
    ·have hi':i < (zG q.vars).length:=by rw [← hHl];exact hi
     have:=((hRA.row i hi').1.lt j hj).1;omega
   have HFR:=zF hFr;have hbd:=zE0 hQ kind;rw [zA HBL] at hbd;have hrbd:=zIA hSB kind;rw [zA HRW] at hrbd;have hrsr:=(hon.block _ lrs (by omega)).trans hrs;clear hFr hRr hoHr f0 f1 p0 p1 g0;go_wp2_with fail;refine (zIV u2.heap.size _ bl rs ⟨0,(0,0)⟩ _ _ hG hrbd hbd ⟨by decide,by decide⟩ (Nat.zero_le _)).mono ?_;rintro e w8 ⟨rfl,hG8,ho8⟩;have HOW:Hid (zBO q kind ss=zEM rs bl ⟨0,(0,0)⟩):=zF (by unfold zBO;rw [zA HRW,zA HBL]);generalize zEM rs bl ⟨0,(0,0)⟩=g8 at *;obtain ⟨t8,v1,v2⟩:=g8;have hrs8:=(ho8.block _ (zB hrsr) (by omega)).trans hrsr;have x0:w8.cell? ⟨u2.heap.size,0,none⟩=some (.slice aB (zG q.vars).length cB):=zE hG8.fb rfl;have x1:w8.cell? ⟨u2.heap.size,1,none⟩=some (.slice aR rs.length cR):=zE hG8.fb rfl;have x2:w8.cell? ⟨u2.heap.size,2,none⟩=some (.int .i64 (t8:Int)):=zE hG8.fb rfl;have x3:w8.cell? ⟨u2.heap.size,3,none⟩=some (.int .i64 (v1:Int)):=zE hG8.fb rfl;have x4:w8.cell? ⟨u2.heap.size,4,none⟩=some (.int .i64 (v2:Int)):=zE hG8.fb rfl;have lx:=zB hG8.fb;have ly:=zB hrs8;have y0:w8.cell? ⟨w.heap.size + 1 + 1,0,none⟩=some (.slice none 0 0):=zE hrs8 rfl;have y1:w8.cell? ⟨w.heap.size + 1 + 1,1,none⟩=some (.slice none 0 0):=zE hrs8 rfl;have y2:w8.cell? ⟨w.heap.size + 1 + 1,2,none⟩=some (.int .i64 0):=zE hrs8 rfl;have y3:w8.cell? ⟨w.heap.size + 1 + 1,3,none⟩=some (.int .i64 0):=zE hrs8 rfl;have y4:w8.cell? ⟨w.heap.size + 1 + 1,4,none⟩=some (.int .i64 0):=zE hrs8 rfl;have z0:=zD hrs8 0;have z1:=zD hrs8 1;have z2:=zD hrs8 2;have z3:=zD hrs8 3;have z4:=zD hrs8 4;have hR:=zI (zI (zI (zI (zI hrs8 0 (.slice aB (zG q.vars).length cB)) 1 (.slice aR rs.length cR)) 2 (.int .i64 (t8:Int))) 3 (.int .i64 (v1:Int))) 4 (.int .i64 (v2:Int));have j0:=zC hR 0;have j1:=zC hR 1;have j2:=zC hR 2;have j3:=zC hR 3;have j4:=zC hR 4;have hB8:Below w.heap.size w w8:=hBr.trans (ho8.below (B:=w.heap.size) hBr.size (fun j hj e=>by omega));go_wp2_with fail;refine bodyPost_ret (v:=zN5 ⟨t8,(v1,v2)⟩ ⟨.slice aB (zG q.vars).length cB,.slice aR rs.length cR,hdrs⟩) (by simp [results,Tryz.results26,go_sem,j0,j1,j2,j3,j4,zN5]) rfl ⟨⟨.slice aB (zG q.vars).length cB,.slice aR rs.length cR,hdrs⟩,by rw [zA HOW],?_,zA HFR,?_⟩
   ·rw [zA HBL,zA HRW];have ho9:Only (·=w.heap.size + 1 + 1) w8 (((((w8.setCell ⟨w.heap.size + 1 + 1,0,none⟩ (.slice aB (zG q.vars).length cB)).setCell ⟨w.heap.size + 1 + 1,1,none⟩ (.slice aR rs.length cR)).setCell ⟨w.heap.size + 1 + 1,2,none⟩ (.int .i64 (t8:Int))).setCell ⟨w.heap.size + 1 + 1,3,none⟩ (.int .i64 (v1:Int))).setCell ⟨w.heap.size + 1 + 1,4,none⟩ (.int .i64 (v2:Int))):=(((((Only.refl (·=w.heap.size + 1 + 1) w8).setAt 0 _).setAt 1 _).setAt 2 _).setAt 3 _).setAt 4 _;refine hG8.rows.keep ho9 (fun j cs e hj ht hjb=>?_);subst hjb;have he:=zc hj hrs8
    rcases ht with h2 | h2 | ⟨h2,_⟩<;>(rw [he] at h2;revert h2;decide)
   ·exact ((((hB8.setCell (p:=⟨w.heap.size + 1 + 1,0,none⟩) (by show w.heap.size≤w.heap.size + 1 + 1;omega) _).setCell (p:=⟨w.heap.size + 1 + 1,1,none⟩) (by show w.heap.size≤w.heap.size + 1 + 1;omega) _).setCell (p:=⟨w.heap.size + 1 + 1,2,none⟩) (by show w.heap.size≤w.heap.size + 1 + 1;omega) _).setCell (p:=⟨w.heap.size + 1 + 1,3,none⟩) (by show w.heap.size≤w.heap.size + 1 + 1;omega) _).setCell (p:=⟨w.heap.size + 1 + 1,4,none⟩) (by show w.heap.size≤w.heap.size + 1 + 1;omega) _
def zP3 (q:QS) (l:List UInt8) (w:World) (e:Ending) (w':World):Prop:=
 Below w.heap.size w w'∧match zA1 q l with
  | .inl (x,i)=>e=.returned (.tuple #[.pointer none,.int .i64 (x:Int),.int .i64 (i:Int)])
  | .inr (kind,ls)=>∃ ss db gv,ze ss=ls∧zFT q kind l ss∧SBs ss∧e=.returned (.tuple #[.pointer (some ⟨db,0,none⟩),.int .i64 0,.int .i64 0])∧
   GameAt w' db 79 (blW q kind) (zAQ kind ss) (zBO q kind ss) gv∧w.heap.size≤db∧zI1 w.heap.size gv
theorem zOg {q:QS} {l:List UInt8} {x i:Nat} (h:zA1 q l=.inl (x,i)):0 < x:=by
 unfold zA1 at h
 split at h
 ·injection h with h;injection h with h1 h2;omega
 ·unfold zGA at h
  split at h
  ·injection h with h;injection h with h1 h2;omega
  ·split at h
   ·unfold goQ at h
    split at h
    ·injection h with h;injection h with h1 h2;omega
    ·split at h
     ·cases h
     ·injection h with h;injection h with h1 h2;omega
   ·injection h with h;injection h with h1 h2;omega
theorem zDO {q:QS} {l:List UInt8} {kind:Nat} {ls:List (Nat × Nat)} (h:zA1 q l=.inr (kind,ls)):kind=1∨kind=2:=by
 unfold zA1 at h
 split at h
 ·cases h
 ·unfold zGA at h
  split at h
  ·cases h
  ·split at h
   ·unfold goQ at h
    split at h
    ·cases h
    ·split at h
     ·injection h with h;injection h with h1 h2;rw [← h1];unfold zFK;split
      ·exact Or.inr rfl
      ·exact Or.inl rfl
     ·cases h
   ·cases h
theorem zHR (lo b:Nat) (q:QS) (l:List UInt8) (w:World) (hP:ProgAt lo w b q) (hQ:QB q) :
  Calls Tryz.prog 18 #[.pointer (some ⟨b,0,none⟩),.string ⟨l.toArray⟩] w fun e w'=>zP3 q l w e w':=by
 obtain ⟨_,vV,vC,hfb,hV,hC⟩:=hP;have hbw:=zB hfb;have k0:w.cell? ⟨b,0,none⟩=some vV:=zE hfb rfl;have k1:w.cell? ⟨b,1,none⟩=some vC:=zE hfb rfl;obtain ⟨aV,cV,rfl⟩:=zN hV;obtain ⟨aC,cC,rfl⟩:=zN hC
 go_enter Tryz.func18,Tryz.ntmps18
 go_wp2_with fail;refine (zEI b _ _ aV aC _ cV _ cC rfl rfl w hfb).mono ?_;rintro e w0 ⟨rfl,hA⟩;go_wp2_with fail;have hfm:=heap_alloc_new w0 (.cells #[.slice aV q.vars.length cV,.slice aC q.cl.length cC] 60);have hA1:Below w.heap.size w (w0.alloc (.cells #[.slice aV q.vars.length cV,.slice aC q.cl.length cC] 60)):=hA.alloc hA.size _;generalize w0.alloc (.cells #[.slice aV q.vars.length cV,.slice aC q.cl.length cC] 60)=u1 at *;refine (zJq q _ _ l _ (zAG (lo:=0) (zO hV hA1) (Nat.zero_le _)) (zAG (lo:=0) (zO hC hA1) (Nat.zero_le _)) hQ).mono ?_;rintro e w1 ⟨hb1,hp⟩;have hB1:Below w.heap.size w w1:=hA1.trans (hb1.mono hA1.size)
 cases hq:zA1 q l with
 | inl xi=>
  obtain ⟨x,i⟩:=xi;rw [hq] at hp;have hp':e=.returned (.tuple #[.agg #[.int .i64 0,.slice none 0 0],.int .i64 (x:Int),.int .i64 (i:Int)]):=hp;subst hp';have HC:=zF hq;have hx:=zOg hq;have hxb:((x:Int) != 0)=true:=(by rw [bne_iff_ne];omega);clear hp hq;go_wp2_with fail;go_ret3;exact ⟨hB1.alloc hB1.size _,by rw [zA HC];rfl⟩
 | inr ks=>
  obtain ⟨kind,ls⟩:=ks;rw [hq] at hp;obtain ⟨ss,vS,hls,htg,hsb,rfl,hS⟩:=hp;have HC:=zF hq;have hk:=zDO hq;clear hq;obtain ⟨aS,cS,rfl⟩:=zN hS;have hA2:Below w1.heap.size w1 (w1.alloc (.cells #[.int .i64 (kind:Int),.slice aS ss.length cS] 67)):=(Below.refl _ _).alloc (Nat.le_refl _) _;have hpr:=heap_alloc_new w1 (.cells #[.int .i64 (kind:Int),.slice aS ss.length cS] 67);have hfm1:=zH hb1 hfm;have hfm2:=zH hA2 hfm1;have hB2:=hB1.trans (hA2.mono hB1.size);have hV2:=zAG (lo:=0) (zO hV hB2) (Nat.zero_le _);have hS2:=zAG (lo:=0) (zO hS hA2) (Nat.zero_le _);have f0:(w1.alloc (.cells #[.int .i64 (kind:Int),.slice aS ss.length cS] 67)).cell? ⟨w0.heap.size,0,none⟩=some (.slice aV q.vars.length cV):=zE hfm2 rfl;have f1:(w1.alloc (.cells #[.int .i64 (kind:Int),.slice aS ss.length cS] 67)).cell? ⟨w0.heap.size,1,none⟩=some (.slice aC q.cl.length cC):=zE hfm2 rfl;obtain ⟨p0,p1⟩:=zJ hpr;have lf:=zB hfm2;have lp:=zB hpr;go_wp2_with fail;refine (zOh q ss aV aC aS cV cC cS kind _ hV2 hQ.vl hS2 hsb hk hQ).mono ?_;rintro e w3 ⟨⟨vB,vR,hdrs⟩,rfl,hrows,hfr,hb3⟩;have hB3:=hB2.trans (hb3.mono hB2.size);obtain ⟨aB,cB,hBf⟩:=zN hrows.oB;obtain ⟨aR,cR,hRf⟩:=zN hrows.oR;dsimp only at hBf hRf;subst hBf hRf;have HRO:Hid (∀ w',Below w3.heap.size w3 w'→GRows w' (blW q kind) (zAQ kind ss) ⟨.slice aB (blW q kind).length cB,.slice aR (zAQ kind ss).length cR,hdrs⟩):=zF (fun w' h=>hrows.later h);have HFR:Hid (zI1 w.heap.size ⟨.slice aB (blW q kind).length cB,.slice aR (zAQ kind ss).length cR,hdrs⟩):=zF ⟨fun k hk=>Nat.le_trans hB2.size (hfr.1 k hk),fun k hk=>Nat.le_trans hB2.size (hfr.2.1 k hk),fun j hj k hk=>Nat.le_trans hB2.size (hfr.2.2 j hj k hk)⟩;have hs3:=hB3.size;have HT:=zF htg;have HS:=zF hsb;clear hrows hfr htg hsb;generalize hgo:zBO q kind ss=go at *;have HGO:=zF hgo;clear hgo;obtain ⟨t0,v0,v1⟩:=go;unfold zN5;dsimp only;go_wp2_with fail;go_ret3;have hA3:Below w3.heap.size w3 (w3.alloc (.cells #[.slice aB (blW q kind).length cB,.slice aR (zAQ kind ss).length cR,.int .i64 (t0:Int),.int .i64 (v0:Int),.int .i64 (v1:Int)] 79)):=(Below.refl _ _).alloc (Nat.le_refl _) _;refine ⟨hB3.trans (hA3.mono hB3.size),?_⟩;rw [zA HC];exact ⟨ss,w3.heap.size,⟨.slice aB (blW q kind).length cB,.slice aR (zAQ kind ss).length cR,hdrs⟩,hls,zA HT,zA HS,rfl,by rw [zA HGO];exact ⟨heap_alloc_new _ _,Or.inr rfl,zA HRO _ hA3⟩,hs3,zA HFR⟩
def Firm (Z:Nat→Prop) (A:World→Prop) (w:World):Prop:=∀ (T:Nat→Prop) (w':World),Only T w w'→(∀ k,Z k→¬ T k)→A w'
theorem Firm.now {Z:Nat→Prop} {A:World→Prop} {w:World} (h:Firm Z A w):A w:=h (fun _=>False) w (Only.refl _ _) (fun _ _ h=>h)
theorem Only.join {T T':Nat→Prop} {a b c:World} (h:Only T a b) (k:Only T' b c):Only (fun i=>T i∨T' i) a c:=
 ⟨k.os.trans h.os,k.tape.trans h.tape,k.output.trans h.output,Nat.le_trans h.size k.size,fun i hi ht=>(k.block i (Nat.lt_of_lt_of_le hi h.size) (fun e=>ht (Or.inr e))).trans (h.block i hi (fun e=>ht (Or.inl e)))⟩
theorem Firm.step {Z T:Nat→Prop} {A:World→Prop} {w w':World} (h:Firm Z A w) (ho:Only T w w') (hT:∀ k,Z k→¬ T k):Firm Z A w':=
 fun _ w2 ho2 hT2=>h _ w2 (ho.join ho2) (fun k hk e=>e.elim (hT k hk) (hT2 k hk))
theorem Firm.grow {Z Z':Nat→Prop} {A:World→Prop} {w:World} (h:Firm Z A w) (hz:∀ k,Z k→Z' k):Firm Z' A w:=
 fun T w' ho hT=>h T w' ho (fun k hk=>hT k (hz k hk))
theorem Firm.imp {Z:Nat→Prop} {A B:World→Prop} {w:World} (h:Firm Z A w) (f:∀ w,A w→B w):Firm Z B w:=fun T w' ho hT=>f w' (h T w' ho hT)
theorem zFG {Z:Nat→Prop} {w:World} {base:Nat} {e:TypeId} {size:Nat} {v:Value} {n:Nat} {xs:List Value} (h:w.ownsRow base e size v n xs) (hz:∀ k,v.ownBlock=some k→Z k):Firm Z (fun w=>w.ownsRow base e size v n xs) w:=
 fun _ _ ho hT=>zY h ho (fun k hk=>hT k (hz k hk))
theorem zKx {Z:Nat→Prop} {w:World} {k:Nat} {o:Obj} (h:w.heap[k]?=some o) (hz:Z k):Firm Z (fun w=>w.heap[k]?=some o) w:=
 fun _ _ ho hT=>(ho.block k (zB h) (hT k hz)).trans h
theorem zOQ {Z:Nat→Prop} {w:World} {lo b:Nat} {q:QS} (h:ProgAt lo w b q) (hz:∀ k,lo≤k→k < w.heap.size→Z k):Firm Z (fun w=>ProgAt lo w b q) w:=by
 obtain ⟨h1,vV,vC,h2,h3,h4⟩:=h;intro T w' ho hT;refine ⟨h1,vV,vC,zKx h2 (hz b h1 (zB h2)) T w' ho hT,zFG h3 (fun k hk=>hz k (h3.lt k hk).1 (h3.lt k hk).2) T w' ho hT,zFG h4 (fun k hk=>hz k (h4.lt k hk).1 (h4.lt k hk).2) T w' ho hT⟩
theorem zQc {Z:Nat→Prop} {w:World} {lo b:Nat} {F:zv} (h:RefAt lo w b F) (hz:∀ k,lo≤k→k < w.heap.size→Z k):Firm Z (fun w=>RefAt lo w b F) w:=by
 obtain ⟨h1,vO,vE,vC,h2,h3,h4,h5⟩:=h;intro T w' ho hT;exact ⟨h1,vO,vE,vC,zKx h2 (hz b h1 (zB h2)) T w' ho hT,zFG h3 (fun k hk=>hz k (h3.lt k hk).1 (h3.lt k hk).2) T w' ho hT,zFG h4 (fun k hk=>hz k (h4.lt k hk).1 (h4.lt k hk).2) T w' ho hT,zFG h5 (fun k hk=>hz k (h5.lt k hk).1 (h5.lt k hk).2) T w' ho hT⟩
theorem zPb {Z:Nat→Prop} {w:World} {bl:BL} {rs:List zAB} {v:GV} (h:GRows w bl rs v) (h1:∀ k,v.vB.ownBlock=some k→Z k) (h2:∀ k,v.vR.ownBlock=some k→Z k) (h3:∀ j (hj:j < v.hdrs.length) k,v.hdrs[j].ownBlock=some k→Z k):Firm Z (fun w=>GRows w bl rs v) w:=by
 intro T w' ho hT;have hl:=h.len;exact ⟨zY h.oB ho (fun k hk=>hT k (h1 k hk)),zY h.oR ho (fun k hk=>hT k (h2 k hk)),h.len,fun j hj=>zY (h.row j hj) ho (fun k hk=>hT k (h3 j (by omega) k hk))⟩
structure GG where
 gb:Nat
 db:Nat
 b1:Nat
 b2:Nat
 st:RS
 q0:QS
 proof:List UInt8
 kind:Nat
 ss:List Stp
 mv:List Nat
 bs:List Bool
 g:GS
 gv:GV
 vM:Value
 vb:Nat
 val:List Int
def GG.q (G:GG):QS:=zK G.q0
def GG.rs (G:GG):List zAB:=zAQ G.kind G.ss
def GG.bl (G:GG):BL:=blW G.q G.kind
def zC1 (l:List Int):List Value:=l.map (fun x=>Value.int .i64 x)
structure GPure (G:GG):Prop where
 same:zEA G.st G.q0
 cl:G.q0.cl.length≤24
 nice:zCf G.q0
 read:zA1 G.q G.proof=.inr (G.kind,ze G.ss)
 tags:zFT G.q G.kind G.proof G.ss
 sbs:SBs G.ss
 play:G.g=G.mv.foldl (fun g m=>zAh G.rs G.bl g m) (zBO G.q G.kind G.ss)
 ok:∀ i,i < G.mv.length→zBv G.bl ((G.mv.take i).foldl (fun g m=>zAh G.rs G.bl g m) (zBO G.q G.kind G.ss)) ((G.mv.getD i 0:Nat):Int)=0
 run:Run G.q G.kind G.rs G.g G.bs
 stands:zHJ G.q G.kind G.g
 mlen:G.mv.length≤G.g.turn
 vlen:G.val.length=8
 vok:∀ v,1≤v→v≤8→G.val.getD (v - 1) 0=0∨G.val.getD (v - 1) 0=zBC G.g.vals v
structure GInv (Z:Nat→Prop) (w:World) (G:GG):Prop where
 fb:w.heap[G.gb]?=some (.cells #[.pointer (some ⟨G.db,0,none⟩),.pointer (some ⟨G.b1,0,none⟩),.pointer (some ⟨G.b2,0,none⟩),S G.proof,.int .i64 (G.kind:Int),G.vM,.int .i64 (G.g.turn:Int),.slice (some ⟨G.vb,0,none⟩) 8 8] 87 (0,0))
 db:w.heap[G.db]?=some (.cells #[G.gv.vB,G.gv.vR,.int .i64 (G.g.turn:Int),.int .i64 (G.g.vals.1:Int),.int .i64 (G.g.vals.2:Int)] 79 (0,0))
 firm:Firm Z (fun w=>ProgAt 0 w G.b1 G.q∧RefAt 0 w G.b2 (zW G.st)∧GRows w G.bl G.rs G.gv) w
 oM:w.ownsRow 0 3 1 G.vM G.mv.length (zu G.mv)
 val:w.heap[G.vb]?=some (.cells (zC1 G.val).toArray 3 (0,0))
 mvb:G.vM.ownBlock≠some G.vb
 pure:GPure G
def GG.mut (G:GG) (k:Nat):Prop:=k=G.gb∨k=G.db∨k=G.vb∨G.vM.ownBlock=some k
theorem GInv.game {Z:Nat→Prop} {w:World} {G:GG} (h:GInv Z w G):GameAt w G.db 79 G.bl G.rs G.g G.gv:=⟨h.db,Or.inr rfl,h.firm.now.2.2⟩
theorem GInv.keep {Z T:Nat→Prop} {w w':World} {G:GG} (h:GInv Z w G) (ho:Only T w w') (hZ:∀ k,Z k→¬ T k) (hm:∀ k,G.mut k→¬ T k):GInv Z w' G:=
 ⟨(ho.block _ (zB h.fb) (hm _ (Or.inl rfl))).trans h.fb,(ho.block _ (zB h.db) (hm _ (Or.inr (Or.inl rfl)))).trans h.db,h.firm.step ho hZ,zY h.oM ho (fun k hk=>hm k (Or.inr (Or.inr (Or.inr hk)))),(ho.block _ (zB h.val) (hm _ (Or.inr (Or.inr (Or.inl rfl))))).trans h.val,h.mvb,h.pure⟩
theorem GInv.grow {Z Z':Nat→Prop} {w:World} {G:GG} (h:GInv Z w G) (hz:∀ k,Z k→Z' k):GInv Z' w G:=⟨h.fb,h.db,h.firm.grow hz,h.oM,h.val,h.mvb,h.pure⟩
theorem GInv.lt {Z:Nat→Prop} {w:World} {G:GG} (h:GInv Z w G) {k:Nat} (hk:G.mut k):k < w.heap.size:=by
 rcases hk with rfl | rfl | rfl | hk
 ·exact zB h.fb
 ·exact zB h.db
 ·exact zB h.val
 ·exact (h.oM.lt k hk).2
theorem GInv.apart {Z:Nat→Prop} {w:World} {G:GG} (h:GInv Z w G):G.gb≠G.db∧G.gb≠G.vb∧G.db≠G.vb∧G.vM.ownBlock≠some G.gb∧G.vM.ownBlock≠some G.db:=by
 refine ⟨fun e=>?_,fun e=>?_,fun e=>?_,fun e=>?_,fun e=>?_⟩
 ·have:=h.db;rw [← e] at this;exact absurd (zc h.fb this) (by decide)
 ·have:=h.val;rw [← e] at this;exact absurd (zc h.fb this) (by decide)
 ·have:=h.val;rw [← e] at this;exact absurd (zc h.db this) (by decide)
 ·obtain ⟨c,hc⟩:=zr h.oM _ e;exact absurd (zc h.fb hc) (by decide)
 ·obtain ⟨c,hc⟩:=zr h.oM _ e;exact absurd (zc h.db hc) (by decide)
def FPairF (Z:Nat→Prop) (bw:Nat) (w:World) (text:List UInt8) (px pf:Option Addr):Prop:=
 (px=none∧pf=none)∨∃ b b' st q0,px=some ⟨b,0,none⟩∧pf=some ⟨b',0,none⟩∧Firm Z (fun w=>ProgAt (bw + 1) w b (zK q0)∧RefAt (bw + 1) w b' (zW st)) w∧zEA st q0∧q0.cl.length≤24∧zCf q0∧zAb text=.inr (zK q0)
theorem FPairF.now {Z:Nat→Prop} {bw:Nat} {w:World} {text:List UInt8} {px pf:Option Addr} (h:FPairF Z bw w text px pf):FPair (bw + 1) w px pf:=by
 rcases h with h | ⟨b,b',st,q0,h1,h2,h3,h4⟩
 ·exact Or.inl h
 ·exact Or.inr ⟨b,b',st,q0,h1,h2,h3.now.1,h3.now.2,h4.1,h4.2.1,h4.2.2.1⟩
theorem FPairF.step {Z T:Nat→Prop} {bw:Nat} {w w':World} {text:List UInt8} {px pf:Option Addr} (h:FPairF Z bw w text px pf) (ho:Only T w w') (hT:∀ k,Z k→¬ T k):FPairF Z bw w' text px pf:=by
 rcases h with h | ⟨b,b',st,q0,h1,h2,h3,h4⟩
 ·exact Or.inl h
 ·exact Or.inr ⟨b,b',st,q0,h1,h2,h3.step ho hT,h4⟩
theorem FPairF.grow {Z Z':Nat→Prop} {bw:Nat} {w:World} {text:List UInt8} {px pf:Option Addr} (h:FPairF Z bw w text px pf) (hz:∀ k,Z k→Z' k):FPairF Z' bw w text px pf:=by
 rcases h with h | ⟨b,b',st,q0,h1,h2,h3,h4⟩
 ·exact Or.inl h
 ·exact Or.inr ⟨b,b',st,q0,h1,h2,h3.grow hz,h4⟩
theorem FPairF.new {Z:Nat→Prop} {bw n:Nat} {w:World} {text:List UInt8} {px pf:Option Addr} (h:FTxt n w text px pf) (hn:bw < n) (hz:∀ k,n≤k→k < w.heap.size→Z k):FPairF Z bw w text px pf:=by
 rcases h with h | ⟨b,b',st,q0,h1,h2,h3,h4,h5,h6,h7⟩
 ·exact Or.inl h
 ·exact Or.inr ⟨b,b',st,q0,h1,h2,fun T w' ho hT=>⟨(zOQ h3 hz T w' ho hT).lo hn,(zQc h4 hz T w' ho hT).lo hn⟩,h5,h6.1,h6.2,h7⟩
structure DW where
 text:List UInt8
 proof:List UInt8
 px:Option Addr
 pf:Option Addr
 v4:Value
 v5:Value
 v6:Value
 h5s:List Value
 h6s:List Value
 gs:List GG
 Z:Nat→Prop
def zIi (G:GG):Value:=.pointer (some ⟨G.gb,0,none⟩)
structure DInv (bw:Nat) (w:World) (D:DW):Prop where
 wat:WAt w bw D.text D.px D.pf D.proof D.v4 D.v5 D.v6
 o4:w.ownsRow (bw + 1) 51 1 D.v4 D.gs.length (D.gs.map zIi)
 o5:w.ownsRow (bw + 1) 25 1 D.v5 D.h5s.length D.h5s
 o6:w.ownsRow (bw + 1) 45 1 D.v6 D.h6s.length D.h6s
 zin:∀ k,D.Z k→bw < k∧k < w.heap.size
 form:FPairF D.Z bw w D.text D.px D.pf
 ls:Firm D.Z (fun w=>LsAt w D.h5s) w
 lss:Firm D.Z (fun w=>LssAt w D.h6s) w
 n4:∀ k,D.v4.ownBlock=some k→¬ D.Z k
 n5:∀ k,D.v5.ownBlock=some k→¬ D.Z k
 n6:∀ k,D.v6.ownBlock=some k→¬ D.Z k
 games:∀ G∈D.gs,GInv D.Z w G
 gz:∀ G∈D.gs,∀ k,G.mut k→bw < k∧¬ D.Z k
 gap:∀ i j (hi:i < D.gs.length) (hj:j < D.gs.length),i≠j→∀ k,D.gs[i].mut k→¬ D.gs[j].mut k
def DW.free (D:DW) (bw k:Nat):Prop:=k≠bw∧D.v4.ownBlock≠some k∧D.v5.ownBlock≠some k∧D.v6.ownBlock≠some k
theorem DInv.frame {bw:Nat} {w w':World} {D:DW} {T:Nat→Prop} (h:DInv bw w D) (ho:Only T w w') (hT:∀ k,k < w.heap.size→T k→D.free bw k∧¬ D.Z k∧∀ G∈D.gs,¬ G.mut k):DInv bw w' D:=by
 have ho':Only (fun k=>T k∧k < w.heap.size) w w':=ho.mono (fun k hk ht=>⟨ht,hk⟩);have hz:∀ k,D.Z k→¬ (T k∧k < w.heap.size):=fun k hk ht=>(hT k ht.2 ht.1).2.1 hk
 exact ⟨(ho'.block bw (zB h.wat) (fun e=>(hT bw e.2 e.1).1.1 rfl)).trans h.wat,zY h.o4 ho' (fun k hk e=>(hT k e.2 e.1).1.2.1 hk),zY h.o5 ho' (fun k hk e=>(hT k e.2 e.1).1.2.2.1 hk),zY h.o6 ho' (fun k hk e=>(hT k e.2 e.1).1.2.2.2 hk),
  fun k hk=>⟨(h.zin k hk).1,Nat.lt_of_lt_of_le (h.zin k hk).2 ho.size⟩,h.form.step ho' hz,h.ls.step ho' hz,h.lss.step ho' hz,h.n4,h.n5,h.n6,fun G hG=>(h.games G hG).keep ho' hz (fun k hk e=>(hT k e.2 e.1).2.2 G hG hk),h.gz,h.gap⟩
theorem DInv.later {bw:Nat} {w w':World} {D:DW} (h:DInv bw w D) (hb:Below w.heap.size w w'):DInv bw w' D:=
 h.frame (T:=fun _=>False) (Only.of_below hb) (fun _ _ h=>h.elim)
structure Pair (st:RS) (q0:QS):Prop where
 same:zEA st q0
 cl:q0.cl.length≤24
 nice:zCf q0
theorem Pair.fq {st:RS} {q0:QS} (h:Pair st q0):FQ (zW st) (zK q0):=(zLP h.same h.nice h.cl).1
theorem Pair.fo {st:RS} {q0:QS} (h:Pair st q0):FOk (zW st):=(zLP h.same h.nice h.cl).2.1
theorem Pair.fw {st:RS} {q0:QS} (h:Pair st q0):FW (zW st):=(zLP h.same h.nice h.cl).2.2
theorem Pair.qb {st:RS} {q0:QS} (h:Pair st q0):QB (zK q0):=zQN h.nice h.cl
theorem Pair.qg {st:RS} {q0:QS} (h:Pair st q0):QGood (zK q0):=zQK h.fq h.qb
theorem GPure.pair {G:GG} (h:GPure G):Pair G.st G.q0:=⟨h.same,h.cl,h.nice⟩
theorem Pair.ends {st:RS} {q0:QS} (h:Pair st q0):(zW st).ends.length=(zG (zK q0).vars).length:=by rw [zCR h.same h.nice,zCV]
theorem zFH {lo b:Nat} {w:World} {F:zv} (h:RefAt lo w b F):∃ a c,w.cell? ⟨b,2,none⟩=some (.slice a F.ends.length c)∧b < w.heap.size:=by
 obtain ⟨_,vO,vE,vC,h2,h3,h4,h5⟩:=h;obtain ⟨a,c,rfl⟩:=zN h4;exact ⟨a,c,by rw [zC h2];rfl,zB h2⟩
theorem zEm {lo b k:Nat} {st:RS} {q0:QS} {w:World} (hP:Pair st q0) (hF:RefAt lo w b (zW st)) (hk:k < (zG (zK q0).vars).length) :
  Calls Tryz.prog 38 #[.pointer (some ⟨b,0,none⟩),.int .i64 k] w fun e w'=>∃ v,e=.returned v∧zHF w' v (zG (zK q0).vars)[k]∧Below w.heap.size w w'∧zKN w b v:=by
 have he:=hP.ends;have hv8:=zCp hP.nice;have hol:(zW st).order.length=(zK q0).vars.length:=(by rw [zDv hP.same,List.length_map]);have hk':k < (zBR (zK q0).vars).length:=(by rw [← zCV];exact hk);have hpos:0 < (zK q0).vars.length:=by
  have:=zGt (zK q0).vars;omega
 have hel:=zGt (zK q0).vars;rw [← zIo hP.same hP.nice k hk];refine zJa lo b k (zW st) w hF (by omega) ?_ ?_ (by omega) (by omega) (by rw [zCR hP.same hP.nice];omega)
 ·unfold zD3;rw [zCR hP.same hP.nice];exact zLd _ k hk'
 ·rw [zCR hP.same hP.nice,hol];exact zQY _ k hk'
theorem zHj {Z:Nat→Prop} {w:World} {b vb gO n c:Nat} {F:zv} {cs:Array Value} (h:Firm Z (fun w=>RefAt 0 w b F) w) (hv:¬ Z vb) (hvb:w.heap[vb]?=some (.cells cs 3 (0,0))) (h0:w.cell? ⟨b,0,none⟩=some (.slice (some ⟨gO,0,none⟩) n c)) (hpos:0 < F.order.length):gO≠vb:=by
 intro e;subst e;have hR':=h (·=gO) _ ((Only.refl (·=gO) w).setAt 0 (.bool true)) (fun k hk e=>hv (e ▸ hk));obtain ⟨_,vO,vE,vC,h2,h3,_⟩:=h.now;obtain ⟨_,vO',vE',vC',h2',h3',_⟩:=hR';have hne:b≠gO:=fun e=>by rw [e] at h2;exact absurd (zc h2 hvb) (by decide)
 rw [Below.heap_setCell _ _ _ _ hne,h2] at h2';have hvO:vO=.slice (some ⟨gO,0,none⟩) n c:=by
  rw [zC h2] at h0;injection h0
 have hvO':vO'=vO:=by
  injection h2' with h2';injection h2' with h2' _ _
  have:=congrArg (fun a=>a[0]?) h2'
  simpa using this.symm
 rw [hvO',hvO] at h3';rw [hvO] at h3;obtain ⟨g1,c1,e1,_,_,_,hc1⟩:=zS h3 hpos;obtain ⟨g2,c2,e2,_,_,_,hc2⟩:=zS h3' hpos;injection e1 with e1 _ _;injection e1 with e1;injection e1 with e1;injection e2 with e2 _ _;injection e2 with e2;injection e2 with e2;subst e1 e2;have a1:=hc1 0 _ (show (zu F.order)[0]?=some (.int .i64 (F.order[0]:Int)) by simp [zu,hpos]);have a2:=hc2 0 _ (show (zu F.order)[0]?=some (.int .i64 (F.order[0]:Int)) by simp [zu,hpos]);have hs:=zI hvb 0 (.bool true);rw [zC hvb] at a1;rw [zC hs] at a2;have hsz:0 < cs.size:=(Array.getElem?_eq_some_iff.1 a1).1;rw [Array.getElem?_setIfInBounds_self_of_lt hsz] at a2
 cases a2
theorem zO6 {st:RS} {q0:QS} (hP:Pair st q0) {b:List Nat} (hb:b∈zG (zK q0).vars) (kind:Nat) (hk:kind=1∨kind=2) (v:Nat) (hv:b.head?=some v):((zW st).all.testBit v == (kind == 2))=!zBq (zK q0) kind b:=by
 have hvb:v∈b:=List.mem_of_mem_head? (by rw [hv];simp);have hm:v∈(zG (zK q0).vars).flatten:=List.mem_flatten.2 ⟨b,hb,hvb⟩;rw [zAA] at hm;obtain ⟨x,hx,rfl⟩:=List.mem_map.1 hm;have h:=zK9 hP.qg hk hb hx hvb;rw [← h,zIm hP.same hP.nice x hx];rfl
theorem zIF {lo b k:Nat} {st:RS} {q0:QS} {w:World} (hP:Pair st q0) (hF:RefAt lo w b (zW st)) (hk:k < (zG (zK q0).vars).length) (kind:Nat) (hkd:kind=1∨kind=2) :
  Calls Tryz.prog 84 #[.pointer (some ⟨b,0,none⟩),.int .i64 k] w fun e w'=>∃ u,e=.returned (.bool u)∧(u == (kind == 2))=!zBq (zK q0) kind (zG (zK q0).vars)[k]∧Below w.heap.size w w':=by
 have hb:=List.getElem_mem hk;obtain ⟨hne,_⟩:=zB6 (zK q0).vars _ hb;have HU:Hid (∀ v,(zG (zK q0).vars)[k].head?=some v→((zW st).all.testBit v == (kind == 2))=!zBq (zK q0) kind (zG (zK q0).vars)[k]):=zF (fun v hv=>zO6 hP hb kind hkd v hv);have h9:(zW st).all < 512:=hP.fw.all;have hvr:∀ v∈(zG (zK q0).vars)[k],v≤8:=fun v hv=>((zE0 hP.qb 1).row ((zG (zK q0).vars)[k],_) (List.mem_map.2 ⟨_,hb,rfl⟩)).2 v hv |>.2
 go_enter Tryz.func84,Tryz.ntmps84
 go_wp2_with fail;refine (zEm hP hF hk).mono ?_;rintro e w1 ⟨v,rfl,hI,hb1,_⟩;have hF1:=hF.later hb1;have h1:w1.cell? ⟨b,1,none⟩=some (.int .i64 ((zW st).all:Int)):=by
  obtain ⟨_,vO,vE,vC,h2,_⟩:=hF1;rw [zC h2];rfl
 have lb:=zAm h1;have HW:Hid (∀ u,(u == (kind == 2))=!zBq (zK q0) kind (zG (zK q0).vars)[k]→∀ e w',e=Ending.returned (.bool u)→Below w.heap.size w w'→∃ u,e=.returned (.bool u)∧(u == (kind == 2))=!zBq (zK q0) kind (zG (zK q0).vars)[k]∧Below w.heap.size w w'):=zF (fun u hu e w' he hb=>⟨u,he,hu,hb⟩);obtain ⟨row,hrow⟩:∃ row,(zG (zK q0).vars)[k]=row:=⟨_,rfl⟩;rw [hrow] at hI hvr hne;have HRO:=zF hrow;clear hrow
 cases row with
 | nil=>exact absurd rfl hne
 | cons v r=>
  obtain ⟨ao,cap,rfl,hI2⟩:=hI;obtain ⟨g,off,rfl,hc⟩:=hI2 0 (by simp);have hc0:w1.cell? ⟨g,off,none⟩=some (.int .i64 (v:Int)):=hc;have lg:=zAm hc0;have hv8:=hvr v (by simp);clear hI2 hc;go_wp2_with fail;refine (zDW b (zW st).all v _ h9 hv8 h1).mono ?_;rintro e w2 ⟨rfl,hw2⟩;subst hw2;go_wp2_with fail;go_ret;exact zA HW _ (zA HU v (by rw [zA HRO];rfl)) _ _ rfl hb1
def zEw (q:QS) (kind:Nat):Nat→Nat→Nat
 | 0,k=>k
 | m + 1,k=>if zBq q kind ((zG q.vars).getD k []) then zEw q kind m (k + 1) else k
def zFw (q:QS) (kind k:Nat):Nat:=zEw q kind ((zG q.vars).length - k) k
theorem zPm (q:QS) (kind:Nat):∀ (m k t:Nat),k + m=(zG q.vars).length→k≤t→t≤(zG q.vars).length→(∀ j (hj:j < (zG q.vars).length),k≤j→j < t→zBq q kind (zG q.vars)[j]=true)→(∀ h:t < (zG q.vars).length,zBq q kind (zG q.vars)[t]=false)→zEw q kind m k=t:=by
 intro m
 induction m with
 | zero=>intro k t h1 h2 h3 _ _;show k=t;omega
 | succ m ih=>
  intro k t h1 h2 h3 h4 h5;have hk:k < (zG q.vars).length:=(by omega);have hg:(zG q.vars).getD k []=(zG q.vars)[k]:=(by simp [List.getD,hk]);rw [zEw,hg]
  by_cases e:k=t
  ·subst e;rw [h5 hk];rfl
  ·rw [h4 k hk (Nat.le_refl _) (by omega),if_pos rfl];exact ih (k + 1) t (by omega) (by omega) h3 (fun j hj a b=>h4 j hj (by omega) b) h5
theorem zL0 (q:QS) (kind k t:Nat) (h1:k≤t) (h2:t≤(zG q.vars).length) (h3:∀ j (hj:j < (zG q.vars).length),k≤j→j < t→zBq q kind (zG q.vars)[j]=true) (h4:∀ h:t < (zG q.vars).length,zBq q kind (zG q.vars)[t]=false):zFw q kind k=t:=
 zPm q kind _ k t (by omega) h1 h2 h3 h4
theorem zLB {gb b2 kind k:Nat} {st:RS} {q0:QS} {w:World} {cells:Array Value} (hP:Pair st q0) (hg:w.heap[gb]?=some (.cells cells 87 (0,0))) (hg2:cells[2]?=some (.pointer (some ⟨b2,0,none⟩))) (hg4:cells[4]?=some (.int .i64 (kind:Int))) (hF:RefAt 0 w b2 (zW st)) (hkd:kind=1∨kind=2) (hk:k≤(zG (zK q0).vars).length) :
  Calls Tryz.prog 54 #[.pointer (some ⟨gb,0,none⟩),.int .i64 k] w fun e w'=>e=.returned (.int .i64 (zFw (zK q0) kind k:Nat))∧Below w.heap.size w w':=by
 have lg:=zB hg;have c2:w.cell? ⟨gb,2,none⟩=some (.pointer (some ⟨b2,0,none⟩)):=(by rw [zC hg];exact hg2);obtain ⟨aE,cE,hE,lb⟩:=zFH hF;rw [hP.ends] at hE;have hn8:=zDR (zK q0).vars (zCp hP.nice)
 go_enter Tryz.func54,Tryz.ntmps54
 go_wp2_with fail
 go_loopg [1] ((zG (zK q0).vars).length - k) (fun m i wx=>∃ (j:Nat),i=.int .i64 j∧j + m=(zG (zK q0).vars).length∧zFw (zK q0) kind k=zEw (zK q0) kind m j∧Below w.heap.size w wx)
 case atStart=>exact ⟨k,rfl,by omega,rfl,Below.refl _ _⟩
 case round=>
  obtain ⟨j,rfl,hjm,hnx,hb⟩:=hrel;have HNX:=zF hnx;clear hnx;have hgr:=(hb.block _ lg).trans hg;have d2:wr.cell? ⟨gb,2,none⟩=some (.pointer (some ⟨b2,0,none⟩)):=(by rw [zC hgr];exact hg2);have d4:wr.cell? ⟨gb,4,none⟩=some (.int .i64 (kind:Int)):=(by rw [zC hgr];exact hg4);have lgr:=zB hgr
  by_cases hlt:j < (zG (zK q0).vars).length
  ·obtain ⟨m,rfl⟩:∃ m,gk=m + 1:=⟨gk - 1,by omega⟩;have hgd:(zG (zK q0).vars).getD j []=(zG (zK q0).vars)[j]:=(by simp [List.getD,hlt]);have HST:Hid (zEw (zK q0) kind (m + 1) j=if zBq (zK q0) kind (zG (zK q0).vars)[j] then zEw (zK q0) kind m (j + 1) else j):=zF (by rw [zEw,hgd]);clear hgd;go_wp2_with fail;refine (zIF hP (hF.later hb) hlt kind hkd).mono ?_;rintro e w1 ⟨u,rfl,hu,hb1⟩;have hB1:=hb.trans (hb1.mono hb.size);have hg1:=(hb1.block _ lgr).trans hgr;have e4:w1.cell? ⟨gb,4,none⟩=some (.int .i64 (kind:Int)):=(by rw [zC hg1];exact hg4);have lg1:=zB hg1
   cases hw:zBq (zK q0) kind (zG (zK q0).vars)[j] with
   | true=>
    have HF2:Hid (zFw (zK q0) kind k=zEw (zK q0) kind m (j + 1)):=zF (by rw [zA HNX,zA HST,hw];rfl);rw [hw] at hu
    rcases hkd with rfl | rfl<;>cases u<;>simp at hu
    all_goals
     go_wp2_with fail
     go_roundg m
     case measure=>omega
     case rel=>exact ⟨j + 1,by go_num,by omega,zA HF2,hB1⟩
   | false=>
    have HF2:Hid (zFw (zK q0) kind k=j):=zF (by rw [zA HNX,zA HST,hw];rfl);rw [hw] at hu
    rcases hkd with rfl | rfl<;>cases u<;>simp at hu
    all_goals
     go_wp2_with fail;go_ret;exact ⟨by rw [zA HF2];rfl,hB1⟩
  ·have hj:j=(zG (zK q0).vars).length:=(by omega);have hm0:gk=0:=(by omega);have HF2:Hid (zFw (zK q0) kind k=(zG (zK q0).vars).length):=zF (by rw [zA HNX,hm0];exact hj);clear hm0;subst hj;go_wp2_with fail;go_ret;exact ⟨by rw [zA HF2];rfl,hb⟩
def zEK (l:List Nat):Nat:=l.foldl (fun a v=>a ||| 2 ^ v) 0
def zDs (c:Nat × Nat) (l:List Nat):Nat:=l.foldl (fun a v=>if zBC c v=1 then a ||| 2 ^ v else a) 0
def zEU (c:Nat × Nat) (val:List Int) (l:List Nat):List Int:=l.foldl (fun a v=>a.set (v - 1) (zBC c v)) val
theorem zNa (l:List Nat) (v:Nat):zEK (l ++ [v])=zEK l ||| 2 ^ v:=by unfold zEK;rw [List.foldl_append];rfl
theorem zNL (c:Nat × Nat) (l:List Nat) (v:Nat):zDs c (l ++ [v])=if zBC c v=1 then zDs c l ||| 2 ^ v else zDs c l:=by unfold zDs;rw [List.foldl_append];rfl
theorem zPA (c:Nat × Nat) (val:List Int) (l:List Nat) (v:Nat):zEU c val (l ++ [v])=(zEU c val l).set (v - 1) (zBC c v):=by unfold zEU;rw [List.foldl_append];rfl
theorem zPg (l:List Nat):∀ a v,(l.foldl (fun a v=>a ||| 2 ^ v) a).testBit v=(a.testBit v || decide (v∈l)):=by
 induction l with
 | nil=>intro a v;simp
 | cons u l ih=>
  intro a v;rw [List.foldl_cons,ih,Nat.testBit_or,zDc]
  by_cases e:u=v
  ·subst e;simp
  ·have:(v∈u :: l)↔v∈l:=⟨fun h=>(List.mem_cons.1 h).elim (fun h=>(e h.symm).elim) id,List.mem_cons_of_mem _⟩
   have e2:(u == v)=false:=(by simpa using e);simp [e2,this]
theorem zQ6 (l:List Nat) (v:Nat):(zEK l).testBit v=decide (v∈l):=by unfold zEK;rw [zPg];simp
theorem zPS (c:Nat × Nat) (l:List Nat):∀ a v,(l.foldl (fun a v=>if zBC c v=1 then a ||| 2 ^ v else a) a).testBit v=(a.testBit v || (decide (v∈l) && decide (zBC c v=1))):=by
 induction l with
 | nil=>intro a v;simp
 | cons u l ih=>
  intro a v;rw [List.foldl_cons,ih]
  by_cases e:u=v
  ·subst e
   by_cases h:zBC c u=1
   ·rw [if_pos h,Nat.testBit_or,zDc];simp [h]
   ·rw [if_neg h];simp [h]
  ·have:(v∈u :: l)↔v∈l:=⟨fun h=>(List.mem_cons.1 h).elim (fun h=>(e h.symm).elim) id,List.mem_cons_of_mem _⟩
   have e2:(u == v)=false:=by simpa using e
   split
   ·rw [Nat.testBit_or,zDc];simp [e2,this]
   ·simp [this]
theorem zQV (c:Nat × Nat) (l:List Nat) (v:Nat):(zDs c l).testBit v=(decide (v∈l) && decide (zBC c v=1)):=by unfold zDs;rw [zPS];simp
theorem zJZ (a v:Nat) (ha:a < 512) (hv:v≤8):a ||| 2 ^ v < 512:=by
 refine Nat.or_lt_two_pow (n:=9) ha ?_;exact Nat.pow_lt_pow_right (by decide) (by omega)
theorem zK0 (l:List Nat) (h:∀ v∈l,v≤8):zEK l < 512:=by
 unfold zEK
 suffices hh:∀ a,a < 512→l.foldl (fun a v=>a ||| 2 ^ v) a < 512 from hh 0 (by decide)
 induction l with
 | nil=>intro a ha;exact ha
 | cons u l ih=>intro a ha;exact ih (fun v hv=>h v (List.mem_cons_of_mem _ hv)) _ (zJZ a u ha (h u (by simp)))
theorem zK6 (c:Nat × Nat) (l:List Nat) (h:∀ v∈l,v≤8):zDs c l < 512:=by
 unfold zDs
 suffices hh:∀ a,a < 512→l.foldl (fun a v=>if zBC c v=1 then a ||| 2 ^ v else a) a < 512 from hh 0 (by decide)
 induction l with
 | nil=>intro a ha;exact ha
 | cons u l ih=>
  intro a ha;rw [List.foldl_cons];refine ih (fun v hv=>h v (List.mem_cons_of_mem _ hv)) _ ?_
  split
  ·exact zJZ a u ha (h u (by simp))
  ·exact ha
theorem zKs (c:Nat × Nat) (l:List Nat):∀ val,(zEU c val l).length=val.length:=by
 unfold zEU
 induction l with
 | nil=>intro val;rfl
 | cons u l ih=>intro val;rw [List.foldl_cons,ih];simp
theorem zNw (c:Nat × Nat) (l:List Nat) (h:∀ v∈l,1≤v∧v≤8) (v:Nat) (h1:1≤v) (h8:v≤8):∀ val:List Int,val.length=8→(zEU c val l).getD (v - 1) 0=if v∈l then zBC c v else val.getD (v - 1) 0:=by
 unfold zEU
 induction l with
 | nil=>intro val _;simp
 | cons u l ih=>
  intro val hl;rw [List.foldl_cons,ih (fun v hv=>h v (List.mem_cons_of_mem _ hv)) _ (by simpa using hl)];have hu:=h u (by simp)
  by_cases hv:v∈l
  ·rw [if_pos hv,if_pos (List.mem_cons_of_mem _ hv)]
  ·rw [if_neg hv]
   by_cases e:v=u
   ·subst e;rw [if_pos (by simp),List.getD,List.getElem?_set_self (by omega)];rfl
   ·rw [if_neg (by simp [e,hv]),List.getD,List.getElem?_set_ne (by omega)];rfl
def zFP (c:Nat × Nat):List Int:=(List.range 8).map (fun i=>zBC c (i + 1))
theorem zIy (c:Nat × Nat) (v:Nat) (h1:1≤v) (h8:v≤8):(zFP c).getD (v - 1) 0=zBC c v:=by
 unfold zFP;rw [List.getD,List.getElem?_map,List.getElem?_range (by omega)];simp [show v - 1 + 1=v from by omega]
theorem zOS {a b:List Int} (ha:a.length=8) (hb:b.length=8) (h:∀ v,1≤v→v≤8→a.getD (v - 1) 0=b.getD (v - 1) 0):a=b:=by
 apply List.ext_getElem (by omega)
 intro i h1 h2
 have:=h (i + 1) (by omega) (by omega)
 rw [Nat.add_sub_cancel,List.getD,List.getD,List.getElem?_eq_getElem h1,List.getElem?_eq_getElem h2] at this;exact this
theorem zRU {q:QS} (hq:QGood q) {kind:Nat} {rs:List zAB} {g:GS} {bs:List Bool} (h:Run q kind rs g bs) {val:List Int} (hl:val.length=8) (hok:∀ v,1≤v→v≤8→val.getD (v - 1) 0=0∨val.getD (v - 1) 0=zBC g.vals v):zEU g.vals val ((q.vars.map (·.1)).take bs.length)=zFP g.vals:=by
 refine zOS (by rw [zKs];exact hl) (by simp [zFP]) (fun v h1 h8=>?_);rw [zNw _ _ (fun v hv=>hq.name (List.mem_of_mem_take hv)) v h1 h8 val hl,zIy _ v h1 h8]
 split
 ·rfl
 ·next hn=>
  have h0:zBC g.vals v=0:=zID hq h (fun j hj hjb e=>hn (by
   rw [List.mem_take_iff_getElem];exact ⟨j,by simp;omega,by simpa using e⟩))
  rcases hok v h1 h8 with e | e
  ·rw [e,h0]
  ·exact e
theorem zPN {q:QS} (hq:QGood q) {kind:Nat} {rs:List zAB} {g:GS} {bs:List Bool} (h:Run q kind rs g bs) (ht:g.turn=(zG q.vars).length):zDs g.vals (q.vars.map (·.1))=g.vals.1:=by
 have hl:bs.length=q.vars.length:=by rw [h.len,ht,zIG,zAA,List.length_map]
 apply Nat.eq_of_testBit_eq
 intro v;rw [zQV]
 cases hv:g.vals.1.testBit v with
 | true=>
  obtain ⟨j,hj,hb,e1,e2⟩:=(zK1 hq h true v).1 hv;have hval:=zGO hq h hj hb;rw [e2,e1] at hval;rw [hval,Bool.and_eq_true];exact ⟨decide_eq_true (by rw [← e1];exact List.mem_map_of_mem (List.getElem_mem hj)),by decide⟩
 | false=>
  cases hc:(decide (v∈q.vars.map (·.1)) && decide (zBC g.vals v=1)) with
  | false=>rfl
  | true=>
   rw [Bool.and_eq_true] at hc;have h1:zBC g.vals v=1:=(by simpa using hc.2);unfold zBC at h1
   split at h1
   ·omega
   ·split at h1
    ·next hh=>rw [show L g.vals true v=g.vals.1.testBit v from rfl,hv] at hh;cases hh
    ·omega
theorem zO7 (vs:List Nat):∀ bs:List Bool,(zBQ vs bs).1 < 512∧(zBQ vs bs).2 < 512:=by
 intro bs
 induction bs with
 | nil=>exact zBE
 | cons b bs ih=>exact zAZ _ _ ih.1 ih.2
theorem Run.lt {q:QS} {kind:Nat} {rs:List zAB} {g:GS} {bs:List Bool} (h:Run q kind rs g bs):g.vals.1 < 512∧g.vals.2 < 512:=by rw [h.vals];exact zO7 _ _
theorem zRj (n v:Nat) (hn:n < 512) (hv:v≤8):bits .or .i64 (n:Int) (wrap64 (2 ^ v))=((n ||| 2 ^ v:Nat):Int):=zF1 n hn v (by omega) (by omega)
def zBr (q:QS) (p:Nat):List Nat:=(q.vars.map (·.1)).take p
theorem zOu {q:QS} (t i:Nat) (h:t < (zG q.vars).length) (hi:i < (zG q.vars)[t].length):zBr q (zCh (zG q.vars) t + i + 1)=zBr q (zCh (zG q.vars) t + i) ++ [(zG q.vars)[t][i]]:=by
 have hlt:=zFi t i h hi;unfold zBr;rw [List.take_succ_eq_append_getElem (by simpa using hlt)]
 congr 1
 have:=zGZ t i h hi
 rw [zFd _ hlt] at this
 simpa using this
theorem zGL {q:QS} (hq:QGood q) (p:Nat):∀ v∈zBr q p,1≤v∧v≤8:=fun _ hv=>hq.name (List.mem_of_mem_take hv)
theorem zPj (bs:List (List Nat)) (a b:Nat) (h:a≤b):zCh bs a≤zCh bs b:=by
 unfold zCh;have e:bs.take b=bs.take a ++ (bs.take b).drop a:=by
  have:=List.take_append_drop a (bs.take b)
  rw [List.take_take,Nat.min_eq_left h] at this;exact this.symm
 rw [e,List.flatten_append]
 simp
theorem zCj {w w':World} {k o:Nat} (h:w'.heap[k]?=w.heap[k]?):w'.cell? ⟨k,o,none⟩=w.cell? ⟨k,o,none⟩:=by
 unfold World.cell?;rw [h]
theorem zHE (l:List Int) (u:Nat) (y:Int):(zC1 (l.set u y)).toArray=(zC1 l).toArray.setIfInBounds u (.int .i64 y):=by
 unfold zC1;rw [List.map_set]
 simp
theorem zRb (a v:Nat) (ha:a < 512) (hv:v≤8):(bits .and .i64 ((a:Int) / 2 ^ v) 1 == 0)=!a.testBit v:=by
 rw [zHz a v ha hv];cases a.testBit v<;>rfl
structure zIc (bw:Nat) (G:GG) (text:List UInt8) (px pf:Option Addr) (proof:List UInt8) (v4 v5 v6:Value) (h5s:List Value) (w:World) (e:Ending) (w':World):Prop where
 ret:e=.returned (.bool true)
 only:Only (fun k=>k=G.vb∨k=bw∨v5.ownBlock=some k) w w'
 val:w'.heap[G.vb]?=some (.cells (zC1 (zFP G.g.vals)).toArray 3 (0,0))
 at_:∃ kL v5',w.heap.size≤kL∧w'.heap[kL]?=some (.cells (zGx 8 (-10 - (h5s.length:Int))) 3 (0,0))∧WAt w' bw text px pf proof v4 v5' v6∧w'.ownsRow (bw + 1) 25 1 v5' (h5s.length + 1) (h5s ++ [.slice (some ⟨kL,0,none⟩) 8 8])∧(v5'.ownBlock=v5.ownBlock∨∃ k,v5'.ownBlock=some k∧w.heap.size≤k)
theorem zNn (Z:Nat→Prop) (bw:Nat) (G:GG) (text:List UInt8) (px pf:Option Addr) (proof:List UInt8) (v4 v5 v6:Value) (h5s:List Value) (w:World) (hG:GInv Z w G) (hw:WAt w bw text px pf proof v4 v5 v6) (h5:w.ownsRow (bw + 1) 25 1 v5 h5s.length h5s) (hn5:h5s.length≤1073741824) (hzv:¬ Z G.vb) (hzb:¬ Z bw) (hz5:∀ k,v5.ownBlock=some k→¬ Z k) :
  Calls Tryz.prog 21 #[.pointer (some ⟨G.gb,0,none⟩),.pointer (some ⟨bw,0,none⟩)] w fun e w'=>zIc bw G text px pf proof v4 v5 v6 h5s w e w':=by
 have hPr:=hG.pure.pair;have hQg:=hPr.qg;have lg:=zB hG.fb;have lbw:=zB hw;obtain ⟨hgd,hgv,hdv,hM1,hM2⟩:=hG.apart;have hrun:Run (zK G.q0) G.kind G.rs G.g G.bs:=hG.pure.run;have hvl:=hrun.lt;have g0:w.cell? ⟨G.gb,0,none⟩=some (.pointer (some ⟨G.db,0,none⟩)):=zE hG.fb rfl
 go_enter Tryz.func21,Tryz.ntmps21
 go_wp2_with fail;refine (zJT G.db _ G.bl G.rs G.g G.gv w hG.game).mono ?_;rintro e w1 ⟨rfl,hw1⟩;rw [hw1];clear hw1 w1;go_wp2_with fail;refine (zHt G.db _ G.bl G.rs G.g G.gv _ hG.game hvl).mono ?_;rintro e w1 ⟨kL,rfl,hkL,hL,hb1⟩;have hfb1:=(hb1.block _ lg).trans hG.fb;have hF1:=hG.firm.now.2.1.later hb1;have q2:w1.cell? ⟨G.gb,2,none⟩=some (.pointer (some ⟨G.b2,0,none⟩)):=zE hfb1 rfl;have q6:w1.cell? ⟨G.gb,6,none⟩=some (.int .i64 (G.g.turn:Int)):=zE hfb1 rfl;have lg1:=zB hfb1;obtain ⟨aE,cE,hE,lb⟩:=zFH hF1;rw [hPr.ends] at hE;go_wp2_with fail;have HS:=zF hG;have htl:=hrun.turn;have hn8:=zDR (zK G.q0).vars (zCp hPr.nice);have hne:kL≠G.vb:=(by have:=zB hG.val;omega);have hF:Hid (∀ wx,Only (·=G.vb) w wx→RefAt 0 wx G.b2 (zW G.st)∧wx.heap[G.gb]?=some (.cells #[.pointer (some ⟨G.db,0,none⟩),.pointer (some ⟨G.b1,0,none⟩),.pointer (some ⟨G.b2,0,none⟩),S G.proof,.int .i64 (G.kind:Int),G.vM,.int .i64 (G.g.turn:Int),.slice (some ⟨G.vb,0,none⟩) 8 8] 87 (0,0))):=zF (fun wx ho=>⟨(hG.firm _ wx ho (fun k hk e=>hzv (e ▸ hk))).2.1,(ho.block _ lg (fun e=>hgv e)).trans hG.fb⟩);have ho1:Only (·=G.vb) w w1:=Only.of_below hb1;have hval1:=(hb1.block _ (zB hG.val)).trans hG.val;clear q2 q6 hE hfb1 hF1 g0
 go_loopg [8,9,10] (G.g.turn) (fun m told tru kk wx=>∃ (k:Nat),kk=.int .i64 k∧k + m=G.g.turn∧told=.int .i64 (zEK (zBr (zK G.q0) (zCh (zG (zK G.q0).vars) k)):Nat)∧tru=.int .i64 (zDs G.g.vals (zBr (zK G.q0) (zCh (zG (zK G.q0).vars) k)):Nat)∧
  wx.heap[G.vb]?=some (.cells (zC1 (zEU G.g.vals G.val (zBr (zK G.q0) (zCh (zG (zK G.q0).vars) k)))).toArray 3 (0,0))∧wx.heap[kL]?=some (.cells (zCo G.g.vals 8).toArray 3 (0,0))∧Only (·=G.vb) w wx)
 case atStart=>exact ⟨0,rfl,by omega,rfl,rfl,hval1,hL,ho1⟩
 case round=>
  obtain ⟨k,rfl,hkm,rfl,rfl,hval,hLr,hor⟩:=hrel;obtain ⟨hFr,hfbr⟩:=zA hF wr hor;have d2:wr.cell? ⟨G.gb,2,none⟩=some (.pointer (some ⟨G.b2,0,none⟩)):=zE hfbr rfl;have lgr:=zB hfbr
  by_cases hlt:k < G.g.turn
  ·have hkn:k < (zG (zK G.q0).vars).length:=(by omega);go_wp2_with fail;refine (zEm hPr hFr hkn).mono ?_;rintro e w2 ⟨vX,rfl,hI,hb2,hIO⟩;have hne2:=(zB6 (zK G.q0).vars _ (List.getElem_mem hkn)).1;have hgO:∀ ad n c,vX=.slice (some ad) n c→ad.block≠G.vb:=fun ad n c e=>by
    obtain ⟨gO,n0,c0,h0,h1⟩:=hIO;rw [h1 ad n c e];exact zHj (Z:=Z) (fun T w' ho hT=>((hG.firm.step hor (fun k hk e=>hzv (e ▸ hk))) T w' ho hT).2.1) hzv hval h0 (by rw [zDv hPr.same];have:=zFi k 0 hkn (List.length_pos_iff.2 hne2);simp;omega)
   have hnx:∀ i (hi:i < (zG (zK G.q0).vars)[k].length),zBr (zK G.q0) (zCh (zG (zK G.q0).vars) k + i + 1)=zBr (zK G.q0) (zCh (zG (zK G.q0).vars) k + i) ++ [(zG (zK G.q0).vars)[k][i]]:=fun i hi=>zOu k i hkn hi
   have hos:zCh (zG (zK G.q0).vars) (k + 1)=zCh (zG (zK G.q0).vars) k + (zG (zK G.q0).vars)[k].length:=zHP _ k hkn;have hpm:∀ i (hi:i < (zG (zK G.q0).vars)[k].length),zBC G.g.vals (zG (zK G.q0).vars)[k][i]=1∨zBC G.g.vals (zG (zK G.q0).vars)[k][i]=-1:=fun i hi=>by
    have hlt2:=zFi k i hkn hi;have hx:((zK G.q0).vars[zCh (zG (zK G.q0).vars) k + i]'hlt2).1=(zG (zK G.q0).vars)[k][i]:=(by rw [← zFd _ hlt2];exact zGZ k i hkn hi);rw [← hx,zGO hQg hrun hlt2 (by rw [hrun.len];have:=zPj (zG (zK G.q0).vars) (k + 1) G.g.turn (by omega);omega)]
    split
    ·exact Or.inl rfl
    ·exact Or.inr rfl
   have hr8:∀ v∈(zG (zK G.q0).vars)[k],1≤v∧v≤8:=fun v hv=>((zE0 hPr.qb 1).row ((zG (zK G.q0).vars)[k],_) (List.mem_map.2 ⟨_,List.getElem_mem hkn,rfl⟩)).2 v hv
   have hrl:=zEg _ (zCp hPr.nice) _ (List.getElem_mem hkn);generalize (zG (zK G.q0).vars)[k]=row at *;generalize zCh (zG (zK G.q0).vars) k=p at *;have HOS:=zF hos;have HNX:=zF hnx;have HPM:=zF hpm;have HR8:=zF hr8;clear hos hnx hpm hr8;obtain ⟨ao,cap,rfl,hcI⟩:=hI;obtain ⟨gX,off,rfl,_⟩:=hcI 0 (List.length_pos_iff.2 hne2);have hgX:gX≠G.vb:=hgO _ _ _ rfl;have hcI2:∀ i (hi:i < row.length),w2.cell? ⟨gX,off + i,none⟩=some (.int .i64 (row[i]:Int)):=fun i hi=>by
    obtain ⟨g',o',e1,e2⟩:=hcI i hi;injection e1 with e1;injection e1 with e1 e3;subst e1 e3;exact e2
   have ho2:=hor.trans (Only.of_below (T:=(·=G.vb)) hb2);have hval2:=zH hb2 hval;have hL2:=zH hb2 hLr;clear hcI hgO hIO;have HG:=zF hG;go_wp2_with fail;obtain ⟨wo,rfl⟩:∃ wo,wo=wr:=⟨_,rfl⟩;obtain ⟨gko,rfl⟩:∃ x,x=gk:=⟨_,rfl⟩
   go_loopg [8,9,12] (row.length) (fun m told tru ii wx=>∃ (i:Nat),ii=.int .i64 i∧i + m=row.length∧told=.int .i64 (zEK (zBr (zK G.q0) (p + i)):Nat)∧tru=.int .i64 (zDs G.g.vals (zBr (zK G.q0) (p + i)):Nat)∧
    wx.heap[G.vb]?=some (.cells (zC1 (zEU G.g.vals G.val (zBr (zK G.q0) (p + i)))).toArray 3 (0,0))∧wx.heap[kL]?=some (.cells (zCo G.g.vals 8).toArray 3 (0,0))∧Only (·=G.vb) w wx∧∀ i (hi:i < row.length),wx.cell? ⟨gX,off + i,none⟩=some (.int .i64 (row[i]:Int)))
   case atStart=>exact ⟨0,rfl,by omega,rfl,rfl,hval2,hL2,ho2,hcI2⟩
   case round=>
    obtain ⟨i,rfl,him,rfl,rfl,hval3,hL3,ho3,hc3⟩:=hrel;obtain ⟨hF3,hfb3⟩:=zA hF wr ho3;have lg3:=zB hfb3;have lv3:=zB hval3;have lL3:=zB hL3
    by_cases hil:i < row.length
    ·have hv18:=zA HR8 _ (List.getElem_mem hil);have hnx:=zA HNX i hil;have hpm:=zA HPM i hil;have hri:=hc3 i hil;generalize row[i]=v at hv18 hnx hpm hri;obtain ⟨u,rfl⟩:∃ u,v=u + 1:=⟨v - 1,by omega⟩;have hu8:u < 8:=(by omega);have hri':wr.cell? ⟨gX,off + i,none⟩=some (.int .i64 ((u:Int) + 1)):=(by rw [hri];rfl);have hlu:wr.cell? ⟨kL,u,none⟩=some (.int .i64 (zBC G.g.vals (u + 1))):=(by rw [zC hL3,zD0 _ _ _ hu8,if_pos hu8]);have d7:wr.cell? ⟨G.gb,7,none⟩=some (.slice (some ⟨G.vb,0,none⟩) 8 8):=zE hfb3 rfl;have hvB:=zNw G.g.vals (zBr (zK G.q0) (p + i)) (zGL hQg _) (u + 1) (by omega) (by omega) G.val hG.pure.vlen;have hvk:=hG.pure.vok (u + 1) (by omega) (by omega);have hx0:(zEU G.g.vals G.val (zBr (zK G.q0) (p + i))).getD u 0=0∨(zEU G.g.vals G.val (zBr (zK G.q0) (p + i))).getD u 0=zBC G.g.vals (u + 1):=by
      rw [Nat.add_sub_cancel] at hvB hvk;rw [hvB]
      split
      ·exact Or.inr rfl
      ·exact hvk
     have hvl8:(zEU G.g.vals G.val (zBr (zK G.q0) (p + i))).length=8:=(by rw [zKs];exact hG.pure.vlen);have hvu:wr.cell? ⟨G.vb,u,none⟩=some (.int .i64 ((zEU G.g.vals G.val (zBr (zK G.q0) (p + i))).getD u 0)):=by
      rw [zC hval3];simp [zC1,List.getD,show u < (zEU G.g.vals G.val (zBr (zK G.q0) (p + i))).length by omega]
     have ht9:=zK0 (zBr (zK G.q0) (p + i)) (fun v hv=>(zGL hQg _ v hv).2);have hr9:=zK6 G.g.vals (zBr (zK G.q0) (p + i)) (fun v hv=>(zGL hQg _ v hv).2);have hT1:=zRj _ (u + 1) ht9 (by omega);have hT2:=zRj _ (u + 1) hr9 (by omega);have HTS:Hid (zEK (zBr (zK G.q0) (p + i + 1))=zEK (zBr (zK G.q0) (p + i)) ||| 2 ^ (u + 1)):=zF (by rw [hnx,zNa]);have HRS:=zF (zNL G.g.vals (zBr (zK G.q0) (p + i)) (u + 1));have HVS:Hid (zEU G.g.vals G.val (zBr (zK G.q0) (p + i + 1))=(zEU G.g.vals G.val (zBr (zK G.q0) (p + i))).set u (zBC G.g.vals (u + 1))):=zF (by rw [hnx,zPA];rfl);have HNI:=zF hnx;have HC3:=zF hc3;clear hvB hvk hri hnx hc3 hcI2;generalize zEK (zBr (zK G.q0) (p + i))=tb at *;generalize zDs G.g.vals (zBr (zK G.q0) (p + i))=rb at *;generalize zEU G.g.vals G.val (zBr (zK G.q0) (p + i))=vB at *;generalize hx:vB.getD u 0=x at *;generalize hy:zBC G.g.vals (u + 1)=y at *;have HX:=zF hx;have HY:=zF hy;clear hx hy;have lX:=zAm hri';have z0:=zD hval3 u;have HRS2:Hid (∀ b,(y == 1)=b→zDs G.g.vals (zBr (zK G.q0) (p + i + 1))=if b then rb ||| 2 ^ (u + 1) else rb):=zF (fun b hb=>by
      rw [zA HNI,zA HRS]
      cases b with
      | true=>rw [if_pos (by simpa using hb)];rfl
      | false=>rw [if_neg (by simpa using hb)];rfl)
     clear HRS HNI;have hcases:((y != 1)=false∧(y == 1)=true∨(y != 1)=true∧(y != -1)=false∧(y == 1)=false)∧((x != 0)=false∨(x != 0)=true∧(x != y)=false):=by
      rcases hpm with rfl | rfl<;>rcases hx0 with rfl | rfl<;>simp
     clear hpm hx0;obtain ⟨hc1,hc2⟩:=hcases
     rcases hc1 with ⟨hy1,hy2⟩ | ⟨hy1,hy3,hy2⟩<;>rcases hc2 with hx1 | ⟨hx1,hx2⟩
     all_goals
      go_wp2_with fail
      go_quiet (fail)
      have b5:Below wr.heap.size wr (wr.drewN nq):=below_drewN (Below.refl _ _) nq;have hval5:=(b5.block _ lv3).trans hval3;have hL5:=(b5.block _ lL3).trans hL3;have ho5:=ho3.trans (Only.of_below (T:=(·=G.vb)) b5);have lg5:=Nat.lt_of_lt_of_le lg3 b5.size;have r5:(wr.drewN nq).cell? ⟨gX,off + i,none⟩=_:=(b5.cell (p:=⟨gX,off + i,none⟩) lX).trans hri';have e7:(wr.drewN nq).cell? ⟨G.gb,7,none⟩=_:=(b5.cell (p:=⟨G.gb,7,none⟩) lg3).trans d7;have v5u:(wr.drewN nq).cell? ⟨G.vb,u,none⟩=_:=(b5.cell (p:=⟨G.vb,u,none⟩) lv3).trans hvu;have HC5:Hid (∀ i (hi:i < row.length),(wr.drewN nq).cell? ⟨gX,off + i,none⟩=some (.int .i64 (row[i]:Int))):=zF (fun i hi=>by rw [b5.cell (p:=⟨gX,off + i,none⟩) (zAm (zA HC3 i hi))];exact zA HC3 i hi);clear hval3 hL3 ho3 hri' d7 hvu HC3 z0 lX hlu;generalize wr.drewN nq=w5 at *;have z5:=zD hval5 u;have l5:=zB hval5;have lX:=zAm r5;go_wp2_with fail
      go_region
      have hval6:(w5.setCell ⟨G.vb,u,none⟩ (.int .i64 y)).drew.heap[G.vb]?=_:=zI hval5 u (.int .i64 y);have hL6:(w5.setCell ⟨G.vb,u,none⟩ (.int .i64 y)).drew.heap[kL]?=_:=(Below.heap_setCell _ _ _ _ hne).trans hL5;have ho6:Only (·=G.vb) w (w5.setCell ⟨G.vb,u,none⟩ (.int .i64 y)).drew:=(ho5.setAt u _).drew;have HC6:Hid (∀ i (hi:i < row.length),(w5.setCell ⟨G.vb,u,none⟩ (.int .i64 y)).drew.cell? ⟨gX,off + i,none⟩=some (.int .i64 (row[i]:Int))):=zF (fun i hi=>by
       have h:=zA HC5 i hi;have hb:=Below.heap_setCell w5 ⟨G.vb,u,none⟩ (.int .i64 y) gX hgX;show (w5.setCell ⟨G.vb,u,none⟩ (.int .i64 y)).cell? ⟨gX,off + i,none⟩=_;rw [zCj hb];exact h)
      have r6:(w5.setCell ⟨G.vb,u,none⟩ (.int .i64 y)).drew.cell? ⟨gX,off + i,none⟩=some (.int .i64 ((u:Int) + 1)):=by
       have hb:=Below.heap_setCell w5 ⟨G.vb,u,none⟩ (.int .i64 y) gX hgX;show (w5.setCell ⟨G.vb,u,none⟩ (.int .i64 y)).cell? ⟨gX,off + i,none⟩=_;rw [zCj hb];exact r5
      clear hval5 hL5 ho5 r5 e7 v5u HC5 z5 l5 lX lg5;generalize (w5.setCell ⟨G.vb,u,none⟩ (.int .i64 y)).drew=w6 at *;have lX:=zAm r6;have HV6:Hid (w6.heap[G.vb]?=some (.cells (zC1 (zEU G.g.vals G.val (zBr (zK G.q0) (p + (i + 1))))).toArray 3 (0,0))):=zF (by
       show w6.heap[G.vb]?=some (.cells (zC1 (zEU G.g.vals G.val (zBr (zK G.q0) (p + i + 1)))).toArray 3 (0,0));rw [zA HVS,zHE];exact hval6)
      have HR6:=zF (zA HRS2 _ hy2);clear hval6;go_wp2_with fail
      go_roundg (gk - 1)
      case measure=>omega
      case rel=>exact ⟨i + 1,by go_num,by omega,congrArg (fun n:Nat=>Value.int .i64 (n:Int)) (zA HTS).symm,congrArg (fun n:Nat=>Value.int .i64 (n:Int)) (zA HR6).symm,zA HV6,hL6,ho6,zA HC6⟩
    ·have hie:i=row.length:=(by omega);subst hie;have HO:Hid (zCh (zG (zK G.q0).vars) (k + 1)=p + row.length):=HOS;have hdi:decide ((row.length:Int) < (row.length:Int))=false:=(by simp);clear hc3;go_wp2_with fail
     go_roundg (gko - 1)
     case measure=>omega
     case rel=>exact ⟨k + 1,by go_num,by omega,by rw [zA HO],by rw [zA HO],by rw [zA HO];exact hval3,hL3,ho3⟩
  ·have hke:k=G.g.turn:=(by omega);subst hke;have hdk:decide ((G.g.turn:Int) < (G.g.turn:Int))=false:=(by simp);have hlen:zCh (zG (zK G.q0).vars) G.g.turn=G.bs.length:=hrun.len.symm;rw [hlen] at hval ⊢;have hva:zEU G.g.vals G.val (zBr (zK G.q0) G.bs.length)=zFP G.g.vals:=zRU hQg hrun hG.pure.vlen hG.pure.vok;rw [hva] at hval;have HTB:Hid (∀ v,(zEK (zBr (zK G.q0) G.bs.length)).testBit v=false→zBC G.g.vals v=0):=zF (fun v hv=>by
    rw [zQ6] at hv;refine zID hQg hrun (fun j hj hjb e=>?_);have hm:v∈zBr (zK G.q0) G.bs.length:=by
     unfold zBr;rw [List.mem_take_iff_getElem];exact ⟨j,by simp;omega,by simpa using e⟩
    rw [decide_eq_true hm] at hv
    cases hv)
   have HTR:Hid (G.g.turn=(zG (zK G.q0).vars).length→zDs G.g.vals (zBr (zK G.q0) G.bs.length)=G.g.vals.1):=zF (fun ht=>by
    have hl:G.bs.length=(zK G.q0).vars.length:=(by rw [hrun.len,ht,zIG,zAA,List.length_map]);unfold zBr;rw [hl,List.take_of_length_le (by simp)];exact zPN hQg hrun ht)
   have ht9:=zK0 (zBr (zK G.q0) G.bs.length) (fun v hv=>(zGL hQg _ v hv).2);have hr9:=zK6 G.g.vals (zBr (zK G.q0) G.bs.length) (fun v hv=>(zGL hQg _ v hv).2);generalize zEK (zBr (zK G.q0) G.bs.length)=tb at *;generalize zDs G.g.vals (zBr (zK G.q0) G.bs.length)=rb at *;clear hva hlen;go_wp2_with fail;obtain ⟨wo,rfl⟩:∃ wo,wo=wr:=⟨_,rfl⟩;have lLo:=zB hLr
   go_loopg [14] 8 (fun m vv wx=>∃ (j:Nat),vv=.int .i64 ((j:Int) + 1)∧j + m=8∧Below wo.heap.size wo wx)
   case atStart=>exact ⟨0,rfl,by omega,Below.refl _ _⟩
   case round=>
    obtain ⟨j,rfl,hjm,hbo⟩:=hrel;have hLx:=(hbo.block _ lLo).trans hLr;have lLx:=zB hLx
    by_cases hj8:j < 8
    ·have hd:decide ((j:Int) + 1≤8)=true:=decide_eq_true (by omega);have hlj:wr.cell? ⟨kL,j,none⟩=some (.int .i64 (zBC G.g.vals (j + 1))):=(by rw [zC hLx,zD0 _ _ _ hj8,if_pos hj8]);have hsb:=zRb tb (j + 1) ht9 (by omega);have HZ:=zF (zA HTB (j + 1))
     cases hbit:tb.testBit (j + 1) with
     | true=>
      rw [hbit] at hsb;go_wp2_with fail
      go_roundg (gk - 1)
      case measure=>omega
      case rel=>exact ⟨j + 1,by go_num,by omega,hbo⟩
     | false=>
      rw [hbit] at hsb;rw [zA HZ hbit] at hlj;go_wp2_with fail
      go_roundg (gk - 1)
      case measure=>omega
      case rel=>exact ⟨j + 1,by go_num,by omega,hbo⟩
    ·have hj:j=8:=(by omega);subst hj;have hor2:=hor.trans (Only.of_below (T:=(·=G.vb)) hbo);have hbv:bw≠G.vb:=fun e=>by
      have h1:=hG.val;rw [← e] at h1;unfold WAt at hw;exact absurd (zc hw h1) (by decide)
     have h5v:∀ k,v5.ownBlock=some k→k≠G.vb:=fun k hk e=>by
      obtain ⟨c,hc⟩:=zr h5 k hk;rw [e] at hc;exact absurd (zc hc hG.val) (by decide)
     have hwr:WAt wr bw text px pf proof v4 v5 v6:=(hor2.block _ lbw hbv).trans hw;have h5r:=zY h5 hor2 (fun k hk e=>h5v k hk e);have hvr:=zH hbo hval;have HMN:Hid (∀ e w3,zIL bw kL 8 h5s.length h5s v5 text px pf proof v4 v6 wr e w3→e=.returned (.tuple #[])∧RefAt 0 w3 G.b2 (zW G.st)∧w3.heap[G.gb]?=some (.cells #[.pointer (some ⟨G.db,0,none⟩),.pointer (some ⟨G.b1,0,none⟩),.pointer (some ⟨G.b2,0,none⟩),S G.proof,.int .i64 (G.kind:Int),G.vM,.int .i64 (G.g.turn:Int),.slice (some ⟨G.vb,0,none⟩) 8 8] 87 (0,0))∧∀ w4,Below w3.heap.size w3 w4→zIc bw G text px pf proof v4 v5 v6 h5s w (.returned (.bool true)) w4):=zF (fun e w3 hm=>by
      have hsz:=hor2.size;have hO:Only (fun k=>k=G.vb∨k=bw∨v5.ownBlock=some k) w w3:=(hor2.join hm.only).mono (fun k hk ht=>by
       rcases ht with h | h | h | h
       ·exact Or.inl h
       ·exact Or.inr (Or.inl h)
       ·omega
       ·exact Or.inr (Or.inr h))
      have hZ:∀ k,Z k→¬ (k=G.vb∨k=bw∨v5.ownBlock=some k):=fun k hk h=>by
       rcases h with rfl | rfl | h
       ·exact hzv hk
       ·exact hzb hk
       ·exact hz5 k h hk
      have hgT:¬ (G.gb=G.vb∨G.gb=bw∨v5.ownBlock=some G.gb):=fun h=>by
       rcases h with h | h | h
       ·exact hgv h
       ·have h1:=hG.fb;rw [h] at h1;unfold WAt at hw;exact absurd (zc hw h1) (by decide)
       ·obtain ⟨c,hc⟩:=zr h5 _ h;exact absurd (zc hc hG.fb) (by decide)
      refine ⟨hm.ret,(hG.firm _ w3 hO hZ).2.1,(hO.block _ lg hgT).trans hG.fb,fun w4 hb4=>?_⟩;obtain ⟨vls',a1,a2,a3⟩:=hm.at_;refine ⟨rfl,(hO.join (Only.of_below (T:=fun _=>False) hb4)).mono (fun k hk ht=>ht.elim id False.elim),?_,kL,vls',hkL,(hb4.block _ (zB hm.row)).trans hm.row,a1.later hb4,zO a2 hb4,?_⟩
      ·have hvT:¬ (G.vb=bw∨G.vb=kL∨v5.ownBlock=some G.vb):=fun h=>by
        rcases h with h | h | h
        ·exact hbv h.symm
        ·exact hne h.symm
        ·exact h5v _ h rfl
       have h3:=(hm.only.block _ (zB hvr) hvT).trans hvr;exact zH hb4 h3
      ·rcases a3 with h | ⟨k,h1,h2⟩
       ·exact Or.inl h
       ·exact Or.inr ⟨k,h1,by omega⟩)
     have hk2:=zDO hG.pure.read;have HWN:Hid (G.g.turn=(zG (zK G.q0).vars).length→zBI (zW G.st).cl G.g.vals.1=(G.kind == 2)):=zF (fun ht=>by
      obtain ⟨s2,hcl,_⟩:=zQA hPr.fq hPr.fo hG.pure.read hG.pure.tags.1 hG.pure.sbs;rw [hPr.fq.cl];exact zRv hQg hrun (zSC hQg hk2 s2 hcl hrun ht))
     have hcl9:∀ c∈(zW G.st).cl,c.1 < 512∧c.2 < 512:=(by rw [hPr.fq.cl];exact hPr.fq.bits);have hcln:(zW G.st).cl.length≤1073741824:=(by rw [hPr.fq.cl];have:=hPr.fq.clen;omega);go_wp2_with fail;refine (zMK bw kL 8 8 _ h5s.length h5s v5 text px pf proof v4 v6 _ hwr hLx (by simp [zCo]) (Nat.le_refl _) (by unfold maxLen;omega) h5r hn5).mono ?_;intro e w3 hm;obtain ⟨rfl,hR3,hfb3,HPO⟩:=zA HMN _ _ hm;have HPO:=zF HPO;clear HMN hm hwr h5r hvr
     by_cases htn:G.g.turn < (zG (zK G.q0).vars).length
     ·have hd1:decide ((G.g.turn:Int) < ((zG (zK G.q0).vars).length:Int))=true:=decide_eq_true (by omega);have hd2:decide (G.g.turn < (zG (zK G.q0).vars).length)=true:=decide_eq_true htn;go_wp2_with fail;go_ret;exact zA HPO _ (Below.refl _ _)
     ·have hte:G.g.turn=(zG (zK G.q0).vars).length:=(by omega);have HRB:=zF (zA HTR hte);have HSA:=zF (zA HWN hte);have hd1:decide ((G.g.turn:Int) < ((zG (zK G.q0).vars).length:Int))=false:=decide_eq_false (by omega);have hd2:decide (G.g.turn < (zG (zK G.q0).vars).length)=false:=decide_eq_false htn;have c2:w3.cell? ⟨G.gb,2,none⟩=some (.pointer (some ⟨G.b2,0,none⟩)):=zE hfb3 rfl;have l3:=zB hfb3;clear hte htn;go_wp2_with fail;refine (zFr 0 G.b2 rb (zW G.st) _ hR3 hr9 hcl9 hcln).mono ?_;rintro e w4 ⟨rfl,hb4⟩;have hfb4:=(hb4.block _ l3).trans hfb3;have c4:w4.cell? ⟨G.gb,4,none⟩=some (.int .i64 (G.kind:Int)):=zE hfb4 rfl;have l4:=zB hfb4;rw [zA HRB,zA HSA];have HFI:=zF (zA HPO w4 hb4)
      rcases hk2 with hk2 | hk2
      ·rw [hk2] at c4 ⊢;go_wp2_with fail;go_ret;exact zA HFI
      ·rw [hk2] at c4 ⊢;go_wp2_with fail;go_ret;exact zA HFI
end Go.Proofs.YtgipjjhkhfihpaaGreatDoor
