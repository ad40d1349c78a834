import Derived.Test.YtgipjjhkhfihpaaGreatDoorKF
import Derived.Test.YtgipjjhkhfihpaaGreatDoorKB
import Derived.Test.YtgipjjhkhfihpaaGreatDoorKE
import Derived.BigRegion
set_option maxRecDepth 100000
set_option maxHeartbeats 6400000
namespace Go.Proofs.YtgipjjhkhfihpaaGreatDoor
open Go.RowKit
theorem zGQ (base b o:Nat) (q:QS) (kind:Nat) (vV vC:Value) (c:Nat × Nat) (w:World) (hk:w.cell? ⟨b,o,none⟩=some (.int .i64 kind)) (hoV:w.ownsRow base 139 2 vV q.vars.length (zd q.vars)) (hQ:QB q) (hc:c.1 < 512∧c.2 < 512) (hCf:∃ aC nC cC,vC=.slice aC nC cC) :
  Calls Tryz.prog 128 #[.pointer (some ⟨b,o,none⟩),.agg #[vV,vC],zAj c] w fun e w'=>e=.returned (zAj (zAR kind q.vars.reverse c))∧Below w.heap.size w w':=by
 obtain ⟨aV,cV,rfl⟩:=zN hoV;obtain ⟨aC,nC,cC,rfl⟩:=hCf;have hbw:=zAm hk;have hvl:=hQ.vl
 go_enter Tryz.func128,Tryz.ntmps128
 obtain ⟨p0,n0⟩:=c;go_wp2_with fail
 go_loopg [7] (q.vars.length + 1) (fun m i wx=>∃ (k p n:Nat),i=.int .i64 ((k:Int) - 1)∧k + 1≤m∧m≤k + 1∧k≤q.vars.length∧p < 512∧n < 512∧zAR kind q.vars.reverse (p0,n0)=zAR kind (q.vars.take k).reverse (p,n)∧Below w.heap.size w wx∧
   wx.heap[w.heap.size]?=some (.cells #[.slice aV q.vars.length cV,.slice aC nC cC] 60 (0,0))∧wx.heap[w.heap.size + 1]?=some (.cells #[.int .i64 p,.int .i64 n] 74 (0,0))∧wx.heap[w.heap.size + 2]?=some (.cells #[.int .i64 0,.int .i64 0] 74 (0,0)))
 case atStart=>exact ⟨q.vars.length,p0,n0,by go_num,by omega,by omega,by omega,hc.1,hc.2,by rw [List.take_length],(((Below.refl _ _).alloc (Nat.le_refl _) _).alloc (by simp) _).alloc (by simp;omega) _,by rw [heap_alloc_old _ _ (by simp;omega),heap_alloc_old _ _ (by simp)];exact heap_alloc_new _ _,by rw [heap_alloc_old _ _ (by simp)];exact zP (by simp),zP (by simp)⟩
 case round=>
  obtain ⟨k,p,n,rfl,hkm,hkm2,hkl,hp,hn,hred,hb,hfo,hset,hres⟩:=hrel;have HR:=zF hred;clear hred;have hv0:wr.cell? ⟨w.heap.size,0,none⟩=some (.slice aV q.vars.length cV):=zE hfo rfl;have hs0:wr.cell? ⟨w.heap.size + 1,0,none⟩=some (.int .i64 p):=zE hset rfl;have hs1:wr.cell? ⟨w.heap.size + 1,1,none⟩=some (.int .i64 n):=zE hset rfl;have hr0:wr.cell? ⟨w.heap.size + 2,0,none⟩=some (.int .i64 0):=zE hres rfl;have hr1:wr.cell? ⟨w.heap.size + 2,1,none⟩=some (.int .i64 0):=zE hres rfl;have hz0:=zD hset 0;have hz1:=zD hset 1;have hy0:=zD hres 0;have hy1:=zD hres 1;have hbs:=zB hres;have hbs0:w.heap.size < wr.heap.size:=(by omega);have hbs1:w.heap.size + 1 < wr.heap.size:=(by omega);have hbw1:b < wr.heap.size:=by omega
  cases k with
  | zero=>
   have HF:Hid (zAR kind q.vars.reverse (p0,n0)=(p,n)):=zF (by rw [zA HR];rfl);have hR:=zI (zI hres 0 (.int .i64 p)) 1 (.int .i64 n);have j0:=zC hR 0;have j1:=zC hR 1;go_wp2_with fail;refine bodyPost_ret (v:=zAj (p,n)) (by simp [results,Tryz.results128,go_sem,j0,j1]) rfl ⟨by rw [zA HF],?_⟩;exact (hb.setCell (p:=⟨w.heap.size + 2,0,none⟩) (by simp) _).setCell (p:=⟨w.heap.size + 2,1,none⟩) (by simp) _
  | succ k=>
   have hlt:k < q.vars.length:=(by omega);obtain ⟨g,cap,hVe,hg,hg',_,hcell⟩:=zS hoV (by omega);injection hVe with hVe _ hV2;subst hVe hV2;obtain ⟨ha,hb'⟩:=zCG q.vars k hlt;have hx0:wr.cell? ⟨g,k * 2,none⟩=some (.int .i64 (q.vars[k].1:Int)):=(by rw [hb.cell (p:=⟨g,k * 2,none⟩) hg'];exact hcell _ _ ha);have hx1:wr.cell? ⟨g,k * 2 + 1,none⟩=some (.bool q.vars[k].2):=(by rw [hb.cell (p:=⟨g,k * 2 + 1,none⟩) hg'];exact hcell _ _ hb');have hgw:g < wr.heap.size:=(by omega);have HST:=zF (zBs kind q.vars k hlt (p,n));clear hcell ha hb';generalize q.vars[k]=x at *;obtain ⟨vn,vu⟩:=x;dsimp only at *;go_wp2_with fail;refine (zEk p n vn _ hp hn).mono ?_;rintro e w2 ⟨rfl,hb2⟩;have hw2:Below wr.heap.size wr w2:=((Below.refl _ wr).alloc (Nat.le_refl _) _).trans (hb2.mono (by simp));have hsz2:=hw2.size;have hv2:w2.heap[wr.heap.size]?=some (.cells #[.int .i64 vn,.bool vu] 139 (0,0)):=(hb2.block _ (by simp)).trans (heap_alloc_new _ _);have hfo2:=(hw2.block _ hbs0).trans hfo;have hset2:=(hw2.block _ hbs1).trans hset;have hres2:=(hw2.block _ hbs).trans hres;have hbw2:Below w.heap.size w w2:=hb.trans (hw2.mono (by omega));rw [show ((p ||| n) &&& zAD vn != 0)=zs (p,n) vn from rfl]
   cases hh:zs (p,n) vn with
   | false=>
    have HF:Hid (zAR kind q.vars.reverse (p0,n0)=zAR kind (q.vars.take k).reverse (p,n)):=zF (by rw [zA HR,zA HST,hh];rfl);go_wp2_with fail
    go_roundg (gk - 1)
    case measure=>omega
    case rel=>exact ⟨k,p,n,by go_num,by omega,by omega,by omega,hp,hn,zA HF,hbw2,hfo2,hset2,hres2⟩
   | true=>
    have y2:w2.cell? ⟨b,o,none⟩=some (.int .i64 kind):=(by rw [hbw2.cell (p:=⟨b,o,none⟩) hbw];exact hk);obtain ⟨hc0,hc1⟩:=zJ hv2;go_wp2_with fail;refine (zHf b o kind vn vu w2 y2).mono ?_;rintro e w3 ⟨rfl,hb3⟩;have hv3:=zH hb3 hv2;have hfo3:=zH hb3 hfo2;have hset3:=zH hb3 hset2;have hres3:=zH hb3 hres2;have hbw3:Below w.heap.size w w3:=hbw2.trans (hb3.mono hbw2.size);have e0:w3.cell? ⟨w.heap.size + 1,0,none⟩=some (.int .i64 p):=zE hset3 rfl;have e1:w3.cell? ⟨w.heap.size + 1,1,none⟩=some (.int .i64 n):=zE hset3 rfl;have f0:w3.cell? ⟨w.heap.size + 2,0,none⟩=some (.int .i64 0):=zE hres3 rfl;have f1:w3.cell? ⟨w.heap.size + 2,1,none⟩=some (.int .i64 0):=zE hres3 rfl;have g0:w3.cell? ⟨wr.heap.size,0,none⟩=some (.int .i64 vn):=zE hv3 rfl;have z0:=zD hset3 0;have z1:=zD hset3 1;have y0:=zD hres3 0;have y1:=zD hres3 1
    cases hpv:zAl kind vu with
    | true=>
     have HF:Hid (zAR kind q.vars.reverse (p0,n0)=(p,n)):=zF (by rw [zA HR,zA HST,hh,hpv];rfl);have hR:=zI (zI hres3 0 (.int .i64 p)) 1 (.int .i64 n);have j0:=zC hR 0;have j1:=zC hR 1;go_wp2_with fail;refine bodyPost_ret (v:=zAj (p,n)) (by simp [results,Tryz.results128,go_sem,j0,j1]) rfl ⟨by rw [zA HF],?_⟩;exact (hbw3.setCell (p:=⟨w.heap.size + 2,0,none⟩) (by simp) _).setCell (p:=⟨w.heap.size + 2,1,none⟩) (by simp) _
    | false=>
     have HF:Hid (zAR kind q.vars.reverse (p0,n0)=zAR kind (q.vars.take k).reverse (zAV (p,n) vn)):=zF (by rw [zA HR,zA HST,hh,hpv];rfl);have hwl:=zBh (p,n) vn ⟨hp,hn⟩;go_wp2_with fail;refine (zDu p n vn w3 hp hn).mono ?_;rintro e w4 ⟨rfl,hb4⟩;have hfo4:=zH hb4 hfo3;have hset4:=zH hb4 hset3;have hres4:=zH hb4 hres3;have hbw4:Below w.heap.size w w4:=hbw3.trans (hb4.mono hbw3.size);have i0:w4.cell? ⟨w.heap.size + 1,0,none⟩=some (.int .i64 p):=zE hset4 rfl;have i1:w4.cell? ⟨w.heap.size + 1,1,none⟩=some (.int .i64 n):=zE hset4 rfl;have u0:=zD hset4 0;have u1:=zD hset4 1;generalize zAV (p,n) vn=cw at *;obtain ⟨p',n'⟩:=cw;go_wp2_with fail
     go_roundg (gk - 1)
     case measure=>omega
     case rel=>
      refine ⟨k,p',n',by go_num,by omega,by omega,by omega,hwl.1,hwl.2,zA HF,(hbw4.setCell (p:=⟨w.heap.size + 1,0,none⟩) (by simp) _).setCell (p:=⟨w.heap.size + 1,1,none⟩) (by simp) _,?_,zI (zI hset4 0 _) 1 _,?_⟩
      ·rw [Below.heap_setCell _ _ _ _ (by simp),Below.heap_setCell _ _ _ _ (by simp)];exact hfo4
      ·rw [Below.heap_setCell _ _ _ _ (by simp),Below.heap_setCell _ _ _ _ (by simp)];exact hres4
theorem zR {w:World} {base:Nat} {e:TypeId} {size:Nat} {v:Value} {n:Nat} {xs:List Value} (h:w.ownsRow base e size v n xs) {p:Addr} (hp:v.ownBlock≠some p.block) (u:Value):(w.setCell p u).ownsRow base e size v n xs:=by
 obtain ⟨h1,h2⟩:=h;refine ⟨h1,?_⟩
 rcases h2 with h2 | ⟨g,cap,cur,rfl,hg,hh,h3⟩
 ·exact Or.inl h2
 ·refine Or.inr ⟨g,cap,cur,rfl,hg,?_,h3⟩;rw [Below.heap_setCell _ _ _ _ (fun e=>hp (by subst e;rfl))];exact hh
theorem zT {w:World} {base:Nat} {e t:TypeId} {size:Nat} {v:Value} {n:Nat} {xs:List Value} {b:Nat} {c:Array Value} {fr:Nat × Nat} (h:w.ownsRow base e size v n xs) (hb:w.heap[b]?=some (.cells c t fr)) (hne:e≠t):v.ownBlock≠some b:=by
 rcases h.2 with ⟨rfl,_⟩ | ⟨g,cap,cur,rfl,hg,hh,h3⟩
 ·intro h;cases h
 ·intro h;injection h with h;subst h;rw [hh] at hb;injection hb with hb;injection hb with _ hb _;exact hne hb
theorem zY {T:Nat→Prop} {w w':World} {base:Nat} {e:TypeId} {size:Nat} {v:Value} {n:Nat} {xs:List Value} (h:w.ownsRow base e size v n xs) (ho:Only T w w') (hT:∀ k,v.ownBlock=some k→¬ T k):w'.ownsRow base e size v n xs:=by
 obtain ⟨h1,h2⟩:=h;refine ⟨h1,?_⟩
 rcases h2 with h2 | ⟨g,cap,cur,rfl,hg,hh,h3⟩
 ·exact Or.inl h2
 ·exact Or.inr ⟨g,cap,cur,rfl,hg,(ho.block g (zB hh) (hT g rfl)).trans hh,h3⟩
theorem zRI:(Tryz.prog.info? 134).map (fun i=>(i.zero,i.size,i.bytes))=some (some (.agg #[.int .i64 0,.int .i64 0,.int .i64 0,.int .i64 0,.int .i64 0,.int .i64 0]),6,48):=by kernel_rfl
def Moved (w:World) (v v':Value):Prop:=v'.ownBlock=v.ownBlock∨∃ k,v'.ownBlock=some k∧w.heap.size≤k
def zKg (base b o:Nat) (p:List Stp) (vS:Value) (s:Stp) (cells:Array Value) (t:TypeId) (w:World) (e:Ending) (w':World):Prop:=
 ∃ v',e=.returned (.int .i64 ((p.length:Int) + 1))∧w'.ownsRow base 134 6 v' (p.length + 1) (zAk (p ++ [s]))∧w'.heap[b]?=some (.cells (cells.setIfInBounds (o + 1) v') t (0,0))∧Only (fun k=>k=b∨vS.ownBlock=some k) w w'∧Moved w vS v'
theorem zCZ (base b o:Nat) (p:List Stp) (vS:Value) (s:Stp) (cells:Array Value) (t:TypeId) (w:World) (hfb:w.heap[b]?=some (.cells cells t (0,0))) (hcs:cells[o + 1]?=some vS) (ht:134≠t) (hown:w.ownsRow base 134 6 vS p.length (zAk p)) (hl:p.length≤1048576) (hbase:base≤w.heap.size) :
  Calls Tryz.prog 72 #[.pointer (some ⟨b,o,none⟩),zCi s] w fun e w'=>zKg base b o p vS s cells t w e w':=by
 obtain ⟨aS,cS,rfl⟩:=zN hown;have hbw:=zB hfb;have hne:=zT hown hfb ht;have hs:w.cell? ⟨b,o + 1,none⟩=some (.slice aS p.length cS):=(by rw [zC hfb];exact hcs);obtain ⟨sr,sf,ss,sv,sl⟩:=s;obtain ⟨sl1,sl2⟩:=sl;obtain ⟨i1,hi1,hz10,hz11,hz12⟩:=info_parts zRI
 go_enter Tryz.func72,Tryz.ntmps72
 go_wp2_with fail;generalize hw0:w.alloc (.cells #[.int .i64 (sr:Int),.int .i64 (sf:Int),.int .i64 (ss:Int),.int .i64 (sv:Int),.int .i64 (sl1:Int),.int .i64 (sl2:Int)] 134)=wz;have hB:Below w.heap.size w wz:=(by rw [← hw0];exact (Below.refl _ _).alloc (Nat.le_refl _) _);have hst:wz.heap[w.heap.size]?=some (.cells #[.int .i64 (sr:Int),.int .i64 (sf:Int),.int .i64 (ss:Int),.int .i64 (sv:Int),.int .i64 (sl1:Int),.int .i64 (sl2:Int)] 134 (0,0)):=(by rw [← hw0];exact heap_alloc_new _ _);clear hw0;have lst:=zB hst;obtain ⟨c0,c1,c2,c3,c4,c5⟩:=zAH hst;have hfz:=(hB.block _ hbw).trans hfb;have hsz:wz.cell? ⟨b,o + 1,none⟩=some (.slice aS p.length cS):=(by rw [zC hfz];exact hcs);have hfr:=zD hfz (o + 1);have hbz:=zB hfz;have hownz:=zO hown hB;have hbz0:base≤wz.heap.size:=Nat.le_trans hbase hB.size;have HPS:=zF (zKX p ⟨sr,sf,ss,sv,(sl1,sl2)⟩);have HNE:=zF hne;clear hne
 go_region_law (refine zDy rfl (.tmp 9) (.tmp 11) 65 rfl base 134 i1 (.agg #[.int .i64 0,.int .i64 0,.int .i64 0,.int .i64 0,.int .i64 0,.int .i64 0]) 6 48 Tryz.underlying65 hi1 hz10 hz11 hz12 rfl (by decide) (.slice aS p.length cS) p.length (zAk p) (hownz.alloc _).drew rfl ⟨wz.heap.size,0,none⟩ 1 1 [.int .i64 (sr:Int),.int .i64 (sf:Int),.int .i64 (ss:Int),.int .i64 (sv:Int),.int .i64 (sl1:Int),.int .i64 (sl2:Int)] rfl rfl (zBX wz [.int .i64 (sr:Int),.int .i64 (sf:Int),.int .i64 (ss:Int),.int .i64 (sv:Int),.int .i64 (sl1:Int),.int .i64 (sl2:Int)] 134) (by simp [Value.oneCell']) (by decide) (by unfold maxLen;omega) (by omega) (by simp;omega) ?_;intro v' w' hown' hgrow hmv;have hfb':w'.heap[b]?=some (.cells cells t (0,0)):=(hgrow.block b (by simp [World.drew];omega) (fun e=>zA HNE e.symm)).trans ((heap_alloc_old wz _ hbz).trans hfz);obtain ⟨g4,cap4,rfl,hg4,hg4',hcap4,hcell4⟩:=zS hown' (by omega);have hq3:w'.cell? ⟨b,o + 1,none⟩=some (.slice aS p.length cS):=(by rw [zC hfb'];exact hcs);have hqz:=zD hfb' (o + 1))
 all_goals
  have hlo:o + 1 < cells.size:=(Array.getElem?_eq_some_iff.1 hcs).1;have hset:=zI hfb' (o + 1) (.slice (some ⟨g4,0,none⟩) (p.length + 1) cap4);have hget:(w'.setCell ⟨b,o + 1,none⟩ (.slice (some ⟨g4,0,none⟩) (p.length + 1) cap4)).cell? ⟨b,o + 1,none⟩=some (.slice (some ⟨g4,0,none⟩) (p.length + 1) cap4):=(by rw [zC hset];simp [hlo]);have HO:=zF (zR hown' (p:=⟨b,o + 1,none⟩) (zT hown' hfb' ht) (.slice (some ⟨g4,0,none⟩) (p.length + 1) cap4));have HX:Hid (Only (fun k=>k=b∨(Value.slice aS p.length cS).ownBlock=some k) w w'):=zF ((((Only.of_below hB).alloc _).drew).grown hgrow (fun k hk=>Or.inl (Or.inr hk)));have HM:=zF hmv;clear hown' hmv hgrow hcell4 hownz;go_wp2_with fail;go_ret;refine ⟨_,zA7 (by omega),?_,hset,(zA HX).setCell (p:=⟨b,o + 1,none⟩) (Or.inl (Or.inl rfl)) _,?_⟩
  ·rw [zA HPS];exact zA HO
  ·rcases zA HM with h | ⟨k,h1,h2⟩
   ·exact Or.inl h
   ·exact Or.inr ⟨k,h1,by have:=hB.size;simp [World.drew] at h2;omega⟩
theorem zGw (base b:Nat) (q:QS) (vC:Value) (p0 n0:Nat) (w:World) (hc1:w.cell? ⟨b,1,none⟩=some vC) (hoC:w.ownsRow base 74 2 vC q.cl.length (zAK q.cl)) (hQ:QB q) (hp0:p0 < 512) (hn0:n0 < 512) :
  Calls Tryz.prog 117 #[.pointer (some ⟨b,0,none⟩),zAj (p0,n0)] w fun e w'=>e=.returned (.bool (zCD q.cl (p0,n0)))∧Below w.heap.size w w':=by
 have hbw:=zAm hc1;have hcl:=hQ.cl;have HCL:=zF hQ.bits;obtain ⟨aC,cC,rfl⟩:=zN hoC
 go_enter Tryz.func117,Tryz.ntmps117
 go_wp2_with fail
 go_loopg [13] (q.cl.length) (fun m i wx=>∃ k:Nat,i=.int .i64 k∧k + m=q.cl.length∧zCD (q.cl.take k) (p0,n0)=true∧Below w.heap.size w wx∧wx.heap[w.heap.size]?=some (.cells #[.int .i64 p0,.int .i64 n0] 74 (0,0)))
 case atStart=>exact ⟨0,rfl,by omega,rfl,(Below.refl _ _).alloc (Nat.le_refl _) _,heap_alloc_new _ _⟩
 case round=>
  obtain ⟨k,rfl,hk,hno,hb,hset⟩:=hrel;have HNO:=zF hno;clear hno;have hbs:=zB hset;have c0:wr.cell? ⟨w.heap.size,0,none⟩=some (.int .i64 p0):=zE hset rfl;have c1:wr.cell? ⟨w.heap.size,1,none⟩=some (.int .i64 n0):=zE hset rfl
  by_cases hlt:k < q.cl.length
  ·obtain ⟨g,cap,hV,hg,hg',_,hcell⟩:=zS hoC (by omega);injection hV with hV _ hV2;subst hV hV2;have hgw:g < wr.heap.size:=(by omega);obtain ⟨ha,hb'⟩:=zAc q.cl k hlt;have hx0:wr.cell? ⟨g,k * 2,none⟩=some (.int .i64 (q.cl[k].1:Int)):=(by rw [hb.cell (p:=⟨g,k * 2,none⟩) hg'];exact hcell _ _ ha);have hx1:wr.cell? ⟨g,k * 2 + 1,none⟩=some (.int .i64 (q.cl[k].2:Int)):=(by rw [hb.cell (p:=⟨g,k * 2 + 1,none⟩) hg'];exact hcell _ _ hb');have HT:=zF (zPn q.cl (p0,n0) k hlt);have hbd:=zA HCL _ (List.getElem_mem hlt);have HOF:=zF (zSO q.cl (p0,n0) k hlt);clear hcell ha hb';generalize q.cl[k]=c at *;obtain ⟨p,n⟩:=c;have HOK:Hid (okC (p,n) (p0,n0)=(((p &&& p0) ||| (n &&& n0) != 0) || (p &&& n != 0))):=zF rfl;go_wp2_with fail;refine (zEe p n p0 n0 _ hbd.1 hbd.2 hp0 hn0).mono ?_;rintro e w2 ⟨rfl,hb2⟩;have hA:Below wr.heap.size wr (wr.alloc (.cells #[.int .i64 (p:Int),.int .i64 (n:Int)] 74)):=(Below.refl _ _).alloc (Nat.le_refl _) _;have hb2':Below wr.heap.size wr w2:=hA.trans (hb2.mono hA.size);have hb3:Below w.heap.size w w2:=hb.trans (hb2'.mono hb.size);have hset2:=(hb2'.block _ hbs).trans hset;have hc2:=(hb2.block _ (by simp)).trans (heap_alloc_new wr (.cells #[.int .i64 (p:Int),.int .i64 (n:Int)] 74));have d0:w2.cell? ⟨wr.heap.size,0,none⟩=some (.int .i64 p):=zE hc2 rfl;have d1:w2.cell? ⟨wr.heap.size,1,none⟩=some (.int .i64 n):=zE hc2 rfl
   cases hh:((p &&& p0) ||| (n &&& n0) != 0) with
   | true=>
    have HO1:Hid (okC (p,n) (p0,n0)=true):=zF (by rw [zA HOK,hh];rfl);go_wp2_with fail
    go_roundg (gk - 1)
    case measure=>omega
    case rel=>exact ⟨k + 1,by go_num,by omega,by rw [zA HT,zA HNO,zA HO1];rfl,hb3,hset2⟩
   | false=>
    go_wp2_with fail;refine (zEE p n w2 hbd.1 hbd.2).mono ?_;rintro e w3 ⟨rfl,hb4⟩;have hb5:Below w.heap.size w w3:=hb3.trans (hb4.mono hb3.size);have hset3:=zH hb4 hset2
    cases hc:(p &&& n != 0) with
    | true=>
     have HO1:Hid (okC (p,n) (p0,n0)=true):=zF (by rw [zA HOK,hh,hc];rfl);go_wp2_with fail
     go_roundg (gk - 1)
     case measure=>omega
     case rel=>exact ⟨k + 1,by go_num,by omega,by rw [zA HT,zA HNO,zA HO1];rfl,hb5,hset3⟩
    | false=>
     have HF:=zF (zA HOF (by rw [zA HOK,hh,hc];rfl));go_wp2_with fail;go_ret;exact ⟨zAI (zA HF).symm,hb5⟩
  ·have hkl:k=q.cl.length:=(by omega);subst hkl;have hno:=zA HNO;rw [List.take_length] at hno;have HF:=zF hno;clear hno;go_wp2_with fail;go_ret;exact ⟨zAI (zA HF).symm,hb⟩
theorem zJ6 (a v:Nat) (ha:a < 512) (hv:v≤8):(bits .and .i64 ((a:Int) / 2 ^ v) 1 == 0)=!a.testBit v:=by
 rw [zHz a v ha hv];cases a.testBit v<;>rfl
theorem zEn {w:World} {o:Obj} {n:Nat} (h:n=w.heap.size):(w.alloc o).heap[n]?=some o:=by subst h;exact heap_alloc_new w o
theorem zGy (a v:Nat) (ha:a < 512) (hv:v≤8):bits .andNot .i64 (a:Int) (wrap64 (2 ^ v))=((zb a (2 ^ v):Nat):Int):=by
 have h:=zH0 (v:Int) (by omega) (by omega);rw [Int.toNat_natCast] at h;have hp:=zD2 v hv;rw [h];exact zBJ _ _ (by omega) (by omega)
theorem zMG (order:List Nat) (kind:Nat) (c:Nat × Nat) (k v:Nat) (h:k < order.length) (hv:order[k]=v):zAS order kind c (k + 1)=if zGX c v && !kind.testBit v then k + 1 else zAS order kind c k:=by
 rw [zAS]
 have:order.getD k 0=v:=by rw [List.getD,List.getElem?_eq_getElem h,hv];rfl
 rw [this]
theorem zKh (order:List Nat) (kind:Nat) (c:Nat × Nat) (k:Nat):zAS order kind c k≤k:=by
 induction k with
 | zero=>exact Nat.le_refl _
 | succ k ih=>rw [zAS];split<;>omega
def zFq (order:List Nat) (kind m:Nat) (c:Nat × Nat) (j:Nat):Nat × Nat:=((order.drop m).take j).foldl (clr kind) c
theorem zMb (order:List Nat) (kind m:Nat) (c:Nat × Nat) (j v:Nat) (h:m + j < order.length) (hv:order[m + j]=v):zFq order kind m c (j + 1)=clr kind (zFq order kind m c j) v:=by
 unfold zFq;have hj:j < (order.drop m).length:=(by simp;omega);rw [List.take_succ_eq_append_getElem hj,List.foldl_append,List.getElem_drop,hv];rfl
theorem zQz (order:List Nat) (kind m:Nat) (c:Nat × Nat) (j:Nat) (h:Bd c):Bd (zFq order kind m c j):=zN4 kind _ c h
theorem zOO (order:List Nat) (kind:Nat) (c:Nat × Nat) (j:Nat) (h:zAS order kind c order.length + j=order.length):zFq order kind (zAS order kind c order.length) c j=zHu order kind c:=by
 unfold zFq zHu;rw [List.take_of_length_le (by simp;omega)]
theorem zHq (lo b p0 n0 kind:Nat) (F:zv) (w:World) (hR:RefAt lo w b F) (hl:F.order.length≤8) (hnm:∀ v∈F.order,v≤8) (hk:kind < 512) (hp0:p0 < 512) (hn0:n0 < 512) :
  Calls Tryz.prog 107 #[.pointer (some ⟨b,0,none⟩),.agg #[.int .i64 (p0:Int),.int .i64 (n0:Int)],.int .i64 kind] w fun e w'=>
   e=.returned (.agg #[.int .i64 ((zHu F.order kind (p0,n0)).1:Int),.int .i64 ((zHu F.order kind (p0,n0)).2:Int)])∧Below w.heap.size w w':=by
 obtain ⟨_,vO,vE,vC,hfb,hO,_,_⟩:=hR;obtain ⟨aO,cO,rfl⟩:=zN hO;have hbw:=zB hfb;have k0:w.cell? ⟨b,0,none⟩=some (.slice aO F.order.length cO):=zE hfb rfl;have HNM:=zF hnm;clear hnm;have hor:bits .or .i64 (p0:Int) (n0:Int)=((p0 ||| n0:Nat):Int):=zCK _ _ (by omega) (by omega);have hol:=zBD p0 n0 hp0 hn0
 go_enter Tryz.func107,Tryz.ntmps107
 go_wp2_with fail
 go_loopg [7,8] F.order.length (fun m la i wx=>∃ k:Nat,i=.int .i64 k∧la=.int .i64 ((zAS F.order kind (p0,n0) k:Int) - 1)∧k + m=F.order.length∧Below w.heap.size w wx∧wx.heap[w.heap.size]?=some (.cells #[.int .i64 p0,.int .i64 n0] 121 (0,0))∧wx.heap[w.heap.size + 1]?=some (.cells #[.int .i64 0,.int .i64 0] 121 (0,0)))
 case atStart=>exact ⟨0,rfl,rfl,by omega,((Below.refl _ _).alloc (Nat.le_refl _) _).alloc (by simp) _,by rw [heap_alloc_old _ _ (by simp)];exact heap_alloc_new _ _,zEn (by simp)⟩
 case round=>
  obtain ⟨k,rfl,rfl,hkm,hb,hc,hr⟩:=hrel;have hbs:=zB hr;have c0:wr.cell? ⟨w.heap.size,0,none⟩=some (.int .i64 p0):=zE hc rfl;have c1:wr.cell? ⟨w.heap.size,1,none⟩=some (.int .i64 n0):=zE hc rfl;have x0:wr.cell? ⟨b,0,none⟩=some (.slice aO F.order.length cO):=(by rw [hb.cell (p:=⟨b,0,none⟩) hbw];exact k0);have hlb:=zKh F.order kind (p0,n0) k
  by_cases hlt:k < F.order.length
  ·obtain ⟨g,cap,hV,hg,hg',_,hcell⟩:=zS hO (by omega);injection hV with hV _ hV2;subst hV hV2;have hx:wr.cell? ⟨g,k,none⟩=some (.int .i64 (F.order[k]:Int)):=(by rw [hb.cell (p:=⟨g,k,none⟩) hg'];exact hcell _ _ (zH1 _ _ hlt));have hv8:=zA HNM _ (List.getElem_mem hlt);have HS:=zF (zMG F.order kind (p0,n0) k F.order[k] hlt rfl);clear hcell;generalize F.order[k]=v at *;generalize zAS F.order kind (p0,n0) k=la at *;have e1:=zCx (p0 ||| n0) v hol hv8;have e2:=zJ6 kind v hk hv8;have HB:Hid (zGX (p0,n0) v=(p0 ||| n0).testBit v):=zF rfl
   cases h1:(p0 ||| n0).testBit v with
   | false=>
    rw [h1] at e1;have HL:Hid (zAS F.order kind (p0,n0) (k + 1)=la):=zF (by rw [zA HS,zA HB,h1];rfl);go_wp2_with fail
    go_roundg (gk - 1)
    case measure=>omega
    case rel=>exact ⟨k + 1,by go_num,by rw [zA HL],by omega,hb,hc,hr⟩
   | true=>
    rw [h1] at e1
    cases h2:kind.testBit v with
    | false=>
     rw [h2] at e2;have HL:Hid (zAS F.order kind (p0,n0) (k + 1)=k + 1):=zF (by rw [zA HS,zA HB,h1,h2];rfl);go_wp2_with fail
     go_roundg (gk - 1)
     case measure=>omega
     case rel=>exact ⟨k + 1,by go_num,by rw [zA HL];exact congrArg (Value.int .i64) (by omega),by omega,hb,hc,hr⟩
    | true=>
     rw [h2] at e2;have HL:Hid (zAS F.order kind (p0,n0) (k + 1)=la):=zF (by rw [zA HS,zA HB,h1,h2];rfl);go_wp2_with fail
     go_roundg (gk - 1)
     case measure=>omega
     case rel=>exact ⟨k + 1,by go_num,by rw [zA HL],by omega,hb,hc,hr⟩
  ·have hkl:k=F.order.length:=(by omega);subst hkl;have HE:=zF (zOO F.order kind (p0,n0));have HT:=zF (zMb F.order kind (zAS F.order kind (p0,n0) F.order.length) (p0,n0));have HBD:=zF (fun j=>zQz F.order kind (zAS F.order kind (p0,n0) F.order.length) (p0,n0) j ⟨hp0,hn0⟩);have HR0:Hid (zFq F.order kind (zAS F.order kind (p0,n0) F.order.length) (p0,n0) 0=(p0,n0)):=zF rfl;generalize zAS F.order kind (p0,n0) F.order.length=m at *;obtain ⟨wo,rfl⟩:∃ wo,wo=wr:=⟨_,rfl⟩;go_wp2_with fail
   go_loopg [10] F.order.length (fun q i wx=>∃ (j p n:Nat),i=.int .i64 ((m + j:Nat):Int)∧m + j + q=F.order.length + m∧m + j≤F.order.length∧zFq F.order kind m (p0,n0) j=(p,n)∧Below w.heap.size w wx∧wx.heap[w.heap.size]?=some (.cells #[.int .i64 p,.int .i64 n] 121 (0,0))∧wx.heap[w.heap.size + 1]?=some (.cells #[.int .i64 0,.int .i64 0] 121 (0,0)))
   case atStart=>exact ⟨0,p0,n0,by go_num,by omega,by omega,zA HR0,hb,hc,hr⟩
   case round=>
    obtain ⟨j,p,n,rfl,hjq,hjl,hred,hb2,hc2,hr2⟩:=hrel;have hbd:=zA HBD j;rw [hred] at hbd;have HRED:=zF hred;clear hred;have hbs2:=zB hr2;have hbs3:w.heap.size < wr.heap.size:=(by omega);have c20:wr.cell? ⟨w.heap.size,0,none⟩=some (.int .i64 p):=zE hc2 rfl;have c21:wr.cell? ⟨w.heap.size,1,none⟩=some (.int .i64 n):=zE hc2 rfl;have r20:wr.cell? ⟨w.heap.size + 1,0,none⟩=some (.int .i64 0):=zE hr2 rfl;have r21:wr.cell? ⟨w.heap.size + 1,1,none⟩=some (.int .i64 0):=zE hr2 rfl;have z0:=zD hc2 0;have z1:=zD hc2 1;have y0:=zD hr2 0;have y1:=zD hr2 1;have x20:wr.cell? ⟨b,0,none⟩=some (.slice aO F.order.length cO):=(by rw [hb2.cell (p:=⟨b,0,none⟩) hbw];exact k0);have hp9:p < 512:=hbd.1;have hn9:n < 512:=hbd.2;clear hbd
    by_cases hlt2:m + j < F.order.length
    ·obtain ⟨g,cap,hV,hg,hg',_,hcell⟩:=zS hO (by omega);injection hV with hV _ hV2;subst hV hV2;have hx:wr.cell? ⟨g,m + j,none⟩=some (.int .i64 (F.order[m + j]:Int)):=(by rw [hb2.cell (p:=⟨g,m + j,none⟩) hg'];exact hcell _ _ (zH1 _ _ hlt2));have hv8:=zA HNM _ (List.getElem_mem hlt2);have HS:=zF (zA HT j F.order[m + j] hlt2 rfl);clear hcell;generalize F.order[m + j]=v at *;have e2:=zCx kind v hk hv8;have l1:=zGy p v hp9 hv8;have l2:=zGy n v hn9 hv8
     cases h2:kind.testBit v with
     | false=>
      rw [h2] at e2;have HL:Hid (zFq F.order kind m (p0,n0) (j + 1)=(p,n)):=zF (by rw [zA HS,zA HRED];unfold clr;rw [h2];rfl);go_wp2_with fail
      go_roundg (gk - 1)
      case measure=>omega
      case rel=>exact ⟨j + 1,p,n,by go_num,by omega,by omega,zA HL,hb2,hc2,hr2⟩
     | true=>
      rw [h2] at e2;have HL:Hid (zFq F.order kind m (p0,n0) (j + 1)=(zb p (2 ^ v),zb n (2 ^ v))):=zF (by rw [zA HS,zA HRED];unfold clr;rw [h2];rfl);go_wp2_with fail
      go_region
      all_goals go_wp2_with fail
      all_goals go_region
      all_goals go_wp2_with fail
      go_roundg (gk - 1)
      case measure=>omega
      case rel=>
       refine ⟨j + 1,zb p (2 ^ v),zb n (2 ^ v),by go_num,by omega,by omega,zA HL,(((hb2.setCell (p:=⟨w.heap.size,0,none⟩) (Nat.le_refl _) _).setCell (p:=⟨w.heap.size,1,none⟩) (Nat.le_refl _) _).drew).drew,zI (zI hc2 0 _) 1 _,?_⟩;show ((wr.setCell ⟨w.heap.size,0,none⟩ (.int .i64 (zb p (2 ^ v):Nat))).setCell ⟨w.heap.size,1,none⟩ (.int .i64 (zb n (2 ^ v):Nat))).heap[w.heap.size + 1]?=_;rw [Below.heap_setCell _ _ _ _ (by simp),Below.heap_setCell _ _ _ _ (by simp)];exact hr2
    ·have HF:Hid (zHu F.order kind (p0,n0)=(p,n)):=zF (by rw [← zA HE j (by omega)];exact zA HRED);have hR:=zI (zI hr2 0 (.int .i64 p)) 1 (.int .i64 n);have j0:=zC hR 0;have j1:=zC hR 1;go_wp2_with fail;refine bodyPost_ret (v:=.agg #[.int .i64 p,.int .i64 n]) (by simp [results,Tryz.results107,go_sem,j0,j1]) rfl ⟨by rw [zA HF],?_⟩;exact (hb2.setCell (p:=⟨w.heap.size + 1,0,none⟩) (Nat.le_succ _) _).setCell (p:=⟨w.heap.size + 1,1,none⟩) (Nat.le_succ _) _
theorem zOm (cl:List (Nat × Nat)) (c:Nat × Nat) (k:Nat) (h:k < cl.length):zFm (cl.take (k + 1)) c=(zFm (cl.take k) c && !zEO cl[k] c):=by
 unfold zFm;rw [List.take_succ_eq_append_getElem h,List.all_append];simp
theorem zR4 (cl:List (Nat × Nat)) (c:Nat × Nat) (k:Nat) (h:k < cl.length) (hc:zEO cl[k] c=true):zFm cl c=false:=by
 unfold zFm;rw [List.all_eq_false];exact ⟨cl[k],List.getElem_mem h,by rw [hc];decide⟩
def RStPost (res:Option (Nat × Nat)) (w:World) (e:Ending) (w':World):Prop:=
 Below w.heap.size w w'∧∃ (c:Nat × Nat) (ok:Bool),e=.returned (.tuple #[.agg #[.int .i64 (c.1:Int),.int .i64 (c.2:Int)],.bool ok])∧((ok=true∧res=some c)∨(ok=false∧res=none))
theorem RStPost.none_ {res:Option (Nat × Nat)} {w w':World} {e:Ending} (hb:Below w.heap.size w w') (h:res=none) (c:Nat × Nat) (he:e=.returned (.tuple #[.agg #[.int .i64 (c.1:Int),.int .i64 (c.2:Int)],.bool false])):RStPost res w e w':=
 ⟨hb,c,false,he,Or.inr ⟨rfl,h⟩⟩
theorem RStPost.some_ {res:Option (Nat × Nat)} {w w':World} {e:Ending} (hb:Below w.heap.size w w') (c:Nat × Nat) (h:res=some c) (he:e=.returned (.tuple #[.agg #[.int .i64 (c.1:Int),.int .i64 (c.2:Int)],.bool true])):RStPost res w e w':=
 ⟨hb,c,true,he,Or.inl ⟨rfl,h⟩⟩
structure FW (F:zv):Prop where
 len:F.order.length≤8
 names:∀ v∈F.order,v≤8
 cl:F.cl.length≤24
 bits:∀ c∈F.cl,c.1 < 512∧c.2 < 512
 all:F.all < 512
theorem zR7 (c:Nat × Nat) (x:List UInt8):(zk c x).2=true→zAL x=if dig x=0 then (dig x.tail).toNat else (dig x).toNat:=fun _=>rfl
theorem zQa (c:Nat × Nat) (x:List UInt8):(zk c x).2=true→dig x=0→∃ r,x=45 :: r∧0 < dig r:=by
 intro h h0;unfold zk at h
 split at h
 ·next r=>exact ⟨r,rfl,of_decide_eq_true h⟩
 ·have:0 < dig x:=of_decide_eq_true h
  omega
theorem zRe (lo b:Nat) (F:zv) (ws:List (List UInt8)) (ao:Option Addr) (cap:Nat) (w:World) (hR:RefAt lo w b F) (hF:FW F) (hs:StrsAt w ao ws) (hl:ws.length≤1048576) (hws:∀ x∈ws,x.length≤1048576) :
  Calls Tryz.prog 106 #[.pointer (some ⟨b,0,none⟩),.slice ao ws.length cap] w fun e w'=>RStPost (zDH F ws) w e w':=by
 have hR0:=hR;obtain ⟨_,vO,vE,vC,hfb,_,_,hC⟩:=hR;obtain ⟨aC,cC,rfl⟩:=zN hC;have hbw:=zB hfb;have k3:w.cell? ⟨b,3,none⟩=some (.slice aC F.cl.length cC):=zE hfb rfl;have HWS:=zF hws;clear hws;have HSP:Hid (zDH F ws=(zAe F.order (0,0) 0 ws).bind (fun c=>if zFm F.cl c then some c else none)):=zF rfl
 go_enter Tryz.func106,Tryz.ntmps106
 go_wp2_with fail
 go_loopg [7,8] ws.length (fun m la i wx=>∃ (j p n last:Nat),i=.int .i64 j∧la=.int .i64 last∧j + m=ws.length∧p < 512∧n < 512∧last≤8∧zAe F.order (0,0) 0 ws=zAe F.order (p,n) last (ws.drop j)∧Below w.heap.size w wx∧
   wx.heap[w.heap.size]?=some (.cells #[.int .i64 0,.int .i64 0] 121 (0,0))∧wx.heap[w.heap.size + 1]?=some (.cells #[.int .i64 p,.int .i64 n] 121 (0,0)))
 case atStart=>exact ⟨0,0,0,0,rfl,rfl,by omega,by omega,by omega,by omega,rfl,((Below.refl _ _).alloc (Nat.le_refl _) _).alloc (by simp) _,by rw [heap_alloc_old _ _ (by simp)];exact heap_alloc_new _ _,zEn (by simp)⟩
 case round=>
  obtain ⟨j,p,n,last,rfl,rfl,hj,hp,hn,hla,hto,hb,hres,hcub⟩:=hrel;have hbs:=zB hcub;have hbs0:w.heap.size < wr.heap.size:=(by omega);have hbw1:b < wr.heap.size:=(by omega);have r0:wr.cell? ⟨w.heap.size,0,none⟩=some (.int .i64 0):=zE hres rfl;have r1:wr.cell? ⟨w.heap.size,1,none⟩=some (.int .i64 0):=zE hres rfl;have z0:=zD hres 0;have z1:=zD hres 1;have c0:wr.cell? ⟨w.heap.size + 1,0,none⟩=some (.int .i64 p):=zE hcub rfl;have c1:wr.cell? ⟨w.heap.size + 1,1,none⟩=some (.int .i64 n):=zE hcub rfl
  by_cases hlt:j < ws.length
  ·obtain ⟨g,off,cur,rfl,hg,hcur⟩:=hs (by intro e;subst e;simp at hlt);have hgw:=zB hg;have hgw1:g < wr.heap.size:=(by omega);have hcj:wr.cell? ⟨g,off + j,none⟩=some (S ws[j]):=by
    rw [hb.cell (p:=⟨g,off + j,none⟩) hgw,zC hg];exact hcur j hlt
   have HCJ:Hid (∀ wx:World,Below w.heap.size w wx→wx.cell? ⟨g,off + j,none⟩=some (S ws[j])):=zF (fun wx hx=>by
    rw [hx.cell (p:=⟨g,off + j,none⟩) hgw,zC hg];exact hcur j hlt)
   have hwl:=zA HWS _ (List.getElem_mem hlt);rw [List.drop_eq_getElem_cons hlt,zAe] at hto;have HTO:=zF hto;clear hto hcur;generalize ws[j]=x at *;go_wp2_with fail;refine (zHr x (w.heap.size + 1) p n wr hcub hp hn).mono ?_;rintro e w1 ⟨rfl,hcub1,ho1⟩;have hlt2:=zF4 (p,n) x hp hn;have HFO:=zF (zR7 (p,n) x);have HDT:=zF (zQa (p,n) x);have hB1:Below w.heap.size w w1:=hb.trans (ho1.below hb.size (fun k hk h=>by omega));have hres1:w1.heap[w.heap.size]?=some (.cells #[.int .i64 0,.int .i64 0] 121 (0,0)):=(ho1.block _ hbs0 (by omega)).trans hres;have HX1:=zF (zA HCJ w1 hB1);have hx1:=zA HX1;generalize (zk (p,n) x).1=c' at *;obtain ⟨p',n'⟩:=c';dsimp only at *;go_wp2_with fail;refine (zDr x w1).mono ?_;rintro e w2 ⟨rfl,hb2⟩;have hB2:Below w.heap.size w w2:=hB1.trans (hb2.mono hB1.size);have hres2:=zH hb2 hres1;have hcub2:=zH hb2 hcub1;have hx2:=zA HCJ w2 hB2;have r20:w2.cell? ⟨w.heap.size,0,none⟩=some (.int .i64 0):=zE hres2 rfl;have r21:w2.cell? ⟨w.heap.size,1,none⟩=some (.int .i64 0):=zE hres2 rfl;have z20:=zD hres2 0;have z21:=zD hres2 1;have c20:w2.cell? ⟨w.heap.size + 1,0,none⟩=some (.int .i64 p'):=zE hcub2 rfl;have c21:w2.cell? ⟨w.heap.size + 1,1,none⟩=some (.int .i64 n'):=zE hcub2 rfl;obtain ⟨d0,d1⟩:=zB3 x;obtain ⟨dn,hdn⟩:=Int.eq_ofNat_of_zero_le d0;rw [hdn];have hdn8:dn≤8:=(by omega);have HDN:=zF hdn;clear hdn d0 d1
   cases hok:(zk (p,n) x).2 with
   | false=>
    have HF:Hid (zDH F ws=none):=zF (by rw [zA HSP,zA HTO,if_neg (fun h=>by rw [hok] at h;cases h.1)];rfl);go_wp2_with fail;refine (zHM lo b dn F w2 (hR0.later hB2) hF.len).mono ?_;rintro e w4 ⟨⟨pl,rfl,_⟩,hw4⟩;subst hw4;have hRm:=zI (zI hres2 0 (.int .i64 p')) 1 (.int .i64 n');have jm0:=zC hRm 0;have jm1:=zC hRm 1;go_wp2_with fail;refine bodyPost_ret (v:=.tuple #[.agg #[.int .i64 p',.int .i64 n'],.bool false]) (by simp [results,Tryz.results106,go_sem,jm0,jm1]) rfl (RStPost.none_ ?_ (zA HF) (p',n') rfl);exact (hB2.setCell (p:=⟨w.heap.size,0,none⟩) (Nat.le_refl _) _).setCell (p:=⟨w.heap.size,1,none⟩) (Nat.le_refl _) _
   | true=>
    have HOK:=zF hok
    by_cases hdz:dn=0
    ·have hdb:((dn:Int) == 0)=true:=(by rw [beq_iff_eq];omega);obtain ⟨r,hxr,hdr⟩:=zA HDT hok (by rw [zA HDN];omega);have hxr2:1≤x.length:=(by rw [hxr];simp);obtain ⟨f0,f1⟩:=zB3 r;obtain ⟨vn,hvn⟩:=Int.eq_ofNat_of_zero_le f0;have hvn8:vn≤8:=(by omega);have HLV:Hid (zAL x=vn):=zF (by rw [zA HFO hok,zA HDN,if_pos (by omega),hxr];show (dig r).toNat=vn;rw [hvn];rfl);have HEX:Hid (List.take (x.length - 1) (List.drop 1 x)=r):=zF (by rw [hxr];simp);have HVN:=zF hvn;clear hxr hdr hvn f0 f1 hok hdz;go_wp2_with fail;rw [zAu,zA HEX];refine (zDr r w2).mono ?_;rintro e w3 ⟨rfl,hb3⟩;rw [zA HVN];have hB3:Below w.heap.size w w3:=hB2.trans (hb3.mono hB2.size);have hres3:=zH hb3 hres2;have hcub3:=zH hb3 hcub2;have r30:w3.cell? ⟨w.heap.size,0,none⟩=some (.int .i64 0):=zE hres3 rfl;have r31:w3.cell? ⟨w.heap.size,1,none⟩=some (.int .i64 0):=zE hres3 rfl;have z30:=zD hres3 0;have z31:=zD hres3 1;have c30:w3.cell? ⟨w.heap.size + 1,0,none⟩=some (.int .i64 p'):=zE hcub3 rfl;have c31:w3.cell? ⟨w.heap.size + 1,1,none⟩=some (.int .i64 n'):=zE hcub3 rfl;have HIF:Hid (zAe F.order (0,0) 0 ws=if last < vn∧vn∈F.order then zAe F.order (p',n') vn (ws.drop (j + 1)) else none):=zF (by
      rw [zA HTO,zA HLV]
      by_cases hcnd:last < vn∧vn∈F.order
      ·rw [if_pos ⟨zA HOK,hcnd.1,hcnd.2⟩,if_pos hcnd]
      ·rw [if_neg (fun h=>hcnd h.2),if_neg hcnd])
     go_wp2_with fail;refine (zHM lo b vn F w3 (hR0.later hB3) hF.len).mono ?_;rintro e w4 ⟨⟨pl,rfl,hpl⟩,hw4⟩;subst hw4
     by_cases hle:vn≤last
     ·have hdl:decide (vn≤last)=true:=(by simp;omega);have HF:Hid (zDH F ws=none):=zF (by rw [zA HSP,zA HIF,if_neg (by omega)];rfl);clear hle;have hRm:=zI (zI hres3 0 (.int .i64 p')) 1 (.int .i64 n');have jm0:=zC hRm 0;have jm1:=zC hRm 1;go_wp2_with fail;refine bodyPost_ret (v:=.tuple #[.agg #[.int .i64 p',.int .i64 n'],.bool false]) (by simp [results,Tryz.results106,go_sem,jm0,jm1]) rfl (RStPost.none_ ?_ (zA HF) (p',n') rfl);exact (hB3.setCell (p:=⟨w.heap.size,0,none⟩) (Nat.le_refl _) _).setCell (p:=⟨w.heap.size,1,none⟩) (Nat.le_refl _) _
     ·have hdl:decide (vn≤last)=false:=by simp;omega
      by_cases hmem:vn∈F.order
      ·have hpl2:decide (pl < 0)=false:=(by rw [hpl];simp [hmem]);have HF:Hid (zAe F.order (0,0) 0 ws=zAe F.order (p',n') vn (ws.drop (j + 1))):=zF (by rw [zA HIF,if_pos ⟨by omega,hmem⟩]);clear hle hmem hpl;go_wp2_with fail
       go_roundg (gk - 1)
       case measure=>omega
       case rel=>exact ⟨j + 1,p',n',vn,by go_num,rfl,by omega,hlt2.1,hlt2.2,by omega,zA HF,hB3,hres3,hcub3⟩
      ·have hpl2:decide (pl < 0)=true:=(by rw [hpl];simp [hmem]);have HF:Hid (zDH F ws=none):=zF (by rw [zA HSP,zA HIF,if_neg (fun h=>hmem h.2)];rfl);clear hle hmem hpl;have hRm:=zI (zI hres3 0 (.int .i64 p')) 1 (.int .i64 n');have jm0:=zC hRm 0;have jm1:=zC hRm 1;go_wp2_with fail;refine bodyPost_ret (v:=.tuple #[.agg #[.int .i64 p',.int .i64 n'],.bool false]) (by simp [results,Tryz.results106,go_sem,jm0,jm1]) rfl (RStPost.none_ ?_ (zA HF) (p',n') rfl);exact (hB3.setCell (p:=⟨w.heap.size,0,none⟩) (Nat.le_refl _) _).setCell (p:=⟨w.heap.size,1,none⟩) (Nat.le_refl _) _
    ·have hdb:((dn:Int) == 0)=false:=(by rw [beq_eq_false_iff_ne];omega);have HLV:Hid (zAL x=dn):=zF (by rw [zA HFO hok,zA HDN,if_neg (by omega)];rfl);clear hok hdz;have HIF:Hid (zAe F.order (0,0) 0 ws=if last < dn∧dn∈F.order then zAe F.order (p',n') dn (ws.drop (j + 1)) else none):=zF (by
      rw [zA HTO,zA HLV]
      by_cases hcnd:last < dn∧dn∈F.order
      ·rw [if_pos ⟨zA HOK,hcnd.1,hcnd.2⟩,if_pos hcnd]
      ·rw [if_neg (fun h=>hcnd h.2),if_neg hcnd])
     go_wp2_with fail;refine (zHM lo b dn F w2 (hR0.later hB2) hF.len).mono ?_;rintro e w4 ⟨⟨pl,rfl,hpl⟩,hw4⟩;subst hw4
     by_cases hle:dn≤last
     ·have hdl:decide (dn≤last)=true:=(by simp;omega);have HF:Hid (zDH F ws=none):=zF (by rw [zA HSP,zA HIF,if_neg (by omega)];rfl);clear hle;have hRm:=zI (zI hres2 0 (.int .i64 p')) 1 (.int .i64 n');have jm0:=zC hRm 0;have jm1:=zC hRm 1;go_wp2_with fail;refine bodyPost_ret (v:=.tuple #[.agg #[.int .i64 p',.int .i64 n'],.bool false]) (by simp [results,Tryz.results106,go_sem,jm0,jm1]) rfl (RStPost.none_ ?_ (zA HF) (p',n') rfl);exact (hB2.setCell (p:=⟨w.heap.size,0,none⟩) (Nat.le_refl _) _).setCell (p:=⟨w.heap.size,1,none⟩) (Nat.le_refl _) _
     ·have hdl:decide (dn≤last)=false:=by simp;omega
      by_cases hmem:dn∈F.order
      ·have hpl2:decide (pl < 0)=false:=(by rw [hpl];simp [hmem]);have HF:Hid (zAe F.order (0,0) 0 ws=zAe F.order (p',n') dn (ws.drop (j + 1))):=zF (by rw [zA HIF,if_pos ⟨by omega,hmem⟩]);clear hle hmem hpl;go_wp2_with fail
       go_roundg (gk - 1)
       case measure=>omega
       case rel=>exact ⟨j + 1,p',n',dn,by go_num,rfl,by omega,hlt2.1,hlt2.2,by omega,zA HF,hB2,hres2,hcub2⟩
      ·have hpl2:decide (pl < 0)=true:=(by rw [hpl];simp [hmem]);have HF:Hid (zDH F ws=none):=zF (by rw [zA HSP,zA HIF,if_neg (fun h=>hmem h.2)];rfl);clear hle hmem hpl;have hRm:=zI (zI hres2 0 (.int .i64 p')) 1 (.int .i64 n');have jm0:=zC hRm 0;have jm1:=zC hRm 1;go_wp2_with fail;refine bodyPost_ret (v:=.tuple #[.agg #[.int .i64 p',.int .i64 n'],.bool false]) (by simp [results,Tryz.results106,go_sem,jm0,jm1]) rfl (RStPost.none_ ?_ (zA HF) (p',n') rfl);exact (hB2.setCell (p:=⟨w.heap.size,0,none⟩) (Nat.le_refl _) _).setCell (p:=⟨w.heap.size,1,none⟩) (Nat.le_refl _) _
  ·have hjl:j=ws.length:=(by omega);subst hjl;rw [List.drop_length] at hto;have HTO:Hid (zDH F ws=if zFm F.cl (p,n) then some (p,n) else none):=zF (by rw [zA HSP,hto];rfl);clear hto;have HBITS:=zF hF.bits;have hcl24:=hF.cl;have x3:wr.cell? ⟨b,3,none⟩=some (.slice aC F.cl.length cC):=(by rw [hb.cell (p:=⟨b,3,none⟩) hbw];exact k3);obtain ⟨wo,rfl⟩:∃ wo,wo=wr:=⟨_,rfl⟩;go_wp2_with fail
   go_loopg [12] F.cl.length (fun q i wx=>∃ k:Nat,i=.int .i64 k∧k + q=F.cl.length∧zFm (F.cl.take k) (p,n)=true∧Below w.heap.size w wx∧
    wx.heap[w.heap.size]?=some (.cells #[.int .i64 0,.int .i64 0] 121 (0,0))∧wx.heap[w.heap.size + 1]?=some (.cells #[.int .i64 p,.int .i64 n] 121 (0,0)))
   case atStart=>exact ⟨0,rfl,by omega,rfl,hb,hres,hcub⟩
   case round=>
    obtain ⟨k,rfl,hk,hsat,hb2,hres2,hcub2⟩:=hrel;have HSAT:=zF hsat;clear hsat;have hbs2:=zB hcub2;have hbs20:w.heap.size < wr.heap.size:=(by omega);have hbw2:b < wr.heap.size:=(by omega);have y3:wr.cell? ⟨b,3,none⟩=some (.slice aC F.cl.length cC):=(by rw [hb2.cell (p:=⟨b,3,none⟩) hbw];exact k3);have r20:wr.cell? ⟨w.heap.size,0,none⟩=some (.int .i64 0):=zE hres2 rfl;have r21:wr.cell? ⟨w.heap.size,1,none⟩=some (.int .i64 0):=zE hres2 rfl;have z20:=zD hres2 0;have z21:=zD hres2 1;have c20:wr.cell? ⟨w.heap.size + 1,0,none⟩=some (.int .i64 p):=zE hcub2 rfl;have c21:wr.cell? ⟨w.heap.size + 1,1,none⟩=some (.int .i64 n):=zE hcub2 rfl
    by_cases hlt2:k < F.cl.length
    ·obtain ⟨g,cap2,hV,hg,hg',_,hcell⟩:=zS hC (by omega);injection hV with hV _ hV2;subst hV hV2;have hgw:g < wr.heap.size:=(by omega);obtain ⟨ha,hb'⟩:=zAc F.cl k hlt2;have hx0:wr.cell? ⟨g,k * 2,none⟩=some (.int .i64 (F.cl[k].1:Int)):=(by rw [hb2.cell (p:=⟨g,k * 2,none⟩) hg'];exact hcell _ _ ha);have hx1:wr.cell? ⟨g,k * 2 + 1,none⟩=some (.int .i64 (F.cl[k].2:Int)):=(by rw [hb2.cell (p:=⟨g,k * 2 + 1,none⟩) hg'];exact hcell _ _ hb');have HT:=zF (zOm F.cl (p,n) k hlt2);have HO:=zF (zR4 F.cl (p,n) k hlt2);obtain ⟨hb1,hb2x⟩:=zA HBITS _ (List.getElem_mem hlt2);clear hcell ha hb';generalize F.cl[k]=c at *;obtain ⟨xp,xn⟩:=c;dsimp only at hx0 hx1 hb1 hb2x;have h1:(bits .and .i64 (xp:Int) (xn:Int) == 0)=(xp &&& xn == 0):=(by rw [zBN _ _ (by omega) (by omega),zAN]);have h2:(bits .and .i64 (xp:Int) (p:Int) == 0)=(xp &&& p == 0):=(by rw [zBN _ _ (by omega) (by omega),zAN]);have h3:(bits .and .i64 (xn:Int) (n:Int) == 0)=(xn &&& n == 0):=(by rw [zBN _ _ (by omega) (by omega),zAN]);have HM:Hid (zEO (xp,xn) (p,n)=((xp &&& xn == 0) && ((xp &&& p == 0) && (xn &&& n == 0)))):=zF rfl;have hA:=hb2.alloc (Nat.le_of_lt hbs20) (.cells #[.int .i64 (xp:Int),.int .i64 (xn:Int)] 121);have hres3:=(heap_alloc_old wr (.cells #[.int .i64 (xp:Int),.int .i64 (xn:Int)] 121) hbs20).trans hres2;have hcub3:=(heap_alloc_old wr (.cells #[.int .i64 (xp:Int),.int .i64 (xn:Int)] 121) hbs2).trans hcub2
     cases e1:(xp &&& xn == 0) with
     | false=>
      rw [e1] at h1;have HM1:Hid (zEO (xp,xn) (p,n)=false):=zF (by rw [zA HM,e1];rfl);clear e1;go_wp2_with fail
      go_roundg (gk - 1)
      case measure=>omega
      case rel=>exact ⟨k + 1,by go_num,by omega,by rw [zA HT,zA HSAT,zA HM1];rfl,hA,hres3,hcub3⟩
     | true=>
      rw [e1] at h1
      cases e2:(xp &&& p == 0) with
      | false=>
       rw [e2] at h2;have HM1:Hid (zEO (xp,xn) (p,n)=false):=zF (by rw [zA HM,e1,e2];rfl);clear e1 e2;go_wp2_with fail
       go_roundg (gk - 1)
       case measure=>omega
       case rel=>exact ⟨k + 1,by go_num,by omega,by rw [zA HT,zA HSAT,zA HM1];rfl,hA,hres3,hcub3⟩
      | true=>
       rw [e2] at h2
       cases e3:(xn &&& n == 0) with
       | false=>
        rw [e3] at h3;have HM1:Hid (zEO (xp,xn) (p,n)=false):=zF (by rw [zA HM,e1,e2,e3];rfl);clear e1 e2 e3;go_wp2_with fail
        go_roundg (gk - 1)
        case measure=>omega
        case rel=>exact ⟨k + 1,by go_num,by omega,by rw [zA HT,zA HSAT,zA HM1];rfl,hA,hres3,hcub3⟩
       | true=>
        rw [e3] at h3;have HF:Hid (zDH F ws=none):=zF (by rw [zA HTO,zA HO (by rw [zA HM,e1,e2,e3];rfl)];rfl);clear e1 e2 e3;have hR:=zI (zI hres2 0 (.int .i64 p)) 1 (.int .i64 n);have hR':=(heap_alloc_old _ (.cells #[.int .i64 (xp:Int),.int .i64 (xn:Int)] 121) (zB hR)).trans hR;have j0:=zC hR' 0;have j1:=zC hR' 1;go_wp2_with fail;refine bodyPost_ret (v:=.tuple #[.agg #[.int .i64 p,.int .i64 n],.bool false]) (by simp [results,Tryz.results106,go_sem,j0,j1]) rfl (RStPost.none_ ?_ (zA HF) (p,n) rfl);exact ((hb2.setCell (p:=⟨w.heap.size,0,none⟩) (Nat.le_refl _) _).setCell (p:=⟨w.heap.size,1,none⟩) (Nat.le_refl _) _).alloc (by simp [World.setCell];omega) _
    ·have hkl:k=F.cl.length:=(by omega);have HF:Hid (zDH F ws=some (p,n)):=zF (by
      have:=zA HSAT
      rw [hkl,List.take_length] at this;rw [zA HTO,this];rfl)
     have hR:=zI (zI hres2 0 (.int .i64 p)) 1 (.int .i64 n);have j0:=zC hR 0;have j1:=zC hR 1;go_wp2_with fail;refine bodyPost_ret (v:=.tuple #[.agg #[.int .i64 p,.int .i64 n],.bool true]) (by simp [results,Tryz.results106,go_sem,j0,j1]) rfl (RStPost.some_ ?_ (p,n) (zA HF) rfl);exact (hb2.setCell (p:=⟨w.heap.size,0,none⟩) (Nat.le_refl _) _).setCell (p:=⟨w.heap.size,1,none⟩) (Nat.le_refl _) _
theorem zQl (x c:Nat × Nat):okC x c=!zEO x c:=by
 unfold okC zEO;have e:((x.1 &&& c.1) ||| (x.2 &&& c.2) != 0)=!((x.1 &&& c.1 == 0) && (x.2 &&& c.2 == 0)):=by
  have:(x.1 &&& c.1) ||| (x.2 &&& c.2)=0↔(x.1 &&& c.1=0∧x.2 &&& c.2=0):=by
   constructor
   ·intro h
    constructor
    ·apply Nat.eq_of_testBit_eq;intro i
     have:((x.1 &&& c.1) ||| (x.2 &&& c.2)).testBit i=false:=by rw [h];simp
     rw [Nat.testBit_or,Bool.or_eq_false_iff] at this;rw [this.1];simp
    ·apply Nat.eq_of_testBit_eq;intro i
     have:((x.1 &&& c.1) ||| (x.2 &&& c.2)).testBit i=false:=by rw [h];simp
     rw [Nat.testBit_or,Bool.or_eq_false_iff] at this;rw [this.2];simp
   ·rintro ⟨h1,h2⟩;rw [h1,h2];rfl
  rw [Bool.eq_iff_iff,bne_iff_ne,Bool.not_eq_true',Bool.and_eq_false_iff,beq_eq_false_iff_ne,beq_eq_false_iff_ne,ne_eq,this,Classical.not_and_iff_not_or_not]
 rw [e]
 cases h1:(x.1 &&& x.2 == 0)<;>cases h2:(x.1 &&& c.1 == 0)<;>cases h3:(x.2 &&& c.2 == 0)<;>simp [bne,h1]
theorem zLk (st:RS) (h:∀ v∈st.told,v≤8) (k:Nat):zDE st k < 512:=by
 unfold zDE;have hz:∀ x∈((st.told.zip st.kinds).take k),x.1≤8:=fun x hx=>h _ (List.of_mem_zip (List.mem_of_mem_take hx)).1
 suffices hh:∀ (l:List (Nat × Bool)) (a:Nat),a < 512→(∀ x∈l,x.1≤8)→l.foldl (fun a x=>if x.2 then a ||| 2 ^ x.1 else a) a < 512 from hh _ 0 (by omega) hz
 intro l
 induction l with
 | nil=>intro a ha _;exact ha
 | cons x l ih=>
  intro a ha hx;rw [List.foldl_cons]
  apply ih
  ·split
   ·have:=zD2 x.1 (hx x (by simp))
    exact zBD _ _ ha (by omega)
   ·exact ha
  ·exact fun y hy=>hx y (by simp [hy])
theorem zNy (a v:Nat) (h:a < 512) (hv:a.testBit v=true):v≤8:=by
 apply Classical.byContradiction
 intro hn
 have:a.testBit v=false:=Nat.testBit_lt_two_pow (Nat.lt_of_lt_of_le (show a < 2 ^ 9 from h) (Nat.pow_le_pow_right (by omega) (by omega)))
 rw [this] at hv;cases hv
theorem zLP {st:RS} {q0:QS} (hs:zEA st q0) (hn:zCf q0) (hc:q0.cl.length≤24):FQ (zW st) (zK q0)∧FOk (zW st)∧FW (zW st):=by
 have ho:=zDv hs;have hna:=zHC hn;have hk:=zIm hs hn;have hcl:(zW st).cl=q0.cl:=hs.cl;have hbits:∀ c∈q0.cl,Bd c:=hn.bits;have hlen:=zCp hn;have hv:∀ c∈q0.cl,∀ v,c.1.testBit v=true∨c.2.testBit v=true→v∈(zW st).order:=by
  intro c hcm v hb;have h8:v≤8:=by
   rcases hb with hb | hb
   ·exact zNy _ _ (hn.bits c hcm).1 hb
   ·exact zNy _ _ (hn.bits c hcm).2 hb
  have h1:1≤v:=by
   rcases Nat.eq_zero_or_pos v with e | e
   ·subst e
    have:=hn.bit0 c hcm
    rcases hb with hb | hb
    ·rw [this.1] at hb;cases hb
    ·rw [this.2] at hb;cases hb
   ·exact e
  show v∈zB0 st 8 ++ st.told;rw [List.mem_append]
  by_cases hsv:zCk q0.vars v=true
  ·right
   rw [hs.told,List.mem_map];unfold zCk at hsv;rw [List.any_eq_true] at hsv;obtain ⟨x,hx,he⟩:=hsv;exact ⟨x,hx,by simpa using he⟩
  ·left
   rw [zOF hs];unfold zA6;rw [List.mem_filter];refine ⟨List.mem_map.2 ⟨v - 1,by simp;omega,by omega⟩,?_⟩;rw [Bool.and_eq_true];refine ⟨by simpa using hsv,?_⟩;unfold inC;rw [List.any_eq_true];refine ⟨c,hcm,?_⟩;rw [zB8 v h1 h8,zCy,Nat.testBit_or,Bool.or_eq_true];exact hb
 have hnm:∀ v∈(zW st).order,1≤v∧v≤8:=by
  intro v hvv;rw [ho,List.mem_map] at hvv;obtain ⟨x,hx,rfl⟩:=hvv;exact hna.2 x hx
 have htold:∀ v∈st.told,v≤8:=by
  intro v hvv;rw [hs.told,List.mem_map] at hvv;obtain ⟨x,hx,rfl⟩:=hvv;exact (hn.names x hx).2
 refine ⟨⟨ho,hk,hna.1,hna.2,hcl,hc,hbits,hv⟩,⟨by rw [ho];exact hna.1,hnm,by rw [hcl];exact hbits,by rw [hcl];exact hv⟩,⟨by rw [ho];simpa using hlen,fun v h=>(hnm v h).2,by rw [hcl];exact hc,by rw [hcl];exact hn.bits,zLk st htold _⟩⟩
theorem zQN {q0:QS} (hn:zCf q0) (hc:q0.cl.length≤24):QB (zK q0):=⟨zCp hn,hc,hn.bits,(zHC hn).2⟩
def zG6 (tl:List (List UInt8)):List Nat:=tl.map (fun x=>cnt x big)
theorem zEY (tl:List (List UInt8)) (k:Nat) (h:k < tl.length):zu (zG6 (tl.take (k + 1)))=zu (zG6 (tl.take k)) ++ [.int .i64 (cnt tl[k] big:Nat)]:=by
 unfold zu zG6;rw [List.take_succ_eq_append_getElem h,List.map_append,List.map_append];rfl
structure zF2 (lo b:Nat) (F:zv) (ss:List (Nat × Nat)) (aS:Option Addr) (cS:Nat) (lS:Nat) (hd:List UInt8) (tl:List (List UInt8)) (g off cap:Nat) (w:World):Prop where
 hR:RefAt lo w b F
 hF:FW F
 hS:w.ownsRow lS 121 2 (.slice aS ss.length cS) ss.length (zAK ss)
 hSB:ss.length≤9000
 hSb:∀ c∈ss,c.1 < 512∧c.2 < 512
 hs:StrsAt w (some ⟨g,off,none⟩) (hd :: tl)
 hl:tl.length≤1048575
 hcap:tl.length + 1≤cap
 hws:∀ x∈tl,x.length≤1048576
theorem zC6 {α:Type} (l:List α) (k:Nat) (d:α) (h:k < l.length):l.getD k d=l[k]:=by
 rw [List.getD,List.getElem?_eq_getElem h];rfl
theorem zSy (lo b:Nat) (F:zv) (ss:List (Nat × Nat)) (aS:Option Addr) (cS:Nat) (lS:Nat) (truth:Bool) (hd:List UInt8) (tl:List (List UInt8)) (g off cap:Nat) (w:World) (hIn:zF2 lo b F ss aS cS lS hd tl g off cap w) (hhd:hd=[97]) (htr:truth=false) (hln:tl.length=1) :
  Calls Tryz.prog 86 #[.pointer (some ⟨b,0,none⟩),.slice aS ss.length cS,.slice (some ⟨g,off,none⟩) (tl.length + 1) cap,.bool truth] w fun e w'=>RStPost (zo F truth ss hd tl) w e w':=by
 have HLN:=zF hln;have HHD:=zF hhd;have HTR:=zF htr;clear hln hhd htr;obtain ⟨hR,hF,hS,hSB,hSb,hs,hl,hcap,hws⟩:=hIn;obtain ⟨i0,hi,hz0,hz1,hz2⟩:=info_parts Tryz.info3;have hR0:=hR;obtain ⟨_,vO,vE,vC,hfb,_,_,hC⟩:=hR;obtain ⟨aC,cC,rfl⟩:=zN hC;have hbw:=zB hfb;obtain ⟨g',off',cur,he,hg,hcur⟩:=hs (by simp);injection he with he;injection he with e1 e2 e3;subst e1 e2;clear e3;have hgw:=zB hg;have HC0:Hid (∀ wx:World,Below w.heap.size w wx→wx.cell? ⟨g,off,none⟩=some (S hd)):=zF (fun wx hx=>by
  rw [hx.cell (p:=⟨g,off,none⟩) hgw,zC hg];exact hcur 0 (by simp))
 have HCJ:Hid (∀ (wx:World) (j:Nat) (hj:j < tl.length),Below w.heap.size w wx→wx.cell? ⟨g,off + (j + 1),none⟩=some (S tl[j])):=zF (fun wx j hj hx=>by
  rw [hx.cell (p:=⟨g,off + (j + 1),none⟩) hgw,zC hg];exact hcur (j + 1) (by simpa using hj))
 have HST:Hid (∀ (wx:World) (ao:Option Addr),Below w.heap.size w wx→(tl≠[]→ao=some ⟨g,off + 1,none⟩)→StrsAt wx ao tl):=zF (fun wx ao hx ho hne=>⟨g,off + 1,cur,ho hne,(hx.block _ hgw).trans hg,fun j hj=>by
  have h1:=hcur (1 + j) (by simp;omega);rw [← Nat.add_assoc] at h1;rw [h1];simp [show 1 + j=j + 1 from by omega]⟩)
 have HWS:=zF hws;clear hcur hws hs hg
 go_enter Tryz.func86,Tryz.ntmps86
 go_wp2_with fail
 go_loopg [11,12] tl.length (fun m v i wx=>∃ j:Nat,i=.int .i64 (j + 1)∧j + m=tl.length∧wx.ownsRow (w.heap.size + 2) 3 1 v j (zu (zG6 (tl.take j)))∧Below w.heap.size w wx∧
   wx.heap[w.heap.size]?=some (.cells #[.int .i64 0,.int .i64 0] 121 (0,0))∧wx.heap[w.heap.size + 1]?=some (.cells #[.int .i64 0,.int .i64 0] 121 (0,0)))
 case atStart=>exact ⟨0,rfl,by omega,World.ownsRow_nil _ _ _ _,((Below.refl _ _).alloc (Nat.le_refl _) _).alloc (by simp) _,by rw [heap_alloc_old _ _ (by simp)];exact heap_alloc_new _ _,zEn (by simp)⟩
 case round=>
  obtain ⟨j,rfl,hj,hown,hb,hres,hnon⟩:=hrel;have hbs:=zB hnon
  by_cases hlt:j < tl.length
  ·have hcj:=zA HCJ wr j hlt hb;have hxl:=zA HWS _ (List.getElem_mem hlt);have HT:=zF (zEY tl j hlt);have hgw1:g < wr.heap.size:=(by omega);generalize tl[j]=x at *;go_wp2_with fail;refine (zEi x 1048576 wr hxl (by omega)).mono ?_;rintro e w1 ⟨rfl,hw1⟩;subst hw1;rw [show cnt x 1048576=cnt x big from rfl]
   go_wp2_with (at_builtin;refine zV rfl _ _ 25 rfl (w.heap.size + 2) i0 (.int .i64 0) 1 8 Tryz.underlying25 hi hz0 hz1 hz2 rfl (by decide) _ _ _ hown rfl rfl rfl (by simp [Value.oneCell']) (by unfold maxLen;omega) (by omega) (by omega) ?_;intro v' w2 hown' hgrow hnn)
   go_roundg (gk - 1)
   case measure=>omega
   case rel=>
    have hlto:=hown.lt;refine ⟨j + 1,by go_num,by omega,by rw [zA HT];exact hown',za hb hgrow hown (by omega) (by omega),?_,?_⟩
    ·rw [hgrow.block _ (by omega) (fun e=>by have:=hlto _ e.symm;omega)];exact hres
    ·rw [hgrow.block _ (by omega) (fun e=>by have:=hlto _ e.symm;omega)];exact hnon
  ·have hjl:j=tl.length:=(by omega);subst hjl;rw [List.take_length] at hown;clear hj hlt hi hz0 hz1 hz2 HCJ;obtain ⟨aK,cK,rfl⟩:=zN hown;have hc0:=zA HC0 wr hb;have hgw1:g < wr.heap.size:=(by omega);have hbw1:b < wr.heap.size:=(by omega);have hbs0:w.heap.size < wr.heap.size:=(by omega);have r0:wr.cell? ⟨w.heap.size,0,none⟩=some (.int .i64 0):=zE hres rfl;have r1:wr.cell? ⟨w.heap.size,1,none⟩=some (.int .i64 0):=zE hres rfl;have zr0:=zD hres 0;have zr1:=zD hres 1;have n0:wr.cell? ⟨w.heap.size + 1,0,none⟩=some (.int .i64 0):=zE hnon rfl;have n1:wr.cell? ⟨w.heap.size + 1,1,none⟩=some (.int .i64 0):=zE hnon rfl;have x1:wr.cell? ⟨b,1,none⟩=some (.int .i64 F.all):=(by rw [hb.cell (p:=⟨b,1,none⟩) hbw,zC hfb];rfl);have x3:wr.cell? ⟨b,3,none⟩=some (.slice aC F.cl.length cC):=(by rw [hb.cell (p:=⟨b,3,none⟩) hbw,zC hfb];rfl);have HK:Hid (∀ (i:Nat) (hi:i < tl.length),∃ gK,aK=some ⟨gK,0,none⟩∧gK < wr.heap.size∧wr.cell? ⟨gK,i,none⟩=some (.int .i64 (cnt tl[i] big:Nat))∧tl.length≤cK):=zF (fun i hi=>by
    obtain ⟨gK,capK,hVe,_,hg',hcap',hcell⟩:=zS hown (by omega);injection hVe with hVe _ hV2;subst hVe hV2;exact ⟨gK,rfl,hg',hcell _ _ (by unfold zu zG6;simp [hi]),hcap'⟩)
   have HBITS:=zF hF.bits;have hc24:=hF.cl;have hall:=hF.all;have HSB:=zF hSb;have HCELL:Hid (∀ (m:Nat) (hm:m < F.cl.length),∃ g2,aC=some ⟨g2,0,none⟩∧g2 < w.heap.size∧w.cell? ⟨g2,m * 2,none⟩=some (.int .i64 (F.cl[m].1:Int))∧w.cell? ⟨g2,m * 2 + 1,none⟩=some (.int .i64 (F.cl[m].2:Int))):=zF (fun m hm=>by
    obtain ⟨g2,cap2,hVe,hg2,hg2',_,hcell⟩:=zS hC (by omega);injection hVe with hVe _ hV2;subst hVe hV2;obtain ⟨hpa,hpb⟩:=zAc F.cl m hm;exact ⟨g2,rfl,hg2',hcell _ _ hpa,hcell _ _ hpb⟩)
   have HSEL:Hid (∀ (m:Nat) (hm:m < ss.length),∃ g2,aS=some ⟨g2,0,none⟩∧g2 < w.heap.size∧w.cell? ⟨g2,m * 2,none⟩=some (.int .i64 (ss[m].1:Int))∧w.cell? ⟨g2,m * 2 + 1,none⟩=some (.int .i64 (ss[m].2:Int))):=zF (fun m hm=>by
    obtain ⟨g2,cap2,hVe,hg2,hg2',_,hcell⟩:=zS hS (by omega);injection hVe with hVe _ hV2;subst hVe hV2;obtain ⟨hpa,hpb⟩:=zAc ss m hm;exact ⟨g2,rfl,hg2',hcell _ _ hpa,hcell _ _ hpb⟩)
   have HFW:=zF hF;clear hSb hown hC hfb hS hF;have hln:=zA HLN;have hhd:=zA HHD;have htr:=zA HTR;subst hhd htr;have h01:0 < tl.length:=(by omega);have HSP:Hid (zo F false ss [97] tl=axR F (cnt tl[0] big)):=zF (by unfold zo;rw [if_pos ⟨rfl,rfl,hln⟩,zC6 _ _ _ h01]);have hlb:((tl.length:Int) == 1)=true:=(by rw [beq_iff_eq];omega);have hi0:(0:Int) < (tl.length:Int):=(by omega);clear hln;obtain ⟨gK,rfl,hgK,kc0,hcK⟩:=zA HK 0 h01;generalize cnt tl[0] big=c at *
   by_cases hc1:c < 1
   ·have HF:Hid (zo F false ss [97] tl=none):=zF (by rw [zA HSP];unfold axR;rw [if_pos (Or.inl hc1)]);have hq1:decide ((c:Int) < 1)=true:=(by simp;omega);clear hc1;go_wp2_with fail
    go_quiet (fail)
    generalize hgen:wr.drewN nq=wq;have hbwq:Below w.heap.size w wq:=(by rw [← hgen];exact below_drewN hb nq);have hreswq:wq.heap[w.heap.size]?=some (.cells #[.int .i64 0,.int .i64 0] 121 (0,0)):=(by rw [← hgen];exact hres);have hnonwq:wq.heap[w.heap.size + 1]?=some (.cells #[.int .i64 0,.int .i64 0] 121 (0,0)):=(by rw [← hgen];exact hnon);clear hgen;have hbswq:=zB hnonwq;have hbs0wq:=zB hreswq;obtain ⟨r0wq,r1wq⟩:=zJ hreswq;have zr0wq:=zD hreswq 0;have zr1wq:=zD hreswq 1;obtain ⟨n0wq,n1wq⟩:=zJ hnonwq;have hRq:=zI (zI hreswq 0 (.int .i64 0)) 1 (.int .i64 0);have jq0:=zC hRq 0;have jq1:=zC hRq 1;go_wp2_with fail;refine bodyPost_ret (v:=.tuple #[.agg #[.int .i64 0,.int .i64 0],.bool false]) (by simp [results,Tryz.results86,go_sem,jq0,jq1]) rfl (RStPost.none_ ?_ (zA HF) (0,0) rfl);exact (hbwq.setCell (p:=⟨w.heap.size,0,none⟩) (Nat.le_refl _) _).setCell (p:=⟨w.heap.size,1,none⟩) (Nat.le_refl _) _
   ·have hq1:decide ((c:Int) < 1)=false:=by simp;omega
    by_cases hc2:F.cl.length < c
    ·have HF:Hid (zo F false ss [97] tl=none):=zF (by rw [zA HSP];unfold axR;rw [if_pos (Or.inr hc2)]);have hq2:decide (F.cl.length < c)=true:=(by simp;omega);have hq2':decide ((F.cl.length:Int) < (c:Int))=true:=(by simp;omega);clear hc1 hc2;go_wp2_with fail
     go_quiet (fail)
     generalize hgen:wr.drewN nq=wq;have hbwq:Below w.heap.size w wq:=(by rw [← hgen];exact below_drewN hb nq);have hreswq:wq.heap[w.heap.size]?=some (.cells #[.int .i64 0,.int .i64 0] 121 (0,0)):=(by rw [← hgen];exact hres);have hnonwq:wq.heap[w.heap.size + 1]?=some (.cells #[.int .i64 0,.int .i64 0] 121 (0,0)):=(by rw [← hgen];exact hnon);clear hgen;have hbswq:=zB hnonwq;have hbs0wq:=zB hreswq;obtain ⟨r0wq,r1wq⟩:=zJ hreswq;have zr0wq:=zD hreswq 0;have zr1wq:=zD hreswq 1;obtain ⟨n0wq,n1wq⟩:=zJ hnonwq;have hRq:=zI (zI hreswq 0 (.int .i64 0)) 1 (.int .i64 0);have jq0:=zC hRq 0;have jq1:=zC hRq 1;go_wp2_with fail;refine bodyPost_ret (v:=.tuple #[.agg #[.int .i64 0,.int .i64 0],.bool false]) (by simp [results,Tryz.results86,go_sem,jq0,jq1]) rfl (RStPost.none_ ?_ (zA HF) (0,0) rfl);exact (hbwq.setCell (p:=⟨w.heap.size,0,none⟩) (Nat.le_refl _) _).setCell (p:=⟨w.heap.size,1,none⟩) (Nat.le_refl _) _
    ·have hq2:decide (F.cl.length < c)=false:=(by simp;omega);have hq2':decide ((F.cl.length:Int) < (c:Int))=false:=(by simp;omega);go_wp2_with fail
     go_quiet (fail)
     generalize hgen:wr.drewN nq=wq;have hbwq:Below w.heap.size w wq:=(by rw [← hgen];exact below_drewN hb nq);have hreswq:wq.heap[w.heap.size]?=some (.cells #[.int .i64 0,.int .i64 0] 121 (0,0)):=(by rw [← hgen];exact hres);have hnonwq:wq.heap[w.heap.size + 1]?=some (.cells #[.int .i64 0,.int .i64 0] 121 (0,0)):=(by rw [← hgen];exact hnon);have kc0wq:wq.cell? ⟨gK,0,none⟩=some (.int .i64 (c:Nat)):=(by rw [← hgen];exact kc0);have x3wq:wq.cell? ⟨b,3,none⟩=some (.slice aC F.cl.length cC):=(by rw [← hgen];exact x3);clear hgen;have hbswq:=zB hnonwq;have hbs0wq:=zB hreswq;obtain ⟨r0wq,r1wq⟩:=zJ hreswq;have zr0wq:=zD hreswq 0;have zr1wq:=zD hreswq 1;obtain ⟨n0wq,n1wq⟩:=zJ hnonwq;have hgKq:gK < wq.heap.size:=zAm kc0wq;have hbwx:b < wq.heap.size:=zAm x3wq;obtain ⟨m,rfl⟩:∃ m,c=m + 1:=⟨c - 1,by omega⟩;have hm:m < F.cl.length:=(by omega);have HAP:Hid (zo F false ss [97] tl=zBt F.cl[m]):=zF (by rw [zA HSP];unfold axR;rw [if_neg (by omega),Nat.add_sub_cancel,zC6 _ _ _ hm]);obtain ⟨g2,rfl,hg2',hy0,hy1⟩:=zA HCELL m hm;have hx0:wq.cell? ⟨g2,m * 2,none⟩=some (.int .i64 (F.cl[m].1:Int)):=(by rw [hbwq.cell (p:=⟨g2,m * 2,none⟩) hg2'];exact hy0);have hx1:wq.cell? ⟨g2,m * 2 + 1,none⟩=some (.int .i64 (F.cl[m].2:Int)):=(by rw [hbwq.cell (p:=⟨g2,m * 2 + 1,none⟩) hg2'];exact hy1);have hlt9:=zA HBITS _ (List.getElem_mem hm);have hg2w:g2 < wq.heap.size:=zAm hx0;have hwm:IntKind.i64.wrap (m:Int)=(m:Int):=zBa m (by omega);have hwm2:wrap64 (m:Int)=(m:Int):=IntWalk.wrap64_in _ ⟨by omega,by omega⟩;have hmI:(m:Int) < (F.cl.length:Int):=Int.ofNat_lt.2 hm;clear hc1 hc2 hq1 hq2 hq2' hy0 hy1 HCELL HSEL HK HBITS HSB HST HWS HC0 hR0 x1 x3 kc0 r0 r1 zr0 zr1 n0 n1 hres hnon hb hc0 hgw1 hbw1 hbs0 hbs hgK;generalize F.cl[m]=c at *;obtain ⟨p,n⟩:=c;have hand:(bits .and .i64 (p:Int) (n:Int) == 0)=(p &&& n == 0):=(by rw [zBN _ _ (by have:=hlt9.1;dsimp only at this;omega) (by have:=hlt9.2;dsimp only at this;omega),zAN]);dsimp only at hx0 hx1;go_wp2_with fail
     go_region
     all_goals go_wp2_with fail
     generalize hgen:(wq.alloc (.cells #[.int .i64 (p:Int),.int .i64 (n:Int)] 121)).drew=wz;have hbwz:Below w.heap.size w wz:=(by rw [← hgen];exact (hbwq.alloc (Nat.le_of_lt hbs0wq) _).drew);have hreswz:wz.heap[w.heap.size]?=some (.cells #[.int .i64 0,.int .i64 0] 121 (0,0)):=(by rw [← hgen];exact (heap_alloc_old wq _ hbs0wq).trans hreswq);have hnonwz:wz.heap[w.heap.size + 1]?=some (.cells #[.int .i64 0,.int .i64 0] 121 (0,0)):=(by rw [← hgen];exact (heap_alloc_old wq _ hbswq).trans hnonwq);have hcz:wz.heap[wq.heap.size]?=some (.cells #[.int .i64 (p:Int),.int .i64 (n:Int)] 121 (0,0)):=(by rw [← hgen];exact heap_alloc_new wq _);clear hgen;have hbswz:=zB hnonwz;have hbs0wz:=zB hreswz;obtain ⟨r0wz,r1wz⟩:=zJ hreswz;have zr0wz:=zD hreswz 0;have zr1wz:=zD hreswz 1;obtain ⟨n0wz,n1wz⟩:=zJ hnonwz;obtain ⟨cz0,cz1⟩:=zJ hcz;have hczl:=zB hcz;have hne1:w.heap.size≠wq.heap.size:=(by omega);have hne2:wq.heap.size≠w.heap.size:=(by omega);clear hx0 hx1 kc0wq x3wq r0wq r1wq zr0wq zr1wq n0wq n1wq hreswq hnonwq
     go_region
     all_goals go_wp2_with fail
     all_goals
      have hRq:=zI (zI hreswz 0 (.int .i64 p)) 1 (.int .i64 n);have jq0:=zC hRq 0;have jq1:=zC hRq 1;refine bodyPost_ret (v:=.tuple #[.agg #[.int .i64 p,.int .i64 n],.bool (p &&& n == 0)]) (by simp [results,Tryz.results86,go_sem,jq0,jq1]) rfl ?_;have hB:Below w.heap.size w ((wz.setCell ⟨w.heap.size,0,none⟩ (.int .i64 p)).setCell ⟨w.heap.size,1,none⟩ (.int .i64 n)).drew:=((hbwz.setCell (p:=⟨w.heap.size,0,none⟩) (Nat.le_refl _) _).setCell (p:=⟨w.heap.size,1,none⟩) (Nat.le_refl _) _).drew
      cases hcl:(p &&& n == 0) with
      | false=>exact RStPost.none_ hB (by rw [zA HAP];unfold zBt;rw [if_neg (by simpa using hcl)]) (p,n) rfl
      | true=>exact RStPost.some_ hB (p,n) (by rw [zA HAP];unfold zBt;rw [if_pos (by simpa using hcl)]) rfl
theorem zSm (lo b:Nat) (F:zv) (ss:List (Nat × Nat)) (aS:Option Addr) (cS:Nat) (lS:Nat) (truth:Bool) (hd:List UInt8) (tl:List (List UInt8)) (g off cap:Nat) (w:World) (hIn:zF2 lo b F ss aS cS lS hd tl g off cap w) (hhd:hd=[99]) (htr:truth=true) :
  Calls Tryz.prog 86 #[.pointer (some ⟨b,0,none⟩),.slice aS ss.length cS,.slice (some ⟨g,off,none⟩) (tl.length + 1) cap,.bool truth] w fun e w'=>RStPost (zo F truth ss hd tl) w e w':=by
 have HHD:=zF hhd;have HTR:=zF htr;clear hhd htr;obtain ⟨hR,hF,hS,hSB,hSb,hs,hl,hcap,hws⟩:=hIn;obtain ⟨i0,hi,hz0,hz1,hz2⟩:=info_parts Tryz.info3;have hR0:=hR;obtain ⟨_,vO,vE,vC,hfb,_,_,hC⟩:=hR;obtain ⟨aC,cC,rfl⟩:=zN hC;have hbw:=zB hfb;obtain ⟨g',off',cur,he,hg,hcur⟩:=hs (by simp);injection he with he;injection he with e1 e2 e3;subst e1 e2;clear e3;have hgw:=zB hg;have HC0:Hid (∀ wx:World,Below w.heap.size w wx→wx.cell? ⟨g,off,none⟩=some (S hd)):=zF (fun wx hx=>by
  rw [hx.cell (p:=⟨g,off,none⟩) hgw,zC hg];exact hcur 0 (by simp))
 have HCJ:Hid (∀ (wx:World) (j:Nat) (hj:j < tl.length),Below w.heap.size w wx→wx.cell? ⟨g,off + (j + 1),none⟩=some (S tl[j])):=zF (fun wx j hj hx=>by
  rw [hx.cell (p:=⟨g,off + (j + 1),none⟩) hgw,zC hg];exact hcur (j + 1) (by simpa using hj))
 have HST:Hid (∀ (wx:World) (ao:Option Addr),Below w.heap.size w wx→(tl≠[]→ao=some ⟨g,off + 1,none⟩)→StrsAt wx ao tl):=zF (fun wx ao hx ho hne=>⟨g,off + 1,cur,ho hne,(hx.block _ hgw).trans hg,fun j hj=>by
  have h1:=hcur (1 + j) (by simp;omega);rw [← Nat.add_assoc] at h1;rw [h1];simp [show 1 + j=j + 1 from by omega]⟩)
 have HWS:=zF hws;clear hcur hws hs hg
 go_enter Tryz.func86,Tryz.ntmps86
 go_wp2_with fail
 go_loopg [11,12] tl.length (fun m v i wx=>∃ j:Nat,i=.int .i64 (j + 1)∧j + m=tl.length∧wx.ownsRow (w.heap.size + 2) 3 1 v j (zu (zG6 (tl.take j)))∧Below w.heap.size w wx∧
   wx.heap[w.heap.size]?=some (.cells #[.int .i64 0,.int .i64 0] 121 (0,0))∧wx.heap[w.heap.size + 1]?=some (.cells #[.int .i64 0,.int .i64 0] 121 (0,0)))
 case atStart=>exact ⟨0,rfl,by omega,World.ownsRow_nil _ _ _ _,((Below.refl _ _).alloc (Nat.le_refl _) _).alloc (by simp) _,by rw [heap_alloc_old _ _ (by simp)];exact heap_alloc_new _ _,zEn (by simp)⟩
 case round=>
  obtain ⟨j,rfl,hj,hown,hb,hres,hnon⟩:=hrel;have hbs:=zB hnon
  by_cases hlt:j < tl.length
  ·have hcj:=zA HCJ wr j hlt hb;have hxl:=zA HWS _ (List.getElem_mem hlt);have HT:=zF (zEY tl j hlt);have hgw1:g < wr.heap.size:=(by omega);generalize tl[j]=x at *;go_wp2_with fail;refine (zEi x 1048576 wr hxl (by omega)).mono ?_;rintro e w1 ⟨rfl,hw1⟩;subst hw1;rw [show cnt x 1048576=cnt x big from rfl]
   go_wp2_with (at_builtin;refine zV rfl _ _ 25 rfl (w.heap.size + 2) i0 (.int .i64 0) 1 8 Tryz.underlying25 hi hz0 hz1 hz2 rfl (by decide) _ _ _ hown rfl rfl rfl (by simp [Value.oneCell']) (by unfold maxLen;omega) (by omega) (by omega) ?_;intro v' w2 hown' hgrow hnn)
   go_roundg (gk - 1)
   case measure=>omega
   case rel=>
    have hlto:=hown.lt;refine ⟨j + 1,by go_num,by omega,by rw [zA HT];exact hown',za hb hgrow hown (by omega) (by omega),?_,?_⟩
    ·rw [hgrow.block _ (by omega) (fun e=>by have:=hlto _ e.symm;omega)];exact hres
    ·rw [hgrow.block _ (by omega) (fun e=>by have:=hlto _ e.symm;omega)];exact hnon
  ·have hjl:j=tl.length:=(by omega);subst hjl;rw [List.take_length] at hown;clear hj hlt hi hz0 hz1 hz2 HCJ;obtain ⟨aK,cK,rfl⟩:=zN hown;have hc0:=zA HC0 wr hb;have hgw1:g < wr.heap.size:=(by omega);have hbw1:b < wr.heap.size:=(by omega);have hbs0:w.heap.size < wr.heap.size:=(by omega);have r0:wr.cell? ⟨w.heap.size,0,none⟩=some (.int .i64 0):=zE hres rfl;have r1:wr.cell? ⟨w.heap.size,1,none⟩=some (.int .i64 0):=zE hres rfl;have zr0:=zD hres 0;have zr1:=zD hres 1;have n0:wr.cell? ⟨w.heap.size + 1,0,none⟩=some (.int .i64 0):=zE hnon rfl;have n1:wr.cell? ⟨w.heap.size + 1,1,none⟩=some (.int .i64 0):=zE hnon rfl;have x1:wr.cell? ⟨b,1,none⟩=some (.int .i64 F.all):=(by rw [hb.cell (p:=⟨b,1,none⟩) hbw,zC hfb];rfl);have x3:wr.cell? ⟨b,3,none⟩=some (.slice aC F.cl.length cC):=(by rw [hb.cell (p:=⟨b,3,none⟩) hbw,zC hfb];rfl);have HK:Hid (∀ (i:Nat) (hi:i < tl.length),∃ gK,aK=some ⟨gK,0,none⟩∧gK < wr.heap.size∧wr.cell? ⟨gK,i,none⟩=some (.int .i64 (cnt tl[i] big:Nat))∧tl.length≤cK):=zF (fun i hi=>by
    obtain ⟨gK,capK,hVe,_,hg',hcap',hcell⟩:=zS hown (by omega);injection hVe with hVe _ hV2;subst hVe hV2;exact ⟨gK,rfl,hg',hcell _ _ (by unfold zu zG6;simp [hi]),hcap'⟩)
   have HBITS:=zF hF.bits;have hc24:=hF.cl;have hall:=hF.all;have HSB:=zF hSb;have HCELL:Hid (∀ (m:Nat) (hm:m < F.cl.length),∃ g2,aC=some ⟨g2,0,none⟩∧g2 < w.heap.size∧w.cell? ⟨g2,m * 2,none⟩=some (.int .i64 (F.cl[m].1:Int))∧w.cell? ⟨g2,m * 2 + 1,none⟩=some (.int .i64 (F.cl[m].2:Int))):=zF (fun m hm=>by
    obtain ⟨g2,cap2,hVe,hg2,hg2',_,hcell⟩:=zS hC (by omega);injection hVe with hVe _ hV2;subst hVe hV2;obtain ⟨hpa,hpb⟩:=zAc F.cl m hm;exact ⟨g2,rfl,hg2',hcell _ _ hpa,hcell _ _ hpb⟩)
   have HSEL:Hid (∀ (m:Nat) (hm:m < ss.length),∃ g2,aS=some ⟨g2,0,none⟩∧g2 < w.heap.size∧w.cell? ⟨g2,m * 2,none⟩=some (.int .i64 (ss[m].1:Int))∧w.cell? ⟨g2,m * 2 + 1,none⟩=some (.int .i64 (ss[m].2:Int))):=zF (fun m hm=>by
    obtain ⟨g2,cap2,hVe,hg2,hg2',_,hcell⟩:=zS hS (by omega);injection hVe with hVe _ hV2;subst hVe hV2;obtain ⟨hpa,hpb⟩:=zAc ss m hm;exact ⟨g2,rfl,hg2',hcell _ _ hpa,hcell _ _ hpb⟩)
   have HFW:=zF hF;clear hSb hown hC hfb hS hF;have hhd:=zA HHD;have htr:=zA HTR;subst hhd htr;have HSP:Hid (zo F true ss [99] tl=zDH F tl):=zF (by unfold zo;rw [if_neg (by simp),if_pos ⟨rfl,rfl⟩]);go_wp2_with fail
   all_goals
    refine (zRe lo b F tl _ _ wr (hR0.later hb) (zA HFW) (zA HST wr _ hb (fun hne=>by first | rfl | (exfalso;apply hne;exact List.eq_nil_of_length_eq_zero (by omega)))) (by omega) (zA HWS)).mono ?_;rintro e w1 ⟨hb1,c,ok,rfl,hok⟩;obtain ⟨p,n⟩:=c;have HOK:=zF hok;clear hok;have hr1:=(hb1.block _ hbs0).trans hres;have hB1:Below w.heap.size w w1:=hb.trans (hb1.mono hb.size);have q0:w1.cell? ⟨w.heap.size,0,none⟩=some (.int .i64 0):=zE hr1 rfl;have q1:w1.cell? ⟨w.heap.size,1,none⟩=some (.int .i64 0):=zE hr1 rfl;have y0:=zD hr1 0;have y1:=zD hr1 1;have hRq:=zI (zI hr1 0 (.int .i64 p)) 1 (.int .i64 n);have jq0:=zC hRq 0;have jq1:=zC hRq 1;dsimp only;go_wp2_with fail;refine bodyPost_ret (v:=.tuple #[.agg #[.int .i64 p,.int .i64 n],.bool ok]) (by simp [results,Tryz.results86,go_sem,jq0,jq1]) rfl ⟨?_,(p,n),ok,rfl,by rw [zA HSP];exact zA HOK⟩;exact (hB1.setCell (p:=⟨w.heap.size,0,none⟩) (Nat.le_refl _) _).setCell (p:=⟨w.heap.size,1,none⟩) (Nat.le_refl _) _
end Go.Proofs.YtgipjjhkhfihpaaGreatDoor
