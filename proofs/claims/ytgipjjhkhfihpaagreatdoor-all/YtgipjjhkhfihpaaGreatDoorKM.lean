import Derived.Test.YtgipjjhkhfihpaaGreatDoorKL
import Derived.Test.YtgipjjhkhfihpaaGreatDoorKG
set_option maxRecDepth 100000
set_option maxHeartbeats 6400000
namespace Go.Proofs.YtgipjjhkhfihpaaGreatDoor
open Go.RowKit
abbrev zAv (f:Nat × Nat):Value:=.agg #[.int .i64 (f.1:Int),.int .i64 (f.2:Int)]
def zI8 (kind:Nat):Nat:=if kind=2 then 8 else 6
theorem zF3 (b kind:Nat) (w:World) (_hb:b < w.heap.size) :
  Calls Tryz.prog 132 #[.pointer (some ⟨b,0,none⟩),.int .i64 (kind:Int)] w fun e w'=>e=.returned (.pointer (some ⟨b,zI8 kind,none⟩))∧w'=w:=by
 by_cases h:kind=2
 ·subst h
  go_enter Tryz.func132,Tryz.ntmps132
  go_wp2_with fail;go_ret;exact ⟨rfl,rfl⟩
 ·have hd:((kind:Int) == 2)=false:=(by rw [beq_eq_false_iff_ne];omega);have HO:Hid (zI8 kind=6):=zF (by unfold zI8;rw [if_neg h]);clear h
  go_enter Tryz.func132,Tryz.ntmps132
  go_wp2_with fail;go_ret;exact ⟨by rw [zA HO];rfl,rfl⟩
theorem SAt.proofAt {w:World} {b:Nat} {C:SC} {S:SS} {V:SV} (h:SAt w b C S V) (kind:Nat):∃ vS,w.cell? ⟨b,zI8 kind + 1,none⟩=some vS∧w.ownsRow 0 134 6 vS (S.proof kind).length (zAk (S.proof kind)):=by
 by_cases e:kind=2
 ·subst e;exact ⟨V.a,by rw [zC h.fb];rfl,h.oA⟩
 ·refine ⟨V.r,?_,?_⟩
  ·rw [zC h.fb];unfold zI8;rw [if_neg e];rfl
  ·unfold SS.proof;rw [if_neg e];exact h.oR
theorem SBd.proof {C:SC} {S:SS} (h:SBd C S) (kind:Nat):(S.proof kind).length≤100000∧∀ s∈S.proof kind,s.lits.1 < 512∧s.lits.2 < 512:=by
 unfold SS.proof;split
 ·exact ⟨h.al,h.aff⟩
 ·exact ⟨h.rl,h.ref⟩
theorem SBd.lits {C:SC} {S:SS} (h:SBd C S) (f:Nat × Nat):(S.lits f).1 < 512∧(S.lits f).2 < 512:=zAX _ (h.proof f.1).2 _
theorem zG1 (b:Nat) (C:SC) (S:SS) (V:SV) (f:Nat × Nat) (w:World) (hS:SAt w b C S V) (hB:SBd C S) :
  Calls Tryz.prog 134 #[.pointer (some ⟨b,0,none⟩),zAv f] w fun e w'=>e=.returned (zAj (S.lits f))∧Below w.heap.size w w':=by
 obtain ⟨fk,fs⟩:=f;have hbw:=zB hS.fb;have HL:Hid (S.lits (fk,fs)=zM (S.proof fk) fs):=zF rfl;have hlt:=hB.lits (fk,fs)
 go_enter Tryz.func134,Tryz.ntmps134
 go_wp2_with fail;generalize hw0:((w.alloc (.cells #[.int .i64 (fk:Int),.int .i64 (fs:Int)] 129)).alloc (.cells #[.int .i64 0,.int .i64 0] 74))=u1;have hBw:Below w.heap.size w u1:=(by rw [← hw0];exact ((Below.refl _ _).alloc (Nat.le_refl _) _).alloc (by simp) _);have hfa:u1.heap[w.heap.size]?=some (.cells #[.int .i64 (fk:Int),.int .i64 (fs:Int)] 129 (0,0)):=(by rw [← hw0,heap_alloc_old _ _ (by simp)];exact zP (by simp));have hrs:u1.heap[w.heap.size + 1]?=some (.cells #[.int .i64 0,.int .i64 0] 74 (0,0)):=(by rw [← hw0];exact zP (by simp));clear hw0;obtain ⟨cfa0,cfa1⟩:=zJ hfa;have lfa:=zB hfa;obtain ⟨crs0,crs1⟩:=zJ hrs;have lrs:=zB hrs;have hbw2:b < u1.heap.size:=Nat.lt_of_lt_of_le hbw hBw.size;refine (zF3 b fk _ hbw2).mono ?_;rintro e w2 ⟨rfl,hw2⟩;subst hw2;obtain ⟨vS,hv1,hv2⟩:=(hS.later hBw).proofAt fk;go_wp2_with fail;refine (zBW 0 b (zI8 fk) (S.proof fk) vS fs _ hv1 hv2 (by have:=(hB.proof fk).1;omega)).mono ?_;rintro e w3 ⟨rfl,hb3⟩;rw [← zA HL];generalize hea:S.lits (fk,fs)=c at *;have HEC:=zF hea;clear hea;obtain ⟨c1,c2⟩:=c;have hrs3:=zH hb3 hrs;have crs30:w3.cell? ⟨w.heap.size + 1,0,none⟩=some (.int .i64 0):=zE hrs3 rfl;have crs31:w3.cell? ⟨w.heap.size + 1,1,none⟩=some (.int .i64 0):=zE hrs3 rfl;have z0:=zD hrs3 0;have z1:=zD hrs3 1;have l3:=zB hrs3;have hR:=zI (zI hrs3 0 (.int .i64 (c1:Int))) 1 (.int .i64 (c2:Int));have j0:=zC hR 0;have j1:=zC hR 1;go_wp2_with fail;refine bodyPost_ret (v:=zAj (c1,c2)) (by simp [results,Tryz.results134,go_sem,j0,j1]) rfl ⟨by rw [zA HEC],?_⟩;exact ((hBw.trans (hb3.mono hBw.size)).setCell (p:=⟨w.heap.size + 1,0,none⟩) (Nat.le_succ _) _).setCell (p:=⟨w.heap.size + 1,1,none⟩) (Nat.le_succ _) _
theorem zGa (b:Nat) (C:SC) (S:SS) (V:SV) (f:Nat × Nat) (v:Nat) (w:World) (hS:SAt w b C S V) (hB:SBd C S) :
  Calls Tryz.prog 119 #[.pointer (some ⟨b,0,none⟩),zAv f,.int .i64 (v:Int)] w fun e w'=>e=.returned (.bool (zs (S.lits f) v))∧Below w.heap.size w w':=by
 obtain ⟨fk,fs⟩:=f;have hbw:=zB hS.fb;have hlt:=hB.lits (fk,fs);have hA:Below w.heap.size w (w.alloc (.cells #[.int .i64 (fk:Int),.int .i64 (fs:Int)] 129)):=(Below.refl _ _).alloc (Nat.le_refl _) _
 go_enter Tryz.func119,Tryz.ntmps119
 go_wp2_with fail;refine (zG1 b C S V (fk,fs) _ (hS.later hA) hB).mono ?_;rintro e w2 ⟨rfl,hb2⟩;have hB2:=hA.trans (hb2.mono hA.size);generalize hea:S.lits (fk,fs)=c at *;have HEC:=zF hea;clear hea;obtain ⟨c1,c2⟩:=c;go_wp2_with fail;have hA2:Below w2.heap.size w2 (w2.alloc (.cells #[.int .i64 (c1:Int),.int .i64 (c2:Int)] 74)):=(Below.refl _ _).alloc (Nat.le_refl _) _;have hB3:=hB2.trans (hA2.mono hB2.size);refine (zEk c1 c2 v _ hlt.1 hlt.2).mono ?_;rintro e w3 ⟨rfl,hb3⟩;go_wp2_with fail;go_ret;exact ⟨by rw [zA HEC];rfl,hB3.trans (hb3.mono hB3.size)⟩
theorem zJC (q:QS) (u:Bool) (c:Nat × Nat) (v:Nat × Bool) (h:c.1 < 512∧c.2 < 512):(zm q u c v).1 < 512∧(zm q u c v).2 < 512:=by
 unfold zm;split
 ·exact zBh _ _ h
 ·exact h
theorem zGG (q:QS) (u:Bool) (c:Nat × Nat) (h:c.1 < 512∧c.2 < 512):(zBM q u c).1 < 512∧(zBM q u c).2 < 512:=by
 unfold zBM
 suffices hh:∀ (vs:List (Nat × Bool)) (c:Nat × Nat),c.1 < 512∧c.2 < 512→(vs.foldl (zm q u) c).1 < 512∧(vs.foldl (zm q u) c).2 < 512 from hh _ c h
 intro vs
 induction vs with
 | nil=>intro c h;exact h
 | cons v vs ih=>intro c h;exact ih _ (zJC q u c v h)
theorem zL2 (q:QS) (u:Bool) (k:Nat) (h:k < q.vars.length) (c:Nat × Nat):(q.vars.take (k + 1)).reverse.foldl (zm q u) c=(q.vars.take k).reverse.foldl (zm q u) (zm q u c q.vars[k]):=by
 rw [List.take_succ_eq_append_getElem h,List.reverse_append];rfl
theorem zFO (b:Nat) (C:SC) (S:SS) (V:SV) (c:Nat × Nat) (u:Bool) (w:World) (hS:SAt w b C S V) (hB:SBd C S) (hc:c.1 < 512∧c.2 < 512) :
  Calls Tryz.prog 136 #[.pointer (some ⟨b,0,none⟩),zAj c,.bool u] w fun e w'=>e=.returned (zAj (zBM C.q u c))∧Below w.heap.size w w':=by
 obtain ⟨aV,cV,hVf⟩:=zN hS.oV;have hoV:=hS.oV;rw [hVf] at hoV;have hbw:=zB hS.fb;have hvl:=hB.qb.vl;obtain ⟨p0,n0⟩:=c
 go_enter Tryz.func136,Tryz.ntmps136
 have k0:w.cell? ⟨b,0,none⟩=some (.slice aV C.q.vars.length cV):=(by rw [zC hS.fb];exact congrArg some hVf);go_wp2_with fail
 go_loopg [7] (C.q.vars.length + 1) (fun m i wx=>∃ (k p n:Nat),i=.int .i64 ((k:Int) - 1)∧k + 1≤m∧m≤k + 1∧k≤C.q.vars.length∧p < 512∧n < 512∧zBM C.q u (p0,n0)=(C.q.vars.take k).reverse.foldl (zm C.q u) (p,n)∧Below w.heap.size w wx∧
   wx.heap[w.heap.size]?=some (.cells #[.int .i64 (p:Int),.int .i64 (n:Int)] 74 (0,0))∧wx.heap[w.heap.size + 1]?=some (.cells #[.int .i64 0,.int .i64 0] 74 (0,0)))
 case atStart=>exact ⟨C.q.vars.length,p0,n0,by go_num,by omega,by omega,by omega,hc.1,hc.2,by rw [List.take_length];rfl,((Below.refl _ _).alloc (Nat.le_refl _) _).alloc (by simp) _,by rw [heap_alloc_old _ _ (by simp)];exact heap_alloc_new _ _,zP (by simp)⟩
 case round=>
  obtain ⟨k,p,n,rfl,hkm,hkm2,hkl,hp,hn,hsh,hb,hset,hres⟩:=hrel;have HR:=zF hsh;clear hsh;have s0:wr.cell? ⟨w.heap.size,0,none⟩=some (.int .i64 (p:Int)):=zE hset rfl;have s1:wr.cell? ⟨w.heap.size,1,none⟩=some (.int .i64 (n:Int)):=zE hset rfl;have r0:wr.cell? ⟨w.heap.size + 1,0,none⟩=some (.int .i64 0):=zE hres rfl;have r1:wr.cell? ⟨w.heap.size + 1,1,none⟩=some (.int .i64 0):=zE hres rfl;have z0:=zD hset 0;have z1:=zD hset 1;have y0:=zD hres 0;have y1:=zD hres 1;have hbs:=zB hres;have hbs0:w.heap.size < wr.heap.size:=(by omega);have hbw1:b < wr.heap.size:=(by omega);have x0:wr.cell? ⟨b,0,none⟩=some (.slice aV C.q.vars.length cV):=by rw [hb.cell (p:=⟨b,0,none⟩) hbw];exact k0
  cases k with
  | zero=>
   have HF:Hid (zBM C.q u (p0,n0)=(p,n)):=zF (by rw [zA HR];rfl);have hR:=zI (zI hres 0 (.int .i64 (p:Int))) 1 (.int .i64 (n:Int));have j0:=zC hR 0;have j1:=zC hR 1;go_wp2_with fail;refine bodyPost_ret (v:=zAj (p,n)) (by simp [results,Tryz.results136,go_sem,j0,j1]) rfl ⟨by rw [zA HF],?_⟩;exact (hb.setCell (p:=⟨w.heap.size + 1,0,none⟩) (Nat.le_succ _) _).setCell (p:=⟨w.heap.size + 1,1,none⟩) (Nat.le_succ _) _
  | succ k=>
   have hlt:k < C.q.vars.length:=(by omega);obtain ⟨g,cap,hVe,hg,hg',_,hcell⟩:=zS hoV (by omega);injection hVe with hVe _ hV2;subst hVe hV2;obtain ⟨ha,hb'⟩:=zCG C.q.vars k hlt;have hx0:wr.cell? ⟨g,k * 2,none⟩=some (.int .i64 (C.q.vars[k].1:Int)):=(by rw [hb.cell (p:=⟨g,k * 2,none⟩) hg'];exact hcell _ _ ha);have hx1:wr.cell? ⟨g,k * 2 + 1,none⟩=some (.bool C.q.vars[k].2):=(by rw [hb.cell (p:=⟨g,k * 2 + 1,none⟩) hg'];exact hcell _ _ hb');have hgw:g < wr.heap.size:=(by omega);have HST:=zF (zL2 C.q u k hlt (p,n));clear hcell ha hb';generalize C.q.vars[k]=x at *;obtain ⟨vn,vu⟩:=x;dsimp only at *;go_wp2_with fail;refine (zDu p n vn _ hp hn).mono ?_;rintro e w2 ⟨rfl,hb2⟩;have hA1:Below wr.heap.size wr (wr.alloc (.cells #[.int .i64 (vn:Int),.bool vu] 139)):=(Below.refl _ _).alloc (Nat.le_refl _) _;have hw2:Below wr.heap.size wr w2:=hA1.trans (hb2.mono hA1.size);have hv2:w2.heap[wr.heap.size]?=some (.cells #[.int .i64 (vn:Int),.bool vu] 139 (0,0)):=(hb2.block _ (by simp)).trans (heap_alloc_new _ _);have hset2:=(hw2.block _ hbs0).trans hset;have hres2:=(hw2.block _ hbs).trans hres;have hB2:Below w.heap.size w w2:=hb.trans (hw2.mono (by omega));have hwl:=zBh (p,n) vn ⟨hp,hn⟩;have HSS:Hid (zm C.q u (p,n) (vn,vu)=if vu=u∧zCD C.q.cl (zAV (p,n) vn)=true then zAV (p,n) vn else (p,n)):=zF rfl;generalize hea:zAV (p,n) (vn:Int)=cw at *;have HEW:=zF hea;clear hea;obtain ⟨d1,d2⟩:=cw;dsimp only at hwl;go_wp2_with fail;have hA2:Below w2.heap.size w2 (w2.alloc (.cells #[.int .i64 (d1:Int),.int .i64 (d2:Int)] 74)):=(Below.refl _ _).alloc (Nat.le_refl _) _;have hle:=heap_alloc_new w2 (.cells #[.int .i64 (d1:Int),.int .i64 (d2:Int)] 74);have hv3:=zH hA2 hv2;have hset3:=zH hA2 hset2;have hres3:=zH hA2 hres2;have hB3:=hB2.trans (hA2.mono hB2.size);generalize w2.alloc (.cells #[.int .i64 (d1:Int),.int .i64 (d2:Int)] 74)=w3 at *;have e1:w3.cell? ⟨wr.heap.size,1,none⟩=some (.bool vu):=zE hv3 rfl;obtain ⟨e2,e3⟩:=zJ hle;have l1:=zB hv3;have l2:=zB hle;have hS3:=hS.later hB3;have hu9:Below w3.heap.size w3 w3.drew:=(Below.refl _ w3).drew;have lb3:=zB hS3.fb
   by_cases hvu:vu=u
   ·subst hvu
    cases vu with
    | true=>
     go_region_with (go_at_call 117;refine (zGw 0 b C.q V.c d1 d2 _ (by rw [zC (hS3.later hu9).fb];rfl) (hS3.later hu9).oC hB.qb hwl.1 hwl.2).mono ?_;rintro e w4 ⟨rfl,hb4⟩;have hset4:=zH hb4 hset3;have hres4:=zH hb4 hres3;have hle4:=zH hb4 hle;have hB4:Below w.heap.size w w4:=hB3.drew.trans (hb4.mono hB3.size))
     all_goals
      have t0:w4.cell? ⟨w.heap.size,0,none⟩=some (.int .i64 (p:Int)):=zE hset4 rfl;have t1:w4.cell? ⟨w.heap.size,1,none⟩=some (.int .i64 (n:Int)):=zE hset4 rfl;have t2:w4.cell? ⟨w2.heap.size,0,none⟩=some (.int .i64 (d1:Int)):=zE hle4 rfl;have t3:w4.cell? ⟨w2.heap.size,1,none⟩=some (.int .i64 (d2:Int)):=zE hle4 rfl;have y2:=zD hset4 0;have y3:=zD hset4 1;have m1:=zB hset4;have m2:=zB hle4
      cases hsat:zCD C.q.cl (d1,d2) with
      | true=>
       have HF:Hid (zBM C.q true (p0,n0)=(C.q.vars.take k).reverse.foldl (zm C.q true) (d1,d2)):=zF (by rw [zA HR,zA HST,zA HSS,if_pos (by simp [hsat])]);clear hsat;go_wp2_with fail
       go_roundg (gk - 1)
       case measure=>omega
       case rel=>
        refine ⟨k,d1,d2,by go_num,by omega,by omega,by omega,hwl.1,hwl.2,zA HF,(hB4.setCell (p:=⟨w.heap.size,0,none⟩) (Nat.le_refl _) _).setCell (p:=⟨w.heap.size,1,none⟩) (Nat.le_refl _) _,zI (zI hset4 0 _) 1 _,?_⟩;rw [Below.heap_setCell _ _ _ _ (by simp),Below.heap_setCell _ _ _ _ (by simp)];exact hres4
      | false=>
       have HF:Hid (zBM C.q true (p0,n0)=(C.q.vars.take k).reverse.foldl (zm C.q true) (p,n)):=zF (by rw [zA HR,zA HST,zA HSS,if_neg (by rw [hsat];simp)]);clear hsat;go_wp2_with fail
       go_roundg (gk - 1)
       case measure=>omega
       case rel=>exact ⟨k,p,n,by go_num,by omega,by omega,by omega,hp,hn,zA HF,hB4,hset4,hres4⟩
    | false=>
     go_region_with (go_at_call 117;refine (zGw 0 b C.q V.c d1 d2 _ (by rw [zC (hS3.later hu9).fb];rfl) (hS3.later hu9).oC hB.qb hwl.1 hwl.2).mono ?_;rintro e w4 ⟨rfl,hb4⟩;have hset4:=zH hb4 hset3;have hres4:=zH hb4 hres3;have hle4:=zH hb4 hle;have hB4:Below w.heap.size w w4:=hB3.drew.trans (hb4.mono hB3.size))
     all_goals
      have t0:w4.cell? ⟨w.heap.size,0,none⟩=some (.int .i64 (p:Int)):=zE hset4 rfl;have t1:w4.cell? ⟨w.heap.size,1,none⟩=some (.int .i64 (n:Int)):=zE hset4 rfl;have t2:w4.cell? ⟨w2.heap.size,0,none⟩=some (.int .i64 (d1:Int)):=zE hle4 rfl;have t3:w4.cell? ⟨w2.heap.size,1,none⟩=some (.int .i64 (d2:Int)):=zE hle4 rfl;have y2:=zD hset4 0;have y3:=zD hset4 1;have m1:=zB hset4;have m2:=zB hle4
      cases hsat:zCD C.q.cl (d1,d2) with
      | true=>
       have HF:Hid (zBM C.q false (p0,n0)=(C.q.vars.take k).reverse.foldl (zm C.q false) (d1,d2)):=zF (by rw [zA HR,zA HST,zA HSS,if_pos (by simp [hsat])]);clear hsat;go_wp2_with fail
       go_roundg (gk - 1)
       case measure=>omega
       case rel=>
        refine ⟨k,d1,d2,by go_num,by omega,by omega,by omega,hwl.1,hwl.2,zA HF,(hB4.setCell (p:=⟨w.heap.size,0,none⟩) (Nat.le_refl _) _).setCell (p:=⟨w.heap.size,1,none⟩) (Nat.le_refl _) _,zI (zI hset4 0 _) 1 _,?_⟩;rw [Below.heap_setCell _ _ _ _ (by simp),Below.heap_setCell _ _ _ _ (by simp)];exact hres4
      | false=>
       have HF:Hid (zBM C.q false (p0,n0)=(C.q.vars.take k).reverse.foldl (zm C.q false) (p,n)):=zF (by rw [zA HR,zA HST,zA HSS,if_neg (by rw [hsat];simp)]);clear hsat;go_wp2_with fail
       go_roundg (gk - 1)
       case measure=>omega
       case rel=>exact ⟨k,p,n,by go_num,by omega,by omega,by omega,hp,hn,zA HF,hB4,hset4,hres4⟩
   ·cases vu with
    | true=>
     have hu0:u=false:=(by revert hvu;cases u<;>simp);subst hu0;have HF:Hid (zBM C.q false (p0,n0)=(C.q.vars.take k).reverse.foldl (zm C.q false) (p,n)):=zF (by rw [zA HR,zA HST,zA HSS,if_neg (by simp)]);clear hvu
     go_quiet (fail)
     have hb5:Below w3.heap.size w3 (w3.drewN nq):=below_drewN (Below.refl _ _) nq;have hset5:=zH hb5 hset3;have hres5:=zH hb5 hres3;have hB5:=hB3.trans (hb5.mono hB3.size);generalize w3.drewN nq=w5 at *;go_wp2_with fail
     go_roundg (gk - 1)
     case measure=>omega
     case rel=>exact ⟨k,p,n,by go_num,by omega,by omega,by omega,hp,hn,zA HF,hB5,hset5,hres5⟩
    | false=>
     have hu0:u=true:=(by revert hvu;cases u<;>simp);subst hu0;have HF:Hid (zBM C.q true (p0,n0)=(C.q.vars.take k).reverse.foldl (zm C.q true) (p,n)):=zF (by rw [zA HR,zA HST,zA HSS,if_neg (by simp)]);clear hvu
     go_quiet (fail)
     have hb5:Below w3.heap.size w3 (w3.drewN nq):=below_drewN (Below.refl _ _) nq;have hset5:=zH hb5 hset3;have hres5:=zH hb5 hres3;have hB5:=hB3.trans (hb5.mono hB3.size);generalize w3.drewN nq=w5 at *;go_wp2_with fail
     go_roundg (gk - 1)
     case measure=>omega
     case rel=>exact ⟨k,p,n,by go_num,by omega,by omega,by omega,hp,hn,zA HF,hB5,hset5,hres5⟩
end Go.Proofs.YtgipjjhkhfihpaaGreatDoor
