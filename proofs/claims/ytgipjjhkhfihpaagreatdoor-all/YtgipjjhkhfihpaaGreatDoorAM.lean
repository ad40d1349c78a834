import Derived.Test.YtgipjjhkhfihpaaGreatDoorAL
import Derived.Test.YtgipjjhkhfihpaaGreatDoorAG
import Derived.Deep.DeepCutAuto
import Derived.ArgAppend
set_option maxRecDepth 100000
set_option maxHeartbeats 6400000
namespace Go.Proofs.YtgipjjhkhfihpaaGreatDoor
open Go.RowKit
abbrev zAv (f:Nat × Nat):Value:=.agg #[.int .i64 (f.1:Int),.int .i64 (f.2:Int)]
def zI8 (kind:Nat):Nat:=if kind=2 then 8 else 6
theorem zF3 (b kind:Nat) (w:World) (_hb:b < w.heap.size) :
  Calls Tryz.prog 132 #[.pointer (some ⟨b,0,none⟩),.int .i64 (kind:Int)] w fun e w'=>e=.returned (.pointer (some ⟨b,zI8 kind,none⟩))∧w'=w:=by
 by_cases h:kind=2
 ·subst h
  go_enter Tryz.func132,Tryz.ntmps132
  go_wp2_with fail;go_ret;exact ⟨rfl,rfl⟩
 ·have hd:((kind:Int) == 2)=false:=(by rw [beq_eq_false_iff_ne];omega);have HO:Hid (zI8 kind=6):=zF (by unfold zI8;rw [if_neg h]);clear h
  go_enter Tryz.func132,Tryz.ntmps132
  go_wp2_with fail;go_ret;exact ⟨by rw [zA HO];rfl,rfl⟩
theorem SAt.proofAt {w:World} {b:Nat} {C:SC} {S:SS} {V:SV} (h:SAt w b C S V) (kind:Nat):∃ vS,w.cell? ⟨b,zI8 kind + 1,none⟩=some vS∧w.ownsRow 0 134 6 vS (S.proof kind).length (zAk (S.proof kind)):=by
 by_cases e:kind=2
 ·subst e;exact ⟨V.a,by rw [zC h.fb];rfl,h.oA⟩
 ·refine ⟨V.r,?_,?_⟩
  ·rw [zC h.fb];unfold zI8;rw [if_neg e];rfl
  ·unfold SS.proof;rw [if_neg e];exact h.oR
theorem SBd.proof {C:SC} {S:SS} (h:SBd C S) (kind:Nat):(S.proof kind).length≤100000∧∀ s∈S.proof kind,s.lits.1 < 512∧s.lits.2 < 512:=by
 unfold SS.proof;split
 ·exact ⟨h.al,h.aff⟩
 ·exact ⟨h.rl,h.ref⟩
theorem SBd.lits {C:SC} {S:SS} (h:SBd C S) (f:Nat × Nat):(S.lits f).1 < 512∧(S.lits f).2 < 512:=zAX _ (h.proof f.1).2 _
theorem zG1 (b:Nat) (C:SC) (S:SS) (V:SV) (f:Nat × Nat) (w:World) (hS:SAt w b C S V) (hB:SBd C S) :
  Calls Tryz.prog 134 #[.pointer (some ⟨b,0,none⟩),zAv f] w fun e w'=>e=.returned (zAj (S.lits f))∧Below w.heap.size w w':=by
 obtain ⟨fk,fs⟩:=f;have hbw:=zB hS.fb;have HL:Hid (S.lits (fk,fs)=zM (S.proof fk) fs):=zF rfl;have hlt:=hB.lits (fk,fs)
 go_enter Tryz.func134,Tryz.ntmps134
 go_wp2_with fail;generalize hw0:((w.alloc (.cells #[.int .i64 (fk:Int),.int .i64 (fs:Int)] 129)).alloc (.cells #[.int .i64 0,.int .i64 0] 74))=u1;have hBw:Below w.heap.size w u1:=(by rw [← hw0];exact ((Below.refl _ _).alloc (Nat.le_refl _) _).alloc (by simp) _);have hfa:u1.heap[w.heap.size]?=some (.cells #[.int .i64 (fk:Int),.int .i64 (fs:Int)] 129 (0,0)):=(by rw [← hw0,heap_alloc_old _ _ (by simp)];exact zP (by simp));have hrs:u1.heap[w.heap.size + 1]?=some (.cells #[.int .i64 0,.int .i64 0] 74 (0,0)):=(by rw [← hw0];exact zP (by simp));clear hw0;obtain ⟨cfa0,cfa1⟩:=zJ hfa;have lfa:=zB hfa;obtain ⟨crs0,crs1⟩:=zJ hrs;have lrs:=zB hrs;have hbw2:b < u1.heap.size:=Nat.lt_of_lt_of_le hbw hBw.size;refine (zF3 b fk _ hbw2).mono ?_;rintro e w2 ⟨rfl,hw2⟩;subst hw2;obtain ⟨vS,hv1,hv2⟩:=(hS.later hBw).proofAt fk;go_wp2_with fail;refine (zBW 0 b (zI8 fk) (S.proof fk) vS fs _ hv1 hv2 (by have:=(hB.proof fk).1;omega)).mono ?_;rintro e w3 ⟨rfl,hb3⟩;rw [← zA HL];generalize hea:S.lits (fk,fs)=c at *;have HEC:=zF hea;clear hea;obtain ⟨c1,c2⟩:=c;have hrs3:=zH hb3 hrs;have crs30:w3.cell? ⟨w.heap.size + 1,0,none⟩=some (.int .i64 0):=zE hrs3 rfl;have crs31:w3.cell? ⟨w.heap.size + 1,1,none⟩=some (.int .i64 0):=zE hrs3 rfl;have z0:=zD hrs3 0;have z1:=zD hrs3 1;have l3:=zB hrs3;have hR:=zI (zI hrs3 0 (.int .i64 (c1:Int))) 1 (.int .i64 (c2:Int));have j0:=zC hR 0;have j1:=zC hR 1;go_wp2_with fail;refine bodyPost_ret (v:=zAj (c1,c2)) (by simp [results,Tryz.results134,go_sem,j0,j1]) rfl ⟨by rw [zA HEC],?_⟩;exact ((hBw.trans (hb3.mono hBw.size)).setCell (p:=⟨w.heap.size + 1,0,none⟩) (Nat.le_succ _) _).setCell (p:=⟨w.heap.size + 1,1,none⟩) (Nat.le_succ _) _
theorem zGa (b:Nat) (C:SC) (S:SS) (V:SV) (f:Nat × Nat) (v:Nat) (w:World) (hS:SAt w b C S V) (hB:SBd C S) :
  Calls Tryz.prog 119 #[.pointer (some ⟨b,0,none⟩),zAv f,.int .i64 (v:Int)] w fun e w'=>e=.returned (.bool (zs (S.lits f) v))∧Below w.heap.size w w':=by
 obtain ⟨fk,fs⟩:=f;have hbw:=zB hS.fb;have hlt:=hB.lits (fk,fs);have hA:Below w.heap.size w (w.alloc (.cells #[.int .i64 (fk:Int),.int .i64 (fs:Int)] 129)):=(Below.refl _ _).alloc (Nat.le_refl _) _
 go_enter Tryz.func119,Tryz.ntmps119
 go_wp2_with fail;refine (zG1 b C S V (fk,fs) _ (hS.later hA) hB).mono ?_;rintro e w2 ⟨rfl,hb2⟩;have hB2:=hA.trans (hb2.mono hA.size);generalize hea:S.lits (fk,fs)=c at *;have HEC:=zF hea;clear hea;obtain ⟨c1,c2⟩:=c;go_wp2_with fail;have hA2:Below w2.heap.size w2 (w2.alloc (.cells #[.int .i64 (c1:Int),.int .i64 (c2:Int)] 74)):=(Below.refl _ _).alloc (Nat.le_refl _) _;have hB3:=hB2.trans (hA2.mono hB2.size);refine (zEk c1 c2 v _ hlt.1 hlt.2).mono ?_;rintro e w3 ⟨rfl,hb3⟩;go_wp2_with fail;go_ret;exact ⟨by rw [zA HEC];rfl,hB3.trans (hb3.mono hB3.size)⟩
theorem zJC (q:QS) (u:Bool) (c:Nat × Nat) (v:Nat × Bool) (h:c.1 < 512∧c.2 < 512):(zm q u c v).1 < 512∧(zm q u c v).2 < 512:=by
 unfold zm;split
 ·exact zBh _ _ h
 ·exact h
theorem zGG (q:QS) (u:Bool) (c:Nat × Nat) (h:c.1 < 512∧c.2 < 512):(zBM q u c).1 < 512∧(zBM q u c).2 < 512:=by
 unfold zBM
 suffices hh:∀ (vs:List (Nat × Bool)) (c:Nat × Nat),c.1 < 512∧c.2 < 512→(vs.foldl (zm q u) c).1 < 512∧(vs.foldl (zm q u) c).2 < 512 from hh _ c h
 intro vs
 induction vs with
 | nil=>intro c h;exact h
 | cons v vs ih=>intro c h;exact ih _ (zJC q u c v h)
theorem zL2 (q:QS) (u:Bool) (k:Nat) (h:k < q.vars.length) (c:Nat × Nat):(q.vars.take (k + 1)).reverse.foldl (zm q u) c=(q.vars.take k).reverse.foldl (zm q u) (zm q u c q.vars[k]):=by
 rw [List.take_succ_eq_append_getElem h,List.reverse_append];rfl
theorem zFO (b:Nat) (C:SC) (S:SS) (V:SV) (c:Nat × Nat) (u:Bool) (w:World) (hS:SAt w b C S V) (hB:SBd C S) (hc:c.1 < 512∧c.2 < 512) :
  Calls Tryz.prog 136 #[.pointer (some ⟨b,0,none⟩),zAj c,.bool u] w fun e w'=>e=.returned (zAj (zBM C.q u c))∧Below w.heap.size w w':=by
 obtain ⟨aV,cV,hVf⟩:=zN hS.oV;have hoV:=hS.oV;rw [hVf] at hoV;have hbw:=zB hS.fb;have hvl:=hB.qb.vl;obtain ⟨p0,n0⟩:=c
 go_enter Tryz.func136,Tryz.ntmps136
 have k0:w.cell? ⟨b,0,none⟩=some (.slice aV C.q.vars.length cV):=(by rw [zC hS.fb];exact congrArg some hVf);go_wp2_with fail
 go_loopg [7] (C.q.vars.length + 1) (fun m i wx=>∃ (k p n:Nat),i=.int .i64 ((k:Int) - 1)∧k + 1≤m∧m≤k + 1∧k≤C.q.vars.length∧p < 512∧n < 512∧zBM C.q u (p0,n0)=(C.q.vars.take k).reverse.foldl (zm C.q u) (p,n)∧Below w.heap.size w wx∧
   wx.heap[w.heap.size]?=some (.cells #[.int .i64 (p:Int),.int .i64 (n:Int)] 74 (0,0))∧wx.heap[w.heap.size + 1]?=some (.cells #[.int .i64 0,.int .i64 0] 74 (0,0)))
 case atStart=>exact ⟨C.q.vars.length,p0,n0,by go_num,by omega,by omega,by omega,hc.1,hc.2,by rw [List.take_length];rfl,((Below.refl _ _).alloc (Nat.le_refl _) _).alloc (by simp) _,by rw [heap_alloc_old _ _ (by simp)];exact heap_alloc_new _ _,zP (by simp)⟩
 case round=>
  obtain ⟨k,p,n,rfl,hkm,hkm2,hkl,hp,hn,hsh,hb,hset,hres⟩:=hrel;have HR:=zF hsh;clear hsh;have s0:wr.cell? ⟨w.heap.size,0,none⟩=some (.int .i64 (p:Int)):=zE hset rfl;have s1:wr.cell? ⟨w.heap.size,1,none⟩=some (.int .i64 (n:Int)):=zE hset rfl;have r0:wr.cell? ⟨w.heap.size + 1,0,none⟩=some (.int .i64 0):=zE hres rfl;have r1:wr.cell? ⟨w.heap.size + 1,1,none⟩=some (.int .i64 0):=zE hres rfl;have z0:=zD hset 0;have z1:=zD hset 1;have y0:=zD hres 0;have y1:=zD hres 1;have hbs:=zB hres;have hbs0:w.heap.size < wr.heap.size:=(by omega);have hbw1:b < wr.heap.size:=(by omega);have x0:wr.cell? ⟨b,0,none⟩=some (.slice aV C.q.vars.length cV):=by rw [hb.cell (p:=⟨b,0,none⟩) hbw];exact k0
  cases k with
  | zero=>
   have HF:Hid (zBM C.q u (p0,n0)=(p,n)):=zF (by rw [zA HR];rfl);have hR:=zI (zI hres 0 (.int .i64 (p:Int))) 1 (.int .i64 (n:Int));have j0:=zC hR 0;have j1:=zC hR 1;go_wp2_with fail;refine bodyPost_ret (v:=zAj (p,n)) (by simp [results,Tryz.results136,go_sem,j0,j1]) rfl ⟨by rw [zA HF],?_⟩;exact (hb.setCell (p:=⟨w.heap.size + 1,0,none⟩) (Nat.le_succ _) _).setCell (p:=⟨w.heap.size + 1,1,none⟩) (Nat.le_succ _) _
  | succ k=>
   have hlt:k < C.q.vars.length:=(by omega);obtain ⟨g,cap,hVe,hg,hg',_,hcell⟩:=zS hoV (by omega);injection hVe with hVe _ hV2;subst hVe hV2;obtain ⟨ha,hb'⟩:=zCG C.q.vars k hlt;have hx0:wr.cell? ⟨g,k * 2,none⟩=some (.int .i64 (C.q.vars[k].1:Int)):=(by rw [hb.cell (p:=⟨g,k * 2,none⟩) hg'];exact hcell _ _ ha);have hx1:wr.cell? ⟨g,k * 2 + 1,none⟩=some (.bool C.q.vars[k].2):=(by rw [hb.cell (p:=⟨g,k * 2 + 1,none⟩) hg'];exact hcell _ _ hb');have hgw:g < wr.heap.size:=(by omega);have HST:=zF (zL2 C.q u k hlt (p,n));clear hcell ha hb';generalize C.q.vars[k]=x at *;obtain ⟨vn,vu⟩:=x;dsimp only at *;go_wp2_with fail;refine (zDu p n vn _ hp hn).mono ?_;rintro e w2 ⟨rfl,hb2⟩;have hA1:Below wr.heap.size wr (wr.alloc (.cells #[.int .i64 (vn:Int),.bool vu] 139)):=(Below.refl _ _).alloc (Nat.le_refl _) _;have hw2:Below wr.heap.size wr w2:=hA1.trans (hb2.mono hA1.size);have hv2:w2.heap[wr.heap.size]?=some (.cells #[.int .i64 (vn:Int),.bool vu] 139 (0,0)):=(hb2.block _ (by simp)).trans (heap_alloc_new _ _);have hset2:=(hw2.block _ hbs0).trans hset;have hres2:=(hw2.block _ hbs).trans hres;have hB2:Below w.heap.size w w2:=hb.trans (hw2.mono (by omega));have hwl:=zBh (p,n) vn ⟨hp,hn⟩;have HSS:Hid (zm C.q u (p,n) (vn,vu)=if vu=u∧zCD C.q.cl (zAV (p,n) vn)=true then zAV (p,n) vn else (p,n)):=zF rfl;generalize hea:zAV (p,n) (vn:Int)=cw at *;have HEW:=zF hea;clear hea;obtain ⟨d1,d2⟩:=cw;dsimp only at hwl;go_wp2_with fail;have hA2:Below w2.heap.size w2 (w2.alloc (.cells #[.int .i64 (d1:Int),.int .i64 (d2:Int)] 74)):=(Below.refl _ _).alloc (Nat.le_refl _) _;have hle:=heap_alloc_new w2 (.cells #[.int .i64 (d1:Int),.int .i64 (d2:Int)] 74);have hv3:=zH hA2 hv2;have hset3:=zH hA2 hset2;have hres3:=zH hA2 hres2;have hB3:=hB2.trans (hA2.mono hB2.size);generalize w2.alloc (.cells #[.int .i64 (d1:Int),.int .i64 (d2:Int)] 74)=w3 at *;have e1:w3.cell? ⟨wr.heap.size,1,none⟩=some (.bool vu):=zE hv3 rfl;obtain ⟨e2,e3⟩:=zJ hle;have l1:=zB hv3;have l2:=zB hle;have hS3:=hS.later hB3;have hu9:Below w3.heap.size w3 w3.drew:=(Below.refl _ w3).drew;have lb3:=zB hS3.fb
   by_cases hvu:vu=u
   ·subst hvu
    cases vu with
    | true=>
     go_region_with (go_at_call 117;refine (zGw 0 b C.q V.c d1 d2 _ (by rw [zC (hS3.later hu9).fb];rfl) (hS3.later hu9).oC hB.qb hwl.1 hwl.2).mono ?_;rintro e w4 ⟨rfl,hb4⟩;have hset4:=zH hb4 hset3;have hres4:=zH hb4 hres3;have hle4:=zH hb4 hle;have hB4:Below w.heap.size w w4:=hB3.drew.trans (hb4.mono hB3.size))
     all_goals
      have t0:w4.cell? ⟨w.heap.size,0,none⟩=some (.int .i64 (p:Int)):=zE hset4 rfl;have t1:w4.cell? ⟨w.heap.size,1,none⟩=some (.int .i64 (n:Int)):=zE hset4 rfl;have t2:w4.cell? ⟨w2.heap.size,0,none⟩=some (.int .i64 (d1:Int)):=zE hle4 rfl;have t3:w4.cell? ⟨w2.heap.size,1,none⟩=some (.int .i64 (d2:Int)):=zE hle4 rfl;have y2:=zD hset4 0;have y3:=zD hset4 1;have m1:=zB hset4;have m2:=zB hle4
      cases hsat:zCD C.q.cl (d1,d2) with
      | true=>
       have HF:Hid (zBM C.q true (p0,n0)=(C.q.vars.take k).reverse.foldl (zm C.q true) (d1,d2)):=zF (by rw [zA HR,zA HST,zA HSS,if_pos (by simp [hsat])]);clear hsat;go_wp2_with fail
       go_roundg (gk - 1)
       case measure=>omega
       case rel=>
        refine ⟨k,d1,d2,by go_num,by omega,by omega,by omega,hwl.1,hwl.2,zA HF,(hB4.setCell (p:=⟨w.heap.size,0,none⟩) (Nat.le_refl _) _).setCell (p:=⟨w.heap.size,1,none⟩) (Nat.le_refl _) _,zI (zI hset4 0 _) 1 _,?_⟩;rw [Below.heap_setCell _ _ _ _ (by simp),Below.heap_setCell _ _ _ _ (by simp)];exact hres4
      | false=>
       have HF:Hid (zBM C.q true (p0,n0)=(C.q.vars.take k).reverse.foldl (zm C.q true) (p,n)):=zF (by rw [zA HR,zA HST,zA HSS,if_neg (by rw [hsat];simp)]);clear hsat;go_wp2_with fail
       go_roundg (gk - 1)
       case measure=>omega
       case rel=>exact ⟨k,p,n,by go_num,by omega,by omega,by omega,hp,hn,zA HF,hB4,hset4,hres4⟩
    | false=>
     go_region_with (go_at_call 117;refine (zGw 0 b C.q V.c d1 d2 _ (by rw [zC (hS3.later hu9).fb];rfl) (hS3.later hu9).oC hB.qb hwl.1 hwl.2).mono ?_;rintro e w4 ⟨rfl,hb4⟩;have hset4:=zH hb4 hset3;have hres4:=zH hb4 hres3;have hle4:=zH hb4 hle;have hB4:Below w.heap.size w w4:=hB3.drew.trans (hb4.mono hB3.size))
     all_goals
      have t0:w4.cell? ⟨w.heap.size,0,none⟩=some (.int .i64 (p:Int)):=zE hset4 rfl;have t1:w4.cell? ⟨w.heap.size,1,none⟩=some (.int .i64 (n:Int)):=zE hset4 rfl;have t2:w4.cell? ⟨w2.heap.size,0,none⟩=some (.int .i64 (d1:Int)):=zE hle4 rfl;have t3:w4.cell? ⟨w2.heap.size,1,none⟩=some (.int .i64 (d2:Int)):=zE hle4 rfl;have y2:=zD hset4 0;have y3:=zD hset4 1;have m1:=zB hset4;have m2:=zB hle4
      cases hsat:zCD C.q.cl (d1,d2) with
      | true=>
       have HF:Hid (zBM C.q false (p0,n0)=(C.q.vars.take k).reverse.foldl (zm C.q false) (d1,d2)):=zF (by rw [zA HR,zA HST,zA HSS,if_pos (by simp [hsat])]);clear hsat;go_wp2_with fail
       go_roundg (gk - 1)
       case measure=>omega
       case rel=>
        refine ⟨k,d1,d2,by go_num,by omega,by omega,by omega,hwl.1,hwl.2,zA HF,(hB4.setCell (p:=⟨w.heap.size,0,none⟩) (Nat.le_refl _) _).setCell (p:=⟨w.heap.size,1,none⟩) (Nat.le_refl _) _,zI (zI hset4 0 _) 1 _,?_⟩;rw [Below.heap_setCell _ _ _ _ (by simp),Below.heap_setCell _ _ _ _ (by simp)];exact hres4
      | false=>
       have HF:Hid (zBM C.q false (p0,n0)=(C.q.vars.take k).reverse.foldl (zm C.q false) (p,n)):=zF (by rw [zA HR,zA HST,zA HSS,if_neg (by rw [hsat];simp)]);clear hsat;go_wp2_with fail
       go_roundg (gk - 1)
       case measure=>omega
       case rel=>exact ⟨k,p,n,by go_num,by omega,by omega,by omega,hp,hn,zA HF,hB4,hset4,hres4⟩
   ·cases vu with
    | true=>
     have hu0:u=false:=(by revert hvu;cases u<;>simp);subst hu0;have HF:Hid (zBM C.q false (p0,n0)=(C.q.vars.take k).reverse.foldl (zm C.q false) (p,n)):=zF (by rw [zA HR,zA HST,zA HSS,if_neg (by simp)]);clear hvu
     go_quiet (fail)
     have hb5:Below w3.heap.size w3 (w3.drewN nq):=below_drewN (Below.refl _ _) nq;have hset5:=zH hb5 hset3;have hres5:=zH hb5 hres3;have hB5:=hB3.trans (hb5.mono hB3.size);generalize w3.drewN nq=w5 at *;go_wp2_with fail
     go_roundg (gk - 1)
     case measure=>omega
     case rel=>exact ⟨k,p,n,by go_num,by omega,by omega,by omega,hp,hn,zA HF,hB5,hset5,hres5⟩
    | false=>
     have hu0:u=true:=(by revert hvu;cases u<;>simp);subst hu0;have HF:Hid (zBM C.q true (p0,n0)=(C.q.vars.take k).reverse.foldl (zm C.q true) (p,n)):=zF (by rw [zA HR,zA HST,zA HSS,if_neg (by simp)]);clear hvu
     go_quiet (fail)
     have hb5:Below w3.heap.size w3 (w3.drewN nq):=below_drewN (Below.refl _ _) nq;have hset5:=zH hb5 hset3;have hres5:=zH hb5 hres3;have hB5:=hB3.trans (hb5.mono hB3.size);generalize w3.drewN nq=w5 at *;go_wp2_with fail
     go_roundg (gk - 1)
     case measure=>omega
     case rel=>exact ⟨k,p,n,by go_num,by omega,by omega,by omega,hp,hn,zA HF,hB5,hset5,hres5⟩
theorem zM0 (b:Nat) (C:SC) (S:SS) (V:SV) (p:Nat × Nat) (w:World) (hS:SAt w b C S V) (hB:SBd C S) (hp:p.1 < 512∧p.2 < 512) :
  Calls Tryz.prog 118 #[.pointer (some ⟨b,0,none⟩),zAj p] w fun e w'=>e=.returned (zAj (zAY C.q p))∧Below w.heap.size w w':=by
 obtain ⟨p1,p2⟩:=p
 go_enter Tryz.func118,Tryz.ntmps118
 go_wp2_with fail;generalize hw0:((w.alloc (.cells #[.int .i64 (p1:Int),.int .i64 (p2:Int)] 74)).alloc (.cells #[.int .i64 0,.int .i64 0] 74))=u1;have hBw:Below w.heap.size w u1:=(by rw [← hw0];exact ((Below.refl _ _).alloc (Nat.le_refl _) _).alloc (by simp) _);have hva:u1.heap[w.heap.size]?=some (.cells #[.int .i64 (p1:Int),.int .i64 (p2:Int)] 74 (0,0)):=(by rw [← hw0,heap_alloc_old _ _ (by simp)];exact zP (by simp));have hrs:u1.heap[w.heap.size + 1]?=some (.cells #[.int .i64 0,.int .i64 0] 74 (0,0)):=(by rw [← hw0];exact zP (by simp));clear hw0;obtain ⟨cva0,cva1⟩:=zJ hva;have lva:=zB hva;obtain ⟨crs0,crs1⟩:=zJ hrs;have lrs:=zB hrs;refine (zFO b C S V (p1,p2) true _ (hS.later hBw) hB hp).mono ?_;rintro e u2 ⟨rfl,b2⟩;replace hBw:=hBw.trans (b2.mono hBw.size);replace hva:=zH b2 hva;clear cva0 cva1;obtain ⟨cva0,cva1⟩:=zJ hva;replace lva:=zB hva;replace hrs:=zH b2 hrs;clear crs0 crs1;obtain ⟨crs0,crs1⟩:=zJ hrs;replace lrs:=zB hrs;have hm:=zGG C.q true (p1,p2) hp;have HQ:Hid (zAY C.q (p1,p2)=zBM C.q false (zBM C.q true (p1,p2))):=zF rfl;generalize hea:zBM C.q true (p1,p2)=c at *;clear hea;obtain ⟨c1,c2⟩:=c;go_wp2_with fail;generalize hw0:u2.alloc (.cells #[.int .i64 (c1:Int),.int .i64 (c2:Int)] 74)=u3;have b3:Below u2.heap.size u2 u3:=(by rw [← hw0];exact (Below.refl _ _).alloc (Nat.le_refl _) _);have hcu:u3.heap[u2.heap.size]?=some (.cells #[.int .i64 (c1:Int),.int .i64 (c2:Int)] 74 (0,0)):=(by rw [← hw0];exact heap_alloc_new _ _);clear hw0;replace hBw:=hBw.trans (b3.mono hBw.size);replace hva:=zH b3 hva;clear cva0 cva1;obtain ⟨cva0,cva1⟩:=zJ hva;replace lva:=zB hva;replace hrs:=zH b3 hrs;clear crs0 crs1;obtain ⟨crs0,crs1⟩:=zJ hrs;replace lrs:=zB hrs;obtain ⟨ccu0,ccu1⟩:=zJ hcu;have lcu:=zB hcu;refine (zFO b C S V (c1,c2) false _ (hS.later hBw) hB hm).mono ?_;rintro e u4 ⟨rfl,b4⟩;replace hBw:=hBw.trans (b4.mono hBw.size);replace hva:=zH b4 hva;clear cva0 cva1;obtain ⟨cva0,cva1⟩:=zJ hva;replace lva:=zB hva;replace hrs:=zH b4 hrs;clear crs0 crs1;obtain ⟨crs0,crs1⟩:=zJ hrs;replace lrs:=zB hrs;replace hcu:=zH b4 hcu;clear ccu0 ccu1;obtain ⟨ccu0,ccu1⟩:=zJ hcu;replace lcu:=zB hcu;generalize hea:zBM C.q false (c1,c2)=c at *;clear hea;obtain ⟨d1,d2⟩:=c;have z0:=zD hrs 0;have z1:=zD hrs 1;have hR:=zI (zI hrs 0 (.int .i64 (d1:Int))) 1 (.int .i64 (d2:Int));have j0:=zC hR 0;have j1:=zC hR 1;go_wp2_with fail;refine bodyPost_ret (v:=zAj (d1,d2)) (by simp [results,Tryz.results118,go_sem,j0,j1]) rfl ⟨by rw [zA HQ],?_⟩;exact (hBw.setCell (p:=⟨w.heap.size + 1,0,none⟩) (Nat.le_succ _) _).setCell (p:=⟨w.heap.size + 1,1,none⟩) (Nat.le_succ _) _
structure LeftAt (w wx:World) (bc lv:Nat) (p c d:Nat × Nat):Prop where
 below:Below w.heap.size w wx
 va:wx.heap[w.heap.size]?=some (.cells #[.int .i64 (p.1:Int),.int .i64 (p.2:Int)] 74 (0,0))
 rs:wx.heap[w.heap.size + 1]?=some (.cells #[.int .i64 0,.int .i64 0] 74 (0,0))
 cl:wx.heap[bc]?=some (.cells #[.int .i64 (c.1:Int),.int .i64 (c.2:Int)] 74 (0,0))
 le:wx.heap[lv]?=some (.cells #[.int .i64 (d.1:Int),.int .i64 (d.2:Int)] 74 (0,0))
theorem LeftAt.ofAlloc {w v:World} {bc:Nat} {p c d:Nat × Nat} (hb:Below w.heap.size w v) (ha:v.heap[w.heap.size]?=some (.cells #[.int .i64 (p.1:Int),.int .i64 (p.2:Int)] 74 (0,0))) (hr:v.heap[w.heap.size + 1]?=some (.cells #[.int .i64 0,.int .i64 0] 74 (0,0)))
  (hc:v.heap[bc]?=some (.cells #[.int .i64 (c.1:Int),.int .i64 (c.2:Int)] 74 (0,0))):LeftAt w (v.alloc (.cells #[.int .i64 (d.1:Int),.int .i64 (d.2:Int)] 74)) bc v.heap.size p c d:=
 ⟨hb.alloc hb.size _,(heap_alloc_old v _ (zB ha)).trans ha,(heap_alloc_old v _ (zB hr)).trans hr,(heap_alloc_old v _ (zB hc)).trans hc,heap_alloc_new _ _⟩
theorem LeftAt.ofStore {w v:World} {bc lv:Nat} {p c d:Nat × Nat} (hb:Below w.heap.size w v) (ha:v.heap[w.heap.size]?=some (.cells #[.int .i64 (p.1:Int),.int .i64 (p.2:Int)] 74 (0,0))) (hr:v.heap[w.heap.size + 1]?=some (.cells #[.int .i64 0,.int .i64 0] 74 (0,0)))
  (hc:v.heap[bc]?=some (.cells #[.int .i64 (c.1:Int),.int .i64 (c.2:Int)] 74 (0,0))) (hl:v.heap[lv]?=some (.cells #[.int .i64 0,.int .i64 0] 74 (0,0))) (h0:w.heap.size≤lv) (h1:w.heap.size≠lv) (h2:w.heap.size + 1≠lv) (h3:bc≠lv) :
  LeftAt w ((v.setCell ⟨lv,0,none⟩ (.int .i64 (d.1:Int))).setCell ⟨lv,1,none⟩ (.int .i64 (d.2:Int))) bc lv p c d:=
 ⟨(hb.setCell (p:=⟨lv,0,none⟩) h0 _).setCell (p:=⟨lv,1,none⟩) h0 _,(Below.heap_setCell _ _ _ _ h1).trans ((Below.heap_setCell _ _ _ _ h1).trans ha),(Below.heap_setCell _ _ _ _ h2).trans ((Below.heap_setCell _ _ _ _ h2).trans hr),(Below.heap_setCell _ _ _ _ h3).trans ((Below.heap_setCell _ _ _ _ h3).trans hc),zI (zI hl 0 _) 1 _⟩
theorem zLO (b:Nat) (C:SC) (S:SS) (V:SV) (n:Nat) (p:Nat × Nat) (w:World) (hS:SAt w b C S V) (hB:SBd C S) (hp:p.1 < 512∧p.2 < 512) :
  Calls Tryz.prog 130 #[.pointer (some ⟨b,0,none⟩),.int .i64 (n:Int),zAj p] w fun e w'=>e=.returned (.tuple #[zAj (zAM (zM S.ref n) p),.bool (zDK (zM S.ref n) p)])∧Below w.heap.size w w':=by
 obtain ⟨p1,p2⟩:=p;have hlt:=zAX S.ref hB.ref n;have hrl:=hB.rl;have k7:w.cell? ⟨b,7,none⟩=some V.r:=zE hS.fb rfl;have hbw:=zB hS.fb
 go_enter Tryz.func130,Tryz.ntmps130
 go_wp2_with fail;generalize hw0:((w.alloc (.cells #[.int .i64 (p1:Int),.int .i64 (p2:Int)] 74)).alloc (.cells #[.int .i64 0,.int .i64 0] 74))=u1;have hBw:Below w.heap.size w u1:=(by rw [← hw0];exact ((Below.refl _ _).alloc (Nat.le_refl _) _).alloc (by simp) _);have hva:u1.heap[w.heap.size]?=some (.cells #[.int .i64 (p1:Int),.int .i64 (p2:Int)] 74 (0,0)):=(by rw [← hw0,heap_alloc_old _ _ (by simp)];exact zP (by simp));have hrs:u1.heap[w.heap.size + 1]?=some (.cells #[.int .i64 0,.int .i64 0] 74 (0,0)):=(by rw [← hw0];exact zP (by simp));clear hw0;obtain ⟨cva0,cva1⟩:=zJ hva;have lva:=zB hva;obtain ⟨crs0,crs1⟩:=zJ hrs;have lrs:=zB hrs;have hc:=(hS.later hBw);refine (zBW 0 b 6 S.ref V.r n _ (by rw [zC hc.fb];rfl) hc.oR (by omega)).mono ?_;rintro e u2 ⟨rfl,b2⟩;replace hBw:=hBw.trans (b2.mono hBw.size);replace hva:=zH b2 hva;clear cva0 cva1;obtain ⟨cva0,cva1⟩:=zJ hva;replace lva:=zB hva;replace hrs:=zH b2 hrs;clear crs0 crs1;obtain ⟨crs0,crs1⟩:=zJ hrs;replace lrs:=zB hrs;replace hc:=hc.later b2;generalize hea:zM S.ref n=c at *;have HEC:=zF hea;clear hea;obtain ⟨c1,c2⟩:=c;have HL:Hid (zAM (c1,c2) (p1,p2)=zAz (c1,c2) (p2,p1)):=zF rfl;have HO:Hid (zDK (c1,c2) (p1,p2)=(!((c1 &&& p1) ||| (c2 &&& p2) != 0) && !(c1 &&& c2 != 0))):=zF rfl;have hm:=zDe (c1,c2) (p2,p1) hlt;go_wp2_with fail;generalize hw0:u2.alloc (.cells #[.int .i64 (c1:Int),.int .i64 (c2:Int)] 74)=u3;have b3:Below u2.heap.size u2 u3:=(by rw [← hw0];exact (Below.refl _ _).alloc (Nat.le_refl _) _);have hcl:u3.heap[u2.heap.size]?=some (.cells #[.int .i64 (c1:Int),.int .i64 (c2:Int)] 74 (0,0)):=(by rw [← hw0];exact heap_alloc_new _ _);clear hw0;replace hBw:=hBw.trans (b3.mono hBw.size);replace hva:=zH b3 hva;clear cva0 cva1;obtain ⟨cva0,cva1⟩:=zJ hva;replace lva:=zB hva;replace hrs:=zH b3 hrs;clear crs0 crs1;obtain ⟨crs0,crs1⟩:=zJ hrs;replace lrs:=zB hrs;replace hc:=hc.later b3;obtain ⟨ccl0,ccl1⟩:=zJ hcl;have lcl:=zB hcl;clear hc k7 hrl hbw;have hse:Below w.heap.size w u3:=hBw
 go_cut [9] (fun s9 wx=>∃ lv,s9=.pointer (some ⟨lv,0,none⟩)∧LeftAt w wx u2.heap.size lv (p1,p2) (c1,c2) (zAz (c1,c2) (p2,p1)))
 case first=>
  go_region_with (first | (go_at_call 76;refine (zF6 p1 p2 _).mono ?_;rintro e v1 ⟨rfl,y1⟩;have x1:Below u3.heap.size u3 v1:=Below.trans (by first | exact Below.refl _ _ | exact (Below.refl _ _).drew | exact (Below.refl _ _).alloc (Nat.le_refl _) _ | exact ((Below.refl _ _).alloc (Nat.le_refl _) _).drew | exact ((Below.refl _ _).drew).alloc (Nat.le_refl _) _) (y1.mono (by simp));have hcl_v1:=zH x1 hcl;have hva_v1:=zH x1 hva;have hrs_v1:=zH x1 hrs;have cl0_v1:v1.cell? ⟨u2.heap.size,0,none⟩=some (.int .i64 (c1:Int)):=(by rw [zC hcl_v1];rfl);have cl1_v1:v1.cell? ⟨u2.heap.size,1,none⟩=some (.int .i64 (c2:Int)):=(by rw [zC hcl_v1];rfl);have va0_v1:v1.cell? ⟨w.heap.size,0,none⟩=some (.int .i64 (p1:Int)):=(by rw [zC hva_v1];rfl);have va1_v1:v1.cell? ⟨w.heap.size,1,none⟩=some (.int .i64 (p2:Int)):=(by rw [zC hva_v1];rfl);have rs0_v1:v1.cell? ⟨w.heap.size + 1,0,none⟩=some (.int .i64 0):=(by rw [zC hrs_v1];rfl);have rs1_v1:v1.cell? ⟨w.heap.size + 1,1,none⟩=some (.int .i64 0):=(by rw [zC hrs_v1];rfl);have l_v1_cl:=zB hcl_v1;have l_v1_va:=zB hva_v1;have l_v1_rs:=zB hrs_v1;(try (have hq1:v1.heap[u3.heap.size]?=some (.cells #[.int .i64 0,.int .i64 0] 74 (0,0)):=(by first | exact (y1.block u3.heap.size (by simp)).trans (heap_alloc_new u3 _) | exact (y1.block u3.heap.size (by simp)).trans (heap_alloc_new u3.drew _));have ql1:=zB hq1))) | (go_at_call 75;refine (zC5 c1 c2 p2 p1 _ hlt.1 hlt.2 hp.2 hp.1).mono ?_;rintro e v2 ⟨rfl,y2⟩;have x2:Below v1.heap.size v1 v2:=Below.trans (by first | exact Below.refl _ _ | exact (Below.refl _ _).drew | exact (Below.refl _ _).alloc (Nat.le_refl _) _ | exact ((Below.refl _ _).alloc (Nat.le_refl _) _).drew | exact ((Below.refl _ _).drew).alloc (Nat.le_refl _) _) (y2.mono (by simp));have hcl_v2:=((x1.trans (x2.mono x1.size)).block _ (zB hcl)).trans hcl;have hva_v2:=((x1.trans (x2.mono x1.size)).block _ (zB hva)).trans hva;have hrs_v2:=((x1.trans (x2.mono x1.size)).block _ (zB hrs)).trans hrs;have cl0_v2:v2.cell? ⟨u2.heap.size,0,none⟩=some (.int .i64 (c1:Int)):=(by rw [zC hcl_v2];rfl);have cl1_v2:v2.cell? ⟨u2.heap.size,1,none⟩=some (.int .i64 (c2:Int)):=(by rw [zC hcl_v2];rfl);have va0_v2:v2.cell? ⟨w.heap.size,0,none⟩=some (.int .i64 (p1:Int)):=(by rw [zC hva_v2];rfl);have va1_v2:v2.cell? ⟨w.heap.size,1,none⟩=some (.int .i64 (p2:Int)):=(by rw [zC hva_v2];rfl);have rs0_v2:v2.cell? ⟨w.heap.size + 1,0,none⟩=some (.int .i64 0):=(by rw [zC hrs_v2];rfl);have rs1_v2:v2.cell? ⟨w.heap.size + 1,1,none⟩=some (.int .i64 0):=(by rw [zC hrs_v2];rfl);have l_v2_cl:=zB hcl_v2;have l_v2_va:=zB hva_v2;have l_v2_rs:=zB hrs_v2;(try (have hq2:v2.heap[u3.heap.size]?=some (.cells #[.int .i64 0,.int .i64 0] 74 (0,0)):=(x2.block _ ql1).trans hq1;have q20:v2.cell? ⟨u3.heap.size,0,none⟩=some (.int .i64 0):=(by rw [zC hq2];rfl);have q21:v2.cell? ⟨u3.heap.size,1,none⟩=some (.int .i64 0):=(by rw [zC hq2];rfl);have qz20:=zD hq2 0;have qz21:=zD hq2 1;have ql2:=zB hq2));(try (have hq3:v2.heap[v1.heap.size]?=some (.cells #[.int .i64 0,.int .i64 0] 74 (0,0)):=(by first | exact (y2.block v1.heap.size (by simp)).trans (heap_alloc_new v1 _) | exact (y2.block v1.heap.size (by simp)).trans (heap_alloc_new v1.drew _));have q30:v2.cell? ⟨v1.heap.size,0,none⟩=some (.int .i64 0):=(by rw [zC hq3];rfl);have q31:v2.cell? ⟨v1.heap.size,1,none⟩=some (.int .i64 0):=(by rw [zC hq3];rfl);have qz30:=zD hq3 0;have qz31:=zD hq3 1;have ql3:=zB hq3))))
  all_goals
   have xx:=x1.trans (x2.mono x1.size);have hB2:=hse.trans (xx.mono hse.size);have sx:=x1.size;have sy:=x2.size;go_wp2_with fail
   go_meet
   refine ⟨_,rfl,?_⟩
   first
    | exact LeftAt.ofAlloc hB2 hva_v2 hrs_v2 hcl_v2
    | exact LeftAt.ofStore hB2 hva_v2 hrs_v2 hcl_v2 hq3 (by omega) (by omega) (by omega) (by omega)
    | exact LeftAt.ofStore hB2 hva_v2 hrs_v2 hcl_v2 hq2 (by omega) (by omega) (by omega) (by omega)
 case rest=>
 obtain ⟨lv,rfl,hL⟩:=hcut;generalize hem:zAz (c1,c2) (p2,p1)=cm at *;have HEM:=zF hem;clear hem;obtain ⟨d1,d2⟩:=cm;clear hcl hva hrs cva0 cva1 lva crs0 crs1 lrs ccl0 ccl1 lcl hse b3 b2 hBw;obtain ⟨hBz,hvaz,hrsz,hclz,hlez⟩:=hL;dsimp only at hvaz hclz hlez hm;have ccl0:wc.cell? ⟨u2.heap.size,0,none⟩=some (.int .i64 (c1:Int)):=zE hclz rfl;have ccl1:wc.cell? ⟨u2.heap.size,1,none⟩=some (.int .i64 (c2:Int)):=zE hclz rfl;have lcl:=zB hclz;have cva0:wc.cell? ⟨w.heap.size,0,none⟩=some (.int .i64 (p1:Int)):=zE hvaz rfl;have cva1:wc.cell? ⟨w.heap.size,1,none⟩=some (.int .i64 (p2:Int)):=zE hvaz rfl;have lva:=zB hvaz;have crs0:wc.cell? ⟨w.heap.size + 1,0,none⟩=some (.int .i64 0):=zE hrsz rfl;have crs1:wc.cell? ⟨w.heap.size + 1,1,none⟩=some (.int .i64 0):=zE hrsz rfl;have lrs:=zB hrsz;have cle0:wc.cell? ⟨lv,0,none⟩=some (.int .i64 (d1:Int)):=zE hlez rfl;have cle1:wc.cell? ⟨lv,1,none⟩=some (.int .i64 (d2:Int)):=zE hlez rfl;have lle:=zB hlez;go_wp2_with fail
 cases hme:((c1 &&& p1) ||| (c2 &&& p2) != 0) with
 | true=>
  have HO2:Hid (zDK (c1,c2) (p1,p2)=false):=zF (by rw [zA HO,hme];rfl)
  go_region_with (go_at_call 131;refine (zEe c1 c2 p1 p2 _ hlt.1 hlt.2 hp.1 hp.2).mono ?_;rintro e v3 ⟨rfl,y3⟩;rw [hme];have x3:Below wc.heap.size wc v3:=Below.trans (by first | exact Below.refl _ _ | exact (Below.refl _ _).drew | exact (Below.refl _ _).alloc (Nat.le_refl _) _ | exact ((Below.refl _ _).alloc (Nat.le_refl _) _).drew | exact ((Below.refl _ _).drew).alloc (Nat.le_refl _) _) (y3.mono (by simp));have hcl_v3:=zH x3 hclz;have hva_v3:=zH x3 hvaz;have hrs_v3:=zH x3 hrsz;have hle_v3:=zH x3 hlez;have cl0_v3:v3.cell? ⟨u2.heap.size,0,none⟩=some (.int .i64 (c1:Int)):=(by rw [zC hcl_v3];rfl);have cl1_v3:v3.cell? ⟨u2.heap.size,1,none⟩=some (.int .i64 (c2:Int)):=(by rw [zC hcl_v3];rfl);have va0_v3:v3.cell? ⟨w.heap.size,0,none⟩=some (.int .i64 (p1:Int)):=(by rw [zC hva_v3];rfl);have va1_v3:v3.cell? ⟨w.heap.size,1,none⟩=some (.int .i64 (p2:Int)):=(by rw [zC hva_v3];rfl);have rs0_v3:v3.cell? ⟨w.heap.size + 1,0,none⟩=some (.int .i64 0):=(by rw [zC hrs_v3];rfl);have rs1_v3:v3.cell? ⟨w.heap.size + 1,1,none⟩=some (.int .i64 0):=(by rw [zC hrs_v3];rfl);have le0_v3:v3.cell? ⟨lv,0,none⟩=some (.int .i64 (d1:Int)):=(by rw [zC hle_v3];rfl);have le1_v3:v3.cell? ⟨lv,1,none⟩=some (.int .i64 (d2:Int)):=(by rw [zC hle_v3];rfl);have l_v3_cl:=zB hcl_v3;have l_v3_va:=zB hva_v3;have l_v3_rs:=zB hrs_v3;have l_v3_le:=zB hle_v3;have z0_v3:=zD hrs_v3 0;have z1_v3:=zD hrs_v3 1)
  all_goals go_wp2_with fail
  all_goals
   have hR:=zI (zI hrs_v3 0 (.int .i64 (d1:Int))) 1 (.int .i64 (d2:Int));have j0:=zC hR 0;have j1:=zC hR 1;refine bodyPost_ret (v:=.tuple #[zAj (d1,d2),.bool false]) (by simp [results,Tryz.results130,go_sem,j0,j1]) rfl ⟨by rw [zA HEC,zA HL,zA HO2],?_⟩;exact ((hBz.trans (x3.mono hBz.size)).setCell (p:=⟨w.heap.size + 1,0,none⟩) (Nat.le_succ _) _).setCell (p:=⟨w.heap.size + 1,1,none⟩) (Nat.le_succ _) _
 | false=>
  have HO2:Hid (zDK (c1,c2) (p1,p2)=!(c1 &&& c2 != 0)):=zF (by rw [zA HO,hme];rfl)
  go_region_with (first | (go_at_call 131;refine (zEe c1 c2 p1 p2 _ hlt.1 hlt.2 hp.1 hp.2).mono ?_;rintro e v3 ⟨rfl,y3⟩;rw [hme];have x3:Below wc.heap.size wc v3:=Below.trans (by first | exact Below.refl _ _ | exact (Below.refl _ _).drew | exact (Below.refl _ _).alloc (Nat.le_refl _) _ | exact ((Below.refl _ _).alloc (Nat.le_refl _) _).drew | exact ((Below.refl _ _).drew).alloc (Nat.le_refl _) _) (y3.mono (by simp));have hcl_v3:=zH x3 hclz;have hva_v3:=zH x3 hvaz;have hrs_v3:=zH x3 hrsz;have hle_v3:=zH x3 hlez;have cl0_v3:v3.cell? ⟨u2.heap.size,0,none⟩=some (.int .i64 (c1:Int)):=(by rw [zC hcl_v3];rfl);have cl1_v3:v3.cell? ⟨u2.heap.size,1,none⟩=some (.int .i64 (c2:Int)):=(by rw [zC hcl_v3];rfl);have va0_v3:v3.cell? ⟨w.heap.size,0,none⟩=some (.int .i64 (p1:Int)):=(by rw [zC hva_v3];rfl);have va1_v3:v3.cell? ⟨w.heap.size,1,none⟩=some (.int .i64 (p2:Int)):=(by rw [zC hva_v3];rfl);have rs0_v3:v3.cell? ⟨w.heap.size + 1,0,none⟩=some (.int .i64 0):=(by rw [zC hrs_v3];rfl);have rs1_v3:v3.cell? ⟨w.heap.size + 1,1,none⟩=some (.int .i64 0):=(by rw [zC hrs_v3];rfl);have le0_v3:v3.cell? ⟨lv,0,none⟩=some (.int .i64 (d1:Int)):=(by rw [zC hle_v3];rfl);have le1_v3:v3.cell? ⟨lv,1,none⟩=some (.int .i64 (d2:Int)):=(by rw [zC hle_v3];rfl);have l_v3_cl:=zB hcl_v3;have l_v3_va:=zB hva_v3;have l_v3_rs:=zB hrs_v3;have l_v3_le:=zB hle_v3;have z0_v3:=zD hrs_v3 0;have z1_v3:=zD hrs_v3 1) | (go_at_call 124;refine (zEE c1 c2 _ hlt.1 hlt.2).mono ?_;rintro e v4 ⟨rfl,y4⟩;have x4:Below wc.heap.size wc v4:=x3.trans (Below.trans (B:=wc.heap.size) (by first | exact Below.refl _ _ | exact (Below.refl _ _).drew) (y4.mono (by have:=x3.size;simp;omega)));have hcl_v4:=zH x4 hclz;have hva_v4:=zH x4 hvaz;have hrs_v4:=zH x4 hrsz;have hle_v4:=zH x4 hlez;have cl0_v4:v4.cell? ⟨u2.heap.size,0,none⟩=some (.int .i64 (c1:Int)):=(by rw [zC hcl_v4];rfl);have cl1_v4:v4.cell? ⟨u2.heap.size,1,none⟩=some (.int .i64 (c2:Int)):=(by rw [zC hcl_v4];rfl);have va0_v4:v4.cell? ⟨w.heap.size,0,none⟩=some (.int .i64 (p1:Int)):=(by rw [zC hva_v4];rfl);have va1_v4:v4.cell? ⟨w.heap.size,1,none⟩=some (.int .i64 (p2:Int)):=(by rw [zC hva_v4];rfl);have rs0_v4:v4.cell? ⟨w.heap.size + 1,0,none⟩=some (.int .i64 0):=(by rw [zC hrs_v4];rfl);have rs1_v4:v4.cell? ⟨w.heap.size + 1,1,none⟩=some (.int .i64 0):=(by rw [zC hrs_v4];rfl);have le0_v4:v4.cell? ⟨lv,0,none⟩=some (.int .i64 (d1:Int)):=(by rw [zC hle_v4];rfl);have le1_v4:v4.cell? ⟨lv,1,none⟩=some (.int .i64 (d2:Int)):=(by rw [zC hle_v4];rfl);have l_v4_cl:=zB hcl_v4;have l_v4_va:=zB hva_v4;have l_v4_rs:=zB hrs_v4;have l_v4_le:=zB hle_v4;have z0_v4:=zD hrs_v4 0;have z1_v4:=zD hrs_v4 1))
  all_goals go_wp2_with fail
  all_goals
   have hR:=zI (zI hrs_v4 0 (.int .i64 (d1:Int))) 1 (.int .i64 (d2:Int));have j0:=zC hR 0;have j1:=zC hR 1;refine bodyPost_ret (v:=.tuple #[zAj (d1,d2),.bool (!(c1 &&& c2 != 0))]) (by simp [results,Tryz.results130,go_sem,j0,j1]) rfl ⟨by rw [zA HEC,zA HL,zA HO2],?_⟩;exact ((hBz.trans (x4.mono hBz.size)).setCell (p:=⟨w.heap.size + 1,0,none⟩) (Nat.le_succ _) _).setCell (p:=⟨w.heap.size + 1,1,none⟩) (Nat.le_succ _) _
structure PAt (w:World) (b o:Nat) (cells:Array Value) (t:TypeId) (p:List Stp) (vS:Value) (kind:Nat):Prop where
 fb:w.heap[b]?=some (.cells cells t (0,0))
 ck:cells[o]?=some (.int .i64 (kind:Int))
 cs:cells[o + 1]?=some vS
 own:w.ownsRow 0 134 6 vS p.length (zAk p)
 ty:134≠t
theorem PAt.later {w w':World} {b o:Nat} {cells:Array Value} {t:TypeId} {p:List Stp} {vS:Value} {kind:Nat} (h:PAt w b o cells t p vS kind) (hb:Below w.heap.size w w'):PAt w' b o cells t p vS kind:=
 ⟨(hb.block _ (zB h.fb)).trans h.fb,h.ck,h.cs,zO h.own hb,h.ty⟩
def PGo (b o:Nat) (cells:Array Value) (t:TypeId) (p':List Stp) (vS:Value) (w w':World):Prop:=
 ∃ v',w'.ownsRow 0 134 6 v' p'.length (zAk p')∧w'.heap[b]?=some (.cells (cells.setIfInBounds (o + 1) v') t (0,0))∧Only (fun k=>k=b∨vS.ownBlock=some k) w w'∧Moved w vS v'
theorem PGo.before {b o:Nat} {cells:Array Value} {t:TypeId} {p':List Stp} {vS:Value} {w0 w w':World} (h:PGo b o cells t p' vS w w') (hb:Below w0.heap.size w0 w):PGo b o cells t p' vS w0 w':=by
 obtain ⟨v',h1,h2,h3,h4⟩:=h;refine ⟨v',h1,h2,(Only.of_below hb).trans h3,?_⟩
 rcases h4 with h4 | ⟨k,h4,h5⟩
 ·exact Or.inl h4
 ·exact Or.inr ⟨k,h4,Nat.le_trans hb.size h5⟩
theorem PGo.later {b o:Nat} {cells:Array Value} {t:TypeId} {p':List Stp} {vS:Value} {w w1 w':World} (h:PGo b o cells t p' vS w w1) (hb:Below w1.heap.size w1 w'):PGo b o cells t p' vS w w':=by
 obtain ⟨v',h1,h2,h3,h4⟩:=h;exact ⟨v',zO h1 hb,zH hb h2,h3.trans (Only.of_below hb),h4⟩
theorem PAt.same {w w':World} {b o:Nat} {cells:Array Value} {t:TypeId} {p:List Stp} {vS:Value} {kind:Nat} (h:PAt w b o cells t p vS kind) (hb:Below w.heap.size w w'):PGo b o cells t p vS w w':=by
 have h':=h.later hb;have e:cells.setIfInBounds (o + 1) vS=cells:=by
  apply Array.ext_getElem?
  intro i;rw [Array.getElem?_setIfInBounds]
  split
  ·next hi=>subst hi;rw [h.cs];simp [(Array.getElem?_eq_some_iff.1 h.cs).1]
  ·rfl
 exact ⟨vS,h'.own,by rw [e];exact h'.fb,Only.of_below hb,Or.inl rfl⟩
theorem PAt.add {w w':World} {b o:Nat} {cells:Array Value} {t:TypeId} {p:List Stp} {vS:Value} {s:Stp} {e:Ending} (h:zKg 0 b o p vS s cells t w e w'):e=.returned (.int .i64 ((p.length:Int) + 1))∧PGo b o cells t (p ++ [s]) vS w w':=by
 obtain ⟨v',h0,h1,h2,h3,h4⟩:=h;exact ⟨h0,v',by simpa using h1,h2,h3,h4⟩
theorem zLc (b o:Nat) (cells:Array Value) (t:TypeId) (q:QS) (vV vC:Value) (p:List Stp) (vS:Value) (kind n:Nat) (w:World) (hP:PAt w b o cells t p vS kind) (hoV:w.ownsRow 0 139 2 vV q.vars.length (zd q.vars)) (hCf:∃ aC nC cC,vC=.slice aC nC cC) (hQ:QB q) (hl:p.length≤100000) (hlt:∀ s∈p,s.lits.1 < 512∧s.lits.2 < 512) (_hn:n≤1048576) :
  Calls Tryz.prog 133 #[.pointer (some ⟨b,o,none⟩),.agg #[vV,vC],.int .i64 (n:Int)] w fun e w'=>e=.returned (.int .i64 ((zBz q kind p n).2:Nat))∧PGo b o cells t (zBz q kind p n).1 vS w w':=by
 obtain ⟨aV,cV,rfl⟩:=zN hoV;obtain ⟨aC,nC,cC,rfl⟩:=hCf;have hbw:=zB hP.fb;have hla:=zAX p hlt n;have hlr:=zH3 kind q.vars.reverse _ hla
 go_enter Tryz.func133,Tryz.ntmps133
 go_wp2_with fail;generalize hw0:(w.alloc (.cells #[.slice aV q.vars.length cV,.slice aC nC cC] 60))=u1;have hB:Below w.heap.size w u1:=(by rw [← hw0];exact (Below.refl _ _).alloc (Nat.le_refl _) _);have hfo:u1.heap[w.heap.size]?=some (.cells #[.slice aV q.vars.length cV,.slice aC nC cC] 60 (0,0)):=(by rw [← hw0];exact zP (by simp));clear hw0;obtain ⟨cfo0,cfo1⟩:=zJ hfo;have lfo:=zB hfo;have hP1:=hP.later hB;refine (zBW 0 b o p vS n _ (by rw [zC hP1.fb];exact hP1.cs) hP1.own (by omega)).mono ?_;rintro e u2 ⟨rfl,b2⟩;replace hB:=hB.trans (b2.mono hB.size);replace hfo:=zH b2 hfo;clear cfo0 cfo1;obtain ⟨cfo0,cfo1⟩:=zJ hfo;replace lfo:=zB hfo;replace hP1:=hP1.later b2;have HR:Hid (zBz q kind p n=if zAR kind q.vars.reverse (zM p n)=zM p n then (p,n) else (p ++ [⟨4,n,0,0,zAR kind q.vars.reverse (zM p n)⟩],p.length + 1)):=zF rfl;generalize hea:zM p n=c at *;have HEA:=zF hea;clear hea HR;obtain ⟨a1,a2⟩:=c;dsimp only at hla hlr;go_wp2_with fail;generalize hw0:u2.alloc (.cells #[.int .i64 (a1:Int),.int .i64 (a2:Int)] 74)=u3;have b3:Below u2.heap.size u2 u3:=(by rw [← hw0];exact (Below.refl _ _).alloc (Nat.le_refl _) _);have hwh:u3.heap[u2.heap.size]?=some (.cells #[.int .i64 (a1:Int),.int .i64 (a2:Int)] 74 (0,0)):=(by rw [← hw0];exact heap_alloc_new _ _);clear hw0;replace hB:=hB.trans (b3.mono hB.size);replace hfo:=zH b3 hfo;clear cfo0 cfo1;obtain ⟨cfo0,cfo1⟩:=zJ hfo;replace lfo:=zB hfo;replace hP1:=hP1.later b3;obtain ⟨cwh0,cwh1⟩:=zJ hwh;have lwh:=zB hwh;refine (zGQ 0 b o q kind _ _ (a1,a2) _ (by rw [zC hP1.fb];exact hP1.ck) (zO hoV hB) hQ hla ⟨aC,nC,cC,rfl⟩).mono ?_;rintro e u4 ⟨rfl,b4⟩;replace hB:=hB.trans (b4.mono hB.size);replace hfo:=zH b4 hfo;clear cfo0 cfo1;obtain ⟨cfo0,cfo1⟩:=zJ hfo;replace lfo:=zB hfo;replace hwh:=zH b4 hwh;clear cwh0 cwh1;obtain ⟨cwh0,cwh1⟩:=zJ hwh;replace lwh:=zB hwh;replace hP1:=hP1.later b4;generalize hea:zAR kind q.vars.reverse (a1,a2)=c at *;have HEB:Hid (zAR kind q.vars.reverse (zM p n)=c):=zF (by rw [zA HEA];exact hea);clear hea;obtain ⟨d1,d2⟩:=c;dsimp only at hlr;have HDN:∀ {x y:Nat},x≠y→((x:Int) == (y:Int))=false:=fun h=>by rw [beq_eq_false_iff_ne];omega
 have hrr:∀ r1 r2:Nat,(r1,r2)≠(a1,a2)→Hid (zAR kind q.vars.reverse (zM p n)=(r1,r2))→Hid (zBz q kind p n=(p ++ [⟨4,n,0,0,(r1,r2)⟩],p.length + 1)):=fun r1 r2 hne he=>zF (by unfold zBz;rw [zA he,zA HEA,if_neg hne])
 by_cases e1:d1=a1
 ·subst e1
  by_cases e2:d2=a2
  ·subst e2;have HF:Hid (zBz q kind p n=(p,n)):=zF (by unfold zBz;rw [zA HEB,zA HEA,if_pos rfl]);clear HDN hrr;go_wp2_with fail;go_ret;refine ⟨?_,?_⟩
   ·rw [zA HF];rfl
   ·rw [zA HF];exact hP.same (hB.alloc hB.size _)
  ·have hne:=HDN e2;have HF:=hrr d1 d2 (fun e=>e2 (by injection e)) HEB;clear HDN hrr e2;go_wp2_with fail;generalize hw0:u4.alloc (.cells #[.int .i64 (d1:Int),.int .i64 (d2:Int)] 74)=u5;have b5:Below u4.heap.size u4 u5:=(by rw [← hw0];exact (Below.refl _ _).alloc (Nat.le_refl _) _);have hre:u5.heap[u4.heap.size]?=some (.cells #[.int .i64 (d1:Int),.int .i64 (d2:Int)] 74 (0,0)):=(by rw [← hw0];exact heap_alloc_new _ _);clear hw0;replace hB:=hB.trans (b5.mono hB.size);replace hfo:=zH b5 hfo;clear cfo0 cfo1;obtain ⟨cfo0,cfo1⟩:=zJ hfo;replace lfo:=zB hfo;replace hwh:=zH b5 hwh;clear cwh0 cwh1;obtain ⟨cwh0,cwh1⟩:=zJ hwh;replace lwh:=zB hwh;replace hP1:=hP1.later b5;obtain ⟨cre0,cre1⟩:=zJ hre;have lre:=zB hre;refine (zCZ 0 b o p vS ⟨4,n,0,0,(d1,d2)⟩ cells t _ hP1.fb hP1.cs hP1.ty hP1.own (by omega) (Nat.zero_le _)).mono ?_;intro e uz hadd;obtain ⟨rfl,hgo⟩:=PAt.add hadd;have hgo2:=hgo.before hB;clear hadd hgo;go_wp2_with fail;go_ret;refine ⟨?_,?_⟩
   ·rw [zA HF];exact zA7 (by simp)
   ·rw [zA HF];exact hgo2
 ·have hne:=HDN e1;have HF:=hrr d1 d2 (fun e=>e1 (by injection e)) HEB;clear HDN hrr e1;go_wp2_with fail;generalize hw0:u4.alloc (.cells #[.int .i64 (d1:Int),.int .i64 (d2:Int)] 74)=u5;have b5:Below u4.heap.size u4 u5:=(by rw [← hw0];exact (Below.refl _ _).alloc (Nat.le_refl _) _);have hre:u5.heap[u4.heap.size]?=some (.cells #[.int .i64 (d1:Int),.int .i64 (d2:Int)] 74 (0,0)):=(by rw [← hw0];exact heap_alloc_new _ _);clear hw0;replace hB:=hB.trans (b5.mono hB.size);replace hfo:=zH b5 hfo;clear cfo0 cfo1;obtain ⟨cfo0,cfo1⟩:=zJ hfo;replace lfo:=zB hfo;replace hwh:=zH b5 hwh;clear cwh0 cwh1;obtain ⟨cwh0,cwh1⟩:=zJ hwh;replace lwh:=zB hwh;replace hP1:=hP1.later b5;obtain ⟨cre0,cre1⟩:=zJ hre;have lre:=zB hre;refine (zCZ 0 b o p vS ⟨4,n,0,0,(d1,d2)⟩ cells t _ hP1.fb hP1.cs hP1.ty hP1.own (by omega) (Nat.zero_le _)).mono ?_;intro e uz hadd;obtain ⟨rfl,hgo⟩:=PAt.add hadd;have hgo2:=hgo.before hB;clear hadd hgo;go_wp2_with fail;go_ret;refine ⟨?_,?_⟩
  ·rw [zA HF];exact zA7 (by simp)
  ·rw [zA HF];exact hgo2
theorem zGV (b o:Nat) (cells:Array Value) (t:TypeId) (p:List Stp) (vS:Value) (kind i j v:Nat) (w:World) (hP:PAt w b o cells t p vS kind) (hl:p.length≤100000) (hlt:∀ s∈p,s.lits.1 < 512∧s.lits.2 < 512) (hv:v≤1048576) :
  Calls Tryz.prog 113 #[.pointer (some ⟨b,o,none⟩),.int .i64 (i:Int),.int .i64 (j:Int),.int .i64 (v:Int)] w fun e w'=>e=.returned (.int .i64 ((zCC p i j v).2:Nat))∧PGo b o cells t (zCC p i j v).1 vS w w':=by
 have hbw:=zB hP.fb;have hla:=zAX p hlt i
 go_enter Tryz.func113,Tryz.ntmps113
 go_wp2_with fail;refine (zBW 0 b o p vS i _ (by rw [zC hP.fb];exact hP.cs) hP.own (by omega)).mono ?_;rintro e u1 ⟨rfl,b1⟩;have hB:Below w.heap.size w u1:=b1;have hP1:=hP.later hB;have HR:Hid (zCC p i j v=if zj (zM p i) v then (p ++ [⟨3,i,j,v,zi (zM p i) (zM p j) v⟩],p.length + 1) else (p ++ [⟨3,j,i,v,zi (zM p j) (zM p i) v⟩],p.length + 1)):=zF rfl;generalize hea:zM p i=c at *;have HEA:=zF hea;clear hea;obtain ⟨a1,a2⟩:=c;dsimp only at hla;go_wp2_with fail;generalize hw0:u1.alloc (.cells #[.int .i64 (a1:Int),.int .i64 (a2:Int)] 74)=u2;have b2:Below u1.heap.size u1 u2:=(by rw [← hw0];exact (Below.refl _ _).alloc (Nat.le_refl _) _);have how:u2.heap[u1.heap.size]?=some (.cells #[.int .i64 (a1:Int),.int .i64 (a2:Int)] 74 (0,0)):=(by rw [← hw0];exact heap_alloc_new _ _);clear hw0;replace hB:=hB.trans (b2.mono hB.size);replace hP1:=hP1.later b2;obtain ⟨cow0,cow1⟩:=zJ how;have low:=zB how;refine (zCw a1 a2 v _ hla.1 hla.2 (by omega) (by omega)).mono ?_;rintro e u3 ⟨rfl,b3⟩;replace hB:=hB.trans (b3.mono hB.size);replace how:=zH b3 how;clear cow0 cow1;obtain ⟨cow0,cow1⟩:=zJ how;replace low:=zB how;replace hP1:=hP1.later b3
 cases hh:zj (a1,a2) (v:Int) with
 | true=>
  have HF:Hid (zCC p i j v=(p ++ [⟨3,i,j,v,zi (zM p i) (zM p j) v⟩],p.length + 1)):=zF (by rw [zA HR,hh];rw [← zA HEA];rfl);clear hh;go_wp2_with fail;have hsl0:=hB.size;generalize hw0:u3.alloc (.cells #[.int .i64 3,.int .i64 (i:Int),.int .i64 (j:Int),.int .i64 (v:Int),.int .i64 0,.int .i64 0] 134)=u4;have b4:Below u3.heap.size u3 u4:=(by rw [← hw0];exact (Below.refl _ _).alloc (Nat.le_refl _) _);have hst:u4.heap[u3.heap.size]?=some (.cells #[.int .i64 3,.int .i64 (i:Int),.int .i64 (j:Int),.int .i64 (v:Int),.int .i64 0,.int .i64 0] 134 (0,0)):=(by rw [← hw0];exact heap_alloc_new _ _);clear hw0;replace hB:=hB.trans (b4.mono hB.size);replace how:=zH b4 how;clear cow0 cow1;obtain ⟨cow0,cow1⟩:=zJ how;replace low:=zB how;replace hP1:=hP1.later b4;obtain ⟨cst0,cst1,cst2,cst3,cst4,cst5⟩:=zAH hst;have lst:=zB hst;refine (zER 0 b o p vS ⟨3,i,j,v,(0,0)⟩ _ (by rw [zC hP1.fb];exact hP1.cs) hP1.own (by omega) hlt).mono ?_;rintro e u5 ⟨rfl,b5⟩;replace hB:=hB.trans (b5.mono hB.size);replace how:=zH b5 how;clear cow0 cow1;obtain ⟨cow0,cow1⟩:=zJ how;replace low:=zB how;replace hst:=zH b5 hst;clear cst0 cst1 cst2 cst3 cst4 cst5;obtain ⟨cst0,cst1,cst2,cst3,cst4,cst5⟩:=zAH hst;replace lst:=zB hst;replace hP1:=hP1.later b5;dsimp only;generalize hea:zi (zM p i) (zM p j) v=c at *;obtain ⟨d1,d2⟩:=c;clear hea;have hsl:w.heap.size≤u3.heap.size:=(by have h1:=hsl0;omega);have z4:=zD hst 4;have z5:=zD hst 5;have hx1:(u5.setCell ⟨u3.heap.size,4,none⟩ (.int .i64 (d1:Int))).heap[u3.heap.size]?=some (.cells #[.int .i64 3,.int .i64 (i:Int),.int .i64 (j:Int),.int .i64 (v:Int),.int .i64 (d1:Int),.int .i64 0] 134 (0,0)):=zI hst 4 _;have hx2:((u5.setCell ⟨u3.heap.size,4,none⟩ (.int .i64 (d1:Int))).setCell ⟨u3.heap.size,5,none⟩ (.int .i64 (d2:Int))).heap[u3.heap.size]?=some (.cells #[.int .i64 3,.int .i64 (i:Int),.int .i64 (j:Int),.int .i64 (v:Int),.int .i64 (d1:Int),.int .i64 (d2:Int)] 134 (0,0)):=zI hx1 5 _;generalize hwz:((u5.setCell ⟨u3.heap.size,4,none⟩ (.int .i64 (d1:Int))).setCell ⟨u3.heap.size,5,none⟩ (.int .i64 (d2:Int)))=wz at *;have hBz:Below w.heap.size w wz:=by
   rw [← hwz];exact (hB.setCell (p:=⟨u3.heap.size,4,none⟩) hsl _).setCell (p:=⟨u3.heap.size,5,none⟩) hsl _
  have hPz:=hP.later hBz;obtain ⟨q0,q1,q2,q3,q4,q5⟩:=zAH hx2;have lz:=zB hx2;have hbz:=zB hPz.fb;clear hx1;go_wp2_with fail;refine (zCZ 0 b o p vS ⟨3,i,j,v,(d1,d2)⟩ cells t _ hPz.fb hPz.cs hPz.ty hPz.own (by omega) (Nat.zero_le _)).mono ?_;intro e uz hadd;obtain ⟨rfl,hgo⟩:=PAt.add hadd;have hgo2:=hgo.before hBz;clear hadd hgo;go_wp2_with fail;go_ret;refine ⟨?_,?_⟩
  ·rw [zA HF];exact zA7 (by simp)
  ·rw [zA HF];exact hgo2
 | false=>
  have HF:Hid (zCC p i j v=(p ++ [⟨3,j,i,v,zi (zM p j) (zM p i) v⟩],p.length + 1)):=zF (by rw [zA HR,hh];rw [← zA HEA];rfl);clear hh;go_wp2_with fail;have hsl0:=hB.size;generalize hw0:u3.alloc (.cells #[.int .i64 3,.int .i64 (j:Int),.int .i64 (i:Int),.int .i64 (v:Int),.int .i64 0,.int .i64 0] 134)=u4;have b4:Below u3.heap.size u3 u4:=(by rw [← hw0];exact (Below.refl _ _).alloc (Nat.le_refl _) _);have hst:u4.heap[u3.heap.size]?=some (.cells #[.int .i64 3,.int .i64 (j:Int),.int .i64 (i:Int),.int .i64 (v:Int),.int .i64 0,.int .i64 0] 134 (0,0)):=(by rw [← hw0];exact heap_alloc_new _ _);clear hw0;replace hB:=hB.trans (b4.mono hB.size);replace how:=zH b4 how;clear cow0 cow1;obtain ⟨cow0,cow1⟩:=zJ how;replace low:=zB how;replace hP1:=hP1.later b4;obtain ⟨cst0,cst1,cst2,cst3,cst4,cst5⟩:=zAH hst;have lst:=zB hst;refine (zER 0 b o p vS ⟨3,j,i,v,(0,0)⟩ _ (by rw [zC hP1.fb];exact hP1.cs) hP1.own (by omega) hlt).mono ?_;rintro e u5 ⟨rfl,b5⟩;replace hB:=hB.trans (b5.mono hB.size);replace how:=zH b5 how;clear cow0 cow1;obtain ⟨cow0,cow1⟩:=zJ how;replace low:=zB how;replace hst:=zH b5 hst;clear cst0 cst1 cst2 cst3 cst4 cst5;obtain ⟨cst0,cst1,cst2,cst3,cst4,cst5⟩:=zAH hst;replace lst:=zB hst;replace hP1:=hP1.later b5;dsimp only;generalize hea:zi (zM p j) (zM p i) v=c at *;obtain ⟨d1,d2⟩:=c;clear hea;have hsl:w.heap.size≤u3.heap.size:=(by have h1:=hsl0;omega);have z4:=zD hst 4;have z5:=zD hst 5;have hx1:(u5.setCell ⟨u3.heap.size,4,none⟩ (.int .i64 (d1:Int))).heap[u3.heap.size]?=some (.cells #[.int .i64 3,.int .i64 (j:Int),.int .i64 (i:Int),.int .i64 (v:Int),.int .i64 (d1:Int),.int .i64 0] 134 (0,0)):=zI hst 4 _;have hx2:((u5.setCell ⟨u3.heap.size,4,none⟩ (.int .i64 (d1:Int))).setCell ⟨u3.heap.size,5,none⟩ (.int .i64 (d2:Int))).heap[u3.heap.size]?=some (.cells #[.int .i64 3,.int .i64 (j:Int),.int .i64 (i:Int),.int .i64 (v:Int),.int .i64 (d1:Int),.int .i64 (d2:Int)] 134 (0,0)):=zI hx1 5 _;generalize hwz:((u5.setCell ⟨u3.heap.size,4,none⟩ (.int .i64 (d1:Int))).setCell ⟨u3.heap.size,5,none⟩ (.int .i64 (d2:Int)))=wz at *;have hBz:Below w.heap.size w wz:=by
   rw [← hwz];exact (hB.setCell (p:=⟨u3.heap.size,4,none⟩) hsl _).setCell (p:=⟨u3.heap.size,5,none⟩) hsl _
  have hPz:=hP.later hBz;obtain ⟨q0,q1,q2,q3,q4,q5⟩:=zAH hx2;have lz:=zB hx2;have hbz:=zB hPz.fb;clear hx1;go_wp2_with fail;refine (zCZ 0 b o p vS ⟨3,j,i,v,(d1,d2)⟩ cells t _ hPz.fb hPz.cs hPz.ty hPz.own (by omega) (Nat.zero_le _)).mono ?_;intro e uz hadd;obtain ⟨rfl,hgo⟩:=PAt.add hadd;have hgo2:=hgo.before hBz;clear hadd hgo;go_wp2_with fail;go_ret;refine ⟨?_,?_⟩
  ·rw [zA HF];exact zA7 (by simp)
  ·rw [zA HF];exact hgo2
theorem SAt.pat {w:World} {b:Nat} {C:SC} {S:SS} {V:SV} (h:SAt w b C S V) {kind:Nat} (hk:kind=1∨kind=2):PAt w b (zI8 kind) (zCc C S V) 126 (S.proof kind) (if kind=2 then V.a else V.r) kind:=by
 rcases hk with rfl | rfl
 ·exact ⟨h.fb,rfl,rfl,h.oR,by decide⟩
 ·exact ⟨h.fb,rfl,rfl,h.oA,by decide⟩
theorem SAt.put {w w':World} {b:Nat} {C:SC} {S:SS} {V:SV} (h:SAt w b C S V) {kind:Nat} (hk:kind=1∨kind=2) {p:List Stp} (hg:PGo b (zI8 kind) (zCc C S V) 126 p (if kind=2 then V.a else V.r) w w'):SPost b C (S.put kind p) V w w':=by
 obtain ⟨v',h1,h2,h3,h4⟩:=hg;have hS:∀ k,(if kind=2 then V.a else V.r).ownBlock=some k→∃ c,w.heap[k]?=some (.cells c 134 (0,0)):=by
  rcases hk with rfl | rfl
  ·exact zr h.oR
  ·exact zr h.oA
 have hne:∀ {e:TypeId} {k:Nat},e≠126→e≠134→(∃ c,w.heap[k]?=some (.cells c e (0,0)))→¬ (k=b∨(if kind=2 then V.a else V.r).ownBlock=some k):=by
  rintro e k h5 h6 ⟨c,hc⟩ (e2 | e2)
  ·subst e2;exact h5 (zc hc h.fb)
  ·obtain ⟨c',hc'⟩:=hS k e2;exact h6 (zc hc hc')
 have honly:Only (TS b V) w w':=h3.mono (fun k _ hh=>by
  rcases hh with hh | hh
  ·exact Or.inl hh
  ·rcases hk with rfl | rfl
   ·exact Or.inr (Or.inl hh)
   ·exact Or.inr (Or.inr (Or.inl hh)))
 have oV:=zY h.oV h3 (fun k hk2=>hne (by decide) (by decide) (zr h.oV k hk2));have oC:=zY h.oC h3 (fun k hk2=>hne (by decide) (by decide) (zr h.oC k hk2));have oK:=h.oK.keep h3 (fun k hk2=>hne (by decide) (by decide) (h.oK.blk k hk2))
 rcases hk with rfl | rfl
 ·have oA:=zY h.oA h3 (fun k hk2 hh=>by
   rcases hh with e | e
   ·subst e;exact zT h.oA h.fb (by decide) hk2
   ·exact h.ap k e hk2)
  refine ⟨{ V with r:=v' },⟨h2,oV,oC,h1,oA,oK,fun k hk1 hk2=>?_⟩,honly,rfl,rfl,h4,Or.inl rfl,Or.inl rfl⟩;have hlt:=(h.oA.lt k hk2).2;exact h4.ne hlt (fun e=>h.ap k e hk2) hk1
 ·have oR:=zY h.oR h3 (fun k hk2 hh=>by
   rcases hh with e | e
   ·subst e;exact zT h.oR h.fb (by decide) hk2
   ·exact h.ap k hk2 e)
  refine ⟨{ V with a:=v' },⟨h2,oV,oC,oR,h1,oK,fun k hk1 hk2=>?_⟩,honly,rfl,rfl,Or.inl rfl,h4,Or.inl rfl⟩;have hlt:=(h.oR.lt k hk1).2;exact h4.ne hlt (fun e=>h.ap k hk1 e) hk2
theorem SPost.before {b:Nat} {C:SC} {S':SS} {V V1:SV} {w w1 w':World} (h:SPost b C S' V1 w1 w') (hm:SMoved b w w1 V V1):SPost b C S' V w w':=by
 obtain ⟨V',h1,h2⟩:=h;exact ⟨V',h1,hm.trans h2⟩
theorem zFI (b:Nat) (C:SC) (S:SS) (V:SV) (f:Nat × Nat) (w:World) (hS:SAt w b C S V) (hB:SBd C S) (hk:f.1=1∨f.1=2) (hf:f.2≤1048576) :
  Calls Tryz.prog 114 #[.pointer (some ⟨b,0,none⟩),zAv f] w fun e w'=>e=.returned (zAv (S.reduce C.q f).2)∧SPost b C (S.reduce C.q f).1 V w w':=by
 obtain ⟨fk,fs⟩:=f;obtain ⟨aV,cV,hVf⟩:=zN hS.oV;obtain ⟨aC,cC,hCf⟩:=zN hS.oC;have HR:Hid (S.reduce C.q (fk,fs)=(S.put fk (zBz C.q fk (S.proof fk) fs).1,(fk,(zBz C.q fk (S.proof fk) fs).2))):=zF rfl
 go_enter Tryz.func114,Tryz.ntmps114
 go_wp2_with fail;generalize hw0:((w.alloc (.cells #[.int .i64 (fk:Int),.int .i64 (fs:Int)] 129)).alloc (.cells #[.int .i64 0,.int .i64 0] 129))=u1;have hb0:Below w.heap.size w u1:=(by rw [← hw0];exact ((Below.refl _ _).alloc (Nat.le_refl _) _).alloc (by simp;try omega) _);have hfa:u1.heap[w.heap.size]?=some (.cells #[.int .i64 (fk:Int),.int .i64 (fs:Int)] 129 (0,0)):=(by rw [← hw0,heap_alloc_old _ _ (by simp;try omega)];exact zP (by simp));have nfa:Far b V (w.heap.size):=hS.fresh (by omega);have hrs:u1.heap[w.heap.size + 1]?=some (.cells #[.int .i64 0,.int .i64 0] 129 (0,0)):=(by rw [← hw0];exact zP (by simp));have nrs:Far b V (w.heap.size + 1):=hS.fresh (by omega);clear hw0;have hM:SMoved b w u1 V V:=SMoved.of_below hb0;replace hS:=hS.later hb0;have lb:=zB hS.fb;obtain ⟨cfa0,cfa1⟩:=zJ hfa;have lfa:=zB hfa;obtain ⟨crs0,crs1⟩:=zJ hrs;have lrs:=zB hrs;refine (zF3 b fk _ lb).mono ?_;rintro e w2 ⟨rfl,hw2⟩;subst hw2;have q0:w2.cell? ⟨b,0,none⟩=some (.slice aV C.q.vars.length cV):=(by rw [zC hS.fb];exact congrArg some hVf);have q1:w2.cell? ⟨b,1,none⟩=some (.slice aC C.q.cl.length cC):=(by rw [zC hS.fb];exact congrArg some hCf);have hoV:w2.ownsRow 0 139 2 (.slice aV C.q.vars.length cV) C.q.vars.length (zd C.q.vars):=(by rw [← hVf];exact hS.oV);go_wp2_with fail;have hb9:Below w2.heap.size w2 w2.drew:=(Below.refl _ w2).drew
 go_region_with (go_at_call 133;refine (zLc b (zI8 fk) _ _ C.q _ (.slice aC C.q.cl.length cC) _ _ fk fs _ ((hS.later hb9).pat hk) (zO hoV hb9) ⟨_,_,_,rfl⟩ hB.qb (hB.proof fk).1 (hB.proof fk).2 hf).mono ?_;rintro e w3 ⟨rfl,hgo⟩;obtain ⟨V2,hS2,hM1⟩:=(hS.later hb9).put hk hgo;have hM2:=(SMoved.of_below hb9).trans hM1;clear hgo;have hrs2:=hM2.blk hrs nrs;have nrs2:=hM2.far lrs nrs;have hM3:=hM.trans hM2;have crs20:w3.cell? ⟨w.heap.size + 1,0,none⟩=some (.int .i64 0):=(by rw [zC hrs2];rfl);have crs21:w3.cell? ⟨w.heap.size + 1,1,none⟩=some (.int .i64 0):=(by rw [zC hrs2];rfl);have hfa2:=hM2.blk hfa nfa;have cfa20:w3.cell? ⟨w.heap.size,0,none⟩=some (.int .i64 (fk:Int)):=(by rw [zC hfa2];rfl);have l3:=zB hrs2;have l4:w.heap.size < w3.heap.size:=(by omega);have z0:=zD hrs2 0;have z1:=zD hrs2 1)
 all_goals
  generalize hrn:(zBz C.q fk (S.proof fk) fs).2=rn at *;have HF:Hid (S.reduce C.q (fk,fs)=(S.put fk (zBz C.q fk (S.proof fk) fs).1,(fk,rn))):=HR;have hR:=zI (zI hrs2 0 (.int .i64 (fk:Int))) 1 (.int .i64 (rn:Int));have j0:=zC hR 0;have j1:=zC hR 1;clear hrn HR;go_wp2_with fail;refine bodyPost_ret (v:=zAv (fk,rn)) (by simp [results,Tryz.results114,go_sem,j0,j1]) rfl ⟨by rw [zA HF],?_⟩;rw [zA HF];exact ⟨V2,(hS2.set nrs2 0 _).set nrs2 1 _,(hM3.set (Nat.le_succ _) 0 _).set (Nat.le_succ _) 1 _⟩
section
variable {P:Program}
theorem zGl {w:World} {base:Nat} {e:TypeId} {size:Nat} {v:Value} {n:Nat} {xs:List Value} (h:w.ownsRow base e size v n xs):RowAt w e size v n xs:=by
 obtain ⟨h1,h2⟩:=h;refine ⟨h1,?_⟩
 rcases h2 with ⟨rfl,rfl⟩ | ⟨g,cap,cur,rfl,_,hg,hc,hm,hs,ht⟩
 ·exact Or.inl ⟨rfl,none,rfl,fun k hk=>by cases hk⟩
 ·refine Or.inr ⟨g,0,cap,cur,rfl,hg,hc,hm,by omega,fun j u hj=>?_⟩;rw [← ht,List.getElem?_take] at hj
  split at hj
  ·simpa using hj
  ·cases hj
theorem zHw (w:World) (t ty e:TypeId) (i:TypeInfo) (z:Value) (bytes:Nat) (ht:P.underlying t=some (.slice e)) (hi:P.info? e=some i) (hz:i.zero=some z) (hsize:i.size=2) (hby:i.bytes=bytes) (hzs:z.cells.size=2)
  (v:Value) (n:Nat) (xs:List Value) (h:RowAt w e 2 v n xs) (a:Addr) (c:Nat) (x y:Value) (hx:w.cell? a=some x) (hy:w.cell? (a.add 1)=some y) (ox:x.oneCell'=true) (oy:y.oneCell'=true) (h63:n + 1≤1048576) (hbytes:bytes≤1024) :
  ∃ v' w',(Builtin.append_ #[t,t] ty #[v,.slice (some a) 1 c]).run P w=.ok v' w'∧RowAt w' e 2 v' (n + 1) (xs ++ [x,y])∧Only (fun k=>v.ownBlock=some k) w w'∧Moved w v v':=by
 have hl:[x,y].length=1 * 2:=rfl;have ha0:a.add 0=a:=(by unfold Addr.add;split<;>simp_all);have hnews:∀ j u,[x,y][j]?=some u→w.cell? (a.add j)=some u:=by
  intro j u hj
  match j,hj with
  | 0,hj=>simp at hj;subst hj;rw [ha0];exact hx
  | 1,hj=>simp at hj;subst hj;exact hy
  | j + 2,hj=>simp at hj
 have hb1:(n + 1) * bytes≤140737488355328:=by
  have:(n + 1) * bytes≤1048576 * 1024:=Nat.mul_le_mul h63 hbytes
  omega
 have hmax:n + 1≤maxLen:=(by unfold maxLen;omega);obtain ⟨hlen,hh⟩:=h;have grow:∀ (b:Addr) (cap:Nat),v=.slice (some b) n cap→cap < n + 1→(∀ j u,xs[j]?=some u→w.cell? (b.add j)=some u)→∃ v' w',(Builtin.append_ #[t,t] ty #[v,.slice (some a) 1 c]).run P w=.ok v' w'∧RowAt w' e 2 v' (n + 1) (xs ++ [x,y])∧Only (fun k=>v.ownBlock=some k) w w'∧Moved w v v':=by
  intro b cap hv hcap holds;subst hv;obtain ⟨v',w',h1,h2,h3⟩:=run_append_arg_grows (P:=P) w t ty e i z 2 bytes ht hi hz hsize hby hzs (by decide) b n cap xs hlen holds a 1 c [x,y] hl hnews hcap hmax hb1;refine ⟨v',w',h1,zGl h2,⟨h3.os,h3.tape,h3.output,h3.size,fun k hk _=>h3.block k hk (by simp)⟩,?_⟩
  rcases h2.2 with ⟨_,h0⟩ | ⟨g,cap',cur,rfl,hg,_⟩
  ·omega
  ·exact Or.inr ⟨g,rfl,hg⟩
 rcases hh with ⟨hn0,a0,hv,hbk⟩ | ⟨g,off,cap,cur,hv,hg,hnc,hcm,hcs,hcells⟩
 ·subst hn0;have hxs:xs=[]:=List.eq_nil_of_length_eq_zero (by simpa using hlen)
  cases a0 with
  | none=>
   subst hv hxs;obtain ⟨v',w',h1,h2,h3,h4⟩:=zFt (P:=P) w w.heap.size t ty e i z 2 bytes ht hi hz hsize hby hzs (by decide) (.slice none 0 0) 0 [] (World.ownsRow_nil _ _ _ _) a 1 c [x,y] hl hnews (by simp [ox,oy]) (by decide) hmax hb1 (Nat.le_refl _);refine ⟨v',w',h1,zGl h2,⟨h3.os,h3.tape,h3.output,h3.size,fun k hk _=>h3.block k hk (fun e=>by cases e)⟩,h4⟩
  | some b=>exact grow b 0 hv (by omega) (fun j u hj=>by rw [hxs] at hj;simp at hj)
 ·by_cases hroom:n + 1≤cap
  ·subst hv;have hsz:off + n * 2 + 1 < cur.size:=(by omega);have hr:=run_append_room_cells (P:=P) w t ty e i ht hi g off n cap a 1 c [x,y] (by rw [hsize];rfl) hnews (by simp [ox,oy]) hroom (by
    intro j hj;rw [hsize,zC hg]
    have:off + n * 2 + j < cur.size:=by simp at hj;omega
    simp [this]) (by intro j hj;exact zD hg _)
   rw [hsize] at hr;have hset:w.setCells g (off + n * 2) [x,y]=(w.setCell ⟨g,off + n * 2,none⟩ x).setCell ⟨g,off + n * 2 + 1,none⟩ y:=rfl;rw [hset] at hr;have hg2:=zI (zI hg (off + n * 2) x) (off + n * 2 + 1) y;refine ⟨_,_,hr,⟨by simp [hlen];omega,Or.inr ⟨g,off,cap,_,rfl,hg2,hroom,hcm,by simpa using hcs,?_⟩⟩,((Only.refl (fun k=>(Value.slice (some ⟨g,off,none⟩) n cap).ownBlock=some k) w).setCell (p:=⟨g,off + n * 2,none⟩) (Or.inl rfl) x).setCell (p:=⟨g,off + n * 2 + 1,none⟩) (Or.inl rfl) y,Or.inl rfl⟩;intro j u hj;rw [Array.getElem?_setIfInBounds,Array.getElem?_setIfInBounds]
   rcases Nat.lt_or_ge j (n * 2) with h1 | h1
   ·rw [List.getElem?_append_left (by omega)] at hj;rw [if_neg (by omega),if_neg (by omega)];exact hcells j u hj
   ·rw [List.getElem?_append_right (by omega),hlen] at hj
    have:j - n * 2=0∨j - n * 2=1:=by
     rcases Nat.lt_or_ge (j - n * 2) 2 with h2 | h2
     ·omega
     ·rw [List.getElem?_eq_none (by simpa using h2)] at hj;cases hj
    rcases this with h2 | h2
    ·rw [h2] at hj;simp at hj;subst hj;have e1:j=n * 2:=(by omega);subst e1;rw [if_neg (by omega),if_pos rfl,if_pos (by omega)]
    ·rw [h2] at hj;simp at hj;subst hj;have e1:j=n * 2 + 1:=(by omega);subst e1;rw [if_pos (by omega),if_pos (by simp;omega)]
  ·exact grow ⟨g,off,none⟩ cap hv (by omega) (fun j u hj=>by
    have hadd:(⟨g,off,none⟩:Addr).add j=⟨g,off + j,none⟩:=(by unfold Addr.add;split<;>simp_all);rw [hadd,zC hg];exact hcells j u hj)
theorem zDQ {ops:Array Oper} {o:Oper} {a:Act} {w:World} {K:Act→World→Prop} {Q:Exit→Act→World→Prop} {E:Prop}
  (hg:o.guard=none) (s x:Operand) (t:TypeId) (hop:o.op=Op.call { callee:=Callee.builtin Builtin.append,args:=#[s,x],argTypes:=#[t,t] })
  (e:TypeId) (i:TypeInfo) (z:Value) (bytes:Nat) (ht:P.underlying t=some (.slice e)) (hi:P.info? e=some i) (hz:i.zero=some z) (hsize:i.size=2) (hby:i.bytes=bytes) (hzs:z.cells.size=2)
  (v:Value) (n:Nat) (xs:List Value) (hrow:RowAt w e 2 v n xs) (hs:a.eval s=v) (ad:Addr) (c:Nat) (p q:Value) (hx:a.eval x=.slice (some ad) 1 c) (hp:w.cell? ad=some p) (hq:w.cell? (ad.add 1)=some q) (op:p.oneCell'=true) (oq:q.oneCell'=true) (h63:n + 1≤1048576) (hbytes:bytes≤1024)
  (hK:∀ v' w',RowAt w' e 2 v' (n + 1) (xs ++ [p,q])→Only (fun k=>v.ownBlock=some k) w w'→Moved w v v'→K (a.put o.dst v') w') :
  if Region.wanted o (yielded ops a.tmps)=true then Oper.wp P o a w K Q else E:=by
 have hw:Region.wanted o (yielded ops a.tmps)=true:=(by simp [Region.wanted,hg]);rw [if_pos hw];obtain ⟨v',w',hr,h2,h3,h4⟩:=zHw (P:=P) w t o.type e i z bytes ht hi hz hsize hby hzs v n xs hrow ad c p q hp hq op oq h63 hbytes;unfold Oper.wp execOp;simp only [hop,resolve,invoke,builtin,Sem.run_bind,Sem.run_pure,Result.andThen_ok,List.map_toArray,List.map_cons,List.map_nil,hs,hx,hr];exact hK v' w' h2 h3 h4
end
theorem RowAt.tail {w:World} {e:TypeId} {g off cap m:Nat} {l:List (Nat × Nat)} (h:RowAt w e 2 (.slice (some ⟨g,off,none⟩) l.length cap) l.length (zAK l)) (hm:l.length=m + 1) (v:Value) (hv:(cap=1∧v=.slice (some ⟨g,off,none⟩) m 0)∨v=.slice (some ⟨g,off + 2,none⟩) m (cap - 1)):RowAt w e 2 v (l.drop 1).length (zAK (l.drop 1)):=by
 have hlen:(l.drop 1).length=m:=(by simp;omega);have hpl:(zAK (l.drop 1)).length=(l.drop 1).length * 2:=zKM _;obtain ⟨h1,h2⟩:=h
 rcases h2 with ⟨h0,_⟩ | ⟨g',off',cap',cur,he,hg,hc,hcm,hcs,hcells⟩
 ·omega
 injection he with he _ e3;injection he with he;injection he with e1 e2 _;subst e1 e2 e3;refine ⟨hpl,?_⟩;rw [hlen]
 rcases hv with ⟨hc1,rfl⟩ | rfl
 ·left
  have hm0:m=0:=(by omega);subst hm0;exact ⟨rfl,_,rfl,fun k hk=>by injection hk with hk;subst hk;exact ⟨cur,hg⟩⟩
 ·right
  refine ⟨g,off + 2,cap - 1,cur,rfl,hg,by omega,by omega,by omega,fun j u hj=>?_⟩
  have:=hcells (j + 2) u (by
   cases l with
   | nil=>simp at hm
   | cons x l=>simp only [zAK,List.flatMap_cons] at hj ⊢;simpa using hj)
  rw [← this];congr 1;omega
end Go.Proofs.YtgipjjhkhfihpaaGreatDoor
