import Derived.Test.YtgipjjhkhfihpaaGreatDoorAL
import Derived.Deep.DeepCutAuto
import Derived.Deep.RegionWith
import Derived.Deep.QuietTactic
import Derived.BigQuiet
import Derived.Test.YtgipjjhkhfihpaaGreatDoorAC
import Derived.Test.YtgipjjhkhfihpaaGreatDoorAI
import Derived.BigRegion
set_option maxRecDepth 100000
set_option maxHeartbeats 6400000
namespace Go.Proofs.YtgipjjhkhfihpaaGreatDoor
open Go.RowKit
theorem zP6 {bw i:Nat} {D:DW} {G:GG} {w w5:World} (hD:DInv bw w D) (hi:i < D.gs.length) (hGe:D.gs[i]=G) (b:Nat) (bs':List Bool) (v':Value) (hpure:GPure (G.moved b bs' v'))
  (ho:Only (fun k=>k=G.db∨k=G.vb∨k=G.gb∨G.vM.ownBlock=some k) w w5)
  (hfb:w5.heap[G.gb]?=some (.cells #[.pointer (some ⟨G.db,0,none⟩),.pointer (some ⟨G.b1,0,none⟩),.pointer (some ⟨G.b2,0,none⟩),S G.proof,.int .i64 (G.kind:Int),v',.int .i64 ((zAh G.rs G.bl G.g b).turn:Int),.slice (some ⟨G.vb,0,none⟩) 8 8] 87 (0,0)))
  (hdb:w5.heap[G.db]?=some (.cells #[G.gv.vB,G.gv.vR,.int .i64 ((zAh G.rs G.bl G.g b).turn:Int),.int .i64 ((zAh G.rs G.bl G.g b).vals.1:Int),.int .i64 ((zAh G.rs G.bl G.g b).vals.2:Int)] 79 (0,0)))
  (hoM:w5.ownsRow 0 3 1 v' (G.mv.length + 1) (zu G.mv ++ [.int .i64 (b:Int)]))
  (hval:w5.heap[G.vb]?=some (.cells (zC1 (zED ((zG (zK G.q0).vars).getD G.g.turn []) b G.val ((zG (zK G.q0).vars).getD G.g.turn []).length)).toArray 3 (0,0)))
  (hmv:v'.ownBlock=G.vM.ownBlock∨∃ k,v'.ownBlock=some k∧w.heap.size≤k):DInv bw w5 { D with gs:=D.gs.set i (G.moved b bs' v') }:=by
 have hG:=hD.games _ (List.getElem_mem hi);have hz:=hD.gz _ (List.getElem_mem hi);rw [hGe] at hG hz;have hbw:=zB hD.wat;have hmut:∀ k,(k=G.db∨k=G.vb∨k=G.gb∨G.vM.ownBlock=some k)→G.mut k:=fun k h=>by
  rcases h with h | h | h | h
  ·exact Or.inr (Or.inl h)
  ·exact Or.inr (Or.inr (Or.inl h))
  ·exact Or.inl h
  ·exact Or.inr (Or.inr (Or.inr h))
 have hZ:∀ k,D.Z k→¬ (k=G.db∨k=G.vb∨k=G.gb∨G.vM.ownBlock=some k):=fun k hk h=>(hz k (hmut k h)).2 hk
 have hw5:WAt w5 bw D.text D.px D.pf D.proof D.v4 D.v5 D.v6:=(ho.block bw hbw (fun h=>by have:=(hz _ (hmut _ h)).1;omega)).trans hD.wat;have h5:=zY hD.o5 ho (fun k hk h=>by
  obtain ⟨c,hc⟩:=zr hD.o5 k hk;exact zEt hG hc (by decide) (by decide) (by decide) (hmut k h))
 refine hD.upd i hi (G.moved b bs' v') D.v5 D.h5s D.Z _ ho (fun k _ h=>Or.inl (by rw [hGe];exact hmut k h)) hw5 h5 (fun k hk=>hk) (fun k hk=>Or.inl hk) (hD.ls.step ho hZ) hD.n5 (by rw [hGe];rfl) ?_ ?_
 ·refine ⟨hfb,hdb,hG.firm.step ho hZ,?_,hval,?_,hpure⟩
  ·show w5.ownsRow 0 3 1 v' (G.mv ++ [b]).length (zu (G.mv ++ [b]));rw [List.length_append,show zu (G.mv ++ [b])=zu G.mv ++ [.int .i64 (b:Int)] from by simp [zu]];exact hoM
  ·show v'.ownBlock≠some G.vb
   rcases hmv with h | ⟨k,h,hk⟩
   ·rw [h];exact hG.mvb
   ·rw [h];intro e;injection e with e;have:=zB hG.val;omega
 ·intro k hk;rw [hGe];have hk':k=G.gb∨k=G.db∨k=G.vb∨v'.ownBlock=some k:=hk
  rcases hk' with h | h | h | h
  ·exact ⟨Or.inl (Or.inl h),(hz k (Or.inl h)).2⟩
  ·exact ⟨Or.inl (Or.inr (Or.inl h)),(hz k (Or.inr (Or.inl h))).2⟩
  ·exact ⟨Or.inl (Or.inr (Or.inr (Or.inl h))),(hz k (Or.inr (Or.inr (Or.inl h)))).2⟩
  ·rcases hmv with e | ⟨j,e,hj⟩
   ·rw [e] at h;exact ⟨Or.inl (Or.inr (Or.inr (Or.inr h))),(hz k (Or.inr (Or.inr (Or.inr h)))).2⟩
   ·rw [e] at h;injection h with h;subst h;exact ⟨Or.inr hj,fun hk=>by have:=(hD.zin _ hk).2;omega⟩
theorem zMj {bw i:Nat} {D:DW} {G:GG} {w w1 wr w':World} (hD:DInv bw w D) (hi:i < D.gs.length) (hGe:D.gs[i]=G) (b:Nat) (v':Value) (hG1:GameAt w1 G.db 79 G.bl G.rs (zAh G.rs G.bl G.g b) G.gv) (ho1:Only (·=G.db) w w1) (ho3:Only (·=G.vb) w1 wr)
  (hval:wr.heap[G.vb]?=some (.cells (zC1 (zED ((zG (zK G.q0).vars).getD G.g.turn []) b G.val ((zG (zK G.q0).vars).getD G.g.turn []).length)).toArray 3 (0,0)))
  (hown':w'.ownsRow 0 3 1 v' (G.mv.length + 1) (zu G.mv ++ [.int .i64 (b:Int)])) (hgrow:wr.grownBy w' G.vM.ownBlock) (hmv:v'.ownBlock=G.vM.ownBlock∨∃ k,v'.ownBlock=some k∧wr.heap.size≤k) :
  (w'.setCell ⟨G.gb,5,none⟩ v').heap[G.gb]?=some (.cells #[.pointer (some ⟨G.db,0,none⟩),.pointer (some ⟨G.b1,0,none⟩),.pointer (some ⟨G.b2,0,none⟩),S G.proof,.int .i64 (G.kind:Int),v',.int .i64 (G.g.turn:Int),.slice (some ⟨G.vb,0,none⟩) 8 8] 87 (0,0))∧
  RefAt 0 (w'.setCell ⟨G.gb,5,none⟩ v') G.b2 (zW G.st)∧
  ∀ w7 bs',Below (w'.setCell ⟨G.gb,5,none⟩ v').heap.size (w'.setCell ⟨G.gb,5,none⟩ v') w7→GPure (G.moved b bs' v')→DInv bw (w7.setCell ⟨G.gb,6,none⟩ (.int .i64 ((zAh G.rs G.bl G.g b).turn:Int))) { D with gs:=D.gs.set i (G.moved b bs' v') }∧Below bw w (w7.setCell ⟨G.gb,6,none⟩ (.int .i64 ((zAh G.rs G.bl G.g b).turn:Int))):=by
 have hG:=hD.games _ (List.getElem_mem hi);have hz:=hD.gz _ (List.getElem_mem hi);rw [hGe] at hG hz;obtain ⟨hgd,hgv,hdv,hM1,hM2⟩:=hG.apart;have hbw:=zB hD.wat;have hs1:=ho1.size;have hs3:=ho3.size;have lg:=zB hG.fb;have lv:=zB hG.val;have ld:=zB hG.db;have hfb1:=(ho1.block _ lg hgd).trans hG.fb;have hfb3:=(ho3.block _ (zB hfb1) hgv).trans hfb1;have hdb3:=(ho3.block _ (zB hG1.fb) hdv).trans hG1.fb;have hkeep:∀ k o,k < wr.heap.size→G.vM.ownBlock≠some k→wr.heap[k]?=some o→w'.heap[k]?=some o:=fun k o hk hne ho=>(hgrow.block k hk (fun e=>hne e.symm)).trans ho
 have hfb':=hkeep _ _ (zB hfb3) hM1 hfb3;have hdb':=hkeep _ _ (zB hdb3) hM2 hdb3;have hval':=hkeep _ _ (zB hval) hG.mvb hval;have hfb6:(w'.setCell ⟨G.gb,5,none⟩ v').heap[G.gb]?=some (.cells #[.pointer (some ⟨G.db,0,none⟩),.pointer (some ⟨G.b1,0,none⟩),.pointer (some ⟨G.b2,0,none⟩),S G.proof,.int .i64 (G.kind:Int),v',.int .i64 (G.g.turn:Int),.slice (some ⟨G.vb,0,none⟩) 8 8] 87 (0,0)):=zI hfb' 5 v';have hO:Only (fun k=>k=G.db∨k=G.vb∨k=G.gb∨G.vM.ownBlock=some k) w (w'.setCell ⟨G.gb,5,none⟩ v'):=by
  have h1:Only (fun k=>k=G.db∨k=G.vb∨k=G.gb∨G.vM.ownBlock=some k) w w1:=ho1.mono (fun k _ h=>Or.inl h);have h2:Only (fun k=>k=G.db∨k=G.vb∨k=G.gb∨G.vM.ownBlock=some k) w1 wr:=ho3.mono (fun k _ h=>Or.inr (Or.inl h));have h4:=(h1.trans h2).grown hgrow (fun k hk=>Or.inl (Or.inr (Or.inr (Or.inr hk))));exact h4.setCell (p:=⟨G.gb,5,none⟩) (Or.inl (Or.inr (Or.inr (Or.inl rfl)))) v'
 have hmut:∀ k,(k=G.db∨k=G.vb∨k=G.gb∨G.vM.ownBlock=some k)→G.mut k:=fun k h=>by
  rcases h with h | h | h | h
  ·exact Or.inr (Or.inl h)
  ·exact Or.inr (Or.inr (Or.inl h))
  ·exact Or.inl h
  ·exact Or.inr (Or.inr (Or.inr h))
 have hZ:∀ k,D.Z k→¬ (k=G.db∨k=G.vb∨k=G.gb∨G.vM.ownBlock=some k):=fun k hk h=>(hz k (hmut k h)).2 hk
 refine ⟨hfb6,(hG.firm _ _ hO hZ).2.1,fun w7 bs' hb7 hpure=>?_⟩;have hO7:=(hO.trans (Only.of_below hb7)).setCell (p:=⟨G.gb,6,none⟩) (Or.inl (Or.inr (Or.inr (Or.inl rfl)))) (.int .i64 ((zAh G.rs G.bl G.g b).turn:Int));have hfb7:=zH hb7 hfb6;have hset:∀ k o,k≠G.gb→w'.heap[k]?=some o→(w7.setCell ⟨G.gb,6,none⟩ (.int .i64 ((zAh G.rs G.bl G.g b).turn:Int))).heap[k]?=some o:=fun k o hne ho=>by
  have h1:(w'.setCell ⟨G.gb,5,none⟩ v').heap[k]?=some o:=(Below.heap_setCell _ _ _ _ hne).trans ho;exact (Below.heap_setCell _ _ _ _ hne).trans (zH hb7 h1)
 have hvgb:v'.ownBlock≠some G.gb:=fun e=>by
  obtain ⟨c,hc⟩:=zr hown' _ e;exact absurd (zc hc hfb') (by decide)
 have hoM7:=zR (zO (zR hown' (p:=⟨G.gb,5,none⟩) hvgb v') hb7) (p:=⟨G.gb,6,none⟩) hvgb (.int .i64 ((zAh G.rs G.bl G.g b).turn:Int));refine ⟨zP6 hD hi hGe b bs' v' hpure hO7 (zI hfb7 6 _) (hset _ _ (fun e=>hgd e.symm) hdb') hoM7 (hset _ _ (fun e=>hgv e.symm) hval') ?_,hO7.below (Nat.le_of_lt hbw) (fun k hk h=>by have:=(hz k (hmut k h)).1;omega)⟩
 rcases hmv with h | ⟨k,h1,h2⟩
 ·exact Or.inl h
 ·exact Or.inr ⟨k,h1,by omega⟩
theorem zPW (l:List Int) (u:Nat) (x y:Int):((zC1 l).toArray.setIfInBounds u (.int .i64 x)).setIfInBounds u (.int .i64 y)=(zC1 (l.set u y)).toArray:=by
 rw [zHE]
 apply Array.ext'
 simp
theorem zRz:(Tryz.prog.info? 3).map (fun i=>(i.zero,i.size,i.bytes))=some (some (.int .i64 0),1,8):=by kernel_rfl
theorem zRS (bw i:Nat) (D:DW) (G:GG) (b:Nat) (ask:Bool) (w:World) (hD:DInv bw w D) (hi:i < D.gs.length) (hGe:D.gs[i]=G) (hn5:D.h5s.length≤1073741824) (ht:G.g.turn < (zG (zK G.q0).vars).length) (hb:(b:Int) < (2:Int) ^ (zG (zK G.q0).vars)[G.g.turn].length) :
  Calls Tryz.prog 30 #[.pointer (some ⟨bw,0,none⟩),.pointer (some ⟨G.gb,0,none⟩),.int .i64 (b:Int),.bool ask] w fun e w'=>StepD bw D 0 w e w':=by
 have hG:=hD.games _ (List.getElem_mem hi);have hz:=hD.gz _ (List.getElem_mem hi);rw [hGe] at hG hz;have hPr:=hG.pure.pair;have hQg:=hPr.qg;have hrun:Run (zK G.q0) G.kind G.rs G.g G.bs:=hG.pure.run;have hkd:=zDO hG.pure.read;have hbl:G.g.turn≤G.bl.length:=by show _≤(blW G.q G.kind).length;rw [zBB];exact hrun.turn
 have hbw:=zB hD.wat;have lg:=zB hG.fb;obtain ⟨hgd,hgv,hdv,hM1,hM2⟩:=hG.apart;have hrl:=zEg _ (zCp hPr.nice) _ (List.getElem_mem ht);have hn8:=zDR (zK G.q0).vars (zCp hPr.nice);have hml:=hG.pure.mlen;have hgd2:(zG (zK G.q0).vars).getD G.g.turn []=(zG (zK G.q0).vars)[G.g.turn]:=(by simp [List.getD,ht]);have hb8:(b:Int) < 256:=Int.lt_of_lt_of_le hb (zH6 _ hrl);have HBI:=zF hb;clear hb;have hb9:b < 512:=(by omega);have HBN:Hid (b < 2 ^ ((zG G.q.vars).getD G.g.turn []).length):=zF (by
  rw [show (zG G.q.vars).getD G.g.turn []=(zG (zK G.q0).vars)[G.g.turn] from hgd2];have h:=zA HBI;refine Int.ofNat_lt.1 ?_;rw [Int.natCast_pow];exact h)
 have hbi:zE8 (b:Int):=⟨by omega,by omega⟩;have HPU:Hid (∀ v',∃ bs',GPure (G.moved b bs' v')∧zFw G.q G.kind (G.g.turn + 1)=(zAh G.rs G.bl G.g b).turn):=zF (fun v'=>zNh hG.pure ht b (zA HBN) v');have hE:zBv G.bl G.g (b:Int)=0:=(by rw [zL3 ht,if_neg (fun h=>h.elim (fun h=>by omega) (fun h=>Int.not_le.2 (zA HBI) h))]);have HMG:Hid (zC2 G.rs G.bl G.g (b:Int)=zAh G.rs G.bl G.g b):=zF (by unfold zC2;rw [hE,if_pos rfl,Int.toNat_natCast]);have HE:=zF hE;have hq:((G.g.turn:Int) == ((zG (zK G.q0).vars).length:Int))=false:=(by rw [beq_eq_false_iff_ne];omega);have hne2:=(zB6 (zK G.q0).vars _ (List.getElem_mem ht)).1;have hr8:∀ v∈(zG (zK G.q0).vars)[G.g.turn],1≤v∧v≤8:=fun v hv=>((zE0 hPr.qb 1).row ((zG (zK G.q0).vars)[G.g.turn],_) (List.mem_map.2 ⟨_,List.getElem_mem ht,rfl⟩)).2 v hv
 have g0:w.cell? ⟨G.gb,0,none⟩=some (.pointer (some ⟨G.db,0,none⟩)):=zE hG.fb rfl;clear hE HBN
 go_enter Tryz.func30,Tryz.ntmps30
 go_wp2_with fail;refine (zFg G.db _ G.bl G.rs G.g G.gv (b:Int) w hG.game (zIA hG.pure.sbs _) (zE0 hPr.qb _) hrun.lt hbl hbi).mono ?_;rintro e w1 ⟨rfl,hG1,ho1⟩;rw [zA HMG] at hG1;rw [zA HE,show ((0:Nat):Int)=0 from rfl];have hZ1:∀ k,D.Z k→¬ k=G.db:=fun k hk e=>(hz k (Or.inr (Or.inl e))).2 hk
 have hfirm1:=hG.firm.step ho1 hZ1;have hfb1:=(ho1.block _ lg hgd).trans hG.fb;have hval1:=(ho1.block _ (zB hG.val) (fun e=>hdv e.symm)).trans hG.val;have hoM1:=zY hG.oM ho1 (fun k hk e=>hM2 (by rw [hk,e]));have hdb1:=hG1.fb;have q2:w1.cell? ⟨G.gb,2,none⟩=some (.pointer (some ⟨G.b2,0,none⟩)):=zE hfb1 rfl;have q6:w1.cell? ⟨G.gb,6,none⟩=some (.int .i64 (G.g.turn:Int)):=zE hfb1 rfl;have lg1:=zB hfb1;have hF1:=hfirm1.now.2.1;obtain ⟨aE,cE,hE,lb⟩:=zFH hF1;rw [hPr.ends] at hE;have hsz1:=ho1.size;go_wp2_with fail;have hdr:Below w1.heap.size w1 w1.drew:=(Below.refl _ w1).drew;have hfirm2:=hfirm1.step (T:=fun _=>False) (Only.of_below hdr) (fun _ _ h=>h);have hvald:=zH hdr hval1;have HOA:Hid (∀ vX,zKN w1.drew G.b2 vX→∀ ad n c,vX=.slice (some ad) n c→ad.block≠G.vb):=zF (fun vX hIO ad n c e=>by
  obtain ⟨gO,n0,c0,h0,h1⟩:=hIO;rw [h1 ad n c e];exact zHj (Z:=D.Z) (fun T w' ho hT=>(hfirm2 T w' ho hT).2.1) (hz _ (Or.inr (Or.inr (Or.inl rfl)))).2 hvald h0 (by rw [zDv hPr.same];have:=zFi G.g.turn 0 ht (List.length_pos_iff.2 hne2);simp;omega))
 go_cut [12] (fun s12 wx=>zHF wx s12 (zG (zK G.q0).vars)[G.g.turn]∧Below w1.heap.size w1 wx∧∀ ad n c,s12=.slice (some ad) n c→ad.block≠G.vb)
 case first=>
  go_region_with (go_at_call 38;refine (zEm hPr (hF1.later hdr) ht).mono ?_;rintro e w2 ⟨vX,rfl,hI,hb2',hIO⟩;have hb2:Below w1.heap.size w1 w2:=hdr.trans hb2';have hoa:=zA HOA vX hIO)
  all_goals
   go_wp2_with fail
   go_meet
   exact ⟨hI,hb2,hoa⟩
 case rest=>
 obtain ⟨hI,hb2,hgO⟩:=hcut;obtain ⟨w2,rfl⟩:∃ x,x=wc:=⟨_,rfl⟩;have HGD:Hid ((zG (zK G.q0).vars).getD G.g.turn []=(zG (zK G.q0).vars)[G.g.turn]):=zF hgd2;clear hgd2 q2 q6 hE hfirm2 hvald hdr HOA;generalize (zG (zK G.q0).vars)[G.g.turn]=row at *;obtain ⟨ao,cap,rfl,hcI⟩:=hI;obtain ⟨gX,off,rfl,_⟩:=hcI 0 (List.length_pos_iff.2 hne2);have hgX:gX≠G.vb:=hgO _ _ _ rfl;have hcI2:∀ i (hi:i < row.length),w2.cell? ⟨gX,off + i,none⟩=some (.int .i64 (row[i]:Int)):=fun i hi=>by
  obtain ⟨g',o',e1,e2⟩:=hcI i hi;injection e1 with e1;injection e1 with e1 e3;subst e1 e3;exact e2
 have ho2:Only (·=G.vb) w1 w2:=Only.of_below hb2;have hval2:=zH hb2 hval1;have hw64:wrap64 (2 ^ row.length)=(2:Int) ^ row.length:=zG3 row.length hrl;have hd3:decide ((b:Int) < 0)=false:=decide_eq_false (by omega);have hd4:decide ((2:Int) ^ row.length≤(b:Int))=false:=decide_eq_false (Int.not_le.2 (zA HBI));have HR8:=zF hr8;have HGe:=zF hGe;clear hcI hgO hr8 hGe;go_wp2_with fail;clear hw64 hd3 hd4
 go_loopg [14] (row.length) (fun m ii wx=>∃ (k:Nat),ii=.int .i64 k∧k + m=row.length∧wx.heap[G.vb]?=some (.cells (zC1 (zED row b G.val k)).toArray 3 (0,0))∧Only (·=G.vb) w1 wx∧∀ i (hi:i < row.length),wx.cell? ⟨gX,off + i,none⟩=some (.int .i64 (row[i]:Int)))
 case atStart=>exact ⟨0,rfl,by omega,hval2,ho2,hcI2⟩
 case round=>
  obtain ⟨k,rfl,hkm,hval3,ho3,hc3⟩:=hrel;have hfb3:=(ho3.block _ lg1 hgv).trans hfb1;have lg3:=zB hfb3;have lv3:=zB hval3
  by_cases hkl:k < row.length
  ·have hv18:=zA HR8 _ (List.getElem_mem hkl);have hri:=hc3 k hkl;have HMV:Hid (zED row b G.val (k + 1)=(zED row b G.val k).set (row[k] - 1) (zOP b k)):=zF (by rw [zED];simp [List.getD,hkl]);have hml8:(zED row b G.val k).length=8:=(by rw [zIh];exact hG.pure.vlen);generalize row[k]=v at hv18 hri HMV;obtain ⟨u,rfl⟩:∃ u,v=u + 1:=⟨v - 1,by omega⟩;have hu8:u < 8:=(by omega);have hri':wr.cell? ⟨gX,off + k,none⟩=some (.int .i64 ((u:Int) + 1)):=(by rw [hri];rfl);have HMV2:Hid (zED row b G.val (k + 1)=(zED row b G.val k).set u (zOP b k)):=HMV;have d7:wr.cell? ⟨G.gb,7,none⟩=some (.slice (some ⟨G.vb,0,none⟩) 8 8):=zE hfb3 rfl;have hvu:∃ x,wr.cell? ⟨G.vb,u,none⟩=some x:=by
    rw [zC hval3];exact ⟨_,Array.getElem?_eq_getElem (by simp [zC1];omega)⟩
   obtain ⟨x0,hvu⟩:=hvu;have lX:=zAm hri';have z0:=zD hval3 u;have HC3:=zF hc3;have hsb:=zCx b k hb9 (by omega);clear hri hc3 hcI2 HMV;have HBV:Hid (∀ t,b.testBit k=t→zOP b k=if t then 1 else -1):=zF (fun t h=>by unfold zOP;rw [h]);go_wp2_with fail
   go_region
   have hval4:(wr.setCell ⟨G.vb,u,none⟩ (.int .i64 (-1))).drew.heap[G.vb]?=_:=zI hval3 u (.int .i64 (-1));have ho4:Only (·=G.vb) w1 (wr.setCell ⟨G.vb,u,none⟩ (.int .i64 (-1))).drew:=(ho3.setAt u _).drew;have HC4:Hid (∀ i (hi:i < row.length),(wr.setCell ⟨G.vb,u,none⟩ (.int .i64 (-1))).drew.cell? ⟨gX,off + i,none⟩=some (.int .i64 (row[i]:Int))):=zF (fun i hi=>by
    have h:=zA HC3 i hi;have hb:=Below.heap_setCell wr ⟨G.vb,u,none⟩ (.int .i64 (-1)) gX hgX;show (wr.setCell ⟨G.vb,u,none⟩ (.int .i64 (-1))).cell? ⟨gX,off + i,none⟩=_;rw [zCj hb];exact h)
   have r4:(wr.setCell ⟨G.vb,u,none⟩ (.int .i64 (-1))).drew.cell? ⟨gX,off + k,none⟩=some (.int .i64 ((u:Int) + 1)):=by
    have hb:=Below.heap_setCell wr ⟨G.vb,u,none⟩ (.int .i64 (-1)) gX hgX;show (wr.setCell ⟨G.vb,u,none⟩ (.int .i64 (-1))).cell? ⟨gX,off + k,none⟩=_;rw [zCj hb];exact hri'
   clear hval3 ho3 hri' d7 hvu HC3 z0 lX lv3 lg3 hfb3;generalize (wr.setCell ⟨G.vb,u,none⟩ (.int .i64 (-1))).drew=w4 at *;have hfb4:=(ho4.block _ lg1 hgv).trans hfb1;have d7:w4.cell? ⟨G.gb,7,none⟩=some (.slice (some ⟨G.vb,0,none⟩) 8 8):=zE hfb4 rfl;have lg4:=zB hfb4;have lv4:=zB hval4;have lX:=zAm r4;have z4:=zD hval4 u;have hvu:w4.cell? ⟨G.vb,u,none⟩=some (.int .i64 (-1)):=by
    rw [zC hval4];rw [Array.getElem?_setIfInBounds_self_of_lt (by simp [zC1];omega)]
   cases htb:b.testBit k with
   | true=>
    rw [htb] at hsb;have HV5:Hid ((w4.setCell ⟨G.vb,u,none⟩ (.int .i64 1)).drew.heap[G.vb]?=some (.cells (zC1 (zED row b G.val (k + 1))).toArray 3 (0,0))):=zF (by
     show (w4.setCell ⟨G.vb,u,none⟩ (.int .i64 1)).heap[G.vb]?=_;rw [zA HMV2,zA HBV true htb,if_pos rfl,← zPW _ u (-1) 1];exact zI hval4 u (.int .i64 1))
    have HO5:Hid (Only (·=G.vb) w1 (w4.setCell ⟨G.vb,u,none⟩ (.int .i64 1)).drew):=zF ((ho4.setAt u _).drew);have HC5:Hid (∀ i (hi:i < row.length),(w4.setCell ⟨G.vb,u,none⟩ (.int .i64 1)).drew.cell? ⟨gX,off + i,none⟩=some (.int .i64 (row[i]:Int))):=zF (fun i hi=>by
     have h:=zA HC4 i hi;have hb:=Below.heap_setCell w4 ⟨G.vb,u,none⟩ (.int .i64 1) gX hgX;show (w4.setCell ⟨G.vb,u,none⟩ (.int .i64 1)).cell? ⟨gX,off + i,none⟩=_;rw [zCj hb];exact h)
    clear htb hval4;go_wp2_with fail
    go_region
    go_wp2_with fail
    go_roundg (gk - 1)
    case measure=>omega
    case rel=>exact ⟨k + 1,by go_num,by omega,zA HV5,zA HO5,zA HC5⟩
   | false=>
    rw [htb] at hsb;have HV5:Hid (w4.heap[G.vb]?=some (.cells (zC1 (zED row b G.val (k + 1))).toArray 3 (0,0))):=zF (by
     rw [zA HMV2,zA HBV false htb,if_neg (by decide),zHE];exact hval4)
    clear htb hval4;go_wp2_with fail
    go_roundg (gk - 1)
    case measure=>omega
    case rel=>exact ⟨k + 1,by go_num,by omega,zA HV5,ho4,zA HC4⟩
  ·have hke:k=row.length:=(by omega);subst hke;have hdk:decide ((row.length:Int) < (row.length:Int))=false:=(by simp);obtain ⟨i1,hi1,hz10,hz11,hz12⟩:=info_parts zRz;obtain ⟨aM,cM,hMf⟩:=zN hG.oM;have hoM3:=zY hoM1 ho3 (fun j hj e=>hG.mvb (by rw [hj,e]));rw [hMf] at hoM3;have c5:wr.cell? ⟨G.gb,5,none⟩=some (.slice aM G.mv.length cM):=(by rw [zC hfb3];exact congrArg some hMf);have c6:wr.cell? ⟨G.gb,6,none⟩=some (.int .i64 (G.g.turn:Int)):=zE hfb3 rfl;have HTL:Hid (∀ w' v',w'.ownsRow 0 3 1 v' (G.mv.length + 1) (zu G.mv ++ [.int .i64 (b:Int)])→wr.grownBy w' (Value.slice aM G.mv.length cM).ownBlock→(v'.ownBlock=(Value.slice aM G.mv.length cM).ownBlock∨∃ k,v'.ownBlock=some k∧wr.heap.size≤k)→
     (w'.setCell ⟨G.gb,5,none⟩ v').heap[G.gb]?=some (.cells #[.pointer (some ⟨G.db,0,none⟩),.pointer (some ⟨G.b1,0,none⟩),.pointer (some ⟨G.b2,0,none⟩),S G.proof,.int .i64 (G.kind:Int),v',.int .i64 (G.g.turn:Int),.slice (some ⟨G.vb,0,none⟩) 8 8] 87 (0,0))∧
     RefAt 0 (w'.setCell ⟨G.gb,5,none⟩ v') G.b2 (zW G.st)∧
     ∀ w7 bs',Below (w'.setCell ⟨G.gb,5,none⟩ v').heap.size (w'.setCell ⟨G.gb,5,none⟩ v') w7→GPure (G.moved b bs' v')→DInv bw (w7.setCell ⟨G.gb,6,none⟩ (.int .i64 ((zAh G.rs G.bl G.g b).turn:Int))) { D with gs:=D.gs.set i (G.moved b bs' v') }∧Below bw w (w7.setCell ⟨G.gb,6,none⟩ (.int .i64 ((zAh G.rs G.bl G.g b).turn:Int)))):=zF (fun w' v' h1 h2 h3=>zMj hD hi (zA HGe) b v' hG1 ho1 ho3 (by rw [zA HGD];exact hval3) h1 (by rw [hMf];exact h2) (by rw [hMf];exact h3))
   have hMb:(Value.slice aM G.mv.length cM).ownBlock≠some G.gb:=(by rw [← hMf];exact hM1);have hne5:(zG (zK G.q0).vars).length≤8:=hn8;have HMB:=zF hMb;have HMF:=zF hMf;have HOM3:=zF hoM3;have HFB3:=zF hfb3;have HPR:=zF hPr;have HD:=zF hD;clear hMf hMb hoM3 hfb3 hval3 ho3 hc3 hG1 ho1 hG hz hrun hval2 ho2 hval1 hoM1 hdb1 hfirm1 hF1 hfb1 hb2 hcI2 hPr hQg hD hn8 hZ1 hM1 hM2 hgd hgv hdv hrl hb8 HBI HGD HR8 hgX lb
   go_wp2_with (at_builtin;refine zp rfl (.tmp 114) (.tmp 116) 25 rfl 0 i1 (.int .i64 0) 1 8 Tryz.underlying25 hi1 hz10 hz11 hz12 rfl (by decide) _ _ _ (zA HOM3) rfl rfl rfl (by simp [Value.oneCell']) (by unfold maxLen;omega) (by omega) (Nat.zero_le _) ?_;intro v' w' hown' hgrow hmv;have hfb':=(hgrow.block G.gb lg3 (fun e=>zA HMB e.symm)).trans (zA HFB3);have hq5:w'.cell? ⟨G.gb,5,none⟩=some (.slice aM G.mv.length cM):=(by rw [zC hfb'];exact congrArg some (zA HMF));have hqz:=zD hfb' 5;have hq6:w'.cell? ⟨G.gb,6,none⟩=some (.int .i64 (G.g.turn:Int)):=(by rw [zC hfb'];rfl);have HT2:=zF (zA HTL w' v' hown' hgrow hmv);obtain ⟨a5,c5',rfl⟩:=zN hown';have lg5:=zB hfb')
   obtain ⟨hfb6,hR6,hfin⟩:=zA HT2;have HFIN:=zF hfin;have hs6:(w'.setCell ⟨G.gb,5,none⟩ (.slice a5 (G.mv.length + 1) c5')).heap.size=w'.heap.size:=(by simp [World.setCell]);clear hfin HT2 HTL hown' hgrow hmv hfb' hq5 hq6 hqz HOM3 HFB3 HMB;generalize w'.setCell ⟨G.gb,5,none⟩ (.slice a5 (G.mv.length + 1) c5')=w6 at *;have lg6:=zB hfb6;have c66:w6.cell? ⟨G.gb,6,none⟩=some (.int .i64 (G.g.turn:Int)):=zE hfb6 rfl;refine (zLB (k:=G.g.turn + 1) (zA HPR) hfb6 rfl rfl hR6 hkd ht).mono ?_;rintro e w7 ⟨rfl,hb7⟩;have hfb7:=(hb7.block _ lg6).trans hfb6;have c76:w7.cell? ⟨G.gb,6,none⟩=some (.int .i64 (G.g.turn:Int)):=zE hfb7 rfl;have z76:=zD hfb7 6;have lg7:=zB hfb7;obtain ⟨bs',hpu,hnx⟩:=zA HPU (.slice a5 (G.mv.length + 1) c5');have hnx2:zFw (zK G.q0) G.kind (G.g.turn + 1)=(zAh G.rs G.bl G.g b).turn:=hnx;rw [hnx2];obtain ⟨hD8,hB8⟩:=zA HFIN w7 bs' hb7 hpu;clear hnx hnx2 HFIN hpu;generalize (zAh G.rs G.bl G.g b).turn=tn at *;have HD8:=zF hD8;have HB8:=zF hB8;have HGB:Hid ((D.gs.set i (G.moved b bs' (.slice a5 (G.mv.length + 1) c5')))[i]'(by simpa using hi)=G.moved b bs' (.slice a5 (G.mv.length + 1) c5')):=zF (by simp);clear hD8 hB8
   cases ask with
   | true=>
    go_wp2_with fail;refine (zD8 bw i G.gb _ _ (zA HD8) (by simpa using hi) (by show ((D.gs.set i (G.moved b bs' (.slice a5 (G.mv.length + 1) c5')))[i]'(by simpa using hi)).gb=G.gb;rw [zA HGB];rfl) hn5).mono ?_;intro e w9 hs;obtain ⟨rfl,hfin⟩:=StepD.fin (D:=D) (D2:={ D with gs:=D.gs.set i (G.moved b bs' (.slice a5 (G.mv.length + 1) c5')) }) (zA HB8) rfl rfl (by show (D.gs.set i _).length≤_;rw [List.length_set];omega) rfl rfl hs;clear hs;go_wp2_with fail;go_ret;exact hfin
   | false=>
    go_wp2_with fail;go_ret;exact StepD.quiet (zA HB8) (zA HD8) rfl rfl (by show (D.gs.set i _).length≤_;rw [List.length_set];omega) rfl rfl
theorem zQt (p:List Stp) (n:Nat):zM p n=if n=0 then (0,0) else ((ze p)[n - 1]?).getD (0,0):=by
 unfold zM ze
 split
 ·rfl
 ·rw [List.getElem?_map]
  cases p[n - 1]?<;>rfl
def zQi (kind:Nat) (ls:List (Nat × Nat)) (n:Nat) (l:Nat × Nat):zAB:=
 if kind=1 then (zDj l,zDj (zAz (if n=0 then (0,0) else (ls[n - 1]?).getD (0,0)) l)) else (l,zAz (if n=0 then (0,0) else (ls[n - 1]?).getD (0,0)) l)
theorem zLT (kind:Nat) (p0:List Stp):∀ p:List Stp,(p.filter (fun s=>s.rule == 4)).map (zB5 kind p0)=(p.map (fun s=>(zC7 s,s.lits))).filterMap (fun x=>x.1.map (fun n=>zQi kind (ze p0) n x.2)):=by
 intro p
 induction p with
 | nil=>rfl
 | cons s p ih=>
  rw [List.filter_cons,List.map_cons,List.filterMap_cons]
  by_cases h:s.rule=4
  ·have h1:(s.rule == 4)=true:=(by simpa using h);have h2:zC7 s=some s.first:=(by unfold zC7;rw [if_pos h]);rw [if_pos h1,List.map_cons,ih,h2];show zB5 kind p0 s :: _=zQi kind (ze p0) s.first s.lits :: _
   congr 1
   unfold zB5 zQi;rw [zQt]
  ·have h1:(s.rule == 4)=false:=(by simpa using h);have h2:zC7 s=none:=(by unfold zC7;rw [if_neg h]);rw [h1,if_neg (by decide),ih,h2];rfl
theorem zMe {rows:List (List UInt8)} {ss ss':List Stp} (h:Marks rows ss) (h':Marks rows ss') (hl:ze ss=ze ss'):ss.map (fun s=>(zC7 s,s.lits))=ss'.map (fun s=>(zC7 s,s.lits)):=by
 have hlen:ss.length=ss'.length:=by simpa [ze] using congrArg List.length hl
 apply List.ext_getElem (by simpa using hlen)
 intro i h1 h2;simp only [List.length_map] at h1 h2;have e1:=h i h1;have e2:=h' i h2;have e3:ss[i].lits=ss'[i].lits:=by
  have:=congrArg (fun l=>l[i]?) hl
  simp only [ze,List.getElem?_map,List.getElem?_eq_getElem h1,List.getElem?_eq_getElem h2,Option.map_some,Option.some.injEq] at this;exact this
 simp only [List.getElem_map];rw [e1,e2,e3]
theorem zHp {q:QS} {kind:Nat} {l:List UInt8} {ss ss':List Stp} (h:zFT q kind l ss) (h':zFT q kind l ss') (hl:ze ss=ze ss'):zAQ kind ss=zAQ kind ss':=by
 unfold zAQ;rw [zLT,zLT,zMe h.2 h'.2 hl,hl]
theorem zMW {q:QS} {kind:Nat} {l:List UInt8} {ss ss':List Stp} (h:zFT q kind l ss) (h':zFT q kind l ss') (hl:ze ss=ze ss'):zBO q kind ss=zBO q kind ss':=by
 unfold zBO;rw [zHp h h' hl]
def GG.at_ (G:GG) (i:Nat):GS:=(G.mv.take i).foldl (fun g m=>zAh G.rs G.bl g m) (zBO G.q G.kind G.ss)
theorem zN2 (G:GG) (i:Nat) (h:i < G.mv.length):G.at_ (i + 1)=zAh G.rs G.bl (G.at_ i) G.mv[i]:=by
 unfold GG.at_;rw [List.take_succ_eq_append_getElem h,List.foldl_append];rfl
theorem zSn {G:GG} (h:GPure G):G.at_ G.mv.length=G.g:=by unfold GG.at_;rw [List.take_length];exact h.play.symm
theorem zRo {G:GG} (h:GPure G) (i:Nat) (hi:i < G.mv.length):zBv G.bl (G.at_ i) ((G.mv[i]:Nat):Int)=0:=by
 have:=h.ok i hi
 rw [show G.mv.getD i 0=G.mv[i] from by simp [List.getD,hi]] at this;exact this
theorem zSs {G:GG} (h:GPure G):∀ i,i≤G.mv.length→∃ bs,Run G.q G.kind G.rs (G.at_ i) bs∧zHJ G.q G.kind (G.at_ i):=by
 have hq:QGood G.q:=h.pair.qg;have hk:G.kind=1∨G.kind=2:=zDO h.read;intro i
 induction i with
 | zero=>
  intro _;obtain ⟨bs,h1,h2,_⟩:=zLX hq hk G.ss;exact ⟨bs,h1,h2⟩
 | succ i ih=>
  intro hi;obtain ⟨bs,h1,h2⟩:=ih (by omega);have ho:=zRo h i hi;have ht:(G.at_ i).turn < (zG G.q.vars).length:=by
   have hl:G.bl.length=(zG G.q.vars).length:=zBB G.q G.kind
   by_cases e:G.bl.length≤(G.at_ i).turn
   ·unfold zBv at ho;rw [if_pos e] at ho;cases ho
   ·omega
  obtain ⟨b2,r1,r2,_⟩:=zLF hq hk h1 h2 ht G.mv[i];rw [zN2 G i hi];exact ⟨_,r1,r2⟩
theorem zRT {G:GG} (h:GPure G) (i:Nat) (hi:i < G.mv.length):zE8 ((G.mv[i]:Nat):Int):=by
 have ho:=zRo h i hi;unfold zBv at ho
 split at ho
 ·cases ho
 ·next hl=>
  split at ho
  ·cases ho
  ·next hb=>
   simp only [not_or] at hb;have h8:(G.bl.getD (G.at_ i).turn ([],false)).1.length≤8:=by
    have hB:=zE0 h.pair.qb G.kind;have hlt:(G.at_ i).turn < (blW G.q G.kind).length:=(by have h1:¬ (blW G.q G.kind).length≤(G.at_ i).turn:=hl;omega);show ((blW G.q G.kind).getD _ _).1.length≤8;rw [show (blW G.q G.kind).getD (G.at_ i).turn ([],false)=(blW G.q G.kind)[(G.at_ i).turn] from by simp [List.getD,hlt]];exact (hB.row _ (List.getElem_mem hlt)).1
   have hp:=zH6 _ h8;exact ⟨by omega,by omega⟩
theorem zPJ (Z:Nat→Prop) (bw:Nat) (G:GG) (w:World) (hG:GInv Z w G) (hv:G.val=zFP G.g.vals) :
  Calls Tryz.prog 31 #[.pointer (some ⟨bw,0,none⟩),.pointer (some ⟨G.gb,0,none⟩)] w fun e w'=>e=.returned (.bool true)∧Below w.heap.size w w':=by
 have hPr:=hG.pure.pair;have lg:=zB hG.fb;have g1:w.cell? ⟨G.gb,1,none⟩=some (.pointer (some ⟨G.b1,0,none⟩)):=zE hG.fb rfl;have g3:w.cell? ⟨G.gb,3,none⟩=some (S G.proof):=zE hG.fb rfl;have hP:=hG.firm.now.1;have hpu:=hG.pure;have hml:=hpu.mlen;have hn8:=zDR (zK G.q0).vars (zCp hPr.nice);have htn:G.g.turn≤(zG (zK G.q0).vars).length:=hpu.run.turn;have HRD:=zF hpu.read;have HPU:=zF hpu
 go_enter Tryz.func31,Tryz.ntmps31
 go_wp2_with fail;have hdr:Below w.heap.size w w.drew:=(Below.refl _ w).drew
 go_region_with (go_at_call 18;refine (zHR 0 G.b1 G.q G.proof _ (hP.later hdr) hPr.qb).mono ?_;rintro e w1 ⟨hb1,hp⟩;rw [zA HRD] at hp;obtain ⟨ss',db,gv,hls,htg,hsb,rfl,hGA,hdb,hfr⟩:=hp;have hB1:Below w.heap.size w w1:=hdr.trans hb1)
 all_goals
  have HRS:Hid (zAQ G.kind ss'=G.rs):=zF (zHp htg (zA HPU).tags hls);have HOS:Hid (zBO G.q G.kind ss'=G.at_ 0):=zF (zMW htg (zA HPU).tags hls);have hGA1:GameAt w1 db 79 G.bl G.rs (G.at_ 0) gv:=(by rw [← zA HRS,← zA HOS];exact hGA);have hdb':w.heap.size≤db:=hdb;clear hGA htg hls hsb hfr hdb;have hfb1:=(hB1.block _ lg).trans hG.fb;obtain ⟨aM,cM,hMf⟩:=zN hG.oM;have hoM:=hG.oM;rw [hMf] at hoM;have hvb:=hG.val;have lvb:=zB hvb;go_wp2_with fail
  go_loopg [8] (G.mv.length) (fun m ii wx=>∃ (k:Nat),ii=.int .i64 k∧k + m=G.mv.length∧GameAt wx db 79 G.bl G.rs (G.at_ k) gv∧Below w.heap.size w wx)
  case atStart=>exact ⟨0,rfl,by omega,hGA1,hB1⟩
  case round=>
   obtain ⟨k,rfl,hkm,hGk,hbk⟩:=hrel;have hfbk:=(hbk.block _ lg).trans hG.fb;have lgk:=zB hfbk;have c5:wr.cell? ⟨G.gb,5,none⟩=some (.slice aM G.mv.length cM):=(by rw [zC hfbk];exact congrArg some hMf);obtain ⟨bs,hrun,hst⟩:=zSs (zA HPU) k (by omega);have ldb:=zB hGk.fb
   by_cases hkl:k < G.mv.length
   ·obtain ⟨gM,cap,hVe,_,hgM',_,hcell⟩:=zS hoM (by omega);injection hVe with hVe _ hV2;subst hVe hV2;have hck:wr.cell? ⟨gM,k,none⟩=some (.int .i64 (G.mv[k]:Int)):=by
     rw [hbk.cell (p:=⟨gM,k,none⟩) hgM'];exact hcell k _ (by simp [zu,hkl])
    have lM:gM < wr.heap.size:=Nat.lt_of_lt_of_le hgM' hbk.size;have HOK:=zF (zRo (zA HPU) k hkl);have hbi:=zRT (zA HPU) k hkl;have HSU:=zF (zN2 G k hkl);have hbl:(G.at_ k).turn≤G.bl.length:=by show _≤(blW G.q G.kind).length;rw [zBB];exact hrun.turn
    clear hcell;go_wp2_with fail;have hdr2:Below wr.heap.size wr wr:=Below.refl _ wr;refine (zFg db _ G.bl G.rs (G.at_ k) gv (G.mv[k]:Int) _ (hGk.later hdr2) (zIA hpu.sbs _) (zE0 hPr.qb _) hrun.lt hbl hbi).mono ?_;rintro e w2 ⟨rfl,hG2,ho2⟩;rw [zA HOK,show ((0:Nat):Int)=0 from rfl]
    all_goals
     have HG2:Hid (GameAt w2 db 79 G.bl G.rs (G.at_ (k + 1)) gv):=zF (by
      rw [zA HSU]
      have:zC2 G.rs G.bl (G.at_ k) (G.mv[k]:Int)=zAh G.rs G.bl (G.at_ k) G.mv[k]:=by unfold zC2;rw [zA HOK,if_pos rfl,Int.toNat_natCast]
      rw [← this];exact hG2)
     have hB2:Below w.heap.size w w2:=hbk.trans ((Only.below (T:=(·=db)) ((Only.of_below hdr2).trans ho2) hbk.size (fun j hj e=>by omega)));clear hG2;go_wp2_with fail
     go_roundg (gk - 1)
     case measure=>omega
     case rel=>exact ⟨k + 1,by go_num,by omega,zA HG2,hB2⟩
   ·have hke:k=G.mv.length:=(by omega);subst hke;have hdk:decide ((G.mv.length:Int) < (G.mv.length:Int))=false:=(by simp);rw [zSn (zA HPU)] at hGk hrun;go_wp2_with fail;refine (zHt db _ G.bl G.rs G.g gv _ hGk hrun.lt).mono ?_;rintro e w3 ⟨kL,rfl,hkL,hL,hb3⟩;have hG3:=hGk.later hb3;have hB3:Below w.heap.size w w3:=hbk.trans (hb3.mono hbk.size);have ldb3:=zB hG3.fb;go_wp2_with fail;refine (zJT db _ G.bl G.rs G.g gv w3 hG3).mono ?_;rintro e w4 ⟨rfl,hw4⟩;subst hw4;go_wp2_with fail;obtain ⟨wo,rfl⟩:∃ wo,wo=wr:=⟨_,rfl⟩
    go_loopg [12] 8 (fun m vv wx=>∃ (j:Nat),vv=.int .i64 (j:Int)∧j + m=8∧Below w4.heap.size w4 wx)
    case atStart=>exact ⟨0,rfl,by omega,Below.refl _ _⟩
    case round=>
     obtain ⟨j,rfl,hjm,hbo⟩:=hrel;have hB5:Below w.heap.size w wr:=hB3.trans (hbo.mono hB3.size);have hLx:=zH hbo hL;have lLx:=zB hLx;have hfb5:=(hB5.block _ lg).trans hG.fb;have lg5:=zB hfb5;have hvb5:=(hB5.block _ lvb).trans hvb;have lv5:=zB hvb5;have d7:wr.cell? ⟨G.gb,7,none⟩=some (.slice (some ⟨G.vb,0,none⟩) 8 8):=zE hfb5 rfl;have d6:wr.cell? ⟨G.gb,6,none⟩=some (.int .i64 (G.g.turn:Int)):=zE hfb5 rfl
     by_cases hj8:j < 8
     ·have hd:decide ((j:Int) < 8)=true:=decide_eq_true (by omega);have hlj:wr.cell? ⟨kL,j,none⟩=some (.int .i64 (zBC G.g.vals (j + 1))):=(by rw [zC hLx,zD0 _ _ _ hj8,if_pos hj8]);have hvj:wr.cell? ⟨G.vb,j,none⟩=some (.int .i64 (zBC G.g.vals (j + 1))):=by
       rw [zC hvb5,hv];have h8:(zFP G.g.vals).length=8:=by simp [zFP]
       have:=zIy G.g.vals (j + 1) (by omega) (by omega)
       rw [Nat.add_sub_cancel] at this;rw [← this];simp [zC1,List.getD,h8,hj8]
      have hne:(zBC G.g.vals (j + 1) != zBC G.g.vals (j + 1))=false:=(by simp);generalize zBC G.g.vals (j + 1)=y at *;go_wp2_with fail
      go_quiet (fail)
      have b6:Below wr.heap.size wr (wr.drewN nq):=below_drewN (Below.refl _ _) nq;have hbo6:=hbo.trans (b6.mono hbo.size);generalize wr.drewN nq=w6 at *;go_wp2_with fail
      go_roundg (gk - 1)
      case measure=>omega
      case rel=>exact ⟨j + 1,by go_num,by omega,hbo6⟩
     ·have hj:j=8:=(by omega);subst hj;have hq:((G.g.turn:Int) == (G.g.turn:Int))=true:=(by simp);go_wp2_with fail;go_ret;exact ⟨rfl,hB5⟩
theorem zNP (bw:Nat) (D:DW) (o:OpV) (w:World) (hD:DInv bw w D) (hk:zGj o.kind=true) (hok:o.Ok) (hpl:D.proof.length≤1048576) (htl:D.text.length≤1048576) (hsl:o.s.length≤1048576) :
  Calls Tryz.prog 19 #[.pointer (some ⟨bw,0,none⟩),.agg #[.int .i64 o.kind,.int .i64 o.a,.int .i64 o.b,.int .i64 o.c,S o.s,S o.t]] w fun e w'=>StepD bw D (o.s.length + 1) w e w':=by
 refine (zLW bw D.text D.px D.pf D.proof o D.v4 D.v5 D.v6 w hD.wat hk hok hpl htl hsl).mono ?_;rintro e w' ⟨h1,ho,text',px',pf',proof',hw',h2,h3,h4⟩;refine ⟨h1,ho.below (Nat.le_of_lt (zB hD.wat)) (fun k hk e=>by omega),_,hD.base ho hw' h4,by show text'.length≤_;omega,by show proof'.length≤_;omega,by show D.gs.length≤_;omega,by show D.h5s.length≤_;omega,by show D.h6s.length≤_;omega⟩
theorem zR1 (bw i:Nat) (D:DW) (bits:Int) (ask:Bool) (w:World) (hD:DInv bw w D) (hi:i < D.gs.length) (hbi:zE8 bits) (hn5:D.h5s.length≤1073741824) :
  Calls Tryz.prog 30 #[.pointer (some ⟨bw,0,none⟩),.pointer (some ⟨D.gs[i].gb,0,none⟩),.int .i64 bits,.bool ask] w fun e w'=>StepD bw D 0 w e w':=by
 have hG:=hD.games _ (List.getElem_mem hi);obtain ⟨G,hGe⟩:∃ G,D.gs[i]=G:=⟨_,rfl⟩;rw [hGe] at hG ⊢;have ht:G.g.turn≤(zG (zK G.q0).vars).length:=hG.pure.run.turn
 by_cases hov:G.g.turn=(zG (zK G.q0).vars).length
 ·exact zMz bw i D G bits ask w hD hi hGe hbi hn5 hov
 ·have htl:G.g.turn < (zG (zK G.q0).vars).length:=by omega
  by_cases hbad:bits < 0∨(2:Int) ^ (zG (zK G.q0).vars)[G.g.turn].length≤bits
  ·exact zOd bw i D G bits ask w hD hi hGe hbi hn5 htl hbad
  ·simp only [not_or] at hbad;obtain ⟨b,rfl⟩:∃ b:Nat,bits=(b:Int):=⟨bits.toNat,by omega⟩;exact zRS bw i D G b ask w hD hi hGe hn5 htl (by omega)
theorem DInv.v4f {bw:Nat} {w:World} {D:DW} (hD:DInv bw w D):∃ a c,D.v4=.slice a D.gs.length c∧w.cell? ⟨bw,4,none⟩=some (.slice a D.gs.length c):=by
 obtain ⟨a,c,h⟩:=zN hD.o4;exact ⟨a,c,h,by rw [zC hD.wat];exact congrArg some h⟩
theorem DInv.gat {bw:Nat} {w:World} {D:DW} (hD:DInv bw w D) {a:Option Addr} {c:Nat} (hf:D.v4=.slice a D.gs.length c) {i:Nat} (hi:i < D.gs.length):∃ g,a=some ⟨g,0,none⟩∧g < w.heap.size∧w.cell? ⟨g,i,none⟩=some (.pointer (some ⟨D.gs[i].gb,0,none⟩)):=by
 have h:=hD.o4;rw [hf] at h;obtain ⟨g,cap,e,_,hg,_,hc⟩:=zS h (by omega);injection e with e _ _;exact ⟨g,e,hg,hc i _ (by simp [hi,zIi])⟩
def zGg (c:Int) (n:Nat):Nat:=if c < 0 then ((-(c + 1)) % n).toNat else (c % n).toNat
theorem zQo (c:Int) (n:Nat) (hn:0 < n):zGg c n < n:=by
 unfold zGg
 split
 ·have:=Int.emod_nonneg (-(c + 1)) (show (n:Int)≠0 by omega)
  have:=Int.emod_lt_of_pos (-(c + 1)) (show (0:Int) < n by omega)
  omega
 ·have:=Int.emod_nonneg c (show (n:Int)≠0 by omega)
  have:=Int.emod_lt_of_pos c (show (0:Int) < n by omega)
  omega
theorem zSN (c:Int) (n:Nat) (w:World) (hn:0 < n) (hn2:n≤1048576) (h1:-9223372036854775808≤c) (h2:c≤9223372036854775807) :
  Calls Tryz.prog 29 #[.int .i64 c,.int .i64 n] w fun e w'=>e=.returned (.int .i64 (zGg c n:Nat))∧w'=w:=by
 by_cases hc:c < 0
 ·have hd:decide (c < 0)=true:=(by simpa using hc);have HP:Hid (zGg c n=((-(c + 1)) % n).toNat):=zF (by unfold zGg;rw [if_pos hc])
  go_enter Tryz.func29,Tryz.ntmps29
  go_wp2_with fail;go_ret;have e:-((c + 1).tmod n)=(-(c + 1)) % n:=(by rw [← Int.neg_tmod,Int.tmod_eq_emod_of_nonneg (by omega)]);have e1:=Int.emod_nonneg (-(c + 1)) (show (n:Int)≠0 by omega);refine ⟨zA7 ?_,rfl⟩;rw [zA HP];omega
 ·have hd:decide (c < 0)=false:=(by simpa using hc);have HP:Hid (zGg c n=(c % n).toNat):=zF (by unfold zGg;rw [if_neg hc])
  go_enter Tryz.func29,Tryz.ntmps29
  go_wp2_with fail;go_ret;refine ⟨zA7 ?_,rfl⟩;rw [zA HP]
  have:=Int.emod_nonneg c (show (n:Int)≠0 by omega)
  omega
def zJj (k:Int):Bool:=k == 8 || k == 9 || k == 11
theorem zLq (bw:Nat) (D:DW) (o:OpV) (w:World) (hD:DInv bw w D) (hk:zJj o.kind=true) (h0:D.gs=[]) :
  Calls Tryz.prog 19 #[.pointer (some ⟨bw,0,none⟩),.agg #[.int .i64 o.kind,.int .i64 o.a,.int .i64 o.b,.int .i64 o.c,S o.s,S o.t]] w fun e w'=>StepD bw D (o.s.length + 1) w e w':=by
 obtain ⟨a4,c4,hf,h4⟩:=hD.v4f;rw [h0] at h4;have hbw:=zB hD.wat;have HQ:Hid (∀ w',Below w.heap.size w w'→StepD bw D (o.s.length + 1) w (.returned (.bool true)) w'):=zF (fun w' h=>(StepD.quiet (h.mono (Nat.le_of_lt hbw)) (hD.later h) rfl rfl (by omega) rfl rfl).more (by omega));obtain ⟨kind,a,b,c,s,t⟩:=o;unfold zJj at hk;simp only [Bool.or_eq_true,beq_iff_eq] at hk;dsimp only at hk HQ ⊢
 rcases hk with (rfl | rfl) | rfl
 all_goals
  go_enter Tryz.func19,Tryz.ntmps19
  go_wp2_with fail;go_ret;exact zA HQ _ ((Below.refl _ _).alloc (Nat.le_refl _) _)
theorem zOL {bw i:Nat} {D:DW} {w w':World} {e:Ending} (hs:zGS bw i D w e w') (hi:i < D.gs.length):e=.returned (.bool true)∧Below bw w w'∧∃ D',DInv bw w' D'∧D'.text=D.text∧D'.proof=D.proof∧D'.gs.length=D.gs.length∧D'.h5s.length=D.h5s.length + 1∧D'.h6s=D.h6s∧GInv D'.Z w' D.gs[i].told:=by
 obtain ⟨he,hb,_,v5',hdr,Z',hD'⟩:=hs;refine ⟨he,hb,_,hD',rfl,rfl,by simp,by simp,rfl,?_⟩;exact hD'.games _ (List.mem_iff_getElem.2 ⟨i,by simpa using hi,by simp⟩)
theorem zOU (bw:Nat) (D:DW) (o:OpV) (w:World) (hD:DInv bw w D) (hk:zJj o.kind=true) (h0:0 < D.gs.length) (hok:o.Ok) (hn4:D.gs.length≤1048576) (hn5:D.h5s.length≤1073741824) :
  Calls Tryz.prog 19 #[.pointer (some ⟨bw,0,none⟩),.agg #[.int .i64 o.kind,.int .i64 o.a,.int .i64 o.b,.int .i64 o.c,S o.s,S o.t]] w fun e w'=>StepD bw D (o.s.length + 1) w e w':=by
 have hbw:=zB hD.wat;obtain ⟨kind,a,b,c,s,t⟩:=o;obtain ⟨_,⟨ha1,ha2⟩,hb64,⟨hc1,hc2⟩⟩:=hok;dsimp only at hk ha1 ha2 hb64 hc1 hc2 ⊢;have hA:Below w.heap.size w (w.alloc (.cells #[.int .i64 kind,.int .i64 a,.int .i64 b,.int .i64 c,S s,S t] 29)):=(Below.refl _ _).alloc (Nat.le_refl _) _;have hop:=heap_alloc_new w (.cells #[.int .i64 kind,.int .i64 a,.int .i64 b,.int .i64 c,S s,S t] 29);have hDA:=hD.later hA;obtain ⟨a4,c4,hf,h4A⟩:=hDA.v4f;have hne:((D.gs.length:Int) == 0)=false:=(by rw [beq_eq_false_iff_ne];omega);have hr:=zQo a D.gs.length h0;have HPK:Hid (∀ w,Calls Tryz.prog 29 #[.int .i64 a,.int .i64 D.gs.length] w fun e w'=>e=.returned (.int .i64 (zGg a D.gs.length:Nat))∧w'=w):=zF (fun w=>zSN a D.gs.length w h0 hn4 ha1 ha2);generalize zGg a D.gs.length=r at *;obtain ⟨g,rfl,hg,hcell⟩:=hDA.gat hf hr;have hMb:bw≤w.heap.size:=Nat.le_of_lt hbw;have HD:Hid (∀ w1,Below w.heap.size w w1→DInv bw w1 D):=zF (fun w1 h=>hD.later h);have HFIN:Hid (∀ e w1 w2,Below w.heap.size w w1→StepD bw D 0 w1 e w2→e=.returned (.bool true)∧StepD bw D (s.length + 1) w (.returned (.bool true)) w2):=zF (fun e w1 w2 hb h=>by
  have he:=h.ret;subst he;exact ⟨rfl,(h.after (hb.mono hMb)).more (by omega)⟩)
 clear hD hDA hf;have h4w:w.cell? ⟨bw,4,none⟩=some (.slice (some ⟨g,0,none⟩) D.gs.length c4):=(by rw [← hA.cell (p:=⟨bw,4,none⟩) hbw];exact h4A);have lbA:=Nat.lt_of_lt_of_le hbw hA.size;have lop:=zB hop;unfold zJj at hk;simp only [Bool.or_eq_true,beq_iff_eq] at hk;have HREST:Hid (∀ w1,Below (w.alloc (.cells #[.int .i64 kind,.int .i64 a,.int .i64 b,.int .i64 c,S s,S t] 29)).heap.size (w.alloc (.cells #[.int .i64 kind,.int .i64 a,.int .i64 b,.int .i64 c,S s,S t] 29)) w1→Below w.heap.size w w1∧w1.heap[w.heap.size]?=some (.cells #[.int .i64 kind,.int .i64 a,.int .i64 b,.int .i64 c,S s,S t] 29 (0,0))):=zF (fun w1 hb=>⟨hA.trans (hb.mono hA.size),(hb.block _ lop).trans hop⟩)
 rcases hk with (rfl | rfl) | rfl
 ·go_enter Tryz.func19,Tryz.ntmps19
  go_wp2_with fail
  go_quiet (first | (go_at_call 29;refine Calls.quiet_of_same (zA HPK _)))
  obtain ⟨hB1,hop1⟩:=zA HREST _ (below_drewN (Below.refl _ _) nq);clear HREST hA hop h4A hg hcell lbA lop h4w;generalize (w.alloc (.cells #[.int .i64 8,.int .i64 a,.int .i64 b,.int .i64 c,S s,S t] 29)).drewN nq=w1 at *;have o2:w1.cell? ⟨w.heap.size,2,none⟩=some (.int .i64 b):=zE hop1 rfl;have o3:w1.cell? ⟨w.heap.size,3,none⟩=some (.int .i64 c):=zE hop1 rfl;have o0:w1.cell? ⟨w.heap.size,0,none⟩=some (.int .i64 8):=zE hop1 rfl;have lop1:=zB hop1;go_wp2_with fail;refine (zR1 bw r D b _ _ (zA HD _ hB1) hr hb64 hn5).mono ?_;intro e w2 hs;obtain ⟨rfl,hfin⟩:=zA HFIN _ _ _ hB1 hs;clear hs;go_wp2_with fail;go_ret;exact hfin
 ·go_enter Tryz.func19,Tryz.ntmps19
  go_wp2_with fail
  go_quiet (first | (go_at_call 29;refine Calls.quiet_of_same (zA HPK _)))
  obtain ⟨hB1,hop1⟩:=zA HREST _ (below_drewN (Below.refl _ _) nq);clear HREST hA hop h4A hg hcell lbA lop h4w;generalize (w.alloc (.cells #[.int .i64 9,.int .i64 a,.int .i64 b,.int .i64 c,S s,S t] 29)).drewN nq=w1 at *;have o0:w1.cell? ⟨w.heap.size,0,none⟩=some (.int .i64 9):=zE hop1 rfl;have lop1:=zB hop1;go_wp2_with fail;refine (zD8 bw r _ D w1 (zA HD _ hB1) hr rfl hn5).mono ?_;intro e w2 hs;obtain ⟨rfl,hfin⟩:=StepD.fin (D:=D) (D2:=D) (hB1.mono hMb) rfl rfl (by omega) rfl rfl hs;clear hs;go_wp2_with fail;go_ret;exact hfin.more (by omega)
 ·go_enter Tryz.func19,Tryz.ntmps19
  go_wp2_with fail
  go_quiet (first | (go_at_call 29;refine Calls.quiet_of_same (zA HPK _)))
  obtain ⟨hB1,hop1⟩:=zA HREST _ (below_drewN (Below.refl _ _) nq);clear HREST hA hop h4A hg hcell lbA lop h4w;generalize (w.alloc (.cells #[.int .i64 11,.int .i64 a,.int .i64 b,.int .i64 c,S s,S t] 29)).drewN nq=w1 at *;have o0:w1.cell? ⟨w.heap.size,0,none⟩=some (.int .i64 11):=zE hop1 rfl;have lop1:=zB hop1;go_wp2_with fail;refine (zD8 bw r _ D w1 (zA HD _ hB1) hr rfl hn5).mono ?_;intro e w2 hs;obtain ⟨rfl,hb2,D',hD',e1,e2,e3,e4,e5,hGt⟩:=zOL hs hr;clear hs;go_wp2_with fail;refine (zPJ D'.Z bw D.gs[r].told w2 hGt rfl).mono ?_;rintro e w3 ⟨rfl,hb3⟩;have hbw2:=zB hD'.wat;have hD3:=hD'.later hb3;have hB3:Below bw w w3:=((hB1.mono hMb).trans hb2).trans (hb3.mono (Nat.le_of_lt hbw2));have HF3:Hid (StepD bw D (s.length + 1) w (.returned (.bool true)) w3):=zF ⟨rfl,hB3,D',hD3,by rw [e1];omega,by rw [e2];omega,by omega,by omega,by rw [e5];omega⟩;clear e1 e2 e3 e4 e5;go_wp2_with fail;go_ret;exact zA HF3
def zG6 (tl:List (List UInt8)):List Nat:=tl.map (fun x=>cnt x big)
theorem zEY (tl:List (List UInt8)) (k:Nat) (h:k < tl.length):zu (zG6 (tl.take (k + 1)))=zu (zG6 (tl.take k)) ++ [.int .i64 (cnt tl[k] big:Nat)]:=by
 unfold zu zG6;rw [List.take_succ_eq_append_getElem h,List.map_append,List.map_append];rfl
structure zF2 (lo b:Nat) (F:zv) (ss:List (Nat × Nat)) (aS:Option Addr) (cS:Nat) (lS:Nat) (hd:List UInt8) (tl:List (List UInt8)) (g off cap:Nat) (w:World):Prop where
 hR:RefAt lo w b F
 hF:FW F
 hS:w.ownsRow lS 121 2 (.slice aS ss.length cS) ss.length (zAK ss)
 hSB:ss.length≤9000
 hSb:∀ c∈ss,c.1 < 512∧c.2 < 512
 hs:StrsAt w (some ⟨g,off,none⟩) (hd :: tl)
 hl:tl.length≤1048575
 hcap:tl.length + 1≤cap
 hws:∀ x∈tl,x.length≤1048576
theorem zC6 {α:Type} (l:List α) (k:Nat) (d:α) (h:k < l.length):l.getD k d=l[k]:=by
 rw [List.getD,List.getElem?_eq_getElem h];rfl
theorem zSy (lo b:Nat) (F:zv) (ss:List (Nat × Nat)) (aS:Option Addr) (cS:Nat) (lS:Nat) (truth:Bool) (hd:List UInt8) (tl:List (List UInt8)) (g off cap:Nat) (w:World) (hIn:zF2 lo b F ss aS cS lS hd tl g off cap w) (hhd:hd=[97]) (htr:truth=false) (hln:tl.length=1) :
  Calls Tryz.prog 86 #[.pointer (some ⟨b,0,none⟩),.slice aS ss.length cS,.slice (some ⟨g,off,none⟩) (tl.length + 1) cap,.bool truth] w fun e w'=>RStPost (zo F truth ss hd tl) w e w':=by
 have HLN:=zF hln;have HHD:=zF hhd;have HTR:=zF htr;clear hln hhd htr;obtain ⟨hR,hF,hS,hSB,hSb,hs,hl,hcap,hws⟩:=hIn;obtain ⟨i0,hi,hz0,hz1,hz2⟩:=info_parts Tryz.info3;have hR0:=hR;obtain ⟨_,vO,vE,vC,hfb,_,_,hC⟩:=hR;obtain ⟨aC,cC,rfl⟩:=zN hC;have hbw:=zB hfb;obtain ⟨g',off',cur,he,hg,hcur⟩:=hs (by simp);injection he with he;injection he with e1 e2 e3;subst e1 e2;clear e3;have hgw:=zB hg;have HC0:Hid (∀ wx:World,Below w.heap.size w wx→wx.cell? ⟨g,off,none⟩=some (S hd)):=zF (fun wx hx=>by
  rw [hx.cell (p:=⟨g,off,none⟩) hgw,zC hg];exact hcur 0 (by simp))
 have HCJ:Hid (∀ (wx:World) (j:Nat) (hj:j < tl.length),Below w.heap.size w wx→wx.cell? ⟨g,off + (j + 1),none⟩=some (S tl[j])):=zF (fun wx j hj hx=>by
  rw [hx.cell (p:=⟨g,off + (j + 1),none⟩) hgw,zC hg];exact hcur (j + 1) (by simpa using hj))
 have HST:Hid (∀ (wx:World) (ao:Option Addr),Below w.heap.size w wx→(tl≠[]→ao=some ⟨g,off + 1,none⟩)→StrsAt wx ao tl):=zF (fun wx ao hx ho hne=>⟨g,off + 1,cur,ho hne,(hx.block _ hgw).trans hg,fun j hj=>by
  have h1:=hcur (1 + j) (by simp;omega);rw [← Nat.add_assoc] at h1;rw [h1];simp [show 1 + j=j + 1 from by omega]⟩)
 have HWS:=zF hws;clear hcur hws hs hg
 go_enter Tryz.func86,Tryz.ntmps86
 go_wp2_with fail
 go_loopg [11,12] tl.length (fun m v i wx=>∃ j:Nat,i=.int .i64 (j + 1)∧j + m=tl.length∧wx.ownsRow (w.heap.size + 2) 3 1 v j (zu (zG6 (tl.take j)))∧Below w.heap.size w wx∧
   wx.heap[w.heap.size]?=some (.cells #[.int .i64 0,.int .i64 0] 121 (0,0))∧wx.heap[w.heap.size + 1]?=some (.cells #[.int .i64 0,.int .i64 0] 121 (0,0)))
 case atStart=>exact ⟨0,rfl,by omega,World.ownsRow_nil _ _ _ _,((Below.refl _ _).alloc (Nat.le_refl _) _).alloc (by simp) _,by rw [heap_alloc_old _ _ (by simp)];exact heap_alloc_new _ _,zEn (by simp)⟩
 case round=>
  obtain ⟨j,rfl,hj,hown,hb,hres,hnon⟩:=hrel;have hbs:=zB hnon
  by_cases hlt:j < tl.length
  ·have hcj:=zA HCJ wr j hlt hb;have hxl:=zA HWS _ (List.getElem_mem hlt);have HT:=zF (zEY tl j hlt);have hgw1:g < wr.heap.size:=(by omega);generalize tl[j]=x at *;go_wp2_with fail;refine (zEi x 1048576 wr hxl (by omega)).mono ?_;rintro e w1 ⟨rfl,hw1⟩;subst hw1;rw [show cnt x 1048576=cnt x big from rfl]
   go_wp2_with (at_builtin;refine zV rfl _ _ 25 rfl (w.heap.size + 2) i0 (.int .i64 0) 1 8 Tryz.underlying25 hi hz0 hz1 hz2 rfl (by decide) _ _ _ hown rfl rfl rfl (by simp [Value.oneCell']) (by unfold maxLen;omega) (by omega) (by omega) ?_;intro v' w2 hown' hgrow hnn)
   go_roundg (gk - 1)
   case measure=>omega
   case rel=>
    have hlto:=hown.lt;refine ⟨j + 1,by go_num,by omega,by rw [zA HT];exact hown',za hb hgrow hown (by omega) (by omega),?_,?_⟩
    ·rw [hgrow.block _ (by omega) (fun e=>by have:=hlto _ e.symm;omega)];exact hres
    ·rw [hgrow.block _ (by omega) (fun e=>by have:=hlto _ e.symm;omega)];exact hnon
  ·have hjl:j=tl.length:=(by omega);subst hjl;rw [List.take_length] at hown;clear hj hlt hi hz0 hz1 hz2 HCJ;obtain ⟨aK,cK,rfl⟩:=zN hown;have hc0:=zA HC0 wr hb;have hgw1:g < wr.heap.size:=(by omega);have hbw1:b < wr.heap.size:=(by omega);have hbs0:w.heap.size < wr.heap.size:=(by omega);have r0:wr.cell? ⟨w.heap.size,0,none⟩=some (.int .i64 0):=zE hres rfl;have r1:wr.cell? ⟨w.heap.size,1,none⟩=some (.int .i64 0):=zE hres rfl;have zr0:=zD hres 0;have zr1:=zD hres 1;have n0:wr.cell? ⟨w.heap.size + 1,0,none⟩=some (.int .i64 0):=zE hnon rfl;have n1:wr.cell? ⟨w.heap.size + 1,1,none⟩=some (.int .i64 0):=zE hnon rfl;have x1:wr.cell? ⟨b,1,none⟩=some (.int .i64 F.all):=(by rw [hb.cell (p:=⟨b,1,none⟩) hbw,zC hfb];rfl);have x3:wr.cell? ⟨b,3,none⟩=some (.slice aC F.cl.length cC):=(by rw [hb.cell (p:=⟨b,3,none⟩) hbw,zC hfb];rfl);have HK:Hid (∀ (i:Nat) (hi:i < tl.length),∃ gK,aK=some ⟨gK,0,none⟩∧gK < wr.heap.size∧wr.cell? ⟨gK,i,none⟩=some (.int .i64 (cnt tl[i] big:Nat))∧tl.length≤cK):=zF (fun i hi=>by
    obtain ⟨gK,capK,hVe,_,hg',hcap',hcell⟩:=zS hown (by omega);injection hVe with hVe _ hV2;subst hVe hV2;exact ⟨gK,rfl,hg',hcell _ _ (by unfold zu zG6;simp [hi]),hcap'⟩)
   have HBITS:=zF hF.bits;have hc24:=hF.cl;have hall:=hF.all;have HSB:=zF hSb;have HCELL:Hid (∀ (m:Nat) (hm:m < F.cl.length),∃ g2,aC=some ⟨g2,0,none⟩∧g2 < w.heap.size∧w.cell? ⟨g2,m * 2,none⟩=some (.int .i64 (F.cl[m].1:Int))∧w.cell? ⟨g2,m * 2 + 1,none⟩=some (.int .i64 (F.cl[m].2:Int))):=zF (fun m hm=>by
    obtain ⟨g2,cap2,hVe,hg2,hg2',_,hcell⟩:=zS hC (by omega);injection hVe with hVe _ hV2;subst hVe hV2;obtain ⟨hpa,hpb⟩:=zAc F.cl m hm;exact ⟨g2,rfl,hg2',hcell _ _ hpa,hcell _ _ hpb⟩)
   have HSEL:Hid (∀ (m:Nat) (hm:m < ss.length),∃ g2,aS=some ⟨g2,0,none⟩∧g2 < w.heap.size∧w.cell? ⟨g2,m * 2,none⟩=some (.int .i64 (ss[m].1:Int))∧w.cell? ⟨g2,m * 2 + 1,none⟩=some (.int .i64 (ss[m].2:Int))):=zF (fun m hm=>by
    obtain ⟨g2,cap2,hVe,hg2,hg2',_,hcell⟩:=zS hS (by omega);injection hVe with hVe _ hV2;subst hVe hV2;obtain ⟨hpa,hpb⟩:=zAc ss m hm;exact ⟨g2,rfl,hg2',hcell _ _ hpa,hcell _ _ hpb⟩)
   have HFW:=zF hF;clear hSb hown hC hfb hS hF;have hln:=zA HLN;have hhd:=zA HHD;have htr:=zA HTR;subst hhd htr;have h01:0 < tl.length:=(by omega);have HSP:Hid (zo F false ss [97] tl=axR F (cnt tl[0] big)):=zF (by unfold zo;rw [if_pos ⟨rfl,rfl,hln⟩,zC6 _ _ _ h01]);have hlb:((tl.length:Int) == 1)=true:=(by rw [beq_iff_eq];omega);have hi0:(0:Int) < (tl.length:Int):=(by omega);clear hln;obtain ⟨gK,rfl,hgK,kc0,hcK⟩:=zA HK 0 h01;generalize cnt tl[0] big=c at *
   by_cases hc1:c < 1
   ·have HF:Hid (zo F false ss [97] tl=none):=zF (by rw [zA HSP];unfold axR;rw [if_pos (Or.inl hc1)]);have hq1:decide ((c:Int) < 1)=true:=(by simp;omega);clear hc1;go_wp2_with fail
    go_quiet (fail)
    generalize hgen:wr.drewN nq=wq;have hbwq:Below w.heap.size w wq:=(by rw [← hgen];exact below_drewN hb nq);have hreswq:wq.heap[w.heap.size]?=some (.cells #[.int .i64 0,.int .i64 0] 121 (0,0)):=(by rw [← hgen];exact hres);have hnonwq:wq.heap[w.heap.size + 1]?=some (.cells #[.int .i64 0,.int .i64 0] 121 (0,0)):=(by rw [← hgen];exact hnon);clear hgen;have hbswq:=zB hnonwq;have hbs0wq:=zB hreswq;obtain ⟨r0wq,r1wq⟩:=zJ hreswq;have zr0wq:=zD hreswq 0;have zr1wq:=zD hreswq 1;obtain ⟨n0wq,n1wq⟩:=zJ hnonwq;have hRq:=zI (zI hreswq 0 (.int .i64 0)) 1 (.int .i64 0);have jq0:=zC hRq 0;have jq1:=zC hRq 1;go_wp2_with fail;refine bodyPost_ret (v:=.tuple #[.agg #[.int .i64 0,.int .i64 0],.bool false]) (by simp [results,Tryz.results86,go_sem,jq0,jq1]) rfl (RStPost.none_ ?_ (zA HF) (0,0) rfl);exact (hbwq.setCell (p:=⟨w.heap.size,0,none⟩) (Nat.le_refl _) _).setCell (p:=⟨w.heap.size,1,none⟩) (Nat.le_refl _) _
   ·have hq1:decide ((c:Int) < 1)=false:=by simp;omega
    by_cases hc2:F.cl.length < c
    ·have HF:Hid (zo F false ss [97] tl=none):=zF (by rw [zA HSP];unfold axR;rw [if_pos (Or.inr hc2)]);have hq2:decide (F.cl.length < c)=true:=(by simp;omega);have hq2':decide ((F.cl.length:Int) < (c:Int))=true:=(by simp;omega);clear hc1 hc2;go_wp2_with fail
     go_quiet (fail)
     generalize hgen:wr.drewN nq=wq;have hbwq:Below w.heap.size w wq:=(by rw [← hgen];exact below_drewN hb nq);have hreswq:wq.heap[w.heap.size]?=some (.cells #[.int .i64 0,.int .i64 0] 121 (0,0)):=(by rw [← hgen];exact hres);have hnonwq:wq.heap[w.heap.size + 1]?=some (.cells #[.int .i64 0,.int .i64 0] 121 (0,0)):=(by rw [← hgen];exact hnon);clear hgen;have hbswq:=zB hnonwq;have hbs0wq:=zB hreswq;obtain ⟨r0wq,r1wq⟩:=zJ hreswq;have zr0wq:=zD hreswq 0;have zr1wq:=zD hreswq 1;obtain ⟨n0wq,n1wq⟩:=zJ hnonwq;have hRq:=zI (zI hreswq 0 (.int .i64 0)) 1 (.int .i64 0);have jq0:=zC hRq 0;have jq1:=zC hRq 1;go_wp2_with fail;refine bodyPost_ret (v:=.tuple #[.agg #[.int .i64 0,.int .i64 0],.bool false]) (by simp [results,Tryz.results86,go_sem,jq0,jq1]) rfl (RStPost.none_ ?_ (zA HF) (0,0) rfl);exact (hbwq.setCell (p:=⟨w.heap.size,0,none⟩) (Nat.le_refl _) _).setCell (p:=⟨w.heap.size,1,none⟩) (Nat.le_refl _) _
    ·have hq2:decide (F.cl.length < c)=false:=(by simp;omega);have hq2':decide ((F.cl.length:Int) < (c:Int))=false:=(by simp;omega);go_wp2_with fail
     go_quiet (fail)
     generalize hgen:wr.drewN nq=wq;have hbwq:Below w.heap.size w wq:=(by rw [← hgen];exact below_drewN hb nq);have hreswq:wq.heap[w.heap.size]?=some (.cells #[.int .i64 0,.int .i64 0] 121 (0,0)):=(by rw [← hgen];exact hres);have hnonwq:wq.heap[w.heap.size + 1]?=some (.cells #[.int .i64 0,.int .i64 0] 121 (0,0)):=(by rw [← hgen];exact hnon);have kc0wq:wq.cell? ⟨gK,0,none⟩=some (.int .i64 (c:Nat)):=(by rw [← hgen];exact kc0);have x3wq:wq.cell? ⟨b,3,none⟩=some (.slice aC F.cl.length cC):=(by rw [← hgen];exact x3);clear hgen;have hbswq:=zB hnonwq;have hbs0wq:=zB hreswq;obtain ⟨r0wq,r1wq⟩:=zJ hreswq;have zr0wq:=zD hreswq 0;have zr1wq:=zD hreswq 1;obtain ⟨n0wq,n1wq⟩:=zJ hnonwq;have hgKq:gK < wq.heap.size:=zAm kc0wq;have hbwx:b < wq.heap.size:=zAm x3wq;obtain ⟨m,rfl⟩:∃ m,c=m + 1:=⟨c - 1,by omega⟩;have hm:m < F.cl.length:=(by omega);have HAP:Hid (zo F false ss [97] tl=zBt F.cl[m]):=zF (by rw [zA HSP];unfold axR;rw [if_neg (by omega),Nat.add_sub_cancel,zC6 _ _ _ hm]);obtain ⟨g2,rfl,hg2',hy0,hy1⟩:=zA HCELL m hm;have hx0:wq.cell? ⟨g2,m * 2,none⟩=some (.int .i64 (F.cl[m].1:Int)):=(by rw [hbwq.cell (p:=⟨g2,m * 2,none⟩) hg2'];exact hy0);have hx1:wq.cell? ⟨g2,m * 2 + 1,none⟩=some (.int .i64 (F.cl[m].2:Int)):=(by rw [hbwq.cell (p:=⟨g2,m * 2 + 1,none⟩) hg2'];exact hy1);have hlt9:=zA HBITS _ (List.getElem_mem hm);have hg2w:g2 < wq.heap.size:=zAm hx0;have hwm:IntKind.i64.wrap (m:Int)=(m:Int):=zBa m (by omega);have hwm2:wrap64 (m:Int)=(m:Int):=IntWalk.wrap64_in _ ⟨by omega,by omega⟩;have hmI:(m:Int) < (F.cl.length:Int):=Int.ofNat_lt.2 hm;clear hc1 hc2 hq1 hq2 hq2' hy0 hy1 HCELL HSEL HK HBITS HSB HST HWS HC0 hR0 x1 x3 kc0 r0 r1 zr0 zr1 n0 n1 hres hnon hb hc0 hgw1 hbw1 hbs0 hbs hgK;generalize F.cl[m]=c at *;obtain ⟨p,n⟩:=c;have hand:(bits .and .i64 (p:Int) (n:Int) == 0)=(p &&& n == 0):=(by rw [zBN _ _ (by have:=hlt9.1;dsimp only at this;omega) (by have:=hlt9.2;dsimp only at this;omega),zAN]);dsimp only at hx0 hx1;go_wp2_with fail
     go_region
     all_goals go_wp2_with fail
     generalize hgen:(wq.alloc (.cells #[.int .i64 (p:Int),.int .i64 (n:Int)] 121)).drew=wz;have hbwz:Below w.heap.size w wz:=(by rw [← hgen];exact (hbwq.alloc (Nat.le_of_lt hbs0wq) _).drew);have hreswz:wz.heap[w.heap.size]?=some (.cells #[.int .i64 0,.int .i64 0] 121 (0,0)):=(by rw [← hgen];exact (heap_alloc_old wq _ hbs0wq).trans hreswq);have hnonwz:wz.heap[w.heap.size + 1]?=some (.cells #[.int .i64 0,.int .i64 0] 121 (0,0)):=(by rw [← hgen];exact (heap_alloc_old wq _ hbswq).trans hnonwq);have hcz:wz.heap[wq.heap.size]?=some (.cells #[.int .i64 (p:Int),.int .i64 (n:Int)] 121 (0,0)):=(by rw [← hgen];exact heap_alloc_new wq _);clear hgen;have hbswz:=zB hnonwz;have hbs0wz:=zB hreswz;obtain ⟨r0wz,r1wz⟩:=zJ hreswz;have zr0wz:=zD hreswz 0;have zr1wz:=zD hreswz 1;obtain ⟨n0wz,n1wz⟩:=zJ hnonwz;obtain ⟨cz0,cz1⟩:=zJ hcz;have hczl:=zB hcz;have hne1:w.heap.size≠wq.heap.size:=(by omega);have hne2:wq.heap.size≠w.heap.size:=(by omega);clear hx0 hx1 kc0wq x3wq r0wq r1wq zr0wq zr1wq n0wq n1wq hreswq hnonwq
     go_region
     all_goals go_wp2_with fail
     all_goals
      have hRq:=zI (zI hreswz 0 (.int .i64 p)) 1 (.int .i64 n);have jq0:=zC hRq 0;have jq1:=zC hRq 1;refine bodyPost_ret (v:=.tuple #[.agg #[.int .i64 p,.int .i64 n],.bool (p &&& n == 0)]) (by simp [results,Tryz.results86,go_sem,jq0,jq1]) rfl ?_;have hB:Below w.heap.size w ((wz.setCell ⟨w.heap.size,0,none⟩ (.int .i64 p)).setCell ⟨w.heap.size,1,none⟩ (.int .i64 n)).drew:=((hbwz.setCell (p:=⟨w.heap.size,0,none⟩) (Nat.le_refl _) _).setCell (p:=⟨w.heap.size,1,none⟩) (Nat.le_refl _) _).drew
      cases hcl:(p &&& n == 0) with
      | false=>exact RStPost.none_ hB (by rw [zA HAP];unfold zBt;rw [if_neg (by simpa using hcl)]) (p,n) rfl
      | true=>exact RStPost.some_ hB (p,n) (by rw [zA HAP];unfold zBt;rw [if_pos (by simpa using hcl)]) rfl
theorem zSm (lo b:Nat) (F:zv) (ss:List (Nat × Nat)) (aS:Option Addr) (cS:Nat) (lS:Nat) (truth:Bool) (hd:List UInt8) (tl:List (List UInt8)) (g off cap:Nat) (w:World) (hIn:zF2 lo b F ss aS cS lS hd tl g off cap w) (hhd:hd=[99]) (htr:truth=true) :
  Calls Tryz.prog 86 #[.pointer (some ⟨b,0,none⟩),.slice aS ss.length cS,.slice (some ⟨g,off,none⟩) (tl.length + 1) cap,.bool truth] w fun e w'=>RStPost (zo F truth ss hd tl) w e w':=by
 have HHD:=zF hhd;have HTR:=zF htr;clear hhd htr;obtain ⟨hR,hF,hS,hSB,hSb,hs,hl,hcap,hws⟩:=hIn;obtain ⟨i0,hi,hz0,hz1,hz2⟩:=info_parts Tryz.info3;have hR0:=hR;obtain ⟨_,vO,vE,vC,hfb,_,_,hC⟩:=hR;obtain ⟨aC,cC,rfl⟩:=zN hC;have hbw:=zB hfb;obtain ⟨g',off',cur,he,hg,hcur⟩:=hs (by simp);injection he with he;injection he with e1 e2 e3;subst e1 e2;clear e3;have hgw:=zB hg;have HC0:Hid (∀ wx:World,Below w.heap.size w wx→wx.cell? ⟨g,off,none⟩=some (S hd)):=zF (fun wx hx=>by
  rw [hx.cell (p:=⟨g,off,none⟩) hgw,zC hg];exact hcur 0 (by simp))
 have HCJ:Hid (∀ (wx:World) (j:Nat) (hj:j < tl.length),Below w.heap.size w wx→wx.cell? ⟨g,off + (j + 1),none⟩=some (S tl[j])):=zF (fun wx j hj hx=>by
  rw [hx.cell (p:=⟨g,off + (j + 1),none⟩) hgw,zC hg];exact hcur (j + 1) (by simpa using hj))
 have HST:Hid (∀ (wx:World) (ao:Option Addr),Below w.heap.size w wx→(tl≠[]→ao=some ⟨g,off + 1,none⟩)→StrsAt wx ao tl):=zF (fun wx ao hx ho hne=>⟨g,off + 1,cur,ho hne,(hx.block _ hgw).trans hg,fun j hj=>by
  have h1:=hcur (1 + j) (by simp;omega);rw [← Nat.add_assoc] at h1;rw [h1];simp [show 1 + j=j + 1 from by omega]⟩)
 have HWS:=zF hws;clear hcur hws hs hg
 go_enter Tryz.func86,Tryz.ntmps86
 go_wp2_with fail
 go_loopg [11,12] tl.length (fun m v i wx=>∃ j:Nat,i=.int .i64 (j + 1)∧j + m=tl.length∧wx.ownsRow (w.heap.size + 2) 3 1 v j (zu (zG6 (tl.take j)))∧Below w.heap.size w wx∧
   wx.heap[w.heap.size]?=some (.cells #[.int .i64 0,.int .i64 0] 121 (0,0))∧wx.heap[w.heap.size + 1]?=some (.cells #[.int .i64 0,.int .i64 0] 121 (0,0)))
 case atStart=>exact ⟨0,rfl,by omega,World.ownsRow_nil _ _ _ _,((Below.refl _ _).alloc (Nat.le_refl _) _).alloc (by simp) _,by rw [heap_alloc_old _ _ (by simp)];exact heap_alloc_new _ _,zEn (by simp)⟩
 case round=>
  obtain ⟨j,rfl,hj,hown,hb,hres,hnon⟩:=hrel;have hbs:=zB hnon
  by_cases hlt:j < tl.length
  ·have hcj:=zA HCJ wr j hlt hb;have hxl:=zA HWS _ (List.getElem_mem hlt);have HT:=zF (zEY tl j hlt);have hgw1:g < wr.heap.size:=(by omega);generalize tl[j]=x at *;go_wp2_with fail;refine (zEi x 1048576 wr hxl (by omega)).mono ?_;rintro e w1 ⟨rfl,hw1⟩;subst hw1;rw [show cnt x 1048576=cnt x big from rfl]
   go_wp2_with (at_builtin;refine zV rfl _ _ 25 rfl (w.heap.size + 2) i0 (.int .i64 0) 1 8 Tryz.underlying25 hi hz0 hz1 hz2 rfl (by decide) _ _ _ hown rfl rfl rfl (by simp [Value.oneCell']) (by unfold maxLen;omega) (by omega) (by omega) ?_;intro v' w2 hown' hgrow hnn)
   go_roundg (gk - 1)
   case measure=>omega
   case rel=>
    have hlto:=hown.lt;refine ⟨j + 1,by go_num,by omega,by rw [zA HT];exact hown',za hb hgrow hown (by omega) (by omega),?_,?_⟩
    ·rw [hgrow.block _ (by omega) (fun e=>by have:=hlto _ e.symm;omega)];exact hres
    ·rw [hgrow.block _ (by omega) (fun e=>by have:=hlto _ e.symm;omega)];exact hnon
  ·have hjl:j=tl.length:=(by omega);subst hjl;rw [List.take_length] at hown;clear hj hlt hi hz0 hz1 hz2 HCJ;obtain ⟨aK,cK,rfl⟩:=zN hown;have hc0:=zA HC0 wr hb;have hgw1:g < wr.heap.size:=(by omega);have hbw1:b < wr.heap.size:=(by omega);have hbs0:w.heap.size < wr.heap.size:=(by omega);have r0:wr.cell? ⟨w.heap.size,0,none⟩=some (.int .i64 0):=zE hres rfl;have r1:wr.cell? ⟨w.heap.size,1,none⟩=some (.int .i64 0):=zE hres rfl;have zr0:=zD hres 0;have zr1:=zD hres 1;have n0:wr.cell? ⟨w.heap.size + 1,0,none⟩=some (.int .i64 0):=zE hnon rfl;have n1:wr.cell? ⟨w.heap.size + 1,1,none⟩=some (.int .i64 0):=zE hnon rfl;have x1:wr.cell? ⟨b,1,none⟩=some (.int .i64 F.all):=(by rw [hb.cell (p:=⟨b,1,none⟩) hbw,zC hfb];rfl);have x3:wr.cell? ⟨b,3,none⟩=some (.slice aC F.cl.length cC):=(by rw [hb.cell (p:=⟨b,3,none⟩) hbw,zC hfb];rfl);have HK:Hid (∀ (i:Nat) (hi:i < tl.length),∃ gK,aK=some ⟨gK,0,none⟩∧gK < wr.heap.size∧wr.cell? ⟨gK,i,none⟩=some (.int .i64 (cnt tl[i] big:Nat))∧tl.length≤cK):=zF (fun i hi=>by
    obtain ⟨gK,capK,hVe,_,hg',hcap',hcell⟩:=zS hown (by omega);injection hVe with hVe _ hV2;subst hVe hV2;exact ⟨gK,rfl,hg',hcell _ _ (by unfold zu zG6;simp [hi]),hcap'⟩)
   have HBITS:=zF hF.bits;have hc24:=hF.cl;have hall:=hF.all;have HSB:=zF hSb;have HCELL:Hid (∀ (m:Nat) (hm:m < F.cl.length),∃ g2,aC=some ⟨g2,0,none⟩∧g2 < w.heap.size∧w.cell? ⟨g2,m * 2,none⟩=some (.int .i64 (F.cl[m].1:Int))∧w.cell? ⟨g2,m * 2 + 1,none⟩=some (.int .i64 (F.cl[m].2:Int))):=zF (fun m hm=>by
    obtain ⟨g2,cap2,hVe,hg2,hg2',_,hcell⟩:=zS hC (by omega);injection hVe with hVe _ hV2;subst hVe hV2;obtain ⟨hpa,hpb⟩:=zAc F.cl m hm;exact ⟨g2,rfl,hg2',hcell _ _ hpa,hcell _ _ hpb⟩)
   have HSEL:Hid (∀ (m:Nat) (hm:m < ss.length),∃ g2,aS=some ⟨g2,0,none⟩∧g2 < w.heap.size∧w.cell? ⟨g2,m * 2,none⟩=some (.int .i64 (ss[m].1:Int))∧w.cell? ⟨g2,m * 2 + 1,none⟩=some (.int .i64 (ss[m].2:Int))):=zF (fun m hm=>by
    obtain ⟨g2,cap2,hVe,hg2,hg2',_,hcell⟩:=zS hS (by omega);injection hVe with hVe _ hV2;subst hVe hV2;obtain ⟨hpa,hpb⟩:=zAc ss m hm;exact ⟨g2,rfl,hg2',hcell _ _ hpa,hcell _ _ hpb⟩)
   have HFW:=zF hF;clear hSb hown hC hfb hS hF;have hhd:=zA HHD;have htr:=zA HTR;subst hhd htr;have HSP:Hid (zo F true ss [99] tl=zDH F tl):=zF (by unfold zo;rw [if_neg (by simp),if_pos ⟨rfl,rfl⟩]);go_wp2_with fail
   all_goals
    refine (zRe lo b F tl _ _ wr (hR0.later hb) (zA HFW) (zA HST wr _ hb (fun hne=>by first | rfl | (exfalso;apply hne;exact List.eq_nil_of_length_eq_zero (by omega)))) (by omega) (zA HWS)).mono ?_;rintro e w1 ⟨hb1,c,ok,rfl,hok⟩;obtain ⟨p,n⟩:=c;have HOK:=zF hok;clear hok;have hr1:=(hb1.block _ hbs0).trans hres;have hB1:Below w.heap.size w w1:=hb.trans (hb1.mono hb.size);have q0:w1.cell? ⟨w.heap.size,0,none⟩=some (.int .i64 0):=zE hr1 rfl;have q1:w1.cell? ⟨w.heap.size,1,none⟩=some (.int .i64 0):=zE hr1 rfl;have y0:=zD hr1 0;have y1:=zD hr1 1;have hRq:=zI (zI hr1 0 (.int .i64 p)) 1 (.int .i64 n);have jq0:=zC hRq 0;have jq1:=zC hRq 1;dsimp only;go_wp2_with fail;refine bodyPost_ret (v:=.tuple #[.agg #[.int .i64 p,.int .i64 n],.bool ok]) (by simp [results,Tryz.results86,go_sem,jq0,jq1]) rfl ⟨?_,(p,n),ok,rfl,by rw [zA HSP];exact zA HOK⟩;exact (hB1.setCell (p:=⟨w.heap.size,0,none⟩) (Nat.le_refl _) _).setCell (p:=⟨w.heap.size,1,none⟩) (Nat.le_refl _) _
end Go.Proofs.YtgipjjhkhfihpaaGreatDoor
