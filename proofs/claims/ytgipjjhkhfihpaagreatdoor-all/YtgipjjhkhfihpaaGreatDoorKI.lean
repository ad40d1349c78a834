import Derived.Test.YtgipjjhkhfihpaaGreatDoorKB
import Derived.Test.YtgipjjhkhfihpaaGreatDoorKE
import Derived.Deep.QuietTactic
import Derived.BigQuiet
import Derived.Test.YtgipjjhkhfihpaaGreatDoorKC
set_option maxRecDepth 100000
set_option maxHeartbeats 6400000
namespace Go.Proofs.YtgipjjhkhfihpaaGreatDoor
open Go.RowKit
theorem Tryz.infoInts:(Tryz.prog.info? 25).map (fun i=>(i.zero,i.size,i.bytes))=some (some (.slice none 0 0),1,24):=by kernel_rfl
structure RowsAt (base:Nat) (w:World) (bs:List (List Nat)) (hdrs:List Value):Prop where
 len:hdrs.length=bs.length
 row:∀ j (hj:j < bs.length),w.ownsRow base 3 1 (hdrs[j]'(by omega)) bs[j].length (zu bs[j])∧bs[j]≠[]
 apart:∀ i j (hi:i < hdrs.length) (hj:j < hdrs.length),i≠j→apart hdrs[i] hdrs[j]
structure BInv (base:Nat) (w:World) (bs:List (List Nat)) (cur:List Nat) (hdrs:List Value) (vB vb:Value):Prop where
 rows:RowsAt base w bs hdrs
 oB:w.ownsRow base 25 1 vB bs.length hdrs
 ob:w.ownsRow base 3 1 vb cur.length (zu cur)
 ap:∀ j (hj:j < hdrs.length),apart vb hdrs[j]
theorem RowsAt.later {base:Nat} {w w':World} {bs:List (List Nat)} {hdrs:List Value} (h:RowsAt base w bs hdrs) (hb:Below w.heap.size w w'):RowsAt base w' bs hdrs:=
 ⟨h.len,fun j hj=>⟨zO (h.row j hj).1 hb,(h.row j hj).2⟩,h.apart⟩
theorem BInv.later {base:Nat} {w w':World} {bs:List (List Nat)} {cur:List Nat} {hdrs:List Value} {vB vb:Value} (h:BInv base w bs cur hdrs vB vb) (hb:Below w.heap.size w w'):BInv base w' bs cur hdrs vB vb:=
 ⟨h.rows.later hb,zO h.oB hb,zO h.ob hb,h.ap⟩
theorem BInv.push_block {base:Nat} {w w':World} {bs:List (List Nat)} {cur:List Nat} {hdrs:List Value} {vB vb v':Value} (h:BInv base w bs cur hdrs vB vb) (hc:cur≠[]) (hg:w.grownBy w' vB.ownBlock)
  (hown:w'.ownsRow base 25 1 v' (bs.length + 1) (hdrs ++ [vb])):BInv base w' (bs ++ [cur]) [] (hdrs ++ [vb]) v' (.slice none 0 0):=by
 have hl:=h.rows.len;have kb:=zA3 h.ob (Below.refl _ _) h.oB hg (by decide);refine ⟨⟨by simp [hl],?_,?_⟩,by simpa using hown,World.ownsRow_nil _ _ _ _,fun _ _=>zEf _⟩
 ·intro j hj
  by_cases hjl:j < bs.length
  ·have:=h.rows.row j hjl
   simp only [List.getElem_append_left hjl,List.getElem_append_left (show j < hdrs.length by omega)];exact ⟨zA3 this.1 (Below.refl _ _) h.oB hg (by decide),this.2⟩
  ·have hje:j=bs.length:=(by simp at hj;omega);subst hje;simp only [List.getElem_concat_length];rw [show (hdrs ++ [vb])[bs.length]'(by simp;omega)=vb from by simp [← hl]];exact ⟨kb,hc⟩
 ·intro i j hi hj hij
  by_cases hil:i < hdrs.length
  ·by_cases hjl:j < hdrs.length
   ·simp only [List.getElem_append_left hil,List.getElem_append_left hjl];exact h.rows.apart i j hil hjl hij
   ·have hje:j=hdrs.length:=(by simp at hj;omega);subst hje;simp only [List.getElem_append_left hil,List.getElem_concat_length];exact (h.ap i hil).symm
  ·have hie:i=hdrs.length:=(by simp at hi;omega);subst hie;have hjl:j < hdrs.length:=(by simp at hj;omega);simp only [List.getElem_append_left hjl,List.getElem_concat_length];exact h.ap j hjl
theorem BInv.push_var {base:Nat} {w w':World} {bs:List (List Nat)} {cur:List Nat} {hdrs:List Value} {vB vb v':Value} {x:Nat} (h:BInv base w bs cur hdrs vB vb) (hg:w.grownBy w' vb.ownBlock)
  (hown:w'.ownsRow base 3 1 v' (cur.length + 1) (zu cur ++ [.int .i64 (x:Int)])) (hat:v'.ownBlock=vb.ownBlock∨∃ k,v'.ownBlock=some k∧w.heap.size≤k):BInv base w' bs (cur ++ [x]) hdrs vB v':=by
 refine ⟨⟨h.rows.len,fun j hj=>⟨?_,(h.rows.row j hj).2⟩,h.rows.apart⟩,zA3 h.oB (Below.refl _ _) h.ob hg (by decide),by simpa [zu] using hown,fun j hj=>?_⟩
 ·have hl:=h.rows.len;exact (h.rows.row j hj).1.kept hg (h.ap j (by omega)).symm.keep
 ·have hl:=h.rows.len;exact (h.ap j hj).grown (h.rows.row j (by omega)).1 hat
theorem zQQ {w w':World} {v:Value} {base n size g:Nat} {e t:TypeId} {xs:List Value} {cs:Array Value} (hg:w.grownBy w' v.ownBlock) (ho:w.ownsRow base e size v n xs) (hb:w.heap[g]?=some (.cells cs t (0,0))) (he:t≠e):w'.heap[g]?=some (.cells cs t (0,0)):=by
 rw [hg.block g (zB hb) (fun eq=>by
  rcases ho.2 with ⟨rfl,_⟩ | ⟨g',cap,cur',rfl,_,hh,_⟩
  ·simp [Value.ownBlock] at eq
  ·simp [Value.ownBlock] at eq;subst eq;rw [hb] at hh;simp at hh;exact he hh.2)]
 exact hb
theorem zNX (vs:List (Nat × Bool)) (k:Nat):(zq vs k).1.length≤k∧(zq vs k).2.length≤k:=by
 induction k with
 | zero=>simp [zq]
 | succ k ih=>
  rw [zq]
  split<;>simp<;>omega
def zEF (vs:List (Nat × Bool)) (w:World) (e:Ending) (w':World):Prop:=
 ∃ v hdrs,e=.returned v∧w'.ownsRow w.heap.size 25 1 v (zG vs).length hdrs∧RowsAt w.heap.size w' (zG vs) hdrs∧Below w.heap.size w w'
theorem zHs (base b:Nat) (q:QS) (w:World) (aV:Option Addr) (cV:Nat) (hf:w.cell? ⟨b,0,none⟩=some (.slice aV q.vars.length cV)) (hb:b < w.heap.size) (hV:w.ownsRow base 139 2 (.slice aV q.vars.length cV) q.vars.length (zd q.vars)) (hl:q.vars.length≤1048576) :
  Calls Tryz.prog 49 #[.pointer (some ⟨b,0,none⟩)] w fun e w'=>zEF q.vars w e w':=by
 obtain ⟨i3,hi3,hz30,hz31,hz32⟩:=info_parts Tryz.info3;obtain ⟨i5,hi5,hz50,hz51,hz52⟩:=info_parts Tryz.infoInts
 go_enter Tryz.func49,Tryz.ntmps49
 go_wp2_with fail
 go_loopg [3,4,12] (q.vars.length) (fun n vB vb i wx=>∃ (k:Nat) (hdrs:List Value),i=.int .i64 k∧k + n=q.vars.length∧BInv w.heap.size wx (zq q.vars k).1 (zq q.vars k).2 hdrs vB vb∧Below w.heap.size w wx)
 case atStart=>exact ⟨0,[],rfl,by omega,⟨⟨rfl,fun j hj=>by simp [zq] at hj,fun i j hi=>by simp at hi⟩,World.ownsRow_nil _ _ _ _,World.ownsRow_nil _ _ _ _,fun j hj=>by simp at hj⟩,Below.refl _ _⟩
 case round=>
  obtain ⟨k,hdrs,rfl,hk,hB,hbx⟩:=hrel;have hbs:=hbx.size;obtain ⟨gl1,gl2⟩:=zNX q.vars k
  by_cases hlt:k < q.vars.length
  ·obtain ⟨g,cap,hVe,hg,hg',_,hcell⟩:=zS hV (by omega);injection hVe with hVe _ hV2;subst hVe hV2;have hgw:g < wr.heap.size:=(by omega);have hbw:b < wr.heap.size:=(by omega);obtain ⟨ha,hb'⟩:=zCG q.vars k hlt;have hx0:wr.cell? ⟨g,k * 2,none⟩=some (.int .i64 (q.vars[k].1:Int)):=(by rw [hbx.cell (p:=⟨g,k * 2,none⟩) hg'];exact hcell _ _ ha);have hx1:wr.cell? ⟨g,k * 2 + 1,none⟩=some (.bool q.vars[k].2):=(by rw [hbx.cell (p:=⟨g,k * 2 + 1,none⟩) hg'];exact hcell _ _ hb');have hf1:wr.cell? ⟨b,0,none⟩=some (.slice (some ⟨g,0,none⟩) q.vars.length cV):=(by rw [hbx.cell (p:=⟨b,0,none⟩) hb];exact hf);have hdk:decide ((k:Int) < (q.vars.length:Int))=true:=(by simp;omega);have HG:Hid (zq q.vars (k + 1)=if zDN q.vars k then ((zq q.vars k).1 ++ [(zq q.vars k).2],[q.vars[k].1]) else ((zq q.vars k).1,(zq q.vars k).2 ++ [q.vars[k].1])):=zF (by
    rw [zq];simp [List.getD,hlt])
   by_cases h0:0 < k
   ·obtain ⟨ha1,hb1⟩:=zCG q.vars (k - 1) (by omega);have hy1:wr.cell? ⟨g,(k - 1) * 2 + 1,none⟩=some (.bool q.vars[k - 1].2):=(by rw [hbx.cell (p:=⟨g,(k - 1) * 2 + 1,none⟩) hg'];exact hcell _ _ hb1);have hd0:decide (0 < k)=true:=(by simpa using h0);have HN:Hid (zDN q.vars k=(q.vars[k].2 != q.vars[k - 1].2)):=zF (by
     unfold zDN zEQ;simp [List.getD,hlt,show k - 1 < q.vars.length by omega,h0])
    have hcur:(zq q.vars k).2≠[]:=by
     intro e
     have:=zI3 q.vars (k - 1)
     rw [show k - 1 + 1=k from by omega,e] at this;simp at this
    clear hcell ha hb' ha1 hb1;generalize zq q.vars k=G at *;obtain ⟨bs,cur⟩:=G;dsimp only at hB gl1 gl2 hcur;generalize q.vars[k - 1]=y at *;generalize q.vars[k]=x at *;obtain ⟨x1,x2⟩:=x;obtain ⟨y1,y2⟩:=y;dsimp only at hx0 hx1 hy1;have hbelA:∀ nq,Below wr.heap.size wr ((wr.alloc (.cells #[.int .i64 (x1:Int),.bool x2] 139)).drewN nq):=fun nq=>below_drewN ((Below.refl _ _).alloc (Nat.le_refl _) _) nq
    have hcvA:∀ nq,((wr.alloc (.cells #[.int .i64 (x1:Int),.bool x2] 139)).drewN nq).heap[wr.heap.size]?=some (.cells #[.int .i64 (x1:Int),.bool x2] 139 (0,0)):=fun nq=>heap_alloc_new wr _
    have HBA:=zF hbelA;have HCA:=zF hcvA;clear hbelA hcvA
    cases hxy:(x2 != y2) with
    | false=>
     have HN2:Hid (zDN q.vars k=false):=zF (by rw [zA HN];exact hxy);have HXY:=zF hxy;clear hxy
     cases x2<;>cases y2<;>first | (exfalso;exact absurd (zA HXY) (by decide)) | skip
     all_goals
      go_wp2_with fail
      go_quiet (fail)
      have hb1:=zA HBA nq;have hc1:=zA HCA nq;generalize World.drewN _ nq=W at *;have hBW:=hB.later hb1;have hbW:Below w.heap.size w W:=hbx.trans (hb1.mono hbs);have hbWs:=hbW.size;have hcv:W.cell? ⟨wr.heap.size,0,none⟩=some (.int .i64 (x1:Int)):=zE hc1 rfl
      go_wp2_with (at_builtin;refine zp rfl (.tmp 37) (.tmp 40) 25 rfl w.heap.size i3 (.int .i64 0) 1 8 Tryz.underlying25 hi3 hz30 hz31 hz32 rfl (by decide) _ _ _ hBW.ob rfl rfl rfl (by simp [Value.oneCell']) (by unfold maxLen;omega) (by omega) hbWs ?_;intro v5 w5 hown5 hgrow5 hat5)
      go_roundg (gk - 1)
      case measure=>omega
      case rel=>
       refine ⟨k + 1,hdrs,by go_num,by omega,?_,za hbW hgrow5 hBW.ob (Nat.le_refl _) hbWs⟩;rw [zA HG,zA HN2,if_neg (by decide)];exact hBW.push_var hgrow5 hown5 hat5
    | true=>
     have HN2:Hid (zDN q.vars k=true):=zF (by rw [zA HN];exact hxy);have HXY:=zF hxy;clear hxy;have hcl:0 < cur.length:=List.length_pos_iff.2 hcur
     cases x2<;>cases y2<;>first | (exfalso;exact absurd (zA HXY) (by decide)) | skip
     all_goals
      go_wp2_with fail
      go_quiet (fail)
      have hb1:=zA HBA nq;have hc1:=zA HCA nq;generalize World.drewN _ nq=W at *;have hBW:=hB.later hb1;have hbW:Below w.heap.size w W:=hbx.trans (hb1.mono hbs);have hbWs:=hbW.size;obtain ⟨gb,capb,rfl,_,_,_,_⟩:=zS hBW.ob hcl
      go_wp2_with (first | (at_builtin;refine zp rfl (.tmp 33) (.tmp 35) 45 rfl w.heap.size i5 (.slice none 0 0) 1 24 Tryz.underlying45 hi5 hz50 hz51 hz52 rfl (by decide) _ _ _ hBW.oB rfl rfl rfl (by simp [Value.oneCell']) (by unfold maxLen;omega) (by omega) hbWs ?_;intro v4 w4 hown4 hgrow4 hat4;have hB4:=hBW.push_block hcur hgrow4 hown4;have hc4:=zQQ hgrow4 hBW.oB hc1 (by decide);have hcv:w4.cell? ⟨wr.heap.size,0,none⟩=some (.int .i64 (x1:Int)):=(by rw [zC hc4];rfl);have hb4:=za hbW hgrow4 hBW.oB (Nat.le_refl _) hbWs;have hb4s:=hb4.size) | (at_builtin;refine zp rfl (.tmp 37) (.tmp 40) 25 rfl w.heap.size i3 (.int .i64 0) 1 8 Tryz.underlying25 hi3 hz30 hz31 hz32 rfl (by decide) _ _ _ hB4.ob rfl rfl rfl (by simp [Value.oneCell']) (by unfold maxLen;simp) (by simp) hb4s ?_;intro v5 w5 hown5 hgrow5 hat5))
      go_roundg (gk - 1)
      case measure=>omega
      case rel=>
       refine ⟨k + 1,hdrs ++ [.slice (some ⟨gb,0,none⟩) cur.length capb],by go_num,by omega,?_,za hb4 hgrow5 hB4.ob (Nat.le_refl _) hb4s⟩;rw [zA HG,zA HN2,if_pos rfl];exact hB4.push_var hgrow5 hown5 hat5
   ·have hd0:decide (0 < k)=false:=(by simpa using h0);have HN2:Hid (zDN q.vars k=false):=zF (by unfold zDN;rw [hd0];rfl);clear hcell ha hb' h0;generalize zq q.vars k=G at *;obtain ⟨bs,cur⟩:=G;dsimp only at hB gl1 gl2;generalize q.vars[k]=x at *;obtain ⟨x1,x2⟩:=x;dsimp only at hx0 hx1;have HBA:Hid (∀ nq,Below wr.heap.size wr ((wr.alloc (.cells #[.int .i64 (x1:Int),.bool x2] 139)).drewN nq)):=zF (fun nq=>below_drewN ((Below.refl _ _).alloc (Nat.le_refl _) _) nq);have HCA:Hid (∀ nq,((wr.alloc (.cells #[.int .i64 (x1:Int),.bool x2] 139)).drewN nq).heap[wr.heap.size]?=some (.cells #[.int .i64 (x1:Int),.bool x2] 139 (0,0))):=zF (fun nq=>heap_alloc_new wr _);go_wp2_with fail
    go_quiet (fail)
    have hb1:=zA HBA nq;have hc1:=zA HCA nq;generalize World.drewN _ nq=W at *;have hBW:=hB.later hb1;have hbW:Below w.heap.size w W:=hbx.trans (hb1.mono hbs);have hbWs:=hbW.size;have hcv:W.cell? ⟨wr.heap.size,0,none⟩=some (.int .i64 (x1:Int)):=zE hc1 rfl
    go_wp2_with (at_builtin;refine zp rfl (.tmp 37) (.tmp 40) 25 rfl w.heap.size i3 (.int .i64 0) 1 8 Tryz.underlying25 hi3 hz30 hz31 hz32 rfl (by decide) _ _ _ hBW.ob rfl rfl rfl (by simp [Value.oneCell']) (by unfold maxLen;omega) (by omega) hbWs ?_;intro v5 w5 hown5 hgrow5 hat5)
    go_roundg (gk - 1)
    case measure=>omega
    case rel=>
     refine ⟨k + 1,hdrs,by go_num,by omega,?_,za hbW hgrow5 hBW.ob (Nat.le_refl _) hbWs⟩;rw [zA HG,zA HN2,if_neg (by decide)];exact hBW.push_var hgrow5 hown5 hat5
  ·have hkl:k=q.vars.length:=(by omega);subst hkl;have hdk:decide ((q.vars.length:Int) < (q.vars.length:Int))=false:=(by simp);obtain ⟨pb,hpb⟩:∃ pb,zG q.vars=pb:=⟨_,rfl⟩;have hpb2:=hpb;unfold zG at hpb2;have HPB:=zF hpb;have HPB2:=zF hpb2;clear hpb hpb2;generalize zq q.vars q.vars.length=G at *;obtain ⟨bs,cur⟩:=G;dsimp only at hB gl1 gl2
   by_cases hc:0 < cur.length
   ·have hdc:decide (0 < cur.length)=true:=(by simpa using hc);have HP:Hid (zG q.vars=bs ++ [cur]):=zF (by rw [zA HPB,← zA HPB2];exact if_pos hc);obtain ⟨gb,capb,rfl,_,_,_,_⟩:=zS hB.ob hc;have hcur:cur≠[]:=List.length_pos_iff.1 hc
    go_wp2_with (at_builtin;refine zp rfl (.tmp 46) (.tmp 48) 45 rfl w.heap.size i5 (.slice none 0 0) 1 24 Tryz.underlying45 hi5 hz50 hz51 hz52 rfl (by decide) _ _ _ hB.oB rfl rfl rfl (by simp [Value.oneCell']) (by unfold maxLen;omega) (by omega) hbs ?_;intro v4 w4 hown4 hgrow4 hat4)
    go_ret;have hB4:=hB.push_block hcur hgrow4 hown4;refine ⟨v4,hdrs ++ [.slice (some ⟨gb,0,none⟩) cur.length capb],rfl,?_,?_,za hbx hgrow4 hB.oB (Nat.le_refl _) hbs⟩
    ·rw [zA HP];exact hB4.oB
    ·rw [zA HP];exact hB4.rows
   ·have hdc:decide (0 < cur.length)=false:=(by simpa using hc);have HP:Hid (zG q.vars=bs):=zF (by rw [zA HPB,← zA HPB2];exact if_neg hc);obtain ⟨ab,cb,rfl⟩:=zN hB.ob;go_wp2_with fail;go_ret;refine ⟨_,hdrs,rfl,?_,?_,hbx⟩
    ·rw [zA HP];exact hB.oB
    ·rw [zA HP];exact hB.rows
def zGx (n:Nat) (x:Int):Array Value:=(List.replicate n (Value.int .i64 x)).toArray
def zCA (cur:Array Value) (i:Nat) (x:Int):Array Value:=(List.replicate i (Value.int .i64 x) ++ cur.toList.drop i).toArray
theorem zIK (cur:Array Value) (x:Int):zCA cur 0 x=cur:=by simp [zCA]
theorem zJA (cur:Array Value) (x:Int):zCA cur cur.size x=zGx cur.size x:=by
 unfold zCA zGx;rw [List.drop_of_length_le (by simp)];simp
theorem zIW (cur:Array Value) (i:Nat) (x:Int) (h:i≤cur.size):(zCA cur i x).size=cur.size:=by
 simp [zCA];omega
theorem zIf (cur:Array Value) (i:Nat) (x:Int) (h:i < cur.size):(zCA cur i x).setIfInBounds i (.int .i64 x)=zCA cur (i + 1) x:=by
 unfold zCA
 apply Array.ext'
 rw [Array.toList_setIfInBounds];simp only;rw [List.set_append_right _ _ (by simp)];simp only [List.length_replicate,Nat.sub_self];rw [List.drop_eq_getElem_cons (by simpa using h),List.set_cons_zero,List.replicate_succ',List.append_assoc];rfl
theorem Tryz.info25:(Tryz.prog.info? 25).map (fun i=>(i.zero,i.size,i.bytes))=some (some (.slice none 0 0),1,24):=by kernel_rfl
structure zIL (bw g:Nat) (cap:Nat) (nls:Nat) (hdrs:List Value) (vls:Value) (text:List UInt8) (px pf:Option Addr) (proof:List UInt8) (c4 c6:Value) (w:World) (e:Ending) (w':World):Prop where
 ret:e=.returned (.tuple #[])
 only:Only (fun k=>k=bw∨k=g∨vls.ownBlock=some k) w w'
 row:w'.heap[g]?=some (.cells (zGx cap (-10 - (nls:Int))) 3 (0,0))
 at_:∃ vls',WAt w' bw text px pf proof c4 vls' c6∧w'.ownsRow (bw + 1) 25 1 vls' (nls + 1) (hdrs ++ [.slice (some ⟨g,0,none⟩) cap cap])∧(vls'.ownBlock=vls.ownBlock∨∃ k,vls'.ownBlock=some k∧w.heap.size≤k)
theorem zMK (bw g n cap:Nat) (cur:Array Value) (nls:Nat) (hdrs:List Value) (vls:Value) (text:List UInt8) (px pf:Option Addr) (proof:List UInt8) (c4 c6:Value) (w:World)
  (hw:WAt w bw text px pf proof c4 vls c6) (hg:w.heap[g]?=some (.cells cur 3 (0,0))) (hcs:cur.size=cap) (hnc:n≤cap) (hcm:cap≤maxLen) (hls:w.ownsRow (bw + 1) 25 1 vls nls hdrs) (hnl:nls≤1073741824) :
  Calls Tryz.prog 39 #[.pointer (some ⟨bw,0,none⟩),.slice (some ⟨g,0,none⟩) n cap] w fun e w'=>zIL bw g cap nls hdrs vls text px pf proof c4 c6 w e w':=by
 have hbw:bw < w.heap.size:=zB hw;have hgs:g < w.heap.size:=zB hg;have hne:g≠bw:=by
  intro e;subst e;unfold WAt at hw;rw [hg] at hw;simp at hw
 have hapart:vls.ownBlock≠some g:=fun e=>by
  rcases hls.2 with ⟨rfl,_⟩ | ⟨g',c',cur',rfl,_,hh,_⟩
  ·simp [Value.ownBlock] at e
  ·simp [Value.ownBlock] at e;subst e;rw [hg] at hh;simp at hh
 have hapw:vls.ownBlock≠some bw:=fun e=>by have:=hls.lt _ e;omega
 have HCS:=zF hcs;clear hcs;obtain ⟨al,cl,rfl⟩:=zN hls;have hcm':=hcm;unfold maxLen at hcm;obtain ⟨i0,hi,hz0,hz1,hz2⟩:=info_parts Tryz.info25;have h5:w.cell? ⟨bw,5,none⟩=some (.slice al nls cl):=zE hw rfl
 go_enter Tryz.func39,Tryz.ntmps39
 go_wp2_with fail
 go_loopg [4] cap (fun q i wx=>∃ k:Nat,i=.int .i64 k∧k + q=cap∧Only (·=g) w wx∧wx.heap[g]?=some (.cells (zCA cur k (-10 - (nls:Int))) 3 (0,0)))
 case atStart=>exact ⟨0,rfl,by omega,Only.refl _ _,by rw [zIK];exact hg⟩
 case round=>
  obtain ⟨k,rfl,hk,ho,hgx⟩:=hrel;have hwx:WAt wr bw text px pf proof c4 (.slice al nls cl) c6:=(ho.block bw hbw (fun e=>hne e.symm)).trans hw;have k5:wr.cell? ⟨bw,5,none⟩=some (.slice al nls cl):=zE hwx rfl
  by_cases hlt:k < cap
  ·have hsz:=zIW cur k (-10 - (nls:Int)) (by have:=zA HCS;omega);obtain ⟨u,hu⟩:∃ u,wr.cell? ⟨g,k,none⟩=some u:=by
    rw [zC hgx];exact ⟨_,Array.getElem?_eq_getElem (by rw [hsz];have:=zA HCS;omega)⟩
   have hz:=zD hgx k;have HHS:=zF (zIf cur k (-10 - (nls:Int)) (by have:=zA HCS;omega));have HST:=zF (zI hgx k (.int .i64 (-10 - (nls:Int))));clear hsz;go_wp2_with fail
   go_roundg (gk - 1)
   case measure=>omega
   case rel=>exact ⟨k + 1,by go_num,by omega,ho.setAt _ _,by rw [← zA HHS];exact zA HST⟩
  ·have hkl:k=cap:=(by omega);subst hkl;have hgm:wr.heap[g]?=some (.cells (zGx k (-10 - (nls:Int))) 3 (0,0)):=by
    have h1:=zJA cur (-10 - (nls:Int));rw [zA HCS] at h1;rw [← h1];exact hgx
   have hlsx:wr.ownsRow (bw + 1) 25 1 (.slice al nls cl) nls hdrs:=hls.kept (row:=some g) ⟨ho.os,ho.tape,ho.output,ho.size,fun j hj hne=>ho.block j hj (fun e=>hne (by rw [e]))⟩ (Or.inr hapart);have hbs:bw + 1≤wr.heap.size:=by have:=ho.size;omega
   go_wp2_with (at_builtin;refine zp rfl (.tmp 28) (.tmp 30) 45 rfl (bw + 1) i0 (.slice none 0 0) 1 24 Tryz.underlying45 hi hz0 hz1 hz2 rfl (by decide) _ _ _ hlsx rfl rfl rfl (by simp [Value.oneCell']) (by unfold maxLen;omega) (by omega) hbs ?_;intro v' w4 hown4 hgrow hat;have hw4:WAt w4 bw text px pf proof c4 (.slice al nls cl) c6:=(hgrow.block bw (zB hwx) (fun e=>hapw e.symm)).trans hwx;obtain ⟨g3,cap3,rfl,hg3,hg3',hcap3,hcell3⟩:=zS hown4 (by omega);have hq5:w4.cell? ⟨bw,5,none⟩=some (.slice al nls cl):=(by rw [zC hw4];rfl);have hqz:=zD hw4 5)
   go_end0
   refine ⟨rfl,?_,?_,_,zI hw4 5 _,ownsRow_setCell_below hown4 (a:=⟨bw,5,none⟩) (Nat.lt_succ_self bw) _,?_⟩
   ·refine Only.setCell ?_ (p:=⟨bw,5,none⟩) (Or.inl (Or.inl rfl)) _;exact (ho.mono (fun k _ h=>Or.inr (Or.inl h))).grown hgrow (fun k hk=>Or.inl (Or.inr (Or.inr hk)))
   ·rw [Below.heap_setCell _ _ _ _ hne];rw [hgrow.block g (zB hgm) (fun e=>hapart e.symm)];exact hgm
   ·rcases hat with h | ⟨k',h1,h2⟩
    ·exact Or.inl h
    ·exact Or.inr ⟨k',h1,by have:=ho.size;omega⟩
def LsAt (w:World) (hdrs:List Value):Prop:=∀ i (hi:i < hdrs.length),∃ g n,hdrs[i]=.slice (some ⟨g,0,none⟩) n n∧n≤maxLen∧w.heap[g]?=some (.cells (zGx n (-10 - (i:Int))) 3 (0,0))
def LssAt (w:World) (hdrs:List Value):Prop:=∀ i (hi:i < hdrs.length),hdrs[i]=.slice none 0 0∨∃ h n cs,hdrs[i]=.slice (some ⟨h,0,none⟩) n n∧n≤maxLen∧w.heap[h]?=some (.cells cs 25 (0,0))∧
 ∀ k,k < n→∃ x,cs[k]?=some (.slice (some ⟨x,0,none⟩) 2 2)∧w.heap[x]?=some (.cells #[.int .i64 (i:Int),.int .i64 (k:Int)] 3 (0,0))
theorem zRD (n:Nat) (x:Int) (k:Nat) (h:k < n):(zGx n x)[k]?=some (.int .i64 x):=by
 unfold zGx;simp [h]
theorem zPf (bw:Nat) (text:List UInt8) (px pf:Option Addr) (proof:List UInt8) (c4 v5 v6:Value) (h5s h6s:List Value) (b5 b6:Nat) (w:World) (hw:WAt w bw text px pf proof c4 v5 v6)
  (h5:w.ownsRow b5 25 1 v5 h5s.length h5s) (h6:w.ownsRow b6 45 1 v6 h6s.length h6s) (hls:LsAt w h5s) (hlss:LssAt w h6s) (hn5:h5s.length≤1073741824) (hn6:h6s.length≤1073741824) :
  Calls Tryz.prog 20 #[.pointer (some ⟨bw,0,none⟩)] w fun e w'=>e=.returned (.bool true)∧w'=w:=by
 have k5:w.cell? ⟨bw,5,none⟩=some v5:=zE hw rfl;have k6:w.cell? ⟨bw,6,none⟩=some v6:=zE hw rfl;have HLS:=zF hls;have HLSS:=zF hlss;clear hls hlss;obtain ⟨a5,c5,rfl⟩:=zN h5;obtain ⟨a6,c6,rfl⟩:=zN h6
 go_enter Tryz.func20,Tryz.ntmps20
 go_wp2_with fail
 go_loopg [3] (h5s.length) (fun q i wx=>∃ k:Nat,i=.int .i64 k∧k + q=h5s.length∧wx=w)
 case atStart=>exact ⟨0,rfl,by omega,rfl⟩
 case round=>
  obtain ⟨k,rfl,hk,hwx⟩:=hrel;subst hwx;obtain ⟨go,rfl⟩:∃ go,go=gk:=⟨_,rfl⟩
  by_cases hlt:k < h5s.length
  ·obtain ⟨g5,c5',hV,hg5,hg5',_,hcell⟩:=zS h5 (by omega);injection hV with hV _ hV2;subst hV hV2;obtain ⟨g,n,he,hnm,hg⟩:=zA HLS k hlt;have hck:wr.cell? ⟨g5,k,none⟩=some (.slice (some ⟨g,0,none⟩) n n):=hcell k _ (by rw [List.getElem?_eq_getElem hlt,he]);have hdk:decide ((k:Int) < (h5s.length:Int))=true:=(by simp;omega);have HE:=zF he;clear he hcell;unfold maxLen at hnm;go_wp2_with fail
   go_loopg [4] n (fun q i wx=>∃ j:Nat,i=.int .i64 j∧j + q=n∧wx=wr)
   case atStart=>exact ⟨0,rfl,by omega,rfl⟩
   case round=>
    obtain ⟨j,rfl,hj,hwx⟩:=hrel;subst hwx
    by_cases hjl:j < n
    ·have hcj:wr.cell? ⟨g,j,none⟩=some (.int .i64 (-10 - (k:Int))):=(by rw [zC hg];exact zRD n _ j hjl);have hdj:decide ((j:Int) < (n:Int))=true:=(by simp;omega);have hmk:(-10 - (k:Int) != -10 - (k:Int))=false:=(by simp);go_wp2_with fail
     go_roundg (gk - 1)
     case measure=>omega
     case rel=>exact ⟨j + 1,by go_num,by omega,rfl⟩
    ·have hdj:decide ((j:Int) < (n:Int))=false:=(by simp;omega);have hjn:j≤n:=(by omega);go_wp2_with fail
     go_roundg (go - 1)
     case measure=>omega
     case rel=>exact ⟨k + 1,by go_num,by omega,rfl⟩
  ·have hkl:k=h5s.length:=(by omega);subst hkl;have hdk:decide ((h5s.length:Int) < (h5s.length:Int))=false:=(by simp);go_wp2_with fail
   go_loopg [5] (h6s.length) (fun q i wx=>∃ k:Nat,i=.int .i64 k∧k + q=h6s.length∧wx=wr)
   case atStart=>exact ⟨0,rfl,by omega,rfl⟩
   case round=>
    obtain ⟨k,rfl,hk6,hwx⟩:=hrel;subst hwx;obtain ⟨go6,rfl⟩:∃ go6,go6=gk:=⟨_,rfl⟩
    by_cases hlt6:k < h6s.length
    ·obtain ⟨g6,c6',hV,hg6,hg6',_,hcell⟩:=zS h6 (by omega);injection hV with hV _ hV2;subst hV hV2;have hdk6:decide ((k:Int) < (h6s.length:Int))=true:=by simp;omega
     rcases zA HLSS k hlt6 with he | ⟨h,n,cs,he,hnm,hh,hx⟩
     ·have hck:wr.cell? ⟨g6,k,none⟩=some (.slice none 0 0):=hcell k _ (by rw [List.getElem?_eq_getElem hlt6,he]);clear he hcell;go_wp2_with fail;refine wp_loop_rounds 1 ?_;rw [rounds_succ];go_wp2_with fail
      go_roundg (go6 - 1)
      case measure=>omega
      case rel=>exact ⟨k + 1,by go_num,by omega,rfl⟩
     ·have hck:wr.cell? ⟨g6,k,none⟩=some (.slice (some ⟨h,0,none⟩) n n):=hcell k _ (by rw [List.getElem?_eq_getElem hlt6,he]);have HX:=zF hx;clear he hcell hx;unfold maxLen at hnm;go_wp2_with fail
      go_loopg [6] n (fun q i wx=>∃ j:Nat,i=.int .i64 j∧j + q=n∧wx=wr)
      case atStart=>exact ⟨0,rfl,by omega,rfl⟩
      case round=>
       obtain ⟨j,rfl,hj,hwx⟩:=hrel;subst hwx
       by_cases hjl:j < n
       ·obtain ⟨x,hx1,hx2⟩:=zA HX j hjl;have hcj:wr.cell? ⟨h,j,none⟩=some (.slice (some ⟨x,0,none⟩) 2 2):=(by rw [zC hh];exact hx1);have hy0:wr.cell? ⟨x,0,none⟩=some (.int .i64 (k:Int)):=zE hx2 rfl;have hy1:wr.cell? ⟨x,1,none⟩=some (.int .i64 (j:Int)):=zE hx2 rfl;have hdj:decide ((j:Int) < (n:Int))=true:=(by simp;omega);have hm1:((k:Int) != (k:Int))=false:=(by simp);have hm2:((j:Int) != (j:Int))=false:=(by simp);go_wp2_with fail
        go_roundg (gk - 1)
        case measure=>omega
        case rel=>exact ⟨j + 1,by go_num,by omega,rfl⟩
       ·have hdj:decide ((j:Int) < (n:Int))=false:=(by simp;omega);have hjn:j≤n:=(by omega);go_wp2_with fail
        go_roundg (go6 - 1)
        case measure=>omega
        case rel=>exact ⟨k + 1,by go_num,by omega,rfl⟩
    ·have hkl:k=h6s.length:=(by omega);subst hkl;have hdk6:decide ((h6s.length:Int) < (h6s.length:Int))=false:=(by simp);go_wp2_with fail;go_ret;exact ⟨rfl,rfl⟩
def zHO:List TypeId:=[3,25,45]
theorem zFk {w:World} {base:Nat} {e:TypeId} {size:Nat} {v:Value} {n:Nat} {xs:List Value} (h:w.ownsRow base e size v n xs) {k:Nat} (hk:v.ownBlock=some k):∃ cur,w.heap[k]?=some (.cells cur e (0,0)):=by
 rcases h.2 with ⟨rfl,_⟩ | ⟨g,cap,cur,rfl,_,hh,_⟩
 ·simp [Value.ownBlock] at hk
 ·simp [Value.ownBlock] at hk;subst hk;exact ⟨cur,hh⟩
theorem zB7 {w:World} {k:Nat} {c1 c2:Array Value} {t1 t2:TypeId} {f1 f2:Nat × Nat} (h1:w.heap[k]?=some (.cells c1 t1 f1)) (h2:w.heap[k]?=some (.cells c2 t2 f2)):t1=t2:=by
 rw [h1] at h2;simp at h2;exact h2.2.1
theorem zJ3 {w w':World} {T:Nat→Prop} {hdrs:List Value} (h:LsAt w hdrs) (ho:Only T w w') (hT:∀ i (hi:i < hdrs.length) g cs,hdrs[i].ownBlock=some g→w.heap[g]?=some (.cells cs 3 (0,0))→¬ T g):LsAt w' hdrs:=by
 intro i hi;obtain ⟨g,n,h1,h2,h3⟩:=h i hi;refine ⟨g,n,h1,h2,?_⟩;rw [ho.block g (zB h3) (hT i hi g _ (by rw [h1];rfl) h3)];exact h3
theorem LsAt.only {w w':World} {T:Nat→Prop} {hdrs:List Value} (h:LsAt w hdrs) (ho:Only T w w') (hT:∀ k,k < w.heap.size→T k→zCW 0 w [3] k):LsAt w' hdrs:=by
 refine zJ3 h ho fun i hi g cs h1 h2 ht=>?_
 rcases hT g (zB h2) ht with h | ⟨c,t,fr,h4,h5⟩
 ·omega
 ·exact h5 (by rw [zB7 h4 h2];simp)
theorem LsAt.later {w w':World} {hdrs:List Value} (h:LsAt w hdrs) (hb:Below w.heap.size w w'):LsAt w' hdrs:=
 h.only (T:=fun _=>False) (Only.of_below hb) (fun _ _ h=>h.elim)
theorem zFM {w w':World} {T:Nat→Prop} {hdrs:List Value} (h:LssAt w hdrs) (ho:Only T w w') (hT:∀ i (hi:i < hdrs.length) g cs,hdrs[i].ownBlock=some g→w.heap[g]?=some (.cells cs 25 (0,0))→¬ T g) (hI:∀ k,k < w.heap.size→T k→zCW 0 w [3] k):LssAt w' hdrs:=by
 intro i hi
 rcases h i hi with h0 | ⟨h',n,cs,h1,h2,h3,h4⟩
 ·exact Or.inl h0
 ·refine Or.inr ⟨h',n,cs,h1,h2,?_,fun k hk=>?_⟩
  ·rw [ho.block h' (zB h3) (hT i hi h' _ (by rw [h1];rfl) h3)];exact h3
  ·obtain ⟨x,h5,h6⟩:=h4 k hk;exact ⟨x,h5,zEC h6 (Nat.zero_le _) ho (by simp) hI⟩
theorem LssAt.later {w w':World} {hdrs:List Value} (h:LssAt w hdrs) (hb:Below w.heap.size w w'):LssAt w' hdrs:=
 zFM h (T:=fun _=>False) (Only.of_below hb) (fun _ _ _ _ _ _ h=>h.elim) (fun _ _ h=>h.elim)
structure ListsAt (bw:Nat) (w:World) (v5 v6:Value) (h5s h6s:List Value):Prop where
 o5:w.ownsRow (bw + 1) 25 1 v5 h5s.length h5s
 o6:w.ownsRow (bw + 1) 45 1 v6 h6s.length h6s
 ls:LsAt w h5s
 lss:LssAt w h6s
 ap:∀ i (hi:i < h6s.length),apart v5 h6s[i]
theorem ListsAt.only {bw:Nat} {w w':World} {v5 v6:Value} {h5s h6s:List Value} {T:Nat→Prop} (h:ListsAt bw w v5 v6 h5s h6s) (ho:Only T w w') (hT:∀ k,k < w.heap.size→T k→zCW 0 w zHO k):ListsAt bw w' v5 v6 h5s h6s:=by
 have hw:∀ (b:Nat) (ts:List TypeId),(∀ t,t∈ts→t∈zHO)→∀ k,k < w.heap.size→T k→zCW b w ts k:=fun b ts hts k hk ht=>by
  rcases hT k hk ht with h | ⟨c,t,fr,h4,h5⟩
  ·omega
  ·exact Or.inr ⟨c,t,fr,h4,fun h=>h5 (hts t h)⟩
 have hin:∀ t,t∈[3]→t∈zHO:=(by decide);refine ⟨zCJ h.o5 ho (ts:=[25]) (by simp) (hw _ _ (by decide)),zCJ h.o6 ho (ts:=[45]) (by simp) (hw _ _ (by decide)),h.ls.only ho (hw _ _ hin),zFM h.lss ho ?_ (hw _ _ hin),h.ap⟩;intro i hi g cs h1 h2 ht
 rcases hw 0 [25] (by decide) g (zB h2) ht with h | ⟨c,t,fr,h4,h5⟩
 ·omega
 ·exact h5 (by rw [zB7 h4 h2];simp)
theorem ListsAt.later {bw:Nat} {w w':World} {v5 v6:Value} {h5s h6s:List Value} (h:ListsAt bw w v5 v6 h5s h6s) (hb:Below w.heap.size w w'):ListsAt bw w' v5 v6 h5s h6s:=
 h.only (T:=fun _=>False) (Only.of_below hb) (fun _ _ h=>h.elim)
structure Marking (bw h:Nat) (w0:World) (v5:Value) (text:List UInt8) (px pf:Option Addr) (proof:List UInt8) (c4 v6:Value) (hdrs:List Value) (cur:Array Value) (k:Nat) (v5x:Value) (h5x:List Value) (wx:World):Prop where
 at_:WAt wx bw text px pf proof c4 v5x v6
 only:Only (fun j=>j=bw∨v5.ownBlock=some j) w0 wx
 o5:wx.ownsRow (bw + 1) 25 1 v5x h5x.length h5x
 ls:LsAt wx h5x
 old:v5x.ownBlock=v5.ownBlock∨∃ j,v5x.ownBlock=some j∧w0.heap.size≤j
 noth:v5x.ownBlock≠some h
 row:wx.heap[h]?=some (.cells cur 25 (0,0))
 fresh:∀ j,k≤j→(hj:j < hdrs.length)→∃ g n cap cu,hdrs[j]=.slice (some ⟨g,0,none⟩) n cap∧w0.heap.size≤g∧wx.heap[g]?=some (.cells cu 3 (0,0))∧cu.size=cap∧n≤cap∧cap≤maxLen
 sep:∀ i (hi:i < h5x.length) j,k≤j→(hj:j < hdrs.length)→apart h5x[i] hdrs[j]
theorem Marking.start {bw h base:Nat} {w0 wx:World} {v5 v6:Value} {h5s h6s:List Value} {text:List UInt8} {px pf:Option Addr} {proof:List UInt8} {c4:Value} {hdrs:List Value} {cur:Array Value} {bs:List (List Nat)} (hw:WAt w0 bw text px pf proof c4 v5 v6) (hL:ListsAt bw w0 v5 v6 h5s h6s) (hb:Below w0.heap.size w0 wx)
  (hbase:w0.heap.size=base) (hh:base≤h) (hrow:wx.heap[h]?=some (.cells cur 25 (0,0))) (hR:RowsAt base wx bs hdrs):Marking bw h w0 v5 text px pf proof c4 v6 hdrs cur 0 v5 h5s wx:=by
 subst hbase;have h5lt:=hL.o5.lt;refine ⟨hw.later hb,Only.of_below hb,zO hL.o5 hb,hL.ls.later hb,Or.inl rfl,fun e=>?_,hrow,fun j _ hj=>?_,fun i hi j _ hj k h1 h2=>?_⟩
 ·have:=(h5lt h e).2;omega
 ·have hl:=hR.len;obtain ⟨hr,hne⟩:=hR.row j (by omega)
  rcases hr.2 with ⟨_,h0⟩ | ⟨g,cap,cu,h1,h2,h3,h4,h5,h6,_⟩
  ·exact absurd (List.length_eq_zero_iff.1 h0) hne
  ·exact ⟨g,_,cap,cu,h1,h2,h3,by simpa using h6,h4,h5⟩
 ·obtain ⟨g,n,e1,_,e2⟩:=hL.ls i hi;have hl:=hR.len
  have:=((hR.row j (by omega)).1.lt k h2).1
  rw [e1] at h1;simp [Value.ownBlock] at h1;subst h1
  have:=zB e2
  omega
theorem Marking.mine {bw h g n cap k:Nat} {w0 wx w':World} {v5 v6 v5x:Value} {h5x:List Value} {text:List UInt8} {px pf:Option Addr} {proof:List UInt8} {c4:Value} {hdrs:List Value} {cur:Array Value} {e:Ending} (hM:Marking bw h w0 v5 text px pf proof c4 v6 hdrs cur k v5x h5x wx)
  (_hhw:w0.heap.size≤h) (hk:k < hdrs.length) (hkg:hdrs[k]=.slice (some ⟨g,0,none⟩) n cap) (hg0:w0.heap.size≤g) (hgt:∃ cu,wx.heap[g]?=some (.cells cu 3 (0,0))) (hcm:cap≤maxLen) (hapart:∀ i j (hi:i < hdrs.length) (hj:j < hdrs.length),i≠j→apart hdrs[i] hdrs[j])
  (hP:zIL bw g cap h5x.length h5x v5x text px pf proof c4 v6 wx e w'):∃ v5',Marking bw h w0 v5 text px pf proof c4 v6 hdrs cur (k + 1) v5' (h5x ++ [.slice (some ⟨g,0,none⟩) cap cap]) w':=by
 obtain ⟨v5',hw',ho',hat⟩:=hP.at_;obtain ⟨cug,hcug⟩:=hgt;have hwt:=hM.at_;unfold WAt at hwt;have hv5t:∀ j,v5x.ownBlock=some j→∃ cur,wx.heap[j]?=some (.cells cur 25 (0,0)):=fun j hj=>zFk hM.o5 hj
 have hgown:(Value.slice (some ⟨g,0,none⟩) cap cap).ownBlock=some g:=rfl;have hgown':hdrs[k].ownBlock=some g:=(by rw [hkg];rfl);have hnT:∀ x cs,wx.heap[x]?=some (.cells cs 3 (0,0))→x≠g→¬ (x=bw∨x=g∨v5x.ownBlock=some x):=by
  intro x cs hx hne ht
  rcases ht with rfl | h | h
  ·exact absurd (zB7 hwt hx) (by decide)
  ·exact hne h
  ·obtain ⟨c,hc⟩:=hv5t x h;exact absurd (zB7 hc hx) (by decide)
 have hls:LsAt w' h5x:=zJ3 hM.ls hP.only fun i hi x cs h1 h2=>hnT x cs h2 (fun e=>hM.sep i hi k (Nat.le_refl _) hk x h1 (by rw [hgown',e]))
 refine ⟨v5',hw',?_,by simpa using ho',?_,?_,?_,?_,?_,?_⟩
 ·have h1:Only (fun j=>j=bw∨v5.ownBlock=some j) wx w'→Only (fun j=>j=bw∨v5.ownBlock=some j) w0 w':=fun h=>hM.only.trans h
  refine ⟨hP.only.os.trans hM.only.os,hP.only.tape.trans hM.only.tape,hP.only.output.trans hM.only.output,Nat.le_trans hM.only.size hP.only.size,fun j hj ht=>?_⟩;rw [hP.only.block j (Nat.lt_of_lt_of_le hj hM.only.size) (fun h=>?_),hM.only.block j hj ht]
  rcases h with h | h | h
  ·exact ht (Or.inl h)
  ·omega
  ·rcases hM.old with h2 | ⟨x,h2,h3⟩
   ·exact ht (Or.inr (by rw [← h2];exact h))
   ·rw [h2] at h;simp at h;omega
 ·intro i hi
  by_cases hil:i < h5x.length
  ·obtain ⟨g',n',h1,h2,h3⟩:=hls i hil;exact ⟨g',n',by rw [List.getElem_append_left hil];exact h1,h2,h3⟩
  ·have hie:i=h5x.length:=(by simp at hi;omega);subst hie;exact ⟨g,cap,by simp,hcm,hP.row⟩
 ·rcases hat with h1 | ⟨x,h1,h2⟩
  ·rw [h1];exact hM.old
  ·exact Or.inr ⟨x,h1,Nat.le_trans hM.only.size h2⟩
 ·rcases hat with h1 | ⟨x,h1,h2⟩
  ·rw [h1];exact hM.noth
  ·rw [h1];intro e;simp at e
   have:=zB hM.row
   omega
 ·rw [hP.only.block h (zB hM.row) (fun ht=>?_)]
  ·exact hM.row
  ·rcases ht with rfl | rfl | ht
   ·exact absurd (zB7 hwt hM.row) (by decide)
   ·exact absurd (zB7 hcug hM.row) (by decide)
   ·exact hM.noth ht
 ·intro j hkj hj;obtain ⟨g2,n2,cap2,cu2,h1,h2,h3,h4⟩:=hM.fresh j (by omega) hj;refine ⟨g2,n2,cap2,cu2,h1,h2,?_,h4⟩;have hne:g2≠g:=fun e=>hapart k j hk hj (by omega) g hgown' (by rw [h1,← e];rfl)
  rw [hP.only.block g2 (zB h3) (hnT g2 cu2 h3 hne)];exact h3
 ·intro i hi j hkj hj
  by_cases hil:i < h5x.length
  ·rw [List.getElem_append_left hil];exact hM.sep i hil j (by omega) hj
  ·have hie:i=h5x.length:=(by simp at hi;omega);subst hie;intro x hx;have hx':x=g:=(by simp [Value.ownBlock] at hx;exact hx.symm);subst hx';exact hapart k j hk hj (by omega) x hgown'
structure Heading (bw h cap n6:Nat) (w0:World) (v5:Value) (text:List UInt8) (px pf:Option Addr) (proof:List UInt8) (c4 v6:Value) (i:Nat) (v5x:Value) (h5x:List Value) (wx:World):Prop where
 at_:WAt wx bw text px pf proof c4 v5x v6
 only:Only (fun j=>j=bw∨v5.ownBlock=some j) w0 wx
 o5:wx.ownsRow (bw + 1) 25 1 v5x h5x.length h5x
 ls:LsAt wx h5x
 old:v5x.ownBlock=v5.ownBlock∨∃ j,v5x.ownBlock=some j∧w0.heap.size≤j
 noth:v5x.ownBlock≠some h
 row:∃ cs,wx.heap[h]?=some (.cells cs 25 (0,0))∧cs.size=cap∧∀ j,j < i→∃ x,cs[j]?=some (.slice (some ⟨x,0,none⟩) 2 2)∧wx.heap[x]?=some (.cells #[.int .i64 (n6:Int),.int .i64 (j:Int)] 3 (0,0))∧w0.heap.size≤x
theorem Heading.start {bw h cap n6 k:Nat} {w0 wx:World} {v5 v6 v5x:Value} {h5x:List Value} {text:List UInt8} {px pf:Option Addr} {proof:List UInt8} {c4:Value} {hdrs:List Value} {cur:Array Value} (hM:Marking bw h w0 v5 text px pf proof c4 v6 hdrs cur k v5x h5x wx) (hc:cur.size=cap):Heading bw h cap n6 w0 v5 text px pf proof c4 v6 0 v5x h5x wx:=
 ⟨hM.at_,hM.only,hM.o5,hM.ls,hM.old,hM.noth,cur,hM.row,hc,fun j hj=>by omega⟩
theorem Heading.later {bw h cap n6 i:Nat} {w0 wx w':World} {v5 v6 v5x:Value} {h5x:List Value} {text:List UInt8} {px pf:Option Addr} {proof:List UInt8} {c4:Value} (hM:Heading bw h cap n6 w0 v5 text px pf proof c4 v6 i v5x h5x wx) (hb:Below wx.heap.size wx w'):Heading bw h cap n6 w0 v5 text px pf proof c4 v6 i v5x h5x w':=by
 obtain ⟨cs,h1,h2,h3⟩:=hM.row;refine ⟨hM.at_.later hb,hM.only.trans (Only.of_below hb),zO hM.o5 hb,hM.ls.later hb,hM.old,hM.noth,cs,(hb.block h (zB h1)).trans h1,h2,fun j hj=>?_⟩;obtain ⟨x,h4,h5,h6⟩:=h3 j hj;exact ⟨x,h4,(hb.block x (zB h5)).trans h5,h6⟩
theorem Heading.set {bw h cap n6 i x:Nat} {w0 wx:World} {v5 v6 v5x:Value} {h5x:List Value} {text:List UInt8} {px pf:Option Addr} {proof:List UInt8} {c4:Value} (hM:Heading bw h cap n6 w0 v5 text px pf proof c4 v6 i v5x h5x wx) (hhw:w0.heap.size≤h) (hi:i < cap)
  (hx:wx.heap[x]?=some (.cells #[.int .i64 (n6:Int),.int .i64 (i:Int)] 3 (0,0))) (hx0:w0.heap.size≤x):Heading bw h cap n6 w0 v5 text px pf proof c4 v6 (i + 1) v5x h5x (wx.setCell ⟨h,i,none⟩ (.slice (some ⟨x,0,none⟩) 2 2)):=by
 obtain ⟨cs,h1,h2,h3⟩:=hM.row;have hwt:=hM.at_;unfold WAt at hwt;have ho:Only (·=h) wx (wx.setCell ⟨h,i,none⟩ (.slice (some ⟨x,0,none⟩) 2 2)):=(Only.refl _ _).setAt _ _;have hint:∀ (y:Nat) (c:Array Value),wx.heap[y]?=some (.cells c 3 (0,0))→(wx.setCell ⟨h,i,none⟩ (.slice (some ⟨x,0,none⟩) 2 2)).heap[y]?=some (.cells c 3 (0,0)):=fun y c hy=>by
  rw [ho.block y (zB hy) (fun e=>by subst e;exact absurd (zB7 hy h1) (by decide))];exact hy
 refine ⟨(ho.block bw (zB hwt) (fun e=>by subst e;exact absurd (zB7 hwt h1) (by decide))).trans hwt,hM.only.setCell (p:=⟨h,i,none⟩) (Or.inr hhw) _,?_,?_,hM.old,hM.noth,_,zI h1 i _,by simpa using h2,?_⟩
 ·exact hM.o5.kept (row:=some h) ⟨ho.os,ho.tape,ho.output,ho.size,fun j hj hne=>ho.block j hj (fun e=>hne (by rw [e]))⟩ (Or.inr hM.noth)
 ·refine zJ3 hM.ls ho fun j hj g c hg hc e=>?_
  subst e;exact absurd (zB7 hc h1) (by decide)
 ·intro j hj
  by_cases hji:j=i
  ·subst hji;exact ⟨x,by simp [h2,hi],hint _ _ hx,hx0⟩
  ·obtain ⟨y,h4,h5,h6⟩:=h3 j (by omega);exact ⟨y,by rw [Array.getElem?_setIfInBounds_ne (by omega)];exact h4,hint _ _ h5,h6⟩
def zQ4 (n:Nat) (w:World) (x:Value):Prop:=x=.slice none 0 0∨∃ h cap cs,x=.slice (some ⟨h,0,none⟩) cap cap∧n≤h∧w.heap[h]?=some (.cells cs 25 (0,0))∧∀ k,k < cap→∃ y,cs[k]?=some (.slice (some ⟨y,0,none⟩) 2 2)∧n≤y∧∃ c,w.heap[y]?=some (.cells c 3 (0,0))
theorem Heading.done {bw h cap:Nat} {w0 wx w4:World} {v5 v6 v5x v6':Value} {h5s h6s h5x:List Value} {text:List UInt8} {px pf:Option Addr} {proof:List UInt8} {c4:Value} (hL:ListsAt bw w0 v5 v6 h5s h6s) (hw0:WAt w0 bw text px pf proof c4 v5 v6) (hcm:cap≤maxLen) (hM:Heading bw h cap h6s.length w0 v5 text px pf proof c4 v6 cap v5x h5x wx)
  (hg:wx.grownBy w4 v6.ownBlock) (ho6:w4.ownsRow (bw + 1) 45 1 v6' (h6s.length + 1) (h6s ++ [.slice (some ⟨h,0,none⟩) cap cap])) (hhw:w0.heap.size≤h) :
  WAt (w4.setCell ⟨bw,6,none⟩ v6') bw text px pf proof c4 v5x v6'∧ListsAt bw (w4.setCell ⟨bw,6,none⟩ v6') v5x v6' h5x (h6s ++ [.slice (some ⟨h,0,none⟩) cap cap])∧Only (fun j=>j=bw∨v5.ownBlock=some j∨v6.ownBlock=some j) w0 (w4.setCell ⟨bw,6,none⟩ v6')∧zQ4 w0.heap.size (w4.setCell ⟨bw,6,none⟩ v6') (.slice (some ⟨h,0,none⟩) cap cap):=by
 have hwt:=hM.at_;have hwt':=hwt;unfold WAt at hwt';have hw0':=hw0;unfold WAt at hw0';have hT:∀ k,k < w0.heap.size→(k=bw∨v5.ownBlock=some k)→zCW 0 w0 [3] k:=fun k _ ht=>by
  rcases ht with rfl | ht
  ·exact Or.inr ⟨_,_,_,hw0',by decide⟩
  ·obtain ⟨c,hc⟩:=zFk hL.o5 ht;exact Or.inr ⟨_,_,_,hc,by decide⟩
 have ho6x:wx.ownsRow (bw + 1) 45 1 v6 h6s.length h6s:=zCJ (ts:=[45]) hL.o6 hM.only (by simp) (fun k _ ht=>by
  rcases ht with rfl | ht
  ·exact Or.inr ⟨_,_,_,hw0',by decide⟩
  ·obtain ⟨c,hc⟩:=zFk hL.o5 ht;exact Or.inr ⟨_,_,_,hc,by decide⟩)
 have hlssx:LssAt wx h6s:=zFM hL.lss hM.only (fun i hi g cs h1 h2 ht=>by
  rcases ht with rfl | ht
  ·exact absurd (zB7 hw0' h2) (by decide)
  ·exact hL.ap i hi g ht h1) hT
 have hapx:∀ i (hi:i < h6s.length),apart v5x h6s[i]:=fun i hi x h1 h2=>by
  rcases hM.old with h3 | ⟨j,h3,h4⟩
  ·exact hL.ap i hi x (by rw [← h3];exact h1) h2
  ·rw [h3] at h1;simp at h1;subst h1
   rcases hL.lss i hi with h5 | ⟨h',n,cs,h5,_,h6,_⟩
   ·rw [h5] at h2;simp [Value.ownBlock] at h2
   ·rw [h5] at h2;simp [Value.ownBlock] at h2;subst h2
    have:=zB h6
    omega
 have ho4:Only (fun j=>v6.ownBlock=some j) wx w4:=⟨hg.os,hg.tape,hg.output,hg.size,fun k hk ht=>hg.block k hk (fun e=>ht e.symm)⟩;have hbw6:v6.ownBlock≠some bw:=fun e=>by have:=(hL.o6.lt _ e).1;omega
 have hw4:WAt w4 bw text px pf proof c4 v5x v6:=(ho4.block bw (zB hwt') hbw6).trans hwt';have hoS:Only (fun j=>j=bw∨v6.ownBlock=some j) wx (w4.setCell ⟨bw,6,none⟩ v6'):=(ho4.mono (T':=fun j=>j=bw∨v6.ownBlock=some j) (fun k _ h=>Or.inr h)).setCell (p:=⟨bw,6,none⟩) (Or.inl (Or.inl rfl)) _;have hTS:∀ ts:List TypeId,48∉ts→45∉ts→∀ b k,k < wx.heap.size→(k=bw∨v6.ownBlock=some k)→zCW b wx ts k:=fun ts h1 h2 b k _ ht=>by
  rcases ht with rfl | ht
  ·exact Or.inr ⟨_,_,_,hwt',h1⟩
  ·obtain ⟨c,hc⟩:=zFk ho6x ht;exact Or.inr ⟨_,_,_,hc,h2⟩
 obtain ⟨cs,hr1,hr2,hr3⟩:=hM.row;refine ⟨zI hw4 6 _,⟨zCJ (ts:=[25]) hM.o5 hoS (by simp) (hTS _ (by decide) (by decide) _),by simpa using ownsRow_setCell_below ho6 (a:=⟨bw,6,none⟩) (Nat.lt_succ_self bw) _,hM.ls.only hoS (hTS _ (by decide) (by decide) _),?_,?_⟩,?_,?_⟩
 ·have hold:LssAt (w4.setCell ⟨bw,6,none⟩ v6') h6s:=zFM hlssx hoS (fun i hi g c h1 h2 ht=>by
   rcases hTS [25] (by decide) (by decide) 0 g (zB h2) ht with h | ⟨c',t,fr,h4,h5⟩
   ·omega
   ·exact h5 (by rw [zB7 h4 h2];simp)) (hTS _ (by decide) (by decide) _)
  intro i hi
  by_cases hil:i < h6s.length
  ·rw [List.getElem_append_left hil];exact hold i hil
  ·have hie:i=h6s.length:=(by simp at hi;omega);subst hie;rw [List.getElem_concat_length rfl];refine Or.inr ⟨h,cap,cs,rfl,hcm,zEC (ts:=[25]) hr1 (Nat.zero_le _) hoS (by simp) (hTS _ (by decide) (by decide) _),fun k hk=>?_⟩;obtain ⟨x,h4,h5,_⟩:=hr3 k hk;exact ⟨x,h4,zEC (ts:=[3]) h5 (Nat.zero_le _) hoS (by simp) (hTS _ (by decide) (by decide) _)⟩
 ·intro i hi
  by_cases hil:i < h6s.length
  ·rw [List.getElem_append_left hil];exact hapx i hil
  ·have hie:i=h6s.length:=(by simp at hi;omega);subst hie;rw [List.getElem_concat_length rfl];intro x h1 h2;simp [Value.ownBlock] at h2;subst h2;exact hM.noth h1
 ·refine (hM.only.mono (T':=fun j=>j=bw∨v5.ownBlock=some j∨v6.ownBlock=some j) (fun k _ h=>h.elim Or.inl (fun h=>Or.inr (Or.inl h)))).trans (hoS.mono (fun k _ h=>h.elim Or.inl (fun h=>Or.inr (Or.inr h))))
 ·refine Or.inr ⟨h,cap,cs,rfl,hhw,zEC (ts:=[25]) hr1 (Nat.zero_le _) hoS (by simp) (hTS _ (by decide) (by decide) _),fun k hk=>?_⟩;obtain ⟨x,h4,h5,h6⟩:=hr3 k hk;exact ⟨x,h4,h6,_,zEC (ts:=[3]) h5 (Nat.zero_le _) hoS (by simp) (hTS _ (by decide) (by decide) _)⟩
def zHF (w:World) (v:Value) (l:List Nat):Prop:=∃ ao cap,v=.slice ao l.length cap∧∀ i (hi:i < l.length),∃ g off,ao=some ⟨g,off,none⟩∧w.cell? ⟨g,off + i,none⟩=some (.int .i64 (l[i]:Int))
def zD3 (F:zv) (k:Nat):Nat:=if 0 < k then F.ends.getD (k - 1) 0 else 0
def zEJ (F:zv) (k:Nat):List Nat:=(F.order.drop (zD3 F k)).take (F.ends.getD k 0 - zD3 F k)
def zKN (w:World) (b:Nat) (v:Value):Prop:=∃ gO n0 c0,w.cell? ⟨b,0,none⟩=some (.slice (some ⟨gO,0,none⟩) n0 c0)∧∀ a n c,v=.slice (some a) n c→a.block=gO
def zPe (b:Nat) (F:zv) (k:Nat) (w:World) (e:Ending) (w':World):Prop:=∃ v,e=.returned v∧zHF w' v (zEJ F k)∧Below w.heap.size w w'∧zKN w b v
theorem zIx {w w':World} {gO lo1 hi1 cap:Nat} {l:List Nat} (hc:∀ j u,(zu l)[j]?=some u→w.cell? ⟨gO,j,none⟩=some u) (hw:∀ j,w'.cell? ⟨gO,j,none⟩=w.cell? ⟨gO,j,none⟩) (h1:lo1≤hi1) (h2:hi1≤l.length) :
  zHF w' (.slice (some ⟨gO,lo1,none⟩) (hi1 - lo1) cap) ((l.drop lo1).take (hi1 - lo1)):=by
 have hl:((l.drop lo1).take (hi1 - lo1)).length=hi1 - lo1:=(by simp;omega);refine ⟨_,_,by rw [hl],fun i hi=>⟨gO,lo1,rfl,?_⟩⟩;rw [hw];refine hc _ _ ?_;rw [hl] at hi;simp [zu,show lo1 + i < l.length by omega]
theorem zNI (w:World) (ao:Option Addr) (cap:Nat):zHF w (.slice ao 0 cap) []:=⟨ao,cap,rfl,fun i hi=>by simp at hi⟩
theorem zJa (lo b k:Nat) (F:zv) (w:World) (hF:RefAt lo w b F) (hk:k < F.ends.length) (hle:zD3 F k≤F.ends.getD k 0) (hel:F.ends.getD k 0≤F.order.length) (_hol:F.order.length≤1073741824) (hpos:0 < F.order.length) (hen:F.ends.length≤1073741824) :
  Calls Tryz.prog 38 #[.pointer (some ⟨b,0,none⟩),.int .i64 k] w fun e w'=>zPe b F k w e w':=by
 obtain ⟨_,vO,vE,vC,hfb,hO,hE,_⟩:=hF;obtain ⟨gO,cO,rfl,_,_,hcO,hcellO⟩:=zS hO hpos;obtain ⟨gE,cE,rfl,_,_,hcE,hcellE⟩:=zS hE (by omega);have k0:w.cell? ⟨b,0,none⟩=some (.slice (some ⟨gO,0,none⟩) F.order.length cO):=zE hfb rfl;have k2:w.cell? ⟨b,2,none⟩=some (.slice (some ⟨gE,0,none⟩) F.ends.length cE):=zE hfb rfl;have ek:w.cell? ⟨gE,k,none⟩=some (.int .i64 (F.ends.getD k 0:Nat)):=hcellE k _ (by simp [zu,List.getD,hk]);have HCO:=zF hcellO;have HK0:=zF k0;have hkb:k≤1073741824:=by omega
 by_cases h0:0 < k
 ·have ek1:w.cell? ⟨gE,k - 1,none⟩=some (.int .i64 (F.ends.getD (k - 1) 0:Nat)):=hcellE (k - 1) _ (by simp [zu,List.getD,show k - 1 < F.ends.length by omega]);have HFR:Hid (zD3 F k=F.ends.getD (k - 1) 0):=zF (by unfold zD3;rw [if_pos h0]);have HBL:Hid (zEJ F k=(F.order.drop (F.ends.getD (k - 1) 0)).take (F.ends.getD k 0 - F.ends.getD (k - 1) 0)):=zF (by unfold zEJ;rw [zA HFR]);rw [zA HFR] at hle;have hd0:decide (0 < k)=true:=(by simpa using h0);clear hcellE hcellO;generalize F.ends.getD (k - 1) 0=lo1 at *;generalize F.ends.getD k 0=hi1 at *
  go_enter Tryz.func38,Tryz.ntmps38
  go_wp2_with fail
  go_quiet (fail)
  go_wp2_with fail
  ·next hce=>
   have hz:hi1 - lo1=0:=(by omega);have HZ:=zF hz;clear hz;go_ret;refine ⟨_,rfl,?_,below_drewN (Below.refl _ _) nq,gO,_,_,zA HK0,fun a n c e=>by injection e with e _ _;injection e with e;rw [← e]⟩;rw [zA HBL,zA HZ];show zHF _ (.slice (some ⟨gO,0,none⟩) 0 0) _
   simpa using zNI _ _ _
  ·go_ret;refine ⟨_,rfl,?_,below_drewN (Below.refl _ _) nq,gO,_,_,zA HK0,fun a n c e=>by injection e with e _ _;injection e with e;rw [← e]⟩;rw [zA HBL];exact zIx (zA HCO) (fun j=>rfl) hle hel
 ·have HFR:Hid (zD3 F k=0):=zF (by unfold zD3;rw [if_neg h0]);have HBL:Hid (zEJ F k=(F.order.drop 0).take (F.ends.getD k 0 - 0)):=zF (by unfold zEJ;rw [zA HFR]);have hd0:decide (0 < k)=false:=(by simpa using h0);clear hcellE hcellO hle;generalize F.ends.getD k 0=hi1 at *
  go_enter Tryz.func38,Tryz.ntmps38
  go_wp2_with fail
  go_quiet (fail)
  go_wp2_with fail;go_ret;refine ⟨_,rfl,?_,below_drewN (Below.refl _ _) nq,gO,_,_,zA HK0,fun a n c e=>by injection e with e _ _;injection e with e;rw [← e]⟩;rw [zA HBL];exact zIx (lo1:=0) (zA HCO) (fun j=>rfl) (Nat.zero_le _) hel
theorem zI2 {vs:List (Nat × Bool)} {w w0 w':World} {e:Ending} (h:zEF vs w0 e w') (hb:Below w.heap.size w w0):zEF vs w e w':=by
 obtain ⟨v,hdrs,h0,h1,h2,h3⟩:=h;exact ⟨v,hdrs,h0,zAG h1 hb.size,⟨h2.len,fun j hj=>⟨zAG (h2.row j hj).1 hb.size,(h2.row j hj).2⟩,h2.apart⟩,hb.trans (h3.mono hb.size)⟩
theorem zK7 (lo b:Nat) (q:QS) (w:World) (hP:ProgAt lo w b q) (hl:q.vars.length≤1048576) :
  Calls Tryz.prog 58 #[.pointer (some ⟨b,0,none⟩)] w fun e w'=>zEF q.vars w e w':=by
 obtain ⟨_,vV,vC,hb,hV,hC⟩:=hP;obtain ⟨aV,cV,rfl⟩:=zN hV;obtain ⟨aC,cC,rfl⟩:=zN hC;have hbl:=zB hb
 go_enter Tryz.func58,Tryz.ntmps58
 go_wp2_with fail;refine (zEI b _ _ aV aC _ cV _ cC rfl rfl w hb).mono ?_;rintro e w0 ⟨rfl,hb0⟩;go_wp2_with fail;have hB:Below w.heap.size w (w0.alloc (.cells #[.slice aV q.vars.length cV,.slice aC q.cl.length cC] 60)):=hb0.alloc hb0.size _;have hf:(w0.alloc (.cells #[.slice aV q.vars.length cV,.slice aC q.cl.length cC] 60)).cell? ⟨w0.heap.size,0,none⟩=some (.slice aV q.vars.length cV):=zE (heap_alloc_new _ _) rfl;refine (zHs lo w0.heap.size q _ aV cV hf (by simp) (zO hV hB) hl).mono ?_;intro e w1 hp;have hp:=zI2 hp hB;obtain ⟨v,hdrs,rfl,h1,h2,h3⟩:=hp;obtain ⟨av,cv,rfl⟩:=zN h1;go_wp2_with fail;go_ret;exact ⟨_,hdrs,rfl,h1,h2,h3⟩
theorem zPx {bw:Nat} {wx w4:World} {v5 v6 v6':Value} {h5s h6s:List Value} {text:List UInt8} {px pf:Option Addr} {proof:List UInt8} {c4:Value} (hL:ListsAt bw wx v5 v6 h5s h6s) (hw:WAt wx bw text px pf proof c4 v5 v6)
  (hg:wx.grownBy w4 v6.ownBlock) (ho6:w4.ownsRow (bw + 1) 45 1 v6' (h6s.length + 1) (h6s ++ [.slice none 0 0])) :
  WAt (w4.setCell ⟨bw,6,none⟩ v6') bw text px pf proof c4 v5 v6'∧ListsAt bw (w4.setCell ⟨bw,6,none⟩ v6') v5 v6' h5s (h6s ++ [.slice none 0 0])∧Only (fun j=>j=bw∨v5.ownBlock=some j∨v6.ownBlock=some j) wx (w4.setCell ⟨bw,6,none⟩ v6'):=by
 have hwt:=hw;unfold WAt at hwt;have ho4:Only (fun j=>v6.ownBlock=some j) wx w4:=⟨hg.os,hg.tape,hg.output,hg.size,fun k hk ht=>hg.block k hk (fun e=>ht e.symm)⟩;have hbw6:v6.ownBlock≠some bw:=fun e=>by have:=(hL.o6.lt _ e).1;omega
 have hw4:WAt w4 bw text px pf proof c4 v5 v6:=(ho4.block bw (zB hwt) hbw6).trans hwt;have hoS:Only (fun j=>j=bw∨v6.ownBlock=some j) wx (w4.setCell ⟨bw,6,none⟩ v6'):=(ho4.mono (T':=fun j=>j=bw∨v6.ownBlock=some j) (fun k _ h=>Or.inr h)).setCell (p:=⟨bw,6,none⟩) (Or.inl (Or.inl rfl)) _;have hTS:∀ ts:List TypeId,48∉ts→45∉ts→∀ b k,k < wx.heap.size→(k=bw∨v6.ownBlock=some k)→zCW b wx ts k:=fun ts h1 h2 b k _ ht=>by
  rcases ht with rfl | ht
  ·exact Or.inr ⟨_,_,_,hwt,h1⟩
  ·obtain ⟨c,hc⟩:=zFk hL.o6 ht;exact Or.inr ⟨_,_,_,hc,h2⟩
 refine ⟨zI hw4 6 _,⟨zCJ (ts:=[25]) hL.o5 hoS (by simp) (hTS _ (by decide) (by decide) _),by simpa using ownsRow_setCell_below ho6 (a:=⟨bw,6,none⟩) (Nat.lt_succ_self bw) _,hL.ls.only hoS (hTS _ (by decide) (by decide) _),?_,?_⟩,hoS.mono (fun k _ h=>h.elim Or.inl (fun h=>Or.inr (Or.inr h)))⟩
 ·have hold:LssAt (w4.setCell ⟨bw,6,none⟩ v6') h6s:=zFM hL.lss hoS (fun i hi g c h1 h2 ht=>by
   rcases hTS [25] (by decide) (by decide) 0 g (zB h2) ht with h | ⟨c',t,fr,h4,h5⟩
   ·omega
   ·exact h5 (by rw [zB7 h4 h2];simp)) (hTS _ (by decide) (by decide) _)
  intro i hi
  by_cases hil:i < h6s.length
  ·rw [List.getElem_append_left hil];exact hold i hil
  ·have hie:i=h6s.length:=(by simp at hi;omega);subst hie;rw [List.getElem_concat_length rfl];exact Or.inl rfl
 ·intro i hi
  by_cases hil:i < h6s.length
  ·rw [List.getElem_append_left hil];exact hL.ap i hil
  ·have hie:i=h6s.length:=(by simp at hi;omega);subst hie;rw [List.getElem_concat_length rfl];exact (zEf _).symm
theorem Tryz.infoIntss:(Tryz.prog.info? 45).map (fun i=>(i.zero,i.size,i.bytes))=some (some (.slice none 0 0),1,24):=by kernel_rfl
theorem zIo {st:RS} {q:QS} (h:zEA st q) (hn:zCf q) (k:Nat) (hk:k < (zG (zK q).vars).length):zEJ (zW st) k=(zG (zK q).vars)[k]:=by
 have e:=zFu (zK q).vars;unfold zEJ zD3;rw [zCR h hn,zDv h];simp only [e,List.getElem_map,List.getElem_range];rfl
theorem zRw {w:World} {base:Nat} {e:TypeId} {size:Nat} {v:Value} {n:Nat} {xs:List Value} (h:w.ownsRow base e size v n xs):n≤maxLen:=by
 rcases h.2 with ⟨_,h⟩ | ⟨g,cap,cur,_,_,_,h1,h2,_⟩<;>omega
def zLi (n:Nat) (v v':Value):Prop:=v'.ownBlock=v.ownBlock∨∃ j,v'.ownBlock=some j∧n≤j
structure zHk (bw:Nat) (text:List UInt8) (px pf:Option Addr) (proof:List UInt8) (c4 v5 v6:Value) (h5s h6s:List Value) (w:World) (e:Ending) (w':World):Prop where
 ret:e=.returned (.bool true)
 only:Only (fun j=>j=bw∨v5.ownBlock=some j∨v6.ownBlock=some j) w w'
 at_:∃ v5' v6' n5 x6,WAt w' bw text px pf proof c4 v5' v6'∧ListsAt bw w' v5' v6' (h5s ++ n5) (h6s ++ [x6])∧n5.length≤8∧(∀ v∈n5,∀ k,v.ownBlock=some k→w.heap.size≤k)∧zQ4 w.heap.size w' x6∧zLi w.heap.size v5 v5'∧zLi w.heap.size v6 v6'
theorem zLD (bw b b':Nat) (st:RS) (q0:QS) (text:List UInt8) (proof:List UInt8) (c4 v5 v6:Value) (h5s h6s:List Value) (w:World)
  (hw:WAt w bw text (some ⟨b,0,none⟩) (some ⟨b',0,none⟩) proof c4 v5 v6) (hP:ProgAt (bw + 1) w b (zK q0)) (hR:RefAt (bw + 1) w b' (zW st)) (hS:zEA st q0) (hN:zCf q0) (hL:ListsAt bw w v5 v6 h5s h6s)
  (hn5:h5s.length≤1048576000) (hn6:h6s.length≤1073741823) :
  Calls Tryz.prog 35 #[.pointer (some ⟨bw,0,none⟩)] w fun e w'=>zHk bw text (some ⟨b,0,none⟩) (some ⟨b',0,none⟩) proof c4 v5 v6 h5s h6s w e w':=by
 have hbw:bw < w.heap.size:=zB hw;have k1:w.cell? ⟨bw,1,none⟩=some (.pointer (some ⟨b,0,none⟩)):=zE hw rfl;have hvl:=zCp hN;have HPB:Hid (∀ k (hk:k < (zG (zK q0).vars).length),zEJ (zW st) k=(zG (zK q0).vars)[k]):=zF (fun k hk=>zIo hS hN k hk);have hel:(zW st).ends.length=(zG (zK q0).vars).length:=(by rw [zCR hS hN,zCV]);have hel8:(zG (zK q0).vars).length≤8:=(by rw [zCV];have:=zGt (zK q0).vars;omega);have hol:(zW st).order.length=(zK q0).vars.length:=(by rw [zDv hS];simp);have HFE:Hid (∀ k,k < (zG (zK q0).vars).length→zD3 (zW st) k≤(zW st).ends.getD k 0∧(zW st).ends.getD k 0≤(zW st).order.length∧0 < (zW st).order.length):=zF (fun k hk=>by
  have hk':k < (zBR (zK q0).vars).length:=(by rw [← zCV];exact hk);have h1:=zLd _ k hk';have h2:=zQY _ k hk';have h3:=zGt (zK q0).vars;unfold zD3;rw [zCR hS hN,hol];exact ⟨h1,h2,by omega⟩)
 obtain ⟨i0,hi,hz0,hz1,hz2⟩:=info_parts Tryz.infoIntss
 go_enter Tryz.func35,Tryz.ntmps35
 go_wp2_with fail;refine (zK7 (bw + 1) b (zK q0) w hP (by omega)).mono ?_;rintro e w1 ⟨v,hdrs,rfl,hown,hrows,hb1⟩;have hw1:=hw.later hb1;have hR1:=hR.later hb1;have hbs1:=hb1.size;clear hP hS hN;generalize zG (zK q0).vars=pb at *;generalize zW st=F at *;obtain ⟨_,vO,vE,vC,hfb,hO,hE,_⟩:=id hR1;obtain ⟨aE,cE,rfl⟩:=zN hE;rw [hel] at hfb;have k2:w1.cell? ⟨bw,2,none⟩=some (.pointer (some ⟨b',0,none⟩)):=zE hw1 rfl;have kE:w1.cell? ⟨b',2,none⟩=some (.slice aE pb.length cE):=zE hfb rfl;have hne:((pb.length:Int) != (pb.length:Int))=false:=(by simp);have hdl:=hrows.len
 rcases hown.2 with ⟨rfl,hz⟩ | ⟨h,cap,cur,rfl,hhb,hhr,hnc,hcm,hcs,htk⟩
 ·obtain rfl:pb=[]:=List.length_eq_zero_iff.1 hz;have kE':w1.cell? ⟨b',2,none⟩=some (.slice aE 0 cE):=kE;clear kE hne;have h6:w1.cell? ⟨bw,6,none⟩=some v6:=zE hw1 rfl;have hL1:=hL.later hb1;obtain ⟨a6,c6,rfl⟩:=zN hL1.o6;have hbs:bw + 1≤w1.heap.size:=(by omega);go_wp2_with fail;refine wp_loop_rounds 1 ?_;rw [rounds_succ];go_wp2_with fail;refine wp_loop_rounds 1 ?_;rw [rounds_succ];go_wp2_with fail;refine wp_loop_rounds 1 ?_;rw [rounds_succ];have hbw6:(Value.slice a6 h6s.length c6).ownBlock≠some bw:=fun e=>by have:=(hL1.o6.lt _ e).1;omega
  go_wp2_with (at_builtin;refine zp rfl (.tmp 100) (.tmp 102) 46 rfl (bw + 1) i0 (.slice none 0 0) 1 24 Tryz.underlying46 hi hz0 hz1 hz2 rfl (by decide) _ _ _ hL1.o6 rfl rfl rfl (by simp [Value.oneCell']) (by unfold maxLen;omega) (by omega) hbs ?_;intro v' w4 hown4 hgrow hat;have hw4:WAt w4 bw text (some ⟨b,0,none⟩) (some ⟨b',0,none⟩) proof c4 v5 (.slice a6 h6s.length c6):=(hgrow.block bw (zB hw1) (fun e=>hbw6 e.symm)).trans hw1;obtain ⟨g3,cap3,rfl,hg3,hg3',hcap3,hcell3⟩:=zS hown4 (by omega);have hq6:w4.cell? ⟨bw,6,none⟩=some (.slice a6 h6s.length c6):=(by rw [zC hw4];rfl);have hqz:=zD hw4 6)
  go_ret;obtain ⟨hA,hB,hC⟩:=zPx hL1 hw1 hgrow hown4;exact ⟨rfl,(Only.of_below hb1).trans hC,v5,_,[],.slice none 0 0,hA,by rw [List.append_nil];exact hB,by simp,by simp,Or.inl rfl,Or.inl rfl,hat.imp id (fun ⟨j,h1,h2⟩=>⟨j,h1,by omega⟩)⟩
 ·have HB1:=zF hb1;have hw1':=hw1;unfold WAt at hw1';go_wp2_with fail
  go_loopg [4] pb.length (fun q i wx=>∃ k:Nat,i=.int .i64 k∧k + q=pb.length∧Below w1.heap.size w1 wx)
  case atStart=>exact ⟨0,rfl,by omega,Below.refl _ _⟩
  case round=>
   obtain ⟨k,rfl,hk,hbx⟩:=hrel;obtain ⟨wo,rfl⟩:∃ wo,wo=wr:=⟨_,rfl⟩;obtain ⟨go,rfl⟩:∃ go,go=gk:=⟨_,rfl⟩;have hbsx:=hbx.size
   by_cases hlt:k < pb.length
   ·have x2:wo.cell? ⟨bw,2,none⟩=some (.pointer (some ⟨b',0,none⟩)):=(by rw [hbx.cell (p:=⟨bw,2,none⟩) (by show bw < _;omega)];exact k2);have hdk:decide ((k:Int) < (pb.length:Int))=true:=(by simp;omega);obtain ⟨hf1,hf2,hf3⟩:=zA HFE k hlt;go_wp2_with fail;refine (zJa (bw + 1) b' k F wo (hR1.later hbx) (by omega) hf1 hf2 (by omega) hf3 (by omega)).mono ?_;rintro e w2 ⟨vb,rfl,hints,hb2,_⟩;have hbx2:Below w1.heap.size w1 w2:=hbx.trans (hb2.mono hbsx);rw [zA HPB k hlt] at hints;obtain ⟨ab,cb,rfl,hcb⟩:=hints;obtain ⟨hrk,hrne⟩:=hrows.row k hlt;obtain ⟨gk',ck',hke,hgk,hgk',_,hcellk⟩:=zS hrk (List.length_pos_iff.2 hrne);have hhk:w2.cell? ⟨h,k,none⟩=some (.slice (some ⟨gk',0,none⟩) pb[k].length ck'):=by
     rw [hbx2.cell (p:=⟨h,k,none⟩) (zB hhr),zC hhr];have e1:(cur.toList.take (pb.length * 1))[k]?=some hdrs[k]:=(by rw [htk];exact List.getElem?_eq_getElem (by omega));rw [List.getElem?_take,if_pos (by omega)] at e1;rw [hke] at e1
     simpa using e1
    have hne2:((pb[k].length:Int) != (pb[k].length:Int))=false:=(by simp);have hbs2:=hbx2.size;have hpl:=zRw hrk;unfold maxLen at hpl;go_wp2_with fail
    go_loopg [6] pb[k].length (fun q i wx=>∃ j:Nat,i=.int .i64 j∧j + q=pb[k].length∧Below w2.heap.size w2 wx)
    case atStart=>exact ⟨0,rfl,by omega,Below.refl _ _⟩
    case round=>
     obtain ⟨j,rfl,hj,hby⟩:=hrel;have hbys:=hby.size
     by_cases hjl:j < pb[k].length
     ·obtain ⟨gb,ob,rfl,hcj⟩:=hcb j hjl;have y1:wr.cell? ⟨gb,ob + j,none⟩=some (.int .i64 (pb[k][j]:Int)):=(by rw [hby.cell (p:=⟨gb,ob + j,none⟩) (zAm hcj)];exact hcj);have y2:wr.cell? ⟨gk',j,none⟩=some (.int .i64 (pb[k][j]:Int)):=by
       rw [hby.cell (p:=⟨gk',j,none⟩) (by show gk' < _;omega),hbx2.cell (p:=⟨gk',j,none⟩) hgk'];exact hcellk j _ (by simp [zu,hjl])
      have y3:wr.cell? ⟨h,k,none⟩=some (.slice (some ⟨gk',0,none⟩) pb[k].length ck'):=by
       rw [hby.cell (p:=⟨h,k,none⟩) (zAm hhk)];exact hhk
      have hdj:decide ((j:Int) < (pb[k].length:Int))=true:=(by simp;omega);have hne3:((pb[k][j]:Int) != (pb[k][j]:Int))=false:=(by simp);generalize pb[k][j]=x at *;go_wp2_with fail
      go_quiet (fail)
      go_wp2_with fail
      go_roundg (gk - 1)
      case measure=>omega
      case rel=>exact ⟨j + 1,by go_num,by omega,below_drewN hby nq⟩
     ·have hdj:decide ((j:Int) < (pb[k].length:Int))=false:=(by simp;omega);have hjk:j≤pb[k].length:=(by omega);go_wp2_with fail
      go_roundg (go - 1)
      case measure=>omega
      case rel=>exact ⟨k + 1,by go_num,by omega,hbx2.trans (hby.mono hbs2)⟩
   ·have hkl:k=pb.length:=(by omega);subst hkl;have hdk:decide ((pb.length:Int) < (pb.length:Int))=false:=(by simp);have hb0:Below w.heap.size w wo:=hb1.trans (hbx.mono hbs1);have hrow0:wo.heap[h]?=some (.cells cur 25 (0,0)):=(hbx.block h (zB hhr)).trans hhr;have hM0:=Marking.start hw hL hb0 rfl hhb hrow0 (hrows.later hbx);have hcs':cur.size=cap:=(by simpa using hcs);have HCS:=zF hcs';have HTK:=zF htk;have HAP:=zF hrows.apart;clear hcs hcs' htk;go_wp2_with fail
    go_loopg [7] pb.length (fun q i wx=>∃ (k:Nat) (v5x:Value) (h5x:List Value),i=.int .i64 k∧k + q=pb.length∧(∃ n5,h5x=h5s ++ n5∧n5.length=k∧∀ v∈n5,∀ j,v.ownBlock=some j→w.heap.size≤j)∧Marking bw h w v5 text (some ⟨b,0,none⟩) (some ⟨b',0,none⟩) proof c4 v6 hdrs cur k v5x h5x wx)
    case atStart=>exact ⟨0,v5,h5s,rfl,by omega,⟨[],by simp,rfl,by simp⟩,hM0⟩
    case round=>
     obtain ⟨k,v5x,h5x,rfl,hk2,hn5x,hM⟩:=hrel;have hl5:h5x.length=h5s.length + k:=(by obtain ⟨n5,e1,e2,_⟩:=hn5x;rw [e1,List.length_append,e2]);have HN5:=zF hn5x;clear hn5x;obtain ⟨gm,rfl⟩:∃ gm,gm=gk:=⟨_,rfl⟩
     by_cases hlt2:k < pb.length
     ·have hkd:k < hdrs.length:=(by omega);obtain ⟨g,n,capg,cu,he,hg0,hgt,hcu,hnc2,hcm2⟩:=hM.fresh k (Nat.le_refl _) hkd;have hhk:wr.cell? ⟨h,k,none⟩=some (.slice (some ⟨g,0,none⟩) n capg):=by
       rw [zC hM.row];have e1:(cur.toList.take (pb.length * 1))[k]?=some hdrs[k]:=(by rw [zA HTK];exact List.getElem?_eq_getElem hkd);rw [List.getElem?_take,if_pos (by omega)] at e1;rw [he] at e1
       simpa using e1
      have hdk2:decide ((k:Int) < (pb.length:Int))=true:=(by simp;omega);have HE:=zF he;clear he;go_wp2_with fail;refine (zMK bw g n capg cu h5x.length h5x v5x text _ _ proof c4 v6 wr hM.at_ hgt hcu hnc2 hcm2 hM.o5 (by omega)).mono ?_;rintro e w3 hp;have hpr:=hp.ret;subst hpr;obtain ⟨v5y,hM3⟩:=hM.mine hhb hkd (zA HE) hg0 ⟨cu,hgt⟩ hcm2 (zA HAP) hp;go_wp2_with fail
      go_roundg (gm - 1)
      case measure=>omega
      case rel=>
       obtain ⟨n5,e1,e2,e3⟩:=zA HN5;refine ⟨k + 1,v5y,_,by go_num,by omega,⟨n5 ++ [.slice (some ⟨g,0,none⟩) capg capg],by rw [e1];simp,by simp [e2],?_⟩,hM3⟩;intro v hv j hj
       rcases List.mem_append.1 hv with hv | hv
       ·exact e3 v hv j hj
       ·have e4:v=.slice (some ⟨g,0,none⟩) capg capg:=(by simpa using hv);subst e4;have e5:some g=some j:=hj;injection e5 with e5;omega
     ·have hkl2:k=pb.length:=(by omega);subst hkl2;have hdk2:decide ((pb.length:Int) < (pb.length:Int))=false:=(by simp);have hH0:Heading bw h cap h6s.length w v5 text (some ⟨b,0,none⟩) (some ⟨b',0,none⟩) proof c4 v6 0 v5x h5x wr:=Heading.start hM (zA HCS);have hcm':=hcm;unfold maxLen at hcm';have h6w:wr.cell? ⟨bw,6,none⟩=some v6:=zE hM.at_ rfl;obtain ⟨a6,c6,rfl⟩:=zN hL.o6;go_wp2_with fail
      go_loopg [9] cap (fun q i wx=>∃ (k:Nat),i=.int .i64 k∧k + q=cap∧Heading bw h cap h6s.length w v5 text (some ⟨b,0,none⟩) (some ⟨b',0,none⟩) proof c4 (.slice a6 h6s.length c6) k v5x h5x wx)
      case atStart=>exact ⟨0,rfl,by omega,hH0⟩
      case round=>
       obtain ⟨k,rfl,hk3,hH⟩:=hrel;have x6:wr.cell? ⟨bw,6,none⟩=some (.slice a6 h6s.length c6):=zE hH.at_ rfl
       by_cases hlt3:k < cap
       ·have hdk3:decide ((k:Int) < (cap:Int))=true:=(by simp;omega);obtain ⟨cs,hr1,hr2,_⟩:=hH.row;obtain ⟨u,hu⟩:∃ u,wr.cell? ⟨h,k,none⟩=some u:=by
         rw [zC hr1];exact ⟨_,Array.getElem?_eq_getElem (by omega)⟩
        have hz:=zD hr1 k;have hhl:=zB hr1;have hH2:=hH.later ((Below.refl wr.heap.size wr).alloc (Nat.le_refl _) (.cells #[.int .i64 (h6s.length:Int),.int .i64 (k:Int)] 3));have hH3:=hH2.set hhb hlt3 (heap_alloc_new wr _) (hH.only.size);rw [World.setCell_alloc_past _ _ _ _ hhl] at hH3;clear hH2;go_wp2_with fail
        go_roundg (gk - 1)
        case measure=>omega
        case rel=>exact ⟨k + 1,by go_num,by omega,hH3⟩
       ·have hkl3:k=cap:=(by omega);subst hkl3;have hdk3:decide ((k:Int) < (k:Int))=false:=(by simp);have hw0':=hw;unfold WAt at hw0';have ho6x:wr.ownsRow (bw + 1) 45 1 (.slice a6 h6s.length c6) h6s.length h6s:=zCJ (ts:=[45]) hL.o6 hH.only (by simp) (fun k _ ht=>by
         rcases ht with rfl | ht
         ·exact Or.inr ⟨_,_,_,hw0',by decide⟩
         ·obtain ⟨c,hc⟩:=zFk hL.o5 ht;exact Or.inr ⟨_,_,_,hc,by decide⟩)
        have hwx:=hH.at_;have hbs:bw + 1≤wr.heap.size:=(by have:=zB hwx;omega);have hbw6:(Value.slice a6 h6s.length c6).ownBlock≠some bw:=fun e=>by have:=(ho6x.lt _ e).1;omega
        go_wp2_with (at_builtin;refine zp rfl (.tmp 100) (.tmp 102) 46 rfl (bw + 1) i0 (.slice none 0 0) 1 24 Tryz.underlying46 hi hz0 hz1 hz2 rfl (by decide) _ _ _ ho6x rfl rfl rfl (by simp [Value.oneCell']) (by unfold maxLen;omega) (by omega) hbs ?_;intro v' w4 hown4 hgrow hat;have hw4:WAt w4 bw text (some ⟨b,0,none⟩) (some ⟨b',0,none⟩) proof c4 v5x (.slice a6 h6s.length c6):=(hgrow.block bw (zB hwx) (fun e=>hbw6 e.symm)).trans hwx;obtain ⟨g3,cap3,rfl,hg3,hg3',hcap3,hcell3⟩:=zS hown4 (by omega);have hq6:w4.cell? ⟨bw,6,none⟩=some (.slice a6 h6s.length c6):=(by rw [zC hw4];rfl);have hqz:=zD hw4 6)
        go_ret;obtain ⟨hA,hB,hC,hD⟩:=Heading.done hL hw hcm hH hgrow hown4 hhb;obtain ⟨n5,e1,e2,e3⟩:=zA HN5;rw [e1] at hB;have hk9:=hH.only.size;exact ⟨rfl,hC,_,_,n5,_,hA,hB,by omega,e3,hD,hH.old,hat.imp id (fun ⟨j,h1,h2⟩=>⟨j,h1,by omega⟩)⟩
end Go.Proofs.YtgipjjhkhfihpaaGreatDoor
