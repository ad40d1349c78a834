import Derived.Test.YtgipjjhkhfihpaaGreatDoorAB
import Derived.Test.YtgipjjhkhfihpaaGreatDoorAG
import Derived.Deep.QuietTactic
import Derived.BigQuiet
import Derived.Test.YtgipjjhkhfihpaaGreatDoorAE
import Derived.Test.YtgipjjhkhfihpaaGreatDoorAD
import Derived.Deep.DeepCutAuto
import Derived.Deep.RegionWith
set_option maxRecDepth 100000
set_option maxHeartbeats 6400000
namespace Go.Proofs.YtgipjjhkhfihpaaGreatDoor
open Go.RowKit
theorem Tryz.infoInts:(Tryz.prog.info? 25).map (fun i=>(i.zero,i.size,i.bytes))=some (some (.slice none 0 0),1,24):=by kernel_rfl
structure RowsAt (base:Nat) (w:World) (bs:List (List Nat)) (hdrs:List Value):Prop where
 len:hdrs.length=bs.length
 row:∀ j (hj:j < bs.length),w.ownsRow base 3 1 (hdrs[j]'(by omega)) bs[j].length (zu bs[j])∧bs[j]≠[]
 apart:∀ i j (hi:i < hdrs.length) (hj:j < hdrs.length),i≠j→apart hdrs[i] hdrs[j]
structure BInv (base:Nat) (w:World) (bs:List (List Nat)) (cur:List Nat) (hdrs:List Value) (vB vb:Value):Prop where
 rows:RowsAt base w bs hdrs
 oB:w.ownsRow base 25 1 vB bs.length hdrs
 ob:w.ownsRow base 3 1 vb cur.length (zu cur)
 ap:∀ j (hj:j < hdrs.length),apart vb hdrs[j]
theorem RowsAt.later {base:Nat} {w w':World} {bs:List (List Nat)} {hdrs:List Value} (h:RowsAt base w bs hdrs) (hb:Below w.heap.size w w'):RowsAt base w' bs hdrs:=
 ⟨h.len,fun j hj=>⟨zO (h.row j hj).1 hb,(h.row j hj).2⟩,h.apart⟩
theorem BInv.later {base:Nat} {w w':World} {bs:List (List Nat)} {cur:List Nat} {hdrs:List Value} {vB vb:Value} (h:BInv base w bs cur hdrs vB vb) (hb:Below w.heap.size w w'):BInv base w' bs cur hdrs vB vb:=
 ⟨h.rows.later hb,zO h.oB hb,zO h.ob hb,h.ap⟩
theorem BInv.push_block {base:Nat} {w w':World} {bs:List (List Nat)} {cur:List Nat} {hdrs:List Value} {vB vb v':Value} (h:BInv base w bs cur hdrs vB vb) (hc:cur≠[]) (hg:w.grownBy w' vB.ownBlock)
  (hown:w'.ownsRow base 25 1 v' (bs.length + 1) (hdrs ++ [vb])):BInv base w' (bs ++ [cur]) [] (hdrs ++ [vb]) v' (.slice none 0 0):=by
 have hl:=h.rows.len;have kb:=zA3 h.ob (Below.refl _ _) h.oB hg (by decide);refine ⟨⟨by simp [hl],?_,?_⟩,by simpa using hown,World.ownsRow_nil _ _ _ _,fun _ _=>zEf _⟩
 ·intro j hj
  by_cases hjl:j < bs.length
  ·have:=h.rows.row j hjl
   simp only [List.getElem_append_left hjl,List.getElem_append_left (show j < hdrs.length by omega)];exact ⟨zA3 this.1 (Below.refl _ _) h.oB hg (by decide),this.2⟩
  ·have hje:j=bs.length:=(by simp at hj;omega);subst hje;simp only [List.getElem_concat_length];rw [show (hdrs ++ [vb])[bs.length]'(by simp;omega)=vb from by simp [← hl]];exact ⟨kb,hc⟩
 ·intro i j hi hj hij
  by_cases hil:i < hdrs.length
  ·by_cases hjl:j < hdrs.length
   ·simp only [List.getElem_append_left hil,List.getElem_append_left hjl];exact h.rows.apart i j hil hjl hij
   ·have hje:j=hdrs.length:=(by simp at hj;omega);subst hje;simp only [List.getElem_append_left hil,List.getElem_concat_length];exact (h.ap i hil).symm
  ·have hie:i=hdrs.length:=(by simp at hi;omega);subst hie;have hjl:j < hdrs.length:=(by simp at hj;omega);simp only [List.getElem_append_left hjl,List.getElem_concat_length];exact h.ap j hjl
theorem BInv.push_var {base:Nat} {w w':World} {bs:List (List Nat)} {cur:List Nat} {hdrs:List Value} {vB vb v':Value} {x:Nat} (h:BInv base w bs cur hdrs vB vb) (hg:w.grownBy w' vb.ownBlock)
  (hown:w'.ownsRow base 3 1 v' (cur.length + 1) (zu cur ++ [.int .i64 (x:Int)])) (hat:v'.ownBlock=vb.ownBlock∨∃ k,v'.ownBlock=some k∧w.heap.size≤k):BInv base w' bs (cur ++ [x]) hdrs vB v':=by
 refine ⟨⟨h.rows.len,fun j hj=>⟨?_,(h.rows.row j hj).2⟩,h.rows.apart⟩,zA3 h.oB (Below.refl _ _) h.ob hg (by decide),by simpa [zu] using hown,fun j hj=>?_⟩
 ·have hl:=h.rows.len;exact (h.rows.row j hj).1.kept hg (h.ap j (by omega)).symm.keep
 ·have hl:=h.rows.len;exact (h.ap j hj).grown (h.rows.row j (by omega)).1 hat
theorem zQQ {w w':World} {v:Value} {base n size g:Nat} {e t:TypeId} {xs:List Value} {cs:Array Value} (hg:w.grownBy w' v.ownBlock) (ho:w.ownsRow base e size v n xs) (hb:w.heap[g]?=some (.cells cs t (0,0))) (he:t≠e):w'.heap[g]?=some (.cells cs t (0,0)):=by
 rw [hg.block g (zB hb) (fun eq=>by
  rcases ho.2 with ⟨rfl,_⟩ | ⟨g',cap,cur',rfl,_,hh,_⟩
  ·simp [Value.ownBlock] at eq
  ·simp [Value.ownBlock] at eq;subst eq;rw [hb] at hh;simp at hh;exact he hh.2)]
 exact hb
theorem zNX (vs:List (Nat × Bool)) (k:Nat):(zq vs k).1.length≤k∧(zq vs k).2.length≤k:=by
 induction k with
 | zero=>simp [zq]
 | succ k ih=>
  rw [zq]
  split<;>simp<;>omega
def zEF (vs:List (Nat × Bool)) (w:World) (e:Ending) (w':World):Prop:=
 ∃ v hdrs,e=.returned v∧w'.ownsRow w.heap.size 25 1 v (zG vs).length hdrs∧RowsAt w.heap.size w' (zG vs) hdrs∧Below w.heap.size w w'
theorem zHs (base b:Nat) (q:QS) (w:World) (aV:Option Addr) (cV:Nat) (hf:w.cell? ⟨b,0,none⟩=some (.slice aV q.vars.length cV)) (hb:b < w.heap.size) (hV:w.ownsRow base 139 2 (.slice aV q.vars.length cV) q.vars.length (zd q.vars)) (hl:q.vars.length≤1048576) :
  Calls Tryz.prog 49 #[.pointer (some ⟨b,0,none⟩)] w fun e w'=>zEF q.vars w e w':=by
 obtain ⟨i3,hi3,hz30,hz31,hz32⟩:=info_parts Tryz.info3;obtain ⟨i5,hi5,hz50,hz51,hz52⟩:=info_parts Tryz.infoInts
 go_enter Tryz.func49,Tryz.ntmps49
 go_wp2_with fail
 go_loopg [3,4,12] (q.vars.length) (fun n vB vb i wx=>∃ (k:Nat) (hdrs:List Value),i=.int .i64 k∧k + n=q.vars.length∧BInv w.heap.size wx (zq q.vars k).1 (zq q.vars k).2 hdrs vB vb∧Below w.heap.size w wx)
 case atStart=>exact ⟨0,[],rfl,by omega,⟨⟨rfl,fun j hj=>by simp [zq] at hj,fun i j hi=>by simp at hi⟩,World.ownsRow_nil _ _ _ _,World.ownsRow_nil _ _ _ _,fun j hj=>by simp at hj⟩,Below.refl _ _⟩
 case round=>
  obtain ⟨k,hdrs,rfl,hk,hB,hbx⟩:=hrel;have hbs:=hbx.size;obtain ⟨gl1,gl2⟩:=zNX q.vars k
  by_cases hlt:k < q.vars.length
  ·obtain ⟨g,cap,hVe,hg,hg',_,hcell⟩:=zS hV (by omega);injection hVe with hVe _ hV2;subst hVe hV2;have hgw:g < wr.heap.size:=(by omega);have hbw:b < wr.heap.size:=(by omega);obtain ⟨ha,hb'⟩:=zCG q.vars k hlt;have hx0:wr.cell? ⟨g,k * 2,none⟩=some (.int .i64 (q.vars[k].1:Int)):=(by rw [hbx.cell (p:=⟨g,k * 2,none⟩) hg'];exact hcell _ _ ha);have hx1:wr.cell? ⟨g,k * 2 + 1,none⟩=some (.bool q.vars[k].2):=(by rw [hbx.cell (p:=⟨g,k * 2 + 1,none⟩) hg'];exact hcell _ _ hb');have hf1:wr.cell? ⟨b,0,none⟩=some (.slice (some ⟨g,0,none⟩) q.vars.length cV):=(by rw [hbx.cell (p:=⟨b,0,none⟩) hb];exact hf);have hdk:decide ((k:Int) < (q.vars.length:Int))=true:=(by simp;omega);have HG:Hid (zq q.vars (k + 1)=if zDN q.vars k then ((zq q.vars k).1 ++ [(zq q.vars k).2],[q.vars[k].1]) else ((zq q.vars k).1,(zq q.vars k).2 ++ [q.vars[k].1])):=zF (by
    rw [zq];simp [List.getD,hlt])
   by_cases h0:0 < k
   ·obtain ⟨ha1,hb1⟩:=zCG q.vars (k - 1) (by omega);have hy1:wr.cell? ⟨g,(k - 1) * 2 + 1,none⟩=some (.bool q.vars[k - 1].2):=(by rw [hbx.cell (p:=⟨g,(k - 1) * 2 + 1,none⟩) hg'];exact hcell _ _ hb1);have hd0:decide (0 < k)=true:=(by simpa using h0);have HN:Hid (zDN q.vars k=(q.vars[k].2 != q.vars[k - 1].2)):=zF (by
     unfold zDN zEQ;simp [List.getD,hlt,show k - 1 < q.vars.length by omega,h0])
    have hcur:(zq q.vars k).2≠[]:=by
     intro e
     have:=zI3 q.vars (k - 1)
     rw [show k - 1 + 1=k from by omega,e] at this;simp at this
    clear hcell ha hb' ha1 hb1;generalize zq q.vars k=G at *;obtain ⟨bs,cur⟩:=G;dsimp only at hB gl1 gl2 hcur;generalize q.vars[k - 1]=y at *;generalize q.vars[k]=x at *;obtain ⟨x1,x2⟩:=x;obtain ⟨y1,y2⟩:=y;dsimp only at hx0 hx1 hy1;have hbelA:∀ nq,Below wr.heap.size wr ((wr.alloc (.cells #[.int .i64 (x1:Int),.bool x2] 139)).drewN nq):=fun nq=>below_drewN ((Below.refl _ _).alloc (Nat.le_refl _) _) nq
    have hcvA:∀ nq,((wr.alloc (.cells #[.int .i64 (x1:Int),.bool x2] 139)).drewN nq).heap[wr.heap.size]?=some (.cells #[.int .i64 (x1:Int),.bool x2] 139 (0,0)):=fun nq=>heap_alloc_new wr _
    have HBA:=zF hbelA;have HCA:=zF hcvA;clear hbelA hcvA
    cases hxy:(x2 != y2) with
    | false=>
     have HN2:Hid (zDN q.vars k=false):=zF (by rw [zA HN];exact hxy);have HXY:=zF hxy;clear hxy
     cases x2<;>cases y2<;>first | (exfalso;exact absurd (zA HXY) (by decide)) | skip
     all_goals
      go_wp2_with fail
      go_quiet (fail)
      have hb1:=zA HBA nq;have hc1:=zA HCA nq;generalize World.drewN _ nq=W at *;have hBW:=hB.later hb1;have hbW:Below w.heap.size w W:=hbx.trans (hb1.mono hbs);have hbWs:=hbW.size;have hcv:W.cell? ⟨wr.heap.size,0,none⟩=some (.int .i64 (x1:Int)):=zE hc1 rfl
      go_wp2_with (at_builtin;refine zp rfl (.tmp 37) (.tmp 40) 25 rfl w.heap.size i3 (.int .i64 0) 1 8 Tryz.underlying25 hi3 hz30 hz31 hz32 rfl (by decide) _ _ _ hBW.ob rfl rfl rfl (by simp [Value.oneCell']) (by unfold maxLen;omega) (by omega) hbWs ?_;intro v5 w5 hown5 hgrow5 hat5)
      go_roundg (gk - 1)
      case measure=>omega
      case rel=>
       refine ⟨k + 1,hdrs,by go_num,by omega,?_,za hbW hgrow5 hBW.ob (Nat.le_refl _) hbWs⟩;rw [zA HG,zA HN2,if_neg (by decide)];exact hBW.push_var hgrow5 hown5 hat5
    | true=>
     have HN2:Hid (zDN q.vars k=true):=zF (by rw [zA HN];exact hxy);have HXY:=zF hxy;clear hxy;have hcl:0 < cur.length:=List.length_pos_iff.2 hcur
     cases x2<;>cases y2<;>first | (exfalso;exact absurd (zA HXY) (by decide)) | skip
     all_goals
      go_wp2_with fail
      go_quiet (fail)
      have hb1:=zA HBA nq;have hc1:=zA HCA nq;generalize World.drewN _ nq=W at *;have hBW:=hB.later hb1;have hbW:Below w.heap.size w W:=hbx.trans (hb1.mono hbs);have hbWs:=hbW.size;obtain ⟨gb,capb,rfl,_,_,_,_⟩:=zS hBW.ob hcl
      go_wp2_with (first | (at_builtin;refine zp rfl (.tmp 33) (.tmp 35) 45 rfl w.heap.size i5 (.slice none 0 0) 1 24 Tryz.underlying45 hi5 hz50 hz51 hz52 rfl (by decide) _ _ _ hBW.oB rfl rfl rfl (by simp [Value.oneCell']) (by unfold maxLen;omega) (by omega) hbWs ?_;intro v4 w4 hown4 hgrow4 hat4;have hB4:=hBW.push_block hcur hgrow4 hown4;have hc4:=zQQ hgrow4 hBW.oB hc1 (by decide);have hcv:w4.cell? ⟨wr.heap.size,0,none⟩=some (.int .i64 (x1:Int)):=(by rw [zC hc4];rfl);have hb4:=za hbW hgrow4 hBW.oB (Nat.le_refl _) hbWs;have hb4s:=hb4.size) | (at_builtin;refine zp rfl (.tmp 37) (.tmp 40) 25 rfl w.heap.size i3 (.int .i64 0) 1 8 Tryz.underlying25 hi3 hz30 hz31 hz32 rfl (by decide) _ _ _ hB4.ob rfl rfl rfl (by simp [Value.oneCell']) (by unfold maxLen;simp) (by simp) hb4s ?_;intro v5 w5 hown5 hgrow5 hat5))
      go_roundg (gk - 1)
      case measure=>omega
      case rel=>
       refine ⟨k + 1,hdrs ++ [.slice (some ⟨gb,0,none⟩) cur.length capb],by go_num,by omega,?_,za hb4 hgrow5 hB4.ob (Nat.le_refl _) hb4s⟩;rw [zA HG,zA HN2,if_pos rfl];exact hB4.push_var hgrow5 hown5 hat5
   ·have hd0:decide (0 < k)=false:=(by simpa using h0);have HN2:Hid (zDN q.vars k=false):=zF (by unfold zDN;rw [hd0];rfl);clear hcell ha hb' h0;generalize zq q.vars k=G at *;obtain ⟨bs,cur⟩:=G;dsimp only at hB gl1 gl2;generalize q.vars[k]=x at *;obtain ⟨x1,x2⟩:=x;dsimp only at hx0 hx1;have HBA:Hid (∀ nq,Below wr.heap.size wr ((wr.alloc (.cells #[.int .i64 (x1:Int),.bool x2] 139)).drewN nq)):=zF (fun nq=>below_drewN ((Below.refl _ _).alloc (Nat.le_refl _) _) nq);have HCA:Hid (∀ nq,((wr.alloc (.cells #[.int .i64 (x1:Int),.bool x2] 139)).drewN nq).heap[wr.heap.size]?=some (.cells #[.int .i64 (x1:Int),.bool x2] 139 (0,0))):=zF (fun nq=>heap_alloc_new wr _);go_wp2_with fail
    go_quiet (fail)
    have hb1:=zA HBA nq;have hc1:=zA HCA nq;generalize World.drewN _ nq=W at *;have hBW:=hB.later hb1;have hbW:Below w.heap.size w W:=hbx.trans (hb1.mono hbs);have hbWs:=hbW.size;have hcv:W.cell? ⟨wr.heap.size,0,none⟩=some (.int .i64 (x1:Int)):=zE hc1 rfl
    go_wp2_with (at_builtin;refine zp rfl (.tmp 37) (.tmp 40) 25 rfl w.heap.size i3 (.int .i64 0) 1 8 Tryz.underlying25 hi3 hz30 hz31 hz32 rfl (by decide) _ _ _ hBW.ob rfl rfl rfl (by simp [Value.oneCell']) (by unfold maxLen;omega) (by omega) hbWs ?_;intro v5 w5 hown5 hgrow5 hat5)
    go_roundg (gk - 1)
    case measure=>omega
    case rel=>
     refine ⟨k + 1,hdrs,by go_num,by omega,?_,za hbW hgrow5 hBW.ob (Nat.le_refl _) hbWs⟩;rw [zA HG,zA HN2,if_neg (by decide)];exact hBW.push_var hgrow5 hown5 hat5
  ·have hkl:k=q.vars.length:=(by omega);subst hkl;have hdk:decide ((q.vars.length:Int) < (q.vars.length:Int))=false:=(by simp);obtain ⟨pb,hpb⟩:∃ pb,zG q.vars=pb:=⟨_,rfl⟩;have hpb2:=hpb;unfold zG at hpb2;have HPB:=zF hpb;have HPB2:=zF hpb2;clear hpb hpb2;generalize zq q.vars q.vars.length=G at *;obtain ⟨bs,cur⟩:=G;dsimp only at hB gl1 gl2
   by_cases hc:0 < cur.length
   ·have hdc:decide (0 < cur.length)=true:=(by simpa using hc);have HP:Hid (zG q.vars=bs ++ [cur]):=zF (by rw [zA HPB,← zA HPB2];exact if_pos hc);obtain ⟨gb,capb,rfl,_,_,_,_⟩:=zS hB.ob hc;have hcur:cur≠[]:=List.length_pos_iff.1 hc
    go_wp2_with (at_builtin;refine zp rfl (.tmp 46) (.tmp 48) 45 rfl w.heap.size i5 (.slice none 0 0) 1 24 Tryz.underlying45 hi5 hz50 hz51 hz52 rfl (by decide) _ _ _ hB.oB rfl rfl rfl (by simp [Value.oneCell']) (by unfold maxLen;omega) (by omega) hbs ?_;intro v4 w4 hown4 hgrow4 hat4)
    go_ret;have hB4:=hB.push_block hcur hgrow4 hown4;refine ⟨v4,hdrs ++ [.slice (some ⟨gb,0,none⟩) cur.length capb],rfl,?_,?_,za hbx hgrow4 hB.oB (Nat.le_refl _) hbs⟩
    ·rw [zA HP];exact hB4.oB
    ·rw [zA HP];exact hB4.rows
   ·have hdc:decide (0 < cur.length)=false:=(by simpa using hc);have HP:Hid (zG q.vars=bs):=zF (by rw [zA HPB,← zA HPB2];exact if_neg hc);obtain ⟨ab,cb,rfl⟩:=zN hB.ob;go_wp2_with fail;go_ret;refine ⟨_,hdrs,rfl,?_,?_,hbx⟩
    ·rw [zA HP];exact hB.oB
    ·rw [zA HP];exact hB.rows
def RowAt (w:World) (e:TypeId) (size:Nat) (v:Value) (n:Nat) (xs:List Value):Prop:=
 xs.length=n * size∧((n=0∧∃ a,v=.slice a 0 0∧∀ k,v.ownBlock=some k→∃ c,w.heap[k]?=some (.cells c e (0,0)))∨
  ∃ g off cap cur,v=.slice (some ⟨g,off,none⟩) n cap∧w.heap[g]?=some (.cells cur e (0,0))∧n≤cap∧cap≤maxLen∧off + cap * size≤cur.size∧∀ j u,xs[j]?=some u→cur[off + j]?=some u)
theorem RowAt.blk {w:World} {e:TypeId} {size:Nat} {v:Value} {n:Nat} {xs:List Value} (h:RowAt w e size v n xs):∀ k,v.ownBlock=some k→∃ c,w.heap[k]?=some (.cells c e (0,0)):=by
 rcases h.2 with ⟨_,a,_,h2⟩ | ⟨g,off,cap,cur,rfl,hg,_⟩
 ·exact h2
 ·intro k hk;injection hk with hk;subst hk;exact ⟨cur,hg⟩
theorem RowAt.lt {w:World} {e:TypeId} {size:Nat} {v:Value} {n:Nat} {xs:List Value} (h:RowAt w e size v n xs):∀ k,v.ownBlock=some k→k < w.heap.size:=fun k hk=>by
 obtain ⟨c,hc⟩:=h.blk k hk;exact zB hc
theorem zr {w:World} {base:Nat} {e:TypeId} {size:Nat} {v:Value} {n:Nat} {xs:List Value} (h:w.ownsRow base e size v n xs):∀ k,v.ownBlock=some k→∃ c,w.heap[k]?=some (.cells c e (0,0)):=by
 rcases h.2 with ⟨rfl,_⟩ | ⟨g,cap,cur,rfl,_,hg,_⟩
 ·intro k hk;cases hk
 ·intro k hk;injection hk with hk;subst hk;exact ⟨cur,hg⟩
theorem zc {w:World} {k:Nat} {c c':Array Value} {e e':TypeId} {f f':Nat × Nat} (h:w.heap[k]?=some (.cells c e f)) (h':w.heap[k]?=some (.cells c' e' f')):e=e':=by
 rw [h] at h';injection h' with h';injection h' with _ h' _
theorem RowAt.form {w:World} {e:TypeId} {size:Nat} {v:Value} {n:Nat} {xs:List Value} (h:RowAt w e size v n xs):∃ a cap,v=.slice a n cap:=by
 rcases h.2 with ⟨rfl,a,rfl,_⟩ | ⟨g,off,cap,cur,rfl,_⟩
 ·exact ⟨_,_,rfl⟩
 ·exact ⟨_,_,rfl⟩
theorem RowAt.cell {w:World} {e:TypeId} {size:Nat} {v:Value} {n:Nat} {xs:List Value} (h:RowAt w e size v n xs) (hn:0 < n):∃ g off cap,v=.slice (some ⟨g,off,none⟩) n cap∧g < w.heap.size∧∀ j u,xs[j]?=some u→w.cell? ⟨g,off + j,none⟩=some u:=by
 rcases h.2 with ⟨h0,_⟩ | ⟨g,off,cap,cur,rfl,hg,_,_,_,hc⟩
 ·omega
 ·exact ⟨g,off,cap,rfl,zB hg,fun j u hj=>by rw [zC hg];exact hc j u hj⟩
theorem RowAt.keep {T:Nat→Prop} {w w':World} {e:TypeId} {size:Nat} {v:Value} {n:Nat} {xs:List Value} (h:RowAt w e size v n xs) (ho:Only T w w') (hT:∀ k,v.ownBlock=some k→¬ T k):RowAt w' e size v n xs:=by
 obtain ⟨h1,h2⟩:=h;refine ⟨h1,?_⟩
 rcases h2 with ⟨h0,a,ha,hl⟩ | ⟨g,off,cap,cur,rfl,hg,hr⟩
 ·exact Or.inl ⟨h0,a,ha,fun k hk=>by obtain ⟨c,hc⟩:=hl k hk;exact ⟨c,(ho.block k (zB hc) (hT k hk)).trans hc⟩⟩
 ·exact Or.inr ⟨g,off,cap,cur,rfl,(ho.block g (zB hg) (hT g rfl)).trans hg,hr⟩
structure SV where
 v:Value
 c:Value
 r:Value
 a:Value
 k:Value
abbrev zCc (C:SC) (S:SS) (V:SV):Array Value:=#[V.v,V.c,.int .i64 (C.uni.1:Int),.int .i64 (C.uni.2:Int),.int .i64 (C.budget:Int),.int .i64 (S.nodes:Int),.int .i64 1,V.r,.int .i64 2,V.a,.int .i64 (C.room:Int),V.k,.int .i64 (S.most:Int)]
structure SAt (w:World) (b:Nat) (C:SC) (S:SS) (V:SV):Prop where
 fb:w.heap[b]?=some (.cells (zCc C S V) 126 (0,0))
 oV:w.ownsRow 0 139 2 V.v C.q.vars.length (zd C.q.vars)
 oC:w.ownsRow 0 74 2 V.c C.q.cl.length (zAK C.q.cl)
 oR:w.ownsRow 0 134 6 V.r S.ref.length (zAk S.ref)
 oA:w.ownsRow 0 134 6 V.a S.aff.length (zAk S.aff)
 oK:RowAt w 129 2 V.k S.kept.length (zAK S.kept)
 ap:∀ k,V.r.ownBlock=some k→V.a.ownBlock≠some k
structure SBd (C:SC) (S:SS):Prop where
 qb:QB C.q
 uni:C.uni.1 < 512∧C.uni.2 < 512
 ref:∀ s∈S.ref,s.lits.1 < 512∧s.lits.2 < 512
 aff:∀ s∈S.aff,s.lits.1 < 512∧s.lits.2 < 512
 rl:S.ref.length≤100000
 al:S.aff.length≤100000
 kept:S.kept.length≤64
 kind:∀ f∈S.kept,f.1≤2∧f.2≤100000
 budget:C.budget≤1048576
 room:C.room≤64
 most:S.most≤64
 nodes:S.nodes≤1048576
def Far (b:Nat) (V:SV) (k:Nat):Prop:=k≠b∧V.v.ownBlock≠some k∧V.c.ownBlock≠some k∧V.r.ownBlock≠some k∧V.a.ownBlock≠some k∧V.k.ownBlock≠some k
def TS (b:Nat) (V:SV) (k:Nat):Prop:=k=b∨V.r.ownBlock=some k∨V.a.ownBlock=some k∨V.k.ownBlock=some k
theorem Far.ts {b:Nat} {V:SV} {k:Nat} (h:Far b V k):¬ TS b V k:=by
 rintro (h1 | h1 | h1 | h1)
 ·exact h.1 h1
 ·exact h.2.2.2.1 h1
 ·exact h.2.2.2.2.1 h1
 ·exact h.2.2.2.2.2 h1
theorem SAt.fresh {w:World} {b:Nat} {C:SC} {S:SS} {V:SV} (h:SAt w b C S V) {n:Nat} (hn:w.heap.size≤n):Far b V n:=by
 refine ⟨fun e=>?_,fun e=>?_,fun e=>?_,fun e=>?_,fun e=>?_,fun e=>?_⟩
 ·have:=zB h.fb;omega
 ·have:=(h.oV.lt n e).2;omega
 ·have:=(h.oC.lt n e).2;omega
 ·have:=(h.oR.lt n e).2;omega
 ·have:=(h.oA.lt n e).2;omega
 ·have:=h.oK.lt n e;omega
structure SMoved (b:Nat) (w w':World) (V V':SV):Prop where
 only:Only (TS b V) w w'
 v:V'.v=V.v
 c:V'.c=V.c
 r:Moved w V.r V'.r
 a:Moved w V.a V'.a
 k:Moved w V.k V'.k
theorem SMoved.of_below {b:Nat} {w w':World} {V:SV} (h:Below w.heap.size w w'):SMoved b w w' V V:=⟨Only.of_below h,rfl,rfl,Or.inl rfl,Or.inl rfl,Or.inl rfl⟩
theorem Moved.ne {w:World} {v v':Value} (h:Moved w v v') {k:Nat} (hk:k < w.heap.size) (hv:v.ownBlock≠some k):v'.ownBlock≠some k:=by
 rcases h with h | ⟨j,h,hj⟩
 ·rw [h];exact hv
 ·rw [h];intro e;injection e with e;omega
theorem Moved.trans {w w1:World} {a b c:Value} (h:Moved w a b) (k:Moved w1 b c) (hs:w.heap.size≤w1.heap.size):Moved w a c:=by
 rcases k with k | ⟨j,k,hj⟩
 ·rcases h with h | ⟨i,h,hi⟩
  ·exact Or.inl (k.trans h)
  ·exact Or.inr ⟨i,k.trans h,hi⟩
 ·exact Or.inr ⟨j,k,by omega⟩
theorem SMoved.far {b:Nat} {w w':World} {V V':SV} (h:SMoved b w w' V V') {k:Nat} (hk:k < w.heap.size) (hf:Far b V k):Far b V' k:=
 ⟨hf.1,by rw [h.v];exact hf.2.1,by rw [h.c];exact hf.2.2.1,h.r.ne hk hf.2.2.2.1,h.a.ne hk hf.2.2.2.2.1,h.k.ne hk hf.2.2.2.2.2⟩
theorem SMoved.blk {b:Nat} {w w':World} {V V':SV} (h:SMoved b w w' V V') {k:Nat} {o:Obj} (hb:w.heap[k]?=some o) (hf:Far b V k):w'.heap[k]?=some o:=(h.only.block k (zB hb) hf.ts).trans hb
theorem SMoved.trans {b:Nat} {w w1 w2:World} {V V1 V2:SV} (h:SMoved b w w1 V V1) (k:SMoved b w1 w2 V1 V2):SMoved b w w2 V V2:=by
 have hs:=h.only.size;refine ⟨⟨k.only.os.trans h.only.os,k.only.tape.trans h.only.tape,k.only.output.trans h.only.output,Nat.le_trans hs k.only.size,fun i hi ht=>?_⟩,k.v.trans h.v,k.c.trans h.c,h.r.trans k.r hs,h.a.trans k.a hs,h.k.trans k.k hs⟩;refine (k.only.block i (by omega) ?_).trans (h.only.block i hi ht);rintro (h1 | h1 | h1 | h1)
 ·exact ht (Or.inl h1)
 ·exact h.r.ne hi (fun e=>ht (Or.inr (Or.inl e))) h1
 ·exact h.a.ne hi (fun e=>ht (Or.inr (Or.inr (Or.inl e)))) h1
 ·exact h.k.ne hi (fun e=>ht (Or.inr (Or.inr (Or.inr e)))) h1
theorem SAt.later {w w':World} {b:Nat} {C:SC} {S:SS} {V:SV} (h:SAt w b C S V) (hb:Below w.heap.size w w'):SAt w' b C S V:=
 ⟨(hb.block b (zB h.fb)).trans h.fb,zO h.oV hb,zO h.oC hb,zO h.oR hb,zO h.oA hb,h.oK.keep (Only.of_below (T:=fun _=>False) hb) (fun _ _ h=>h),h.ap⟩
theorem SAt.set {w:World} {b:Nat} {C:SC} {S:SS} {V:SV} (h:SAt w b C S V) {k:Nat} (hf:Far b V k) (o:Nat) (u:Value):SAt (w.setCell ⟨k,o,none⟩ u) b C S V:=
 ⟨by rw [Below.heap_setCell _ _ _ _ (fun e=>hf.1 e.symm)];exact h.fb,zR h.oV hf.2.1 u,zR h.oC hf.2.2.1 u,zR h.oR hf.2.2.2.1 u,zR h.oA hf.2.2.2.2.1 u,
  h.oK.keep (T:=fun j=>j=k) ((Only.refl (fun j=>j=k) w).setCell (p:=⟨k,o,none⟩) (Or.inl rfl) u) (fun j hj e=>hf.2.2.2.2.2 (by rw [hj,e])),h.ap⟩
theorem SMoved.set {b:Nat} {w w':World} {V V':SV} (h:SMoved b w w' V V') {k:Nat} (hk:w.heap.size≤k) (o:Nat) (u:Value):SMoved b w (w'.setCell ⟨k,o,none⟩ u) V V':=
 ⟨h.only.setCell (p:=⟨k,o,none⟩) (Or.inr hk) u,h.v,h.c,h.r,h.a,h.k⟩
def SPost (b:Nat) (C:SC) (S':SS) (V:SV) (w w':World):Prop:=∃ V',SAt w' b C S' V'∧SMoved b w w' V V'
def zCY (l:List zAB):List Value:=l.flatMap (fun r=>[Value.int .i64 (r.1.1:Int),Value.int .i64 (r.1.2:Int),Value.int .i64 (r.2.1:Int),Value.int .i64 (r.2.2:Int)])
theorem zKl (l:List zAB) (k j:Nat) (h:k < l.length) (hj:j < 4):(zCY l)[k * 4 + j]?=[Value.int .i64 (l[k].1.1:Int),Value.int .i64 (l[k].1.2:Int),Value.int .i64 (l[k].2.1:Int),Value.int .i64 (l[k].2.2:Int)][j]?:=by
 induction l generalizing k with
 | nil=>simp at h
 | cons a l ih=>
  cases k with
  | zero=>
   simp only [zCY,List.flatMap_cons,Nat.zero_mul,Nat.zero_add,List.getElem_cons_zero];rw [List.getElem?_append_left (by simpa using hj)]
  | succ k=>
   have:=ih k (by simpa using h)
   simp only [zCY,List.flatMap_cons] at this ⊢;rw [show (k + 1) * 4 + j=(k * 4 + j) + 4 from by omega,List.getElem?_append_right (by simp)]
   simpa using this
def zDV (l:BL) (hdrs:List Value):List Value:=(l.zip hdrs).flatMap (fun x=>[x.2,Value.bool x.1.2])
theorem zIS (l:BL) (hdrs:List Value) (k:Nat) (h:k < l.length) (hh:k < hdrs.length):(zDV l hdrs)[k * 2]?=some hdrs[k]∧(zDV l hdrs)[k * 2 + 1]?=some (.bool l[k].2):=by
 induction l generalizing k hdrs with
 | nil=>simp at h
 | cons a l ih=>
  match hdrs,hh with
  | b :: hs,hh=>
   cases k with
   | zero=>simp [zDV]
   | succ k=>
    have:=ih hs k (by simpa using h) (by simpa using hh)
    simp only [zDV,List.zip_cons_cons,List.flatMap_cons] at this ⊢;rw [show (k + 1) * 2=k * 2 + 2 from by omega,show k * 2 + 2 + 1=(k * 2 + 1) + 2 from by omega,List.getElem?_append_right (by simp),List.getElem?_append_right (by simp)]
    simpa using this
structure RBd (rs:List zAB):Prop where
 len:rs.length≤9000
 bits:∀ r∈rs,(r.1.1 < 512∧r.1.2 < 512)∧r.2.1 < 512∧r.2.2 < 512
structure GV where
 vB:Value
 vR:Value
 hdrs:List Value
structure GRows (w:World) (bl:BL) (rs:List zAB) (v:GV):Prop where
 oB:w.ownsRow 0 111 2 v.vB bl.length (zDV bl v.hdrs)
 oR:w.ownsRow 0 149 4 v.vR rs.length (zCY rs)
 len:v.hdrs.length=bl.length
 row:∀ j (hj:j < bl.length),w.ownsRow 0 3 1 (v.hdrs[j]'(by omega)) bl[j].1.length (zu bl[j].1)
structure GameAt (w:World) (b:Nat) (t:TypeId) (bl:BL) (rs:List zAB) (g:GS) (v:GV):Prop where
 fb:w.heap[b]?=some (.cells #[v.vB,v.vR,.int .i64 (g.turn:Int),.int .i64 (g.vals.1:Int),.int .i64 (g.vals.2:Int)] t (0,0))
 tt:t=76∨t=79
 rows:GRows w bl rs v
theorem GRows.keep {T:Nat→Prop} {w w':World} {bl:BL} {rs:List zAB} {v:GV} (h:GRows w bl rs v) (ho:Only T w w') (hT:∀ k cs e,w.heap[k]?=some (.cells cs e (0,0))→e=111∨e=149∨(e=3∧∃ j,∃ hj:j < v.hdrs.length,v.hdrs[j].ownBlock=some k)→¬ T k):GRows w' bl rs v:=by
 have hl:=h.len;refine ⟨zY h.oB ho (fun k hk=>?_),zY h.oR ho (fun k hk=>?_),h.len,fun j hj=>zY (h.row j hj) ho (fun k hk=>?_)⟩
 ·obtain ⟨c,hc⟩:=zr h.oB k hk;exact hT k _ _ hc (Or.inl rfl)
 ·obtain ⟨c,hc⟩:=zr h.oR k hk;exact hT k _ _ hc (Or.inr (Or.inl rfl))
 ·obtain ⟨c,hc⟩:=zr (h.row j hj) k hk;exact hT k _ _ hc (Or.inr (Or.inr ⟨rfl,j,by omega,hk⟩))
theorem GRows.later {w w':World} {bl:BL} {rs:List zAB} {v:GV} (h:GRows w bl rs v) (hb:Below w.heap.size w w'):GRows w' bl rs v:=
 h.keep (T:=fun _=>False) (Only.of_below hb) (fun _ _ _ _ _ h=>h)
theorem GameAt.later {w w':World} {b:Nat} {t:TypeId} {bl:BL} {rs:List zAB} {g:GS} {v:GV} (h:GameAt w b t bl rs g v) (hb:Below w.heap.size w w'):GameAt w' b t bl rs g v:=
 ⟨(hb.block b (zB h.fb)).trans h.fb,h.tt,h.rows.later hb⟩
theorem GameAt.rest {w w':World} {b:Nat} {t:TypeId} {bl:BL} {rs:List zAB} {g:GS} {v:GV} (h:GameAt w b t bl rs g v) (ho:Only (·=b) w w'):GRows w' bl rs v:=
 h.rows.keep ho (fun k cs e hk ht hkb=>by
  subst hkb;have he:=zc hk h.fb
  rcases h.tt with h1 | h1<;>rcases ht with h2 | h2 | ⟨h2,_⟩<;>(rw [he,h1] at h2;revert h2;decide))
theorem zQy (r1 r2 t1 t2 v p n:Nat) (w:World) (hr:(r1 < 512∧r2 < 512)∧t1 < 512∧t2 < 512) (hp:p < 512∧n < 512) :
  Calls Tryz.prog 104 #[.agg #[.int .i64 (r1:Int),.int .i64 (r2:Int),.int .i64 (t1:Int),.int .i64 (t2:Int)],.int .i64 (v:Int),zAj (p,n)] w fun e w'=>e=.returned (.bool (zDB v (p,n) ((r1,r2),(t1,t2))))∧Below w.heap.size w w':=by
 have HF:Hid (zDB v (p,n) ((r1,r2),(t1,t2))=(zCz (zAz (r1,r2) (p,n)) && zs (t1,t2) v)):=zF rfl
 go_enter Tryz.func104,Tryz.ntmps104
 go_wp2_with fail;generalize hw0:((w.alloc (.cells #[.int .i64 (r1:Int),.int .i64 (r2:Int),.int .i64 (t1:Int),.int .i64 (t2:Int)] 149)).alloc (.cells #[.int .i64 (p:Int),.int .i64 (n:Int)] 74))=u1;have hB:Below w.heap.size w u1:=(by rw [← hw0];exact ((Below.refl _ _).alloc (Nat.le_refl _) _).alloc (by simp) _);have hru:u1.heap[w.heap.size]?=some (.cells #[.int .i64 (r1:Int),.int .i64 (r2:Int),.int .i64 (t1:Int),.int .i64 (t2:Int)] 149 (0,0)):=(by rw [← hw0,heap_alloc_old _ _ (by simp)];exact zP (by simp));have hva:u1.heap[w.heap.size + 1]?=some (.cells #[.int .i64 (p:Int),.int .i64 (n:Int)] 74 (0,0)):=(by rw [← hw0];exact zP (by simp));clear hw0;obtain ⟨cru0,cru1,cru2,cru3⟩:=zAi hru;have lru:=zB hru;obtain ⟨cva0,cva1⟩:=zJ hva;have lva:=zB hva;refine (zC5 r1 r2 p n _ hr.1.1 hr.1.2 hp.1 hp.2).mono ?_;rintro e u2 ⟨rfl,b2⟩;replace hB:=hB.trans (b2.mono hB.size);replace hru:=zH b2 hru;clear cru0 cru1 cru2 cru3;obtain ⟨cru0,cru1,cru2,cru3⟩:=zAi hru;replace lru:=zB hru;replace hva:=zH b2 hva;clear cva0 cva1;obtain ⟨cva0,cva1⟩:=zJ hva;replace lva:=zB hva;have hm:=zDe (r1,r2) (p,n) hr.1;generalize hea:zAz (r1,r2) (p,n)=c at *;clear hea;obtain ⟨d1,d2⟩:=c;dsimp only at hm;go_wp2_with fail;generalize hw0:u2.alloc (.cells #[.int .i64 (d1:Int),.int .i64 (d2:Int)] 74)=u3;have b3:Below u2.heap.size u2 u3:=(by rw [← hw0];exact (Below.refl _ _).alloc (Nat.le_refl _) _);have hop:u3.heap[u2.heap.size]?=some (.cells #[.int .i64 (d1:Int),.int .i64 (d2:Int)] 74 (0,0)):=(by rw [← hw0];exact heap_alloc_new _ _);clear hw0;replace hB:=hB.trans (b3.mono hB.size);replace hru:=zH b3 hru;clear cru0 cru1 cru2 cru3;obtain ⟨cru0,cru1,cru2,cru3⟩:=zAi hru;replace lru:=zB hru;replace hva:=zH b3 hva;clear cva0 cva1;obtain ⟨cva0,cva1⟩:=zJ hva;replace lva:=zB hva;obtain ⟨cop0,cop1⟩:=zJ hop;have lop:=zB hop;refine (zEh d1 d2 _ hm.1 hm.2).mono ?_;rintro e u4 ⟨rfl,b4⟩;replace hB:=hB.trans (b4.mono hB.size);replace hru:=zH b4 hru;clear cru0 cru1 cru2 cru3;obtain ⟨cru0,cru1,cru2,cru3⟩:=zAi hru;replace lru:=zB hru;replace hva:=zH b4 hva;clear cva0 cva1;obtain ⟨cva0,cva1⟩:=zJ hva;replace lva:=zB hva;replace hop:=zH b4 hop;clear cop0 cop1;obtain ⟨cop0,cop1⟩:=zJ hop;replace lop:=zB hop
 cases hem:(d1 ||| d2 == 0) with
 | false=>
  have HF2:Hid (zDB v (p,n) ((r1,r2),(t1,t2))=false):=zF (by rw [zA HF];show ((d1 ||| d2 == 0) && _)=_;rw [hem];rfl);go_wp2_with fail;go_ret;exact ⟨by rw [zA HF2];rfl,hB⟩
 | true=>
  have HF2:Hid (zDB v (p,n) ((r1,r2),(t1,t2))=((t1 ||| t2) &&& zAD (v:Int) != 0)):=zF (by rw [zA HF];show ((d1 ||| d2 == 0) && _)=_;rw [hem];rfl);go_wp2_with fail;refine (zEk t1 t2 v _ hr.2.1 hr.2.2).mono ?_;rintro e u9 ⟨rfl,b9⟩;go_wp2_with fail;go_ret;exact ⟨by rw [zA HF2];rfl,hB.trans (b9.mono hB.size)⟩
theorem zMH (rs:List zAB) (vals:Nat × Nat) (v k:Nat) (h:k < rs.length):zAx (rs.drop k) vals v=if zDB v vals rs[k] then zj rs[k].2 (v:Int) else zAx (rs.drop (k + 1)) vals v:=by
 unfold zAx;rw [List.drop_eq_getElem_cons h,List.find?_cons]
 cases zDB v vals rs[k]<;>rfl
theorem zM6 (b:Nat) (t:TypeId) (bl:BL) (rs:List zAB) (g:GS) (gv:GV) (v:Nat) (w:World) (hG:GameAt w b t bl rs g gv) (hR:RBd rs) (hp:g.vals.1 < 512∧g.vals.2 < 512) (hv:v≤8) :
  Calls Tryz.prog 77 #[.pointer (some ⟨b,0,none⟩),.int .i64 (v:Int)] w fun e w'=>e=.returned (.bool (zAx rs g.vals v))∧Below w.heap.size w w':=by
 obtain ⟨turn,p,n⟩:=g;have hbw:=zB hG.fb;obtain ⟨aR,cR,hRf⟩:=zN hG.rows.oR;have hoR:=hG.rows.oR;rw [hRf] at hoR;have k1:w.cell? ⟨b,1,none⟩=some (.slice aR rs.length cR):=(by rw [zC hG.fb];exact congrArg some hRf);have hrl:=hR.len
 go_enter Tryz.func77,Tryz.ntmps77
 go_wp2_with fail
 go_loopg [12] (rs.length) (fun m i wx=>∃ (k:Nat),i=.int .i64 k∧k + m=rs.length∧zAx rs (p,n) v=zAx (rs.drop k) (p,n) v∧Below w.heap.size w wx)
 case atStart=>exact ⟨0,rfl,by omega,rfl,Below.refl _ _⟩
 case round=>
  obtain ⟨k,rfl,hk,hwt,hb⟩:=hrel;have hGr:=hG.later hb;have lb:=zB hGr.fb;have m3:wr.cell? ⟨b,3,none⟩=some (.int .i64 (p:Int)):=zE hGr.fb rfl;have m4:wr.cell? ⟨b,4,none⟩=some (.int .i64 (n:Int)):=zE hGr.fb rfl
  by_cases hlt:k < rs.length
  ·have HW:Hid (zAx rs (p,n) v=if zDB v (p,n) rs[k] then zj rs[k].2 (v:Int) else zAx (rs.drop (k + 1)) (p,n) v):=zF (by rw [hwt];exact zMH rs (p,n) v k hlt);have hbd:=hR.bits _ (List.getElem_mem hlt);obtain ⟨g,cap,hVe,hg,hg',_,hcell⟩:=zS hoR (by omega);injection hVe with hVe _ hV2;subst hVe hV2;have hc:∀ j (hj:j < 4) u,[Value.int .i64 (rs[k].1.1:Int),Value.int .i64 (rs[k].1.2:Int),Value.int .i64 (rs[k].2.1:Int),Value.int .i64 (rs[k].2.2:Int)][j]?=some u→wr.cell? ⟨g,k * 4 + j,none⟩=some u:=fun j hj u hu=>by
    rw [hb.cell (p:=⟨g,k * 4 + j,none⟩) hg'];exact hcell _ _ (by rw [zKl rs k j hlt hj];exact hu)
   have hx0:wr.cell? ⟨g,k * 4,none⟩=some (.int .i64 (rs[k].1.1:Int)):=hc 0 (by omega) _ rfl;have hx1:wr.cell? ⟨g,k * 4 + 1,none⟩=some (.int .i64 (rs[k].1.2:Int)):=hc 1 (by omega) _ rfl;have hx2:wr.cell? ⟨g,k * 4 + 2,none⟩=some (.int .i64 (rs[k].2.1:Int)):=hc 2 (by omega) _ rfl;have hx3:wr.cell? ⟨g,k * 4 + 3,none⟩=some (.int .i64 (rs[k].2.2:Int)):=hc 3 (by omega) _ rfl;have hgw:g < wr.heap.size:=Nat.lt_of_lt_of_le hg' hb.size;clear hc hcell hwt;generalize rs[k]=r at *;obtain ⟨⟨r1,r2⟩,t1,t2⟩:=r;dsimp only at *;go_wp2_with fail;have hA:Below wr.heap.size wr (wr.alloc (.cells #[.int .i64 (r1:Int),.int .i64 (r2:Int),.int .i64 (t1:Int),.int .i64 (t2:Int)] 149)):=(Below.refl _ _).alloc (Nat.le_refl _) _;have hru:=heap_alloc_new wr (.cells #[.int .i64 (r1:Int),.int .i64 (r2:Int),.int .i64 (t1:Int),.int .i64 (t2:Int)] 149);have hGa:=hGr.later hA;have hBa:=hb.trans (hA.mono hb.size);generalize wr.alloc (.cells #[.int .i64 (r1:Int),.int .i64 (r2:Int),.int .i64 (t1:Int),.int .i64 (t2:Int)] 149)=wa at *;obtain ⟨cru0,cru1,cru2,cru3⟩:=zAi hru;have lru:=zB hru;have lba:=zB hGa.fb;have n3:wa.cell? ⟨b,3,none⟩=some (.int .i64 (p:Int)):=zE hGa.fb rfl;have n4:wa.cell? ⟨b,4,none⟩=some (.int .i64 (n:Int)):=zE hGa.fb rfl;obtain ⟨wo,rfl⟩:∃ wo,wo=wr:=⟨_,rfl⟩
   go_cut [22] (fun s22 wx=>s22=.bool (zDB v (p,n) ((r1,r2),(t1,t2)))∧Below wa.heap.size wa wx)
   case first=>
    go_region_with (go_at_call 104;refine (zQy r1 r2 t1 t2 v p n _ hbd hp).mono ?_;rintro e v1 ⟨rfl,y1⟩;have x1:Below wa.heap.size wa v1:=Below.trans (by first | exact Below.refl _ _ | exact (Below.refl _ _).drew) (y1.mono (by simp)))
    all_goals
     go_wp2_with fail
     go_meet
     exact ⟨rfl,x1⟩
   case rest=>
   obtain ⟨rfl,hbc⟩:=hcut;have hBc:=hBa.trans (hbc.mono hBa.size);have hru2:=zH hbc hru;have d0:wc.cell? ⟨wo.heap.size,0,none⟩=some (.int .i64 (r1:Int)):=zE hru2 rfl;have d1:wc.cell? ⟨wo.heap.size,1,none⟩=some (.int .i64 (r2:Int)):=zE hru2 rfl;have d2:wc.cell? ⟨wo.heap.size,2,none⟩=some (.int .i64 (t1:Int)):=zE hru2 rfl;have d3:wc.cell? ⟨wo.heap.size,3,none⟩=some (.int .i64 (t2:Int)):=zE hru2 rfl;have lru2:=zB hru2
   cases hft:zDB v (p,n) ((r1,r2),(t1,t2)) with
   | true=>
    have HW2:Hid (zAx rs (p,n) v=zj (t1,t2) (v:Int)):=zF (by rw [zA HW,hft];rfl);go_wp2_with fail;refine (zCw t1 t2 (v:Int) _ hbd.2.1 hbd.2.2 (by omega) (by omega)).mono ?_;rintro e w9 ⟨rfl,b9⟩;go_wp2_with fail;go_ret;exact ⟨by rw [zA HW2];rfl,hBc.trans (b9.mono hBc.size)⟩
   | false=>
    have HW2:Hid (zAx rs (p,n) v=zAx (rs.drop (k + 1)) (p,n) v):=zF (by rw [zA HW,hft];rfl);go_wp2_with fail
    go_roundg (gk - 1)
    case measure=>omega
    case rel=>exact ⟨k + 1,by go_num,by omega,zA HW2,hBc⟩
  ·have hkl:k=rs.length:=(by omega);subst hkl;have HW:Hid (zAx rs (p,n) v=false):=zF (by rw [hwt,List.drop_length];rfl);clear hwt;go_wp2_with fail;go_ret;exact ⟨by rw [zA HW];rfl,hb⟩
theorem zOJ (b:Nat) (t:TypeId) (bl:BL) (rs:List zAB) (g:GS) (gv:GV) (v:Nat) (x:Bool) (w:World) (hG:GameAt w b t bl rs g gv) (hp:g.vals.1 < 512∧g.vals.2 < 512) (hv:v≤8) :
  Calls Tryz.prog 78 #[.pointer (some ⟨b,0,none⟩),.int .i64 (v:Int),.bool x] w fun e w'=>e=.returned (.tuple #[])∧GameAt w' b t bl rs ⟨g.turn,zIq g.vals v x⟩ gv∧Only (·=b) w w':=by
 obtain ⟨turn,p,n⟩:=g;dsimp only at hp;have lb:=zB hG.fb;have m3:w.cell? ⟨b,3,none⟩=some (.int .i64 (p:Int)):=zE hG.fb rfl;have m4:w.cell? ⟨b,4,none⟩=some (.int .i64 (n:Int)):=zE hG.fb rfl;have hwn:IntKind.i64.wrap (-(v:Int))=-(v:Int):=zDg v hv;have HS:Hid (zIq (p,n) v x=zQ (p,n) (zAF v x)):=zF rfl
 go_enter Tryz.func78,Tryz.ntmps78
 cases x with
 | true=>
  have HS2:Hid (zIq (p,n) v true=zQ (p,n) ((v:Int))):=zF rfl;go_wp2_with fail;refine (zCH p n ((v:Int)) _ hp.1 hp.2 (by omega) (by omega)).mono ?_;rintro e w1 ⟨rfl,hb1⟩;have hG1:=hG.later hb1;have lb1:=zB hG1.fb;have k3:w1.cell? ⟨b,3,none⟩=some (.int .i64 (p:Int)):=zE hG1.fb rfl;have k4:w1.cell? ⟨b,4,none⟩=some (.int .i64 (n:Int)):=zE hG1.fb rfl;have z3:=zD hG1.fb 3;have z4:=zD hG1.fb 4;generalize zQ (p,n) ((v:Int))=c at *;obtain ⟨d1,d2⟩:=c;go_wp2_with fail
  go_end0
  have ho:Only (·=b) w1 ((w1.setCell ⟨b,3,none⟩ (.int .i64 (d1:Int))).setCell ⟨b,4,none⟩ (.int .i64 (d2:Int))):=((Only.refl (·=b) w1).setCell (p:=⟨b,3,none⟩) (Or.inl rfl) _).setCell (p:=⟨b,4,none⟩) (Or.inl rfl) _;refine ⟨rfl,⟨?_,hG.tt,hG1.rest ho⟩,(Only.of_below hb1).trans ho⟩;rw [zA HS2];exact zI (zI hG1.fb 3 _) 4 _
 | false=>
  have HS2:Hid (zIq (p,n) v false=zQ (p,n) (-(v:Int))):=zF rfl;go_wp2_with fail;refine (zCH p n (-(v:Int)) _ hp.1 hp.2 (by omega) (by omega)).mono ?_;rintro e w1 ⟨rfl,hb1⟩;have hG1:=hG.later hb1;have lb1:=zB hG1.fb;have k3:w1.cell? ⟨b,3,none⟩=some (.int .i64 (p:Int)):=zE hG1.fb rfl;have k4:w1.cell? ⟨b,4,none⟩=some (.int .i64 (n:Int)):=zE hG1.fb rfl;have z3:=zD hG1.fb 3;have z4:=zD hG1.fb 4;generalize zQ (p,n) (-(v:Int))=c at *;obtain ⟨d1,d2⟩:=c;go_wp2_with fail
  go_end0
  have ho:Only (·=b) w1 ((w1.setCell ⟨b,3,none⟩ (.int .i64 (d1:Int))).setCell ⟨b,4,none⟩ (.int .i64 (d2:Int))):=((Only.refl (·=b) w1).setCell (p:=⟨b,3,none⟩) (Or.inl rfl) _).setCell (p:=⟨b,4,none⟩) (Or.inl rfl) _;refine ⟨rfl,⟨?_,hG.tt,hG1.rest ho⟩,(Only.of_below hb1).trans ho⟩;rw [zA HS2];exact zI (zI hG1.fb 3 _) 4 _
structure BBd (bl:BL):Prop where
 len:bl.length≤8
 row:∀ x∈bl,x.1.length≤8∧∀ v∈x.1,1≤v∧v≤8
theorem zIV (b:Nat) (t:TypeId) (bl:BL) (rs:List zAB) (g:GS) (gv:GV) (w:World) (hG:GameAt w b t bl rs g gv) (hR:RBd rs) (hB:BBd bl) (hp:g.vals.1 < 512∧g.vals.2 < 512) (ht:g.turn≤bl.length) :
  Calls Tryz.prog 51 #[.pointer (some ⟨b,0,none⟩)] w fun e w'=>e=.returned (.tuple #[])∧GameAt w' b t bl rs (zEM rs bl g) gv∧Only (·=b) w w':=by
 have lb:=zB hG.fb;have hbl:=hB.len
 go_enter Tryz.func51,Tryz.ntmps51
 go_wp2_with fail;have HB:=zF hB;clear hB
 go_loopg [] (bl.length + 1 - g.turn) (fun m wx=>∃ (g':GS),g'.turn≤bl.length∧m + g'.turn=bl.length + 1∧(g'.vals.1 < 512∧g'.vals.2 < 512)∧zEM rs bl g=zEM rs bl g'∧GameAt wx b t bl rs g' gv∧Only (·=b) w wx)
 case atStart=>exact ⟨g,ht,by omega,hp,rfl,hG,Only.refl _ _⟩
 case round=>
  obtain ⟨⟨turn,p,n⟩,hle,hm,hlt,hans,hGr,ho⟩:=hrel;dsimp only at hle hm hlt;have HA:=zF hans;clear hans;have lbr:=zB hGr.fb;obtain ⟨aB,cB,hBf⟩:=zN hGr.rows.oB;have c0:wr.cell? ⟨b,0,none⟩=some (.slice aB bl.length cB):=(by rw [zC hGr.fb];exact congrArg some hBf);have c2:wr.cell? ⟨b,2,none⟩=some (.int .i64 (turn:Int)):=zE hGr.fb rfl
  by_cases hl:turn < bl.length
  ·have hd1:decide ((turn:Int) < (bl.length:Int))=true:=decide_eq_true (by omega);have hd2:decide (turn < bl.length)=true:=decide_eq_true hl;have hhl:turn < gv.hdrs.length:=(by rw [hGr.rows.len];exact hl);obtain ⟨e0,e1⟩:=zIS bl gv.hdrs turn hl hhl;have hoB:=hGr.rows.oB;rw [hBf] at hoB;obtain ⟨gB,cap,hVe,hg,hg',_,hcell⟩:=zS hoB (by omega);injection hVe with hVe _ hV2;subst hVe hV2;have hx0:=hcell _ _ e0;have hx1:=hcell _ _ e1;have hrow:=hGr.rows.row turn hl;obtain ⟨aX,cX,hXf⟩:=zN hrow;rw [hXf] at hx0;have HAG:Hid (bl[turn].2=true→zEM rs bl ⟨turn,(p,n)⟩=zEM rs bl ⟨turn + 1,zDF rs bl[turn].1 (p,n)⟩):=zF (fun h=>by
    unfold zEM;rw [show bl.length - (GS.mk turn (p,n)).turn=(bl.length - (turn + 1)) + 1 from by show bl.length - turn=_;omega,zE7];rw [show bl.getD (GS.mk turn (p,n)).turn ([],false)=bl[turn] from by simp [List.getD,hl],if_pos h])
   have HAS:Hid (bl[turn].2=false→zEM rs bl ⟨turn,(p,n)⟩=⟨turn,(p,n)⟩):=zF (fun h=>by
    unfold zEM;rw [show bl.length - (GS.mk turn (p,n)).turn=(bl.length - (turn + 1)) + 1 from by show bl.length - turn=_;omega,zE7];rw [show bl.getD (GS.mk turn (p,n)).turn ([],false)=bl[turn] from by simp [List.getD,hl],if_neg (by rw [h];decide)])
   have hbd:=(zA HB).row _ (List.getElem_mem hl);have HRW:=zF hrow;clear hcell e0 e1 hrow hoB
   cases hw:bl[turn].2 with
   | true=>
    rw [hw] at hx1;have HF:Hid (zEM rs bl g=zEM rs bl ⟨turn + 1,zDF rs bl[turn].1 (p,n)⟩):=zF (by rw [zA HA];exact zA HAG hw);go_wp2_with fail
    go_quiet (fail)
    have b1:Below wr.heap.size wr (wr.drewN nq):=below_drewN (Below.refl _ _) nq;have hG1:=hGr.later b1;have ho1:Only (·=b) w (wr.drewN nq):=ho.trans (Only.of_below b1);have hgw:gB < (wr.drewN nq).heap.size:=Nat.lt_of_lt_of_le hg' b1.size;replace hx0:(wr.drewN nq).cell? ⟨gB,turn * 2,none⟩=_:=(b1.cell (p:=⟨gB,turn * 2,none⟩) hg').trans hx0;replace c0:(wr.drewN nq).cell? ⟨b,0,none⟩=_:=(b1.cell (p:=⟨b,0,none⟩) lbr).trans c0;replace c2:(wr.drewN nq).cell? ⟨b,2,none⟩=_:=(b1.cell (p:=⟨b,2,none⟩) lbr).trans c2;generalize wr.drewN nq=w1 at *;have lb1:=zB hG1.fb;clear hx1;go_wp2_with fail
    go_quiet (fail)
    have b2:Below w1.heap.size w1 (w1.drewN nq):=below_drewN (Below.refl _ _) nq;have hG2:=hG1.later b2;have ho2:Only (·=b) w (w1.drewN nq):=ho1.trans (Only.of_below b2);generalize w1.drewN nq=w2 at *;clear hG1 ho1 b2 b1 hgw lb1 hx0 c0 c2;go_wp2_with fail;obtain ⟨wo,rfl⟩:∃ wo,wo=wr:=⟨_,rfl⟩;obtain ⟨gko,rfl⟩:∃ x,x=gk:=⟨_,rfl⟩;obtain ⟨row,hrow⟩:∃ row,bl[turn].1=row:=⟨_,rfl⟩;rw [hrow] at hbd HF ⊢;have HRO:=zF hrow;clear hrow HAG HAS
    go_loopg [40] (row.length) (fun m i wx=>∃ (k:Nat) (vals:Nat × Nat),i=.int .i64 k∧k + m=row.length∧(vals.1 < 512∧vals.2 < 512)∧zDF rs row (p,n)=zDF rs (row.drop k) vals∧GameAt wx b t bl rs ⟨turn,vals⟩ gv∧Only (·=b) w wx)
    case atStart=>exact ⟨0,(p,n),rfl,by omega,hlt,rfl,hG2,ho2⟩
    case round=>
     obtain ⟨k,vals,rfl,hk,hv9,hab,hG3,ho3⟩:=hrel;have HAB:=zF hab;clear hab;have lb3:=zB hG3.fb
     by_cases hkl:k < row.length
     ·have hr3:=hG3.rows.row turn hl;rw [hXf] at hr3;have hvv:=hbd.2 _ (List.getElem_mem hkl);have hlen:bl[turn].1.length=row.length:=(by rw [zA HRO]);obtain ⟨gX,cap,hVe,hgx,hgx',_,hcell⟩:=zS hr3 (by omega);injection hVe with hVe hV1 hV2;subst hVe hV2;have hxk:wr.cell? ⟨gX,k,none⟩=some (.int .i64 (row[k]:Int)):=hcell _ _ (by rw [zA HRO];simp [zu,hkl]);have HST:Hid (zDF rs (row.drop k) vals=zDF rs (row.drop (k + 1)) (zIq vals row[k] (zAx rs vals row[k]))):=zF (by rw [List.drop_eq_getElem_cons hkl];rfl);clear hcell hr3;generalize row[k]=v at *;go_wp2_with fail;refine (zM6 b t bl rs ⟨turn,vals⟩ gv v _ hG3 hR hv9 hvv.2).mono ?_;rintro e w4 ⟨rfl,hb4⟩;have hG4:=hG3.later hb4;have ho4:=ho3.trans (Only.of_below hb4);dsimp only;generalize zAx rs vals v=wx at *;go_wp2_with fail;refine (zOJ b t bl rs ⟨turn,vals⟩ gv v wx _ hG4 hv9 hvv.2).mono ?_;rintro e w5 ⟨rfl,hG5,ho5⟩;have hv5:=zAZ vals (zAF v wx) hv9.1 hv9.2;go_wp2_with fail
      go_roundg (gk - 1)
      case measure=>omega
      case rel=>exact ⟨k + 1,zIq vals v wx,by go_num,by omega,hv5,by rw [zA HAB,zA HST],hG5,ho4.trans ho5⟩
     ·have hke:k=row.length:=(by omega);have HE:Hid (zDF rs row (p,n)=vals):=zF (by rw [zA HAB,hke,List.drop_length];rfl);have d2:wr.cell? ⟨b,2,none⟩=some (.int .i64 (turn:Int)):=zE hG3.fb rfl;have z2:=zD hG3.fb 2;have hdk:decide ((k:Int) < (row.length:Int))=false:=decide_eq_false (by omega);have ho6:Only (·=b) wr (wr.setCell ⟨b,2,none⟩ (.int .i64 ((turn:Int) + 1))):=(Only.refl (·=b) wr).setCell (p:=⟨b,2,none⟩) (Or.inl rfl) _;have hG6:GameAt (wr.setCell ⟨b,2,none⟩ (.int .i64 ((turn:Int) + 1))) b t bl rs ⟨turn + 1,vals⟩ gv:=⟨zI hG3.fb 2 _,hG3.tt,hG3.rest ho6⟩;have ho7:=ho3.trans ho6;have HG6:=zF hG6;have HO7:=zF ho7;clear hG6 ho6 ho7;go_wp2_with fail
      go_roundg (gko - 1)
      case measure=>omega
      case rel=>exact ⟨⟨turn + 1,vals⟩,by show turn + 1≤_;omega,by show _ + (turn + 1)=_;omega,hv9,by rw [zA HF,zA HE],zA HG6,zA HO7⟩
   | false=>
    rw [hw] at hx1;have HF:Hid (zEM rs bl g=⟨turn,(p,n)⟩):=zF (by rw [zA HA];exact zA HAS hw);go_wp2_with fail
    go_quiet (fail)
    have b1:Below wr.heap.size wr (wr.drewN nq):=below_drewN (Below.refl _ _) nq;have hG1:=hGr.later b1;have ho1:Only (·=b) w (wr.drewN nq):=ho.trans (Only.of_below b1);generalize wr.drewN nq=w1 at *;go_wp2_with fail
    go_end0
    exact ⟨rfl,by rw [zA HF];exact hG1,ho1⟩
  ·have hd1:decide ((turn:Int) < (bl.length:Int))=false:=decide_eq_false (by omega);have hd2:decide (turn < bl.length)=false:=decide_eq_false hl;have HF:Hid (zEM rs bl g=⟨turn,(p,n)⟩):=zF (by
    rw [zA HA];unfold zEM;rw [show bl.length - (GS.mk turn (p,n)).turn=0 from by show bl.length - turn=_;omega,zE7])
   go_wp2_with fail
   go_quiet (fail)
   have b1:Below wr.heap.size wr (wr.drewN nq):=below_drewN (Below.refl _ _) nq;have hG1:=hGr.later b1;have ho1:Only (·=b) w (wr.drewN nq):=ho.trans (Only.of_below b1);generalize wr.drewN nq=w1 at *;go_wp2_with fail
   go_end0
   exact ⟨rfl,by rw [zA HF];exact hG1,ho1⟩
def zDb (q:QS) (kind:Nat) (ss:List (Nat × Nat)) (line:List UInt8):Option (Nat × Nat):=
 if 9000≤ss.length then none else if zB4 line then (match zZ 32 line with | []=>none | hd :: tl=>zFX q kind ss hd tl) else none
theorem zLI (q:QS) (kind:Nat) (ss:List (Nat × Nat)) (line hd:List UInt8) (tl:List (List UInt8)) (hl:¬ 9000≤ss.length) (hs:zB4 line=true) (h:zZ 32 line=hd :: tl):zDb q kind ss line=zFX q kind ss hd tl:=by
 unfold zDb;rw [if_neg hl,if_pos hs,h]
theorem zM9 (ss:List Stp) (s:Stp):ze (ss ++ [s])=ze ss ++ [s.lits]:=by simp [ze]
theorem PInv.push {w w':World} {b:Nat} {q:QS} {kind:Nat} {ss:List Stp} {vV vC vS:Value} {s:Stp} {e:Ending} (h:PInv w b q kind ss vV vC vS) (ha:zKg (b + 1) b 2 ss vS s #[vV,vC,.int .i64 kind,vS] 105 w e w'):e=.returned (.int .i64 ((ss.length:Int) + 1))∧(∃ v',PInv w' b q kind (ss ++ [s]) vV vC v')∧Below b w w':=by
 obtain ⟨v',h0,h1,h2,h3,h4⟩:=ha;have hb:Below b w w':=h3.below (Nat.le_of_lt (zB h.fb)) (fun k hk hh=>by
  rcases hh with e | e
  ·omega
  ·have:=(h.oS.lt k e).1;omega)
 exact ⟨h0,⟨v',h2,zEc h.oV h.lV hb,zEc h.oC h.lC hb,by simpa using h1,h.lV,h.lC⟩,hb⟩
def zPc (b:Nat) (q:QS) (kind:Nat) (ss:List Stp) (vV vC:Value) (line:List UInt8) (w:World) (e:Ending) (w':World):Prop:=
 Below b w w'∧match zDb q kind (ze ss) line with
  | none=>e=.returned (.bool false)
  | some c=>e=.returned (.bool true)∧(c.1 < 512∧c.2 < 512)∧∃ s vS',s.lits=c∧zSu q kind ss (zZ 32 line) s∧PInv w' b q kind (ss ++ [s]) vV vC vS'
theorem zJG (b:Nat) (q:QS) (kind:Nat) (ss:List Stp) (vV vC vS:Value) (k:Nat) (line:List UInt8) (w:World) (hP:PInv w b q kind ss vV vC vS) (hQ:QB q) (hS:SBs ss) (hk:1≤k) (hl:line.length≤1048570) :
  Calls Tryz.prog 46 #[.pointer (some ⟨b,0,none⟩),.int .i64 k,.string ⟨line.toArray⟩] w fun e w'=>zPc b q kind ss vV vC line w e w':=by
 have hbw:=zB hP.fb;have hsl:=hS.len;obtain ⟨aS,cS,rfl⟩:=zN hP.oS;have k3:w.cell? ⟨b,3,none⟩=some (.slice aS ss.length cS):=zE hP.fb rfl;have hkb:((k:Int) == 0)=false:=by rw [beq_eq_false_iff_ne];omega
 by_cases h9:9000≤ss.length
 ·have hd9:decide ((9000:Int)≤(ss.length:Int))=true:=(by simp;omega);have HF:Hid (zDb q kind (ze ss) line=none):=zF (by unfold zDb;rw [if_pos (by simpa [ze] using h9)]);clear h9
  go_enter Tryz.func46,Tryz.ntmps46
  go_wp2_with fail;go_ret;exact ⟨Below.refl _ _,by rw [zA HF];rfl⟩
 ·have hd9:decide ((9000:Int)≤(ss.length:Int))=false:=(by simp;omega);have H9:=zF h9;clear h9
  go_enter Tryz.func46,Tryz.ntmps46
  go_wp2_with fail;refine (zJl line w (by omega)).mono ?_;rintro e w2 ⟨hb,hsp⟩
  cases hok:zB4 line with
  | false=>
   rw [hok,if_neg (by decide)] at hsp;subst hsp;have HF:Hid (zDb q kind (ze ss) line=none):=zF (by unfold zDb;rw [if_neg (by simpa [ze] using zA H9),hok];rfl);go_wp2_with fail;go_ret;exact ⟨hb.mono (Nat.le_of_lt hbw),by rw [zA HF];rfl⟩
  | true=>
   rw [hok,if_pos rfl] at hsp;obtain ⟨v,rfl,hown⟩:=hsp;have hwl:(zZ 32 line).length≤1048571:=(by have:=zA9 32 line;simp [zZ];omega);have hwl2:∀ x∈zZ 32 line,x.length≤1048576:=fun x hx=>by have:=zDq 32 line x hx;omega
   obtain ⟨hd,tl,hws⟩:∃ hd tl,zZ 32 line=hd :: tl:=by
    cases h:zZ 32 line with
    | nil=>simp [zZ] at h
    | cons a b=>exact ⟨a,b,rfl⟩
   have HQ:=zF (zLI q kind (ze ss) line hd tl (by simpa [ze] using zA H9) hok hws);have HWE:=zF hws;rw [hws] at hown hwl hwl2;clear hws hok
   rcases hown.2 with ⟨_,h0⟩ | ⟨g,cap,cur,rfl,hbg,hg,hnc,hcm,hcs,htake⟩
   ·simp at h0
   simp only [List.length_cons] at hwl hnc;have hST:StrsAt w2 (some ⟨g,0,none⟩) (hd :: tl):=fun _=>⟨g,0,cur,rfl,hg,fun j hj=>by
    have h1:=hown.cellAt j (by simpa using hj);rw [zC hg] at h1;rw [Nat.zero_add,h1,List.getElem?_map,List.getElem?_eq_getElem hj];rfl⟩
   have HWL:Hid (∀ x∈tl,x.length≤1048576):=zF (fun x hx=>hwl2 x (List.mem_cons_of_mem _ hx));have hP2:=hP.later hb;clear hwl2 htake hcs hcm;simp only [List.length_cons];go_wp2_with fail;refine (zKO b q kind ss vV vC _ hd tl g 0 cap w2 hP2 hQ hS hST (by omega) (by omega) (zA HWL)).mono ?_;rintro e w3 ⟨hb3,s,ok,rfl,hlt,hok⟩;obtain ⟨sr,sf,ss2,sv,sl⟩:=s;obtain ⟨p,n⟩:=sl;have hb03:Below w.heap.size w w3:=zBw hb hb3;have hP3:=hP2.later hb3;have hA3:Below w3.heap.size w3 (w3.alloc (.cells #[.int .i64 (sr:Int),.int .i64 (sf:Int),.int .i64 (ss2:Int),.int .i64 (sv:Int),.int .i64 (p:Int),.int .i64 (n:Int)] 134)):=(Below.refl _ _).alloc (Nat.le_refl _) _;have hf3:=heap_alloc_new w3 (.cells #[.int .i64 (sr:Int),.int .i64 (sf:Int),.int .i64 (ss2:Int),.int .i64 (sv:Int),.int .i64 (p:Int),.int .i64 (n:Int)] 134);have hbz:Below w.heap.size w (w3.alloc (.cells #[.int .i64 (sr:Int),.int .i64 (sf:Int),.int .i64 (ss2:Int),.int .i64 (sv:Int),.int .i64 (p:Int),.int .i64 (n:Int)] 134)):=zBw hb03 hA3;have hP4:=hP3.later hA3
   rcases hok with ⟨rfl,hok,htag⟩ | ⟨rfl,hok⟩
   ·have HF:Hid (zDb q kind (ze ss) line=some (p,n)):=zF (by rw [zA HQ];exact hok);have HTAG:=zF htag;clear hok htag;go_wp2_with fail;generalize w3.alloc (.cells #[.int .i64 (sr:Int),.int .i64 (sf:Int),.int .i64 (ss2:Int),.int .i64 (sv:Int),.int .i64 (p:Int),.int .i64 (n:Int)] 134)=wz at *;obtain ⟨q0,q1,q2,q3,q4,q5⟩:=zAH hf3;have lf3:=zB hf3;have lb4:=zB hP4.fb;have hd9:Below wz.heap.size wz wz.drew:=(Below.refl _ wz).drew
    go_region_with (go_at_call 72;refine (zCZ (b + 1) b 2 ss (.slice aS ss.length cS) ⟨sr,sf,ss2,sv,(p,n)⟩ _ _ _ (hP4.later hd9).fb rfl (by decide) (hP4.later hd9).oS (by omega) (zB (hP4.later hd9).fb)).mono ?_;intro e w4 hadd;obtain ⟨he4,hJ4,hbJ⟩:=(hP4.later hd9).push hadd;subst he4;clear hadd)
    all_goals
     obtain ⟨v',hJ⟩:=hJ4;go_wp2_with fail;go_ret;refine ⟨((hbz.mono (Nat.le_of_lt hbw)).trans (hd9.mono (Nat.le_of_lt lb4))).trans hbJ,?_⟩;rw [zA HF];exact ⟨rfl,hlt,⟨sr,sf,ss2,sv,(p,n)⟩,v',rfl,by rw [zA HWE];exact zA HTAG,hJ⟩
   ·have HF:Hid (zDb q kind (ze ss) line=none):=zF (by rw [zA HQ];exact hok);clear hok;go_wp2_with fail;go_ret;exact ⟨hbz.mono (Nat.le_of_lt hbw),by rw [zA HF];rfl⟩
def zLb (q:QS) (kind:Nat):List (Nat × Nat)→Nat→List (List UInt8)→List (Nat × Nat) ⊕ Nat
 | ss,_,[]=>.inl ss
 | ss,n,r :: rs=>match zDb q kind ss r with
  | none=>.inr (n + 1)
  | some c=>zLb q kind (ss ++ [c]) (n + 1) rs
def goQ (q:QS) (ended:Bool) (total:Nat) (kind:Nat) (ss:List (Nat × Nat)) (n:Nat) (rs:List (List UInt8)):(Nat × Nat) ⊕ (Nat × List (Nat × Nat)):=
 match zLb q kind ss n rs with
 | .inr i=>.inl (5,i)
 | .inl ss'=>if ended=true∧zCs ss'=true then .inr (kind,ss') else .inl (5,total + 1)
def zFK (r0:List UInt8):Nat:=if r0=zA4 then 2 else 1
def zGA (q:QS) (ended:Bool) (rows:List (List UInt8)):(Nat × Nat) ⊕ (Nat × List (Nat × Nat)):=
 match rows with
 | []=>.inl (5,1)
 | r0 :: rs=>if r0=zA4∨r0=zCS then goQ q ended (rs.length + 1) (zFK r0) [] 1 rs else .inl (5,1)
def zA1 (q:QS) (l:List UInt8):(Nat × Nat) ⊕ (Nat × List (Nat × Nat)):=
 if 262144 < l.length then .inl (1,0) else zGA q (decide ((zU 10 l).2=[])) (zU 10 l).1
theorem zNr (q:QS) (ended:Bool) (rows:List (List UInt8)) (h:0 < rows.length):zGA q ended rows=if rows[0]=zA4∨rows[0]=zCS then goQ q ended rows.length (zFK rows[0]) [] 1 (rows.drop 1) else .inl (5,1):=by
 cases rows with
 | nil=>simp at h
 | cons r0 rs=>rfl
theorem PInv.setKind {w:World} {b:Nat} {q:QS} {kind:Nat} {ss:List Stp} {vV vC vS:Value} (h:PInv w b q kind ss vV vC vS) (kd:Nat):PInv (w.setCell ⟨b,2,none⟩ (.int .i64 kd)) b q kd ss vV vC vS:=by
 have hb:Below b w (w.setCell ⟨b,2,none⟩ (.int .i64 kd)):=(Below.refl b w).setCell (p:=⟨b,2,none⟩) (Nat.le_refl _) _;exact ⟨zI h.fb 2 _,zEc h.oV h.lV hb,zEc h.oC h.lC hb,ownsRow_setCell_below h.oS (a:=⟨b,2,none⟩) (Nat.lt_succ_self b) _,h.lV,h.lC⟩
def Marks (rows:List (List UInt8)) (ss:List Stp):Prop:=∀ i (h:i < ss.length),zC7 ss[i]=zGC i (zZ 32 (rows.getD (i + 1) []))
theorem zHB (rows:List (List UInt8)):Marks rows []:=fun i h=>by simp at h
theorem Marks.snoc {rows:List (List UInt8)} {ss:List Stp} {s:Stp} (h:Marks rows ss) (hs:zC7 s=zGC ss.length (zZ 32 (rows.getD (ss.length + 1) []))):Marks rows (ss ++ [s]):=by
 intro i hi
 by_cases e:i < ss.length
 ·rw [List.getElem_append_left e];exact h i e
 ·have e2:i=ss.length:=(by simp at hi;omega);subst e2
  simpa using hs
def zFT (q:QS) (kind:Nat) (l:List UInt8) (ss:List Stp):Prop:=Tags q kind ss∧Marks (zU 10 l).1 ss
def zOY (q:QS) (l:List UInt8) (w:World) (e:Ending) (w':World):Prop:=
 Below w.heap.size w w'∧match zA1 q l with
  | .inl (x,i)=>e=.returned (.tuple #[.agg #[.int .i64 0,.slice none 0 0],.int .i64 (x:Int),.int .i64 (i:Int)])
  | .inr (kind,ls)=>∃ ss vS,ze ss=ls∧zFT q kind l ss∧SBs ss∧e=.returned (.tuple #[.agg #[.int .i64 (kind:Int),vS],.int .i64 0,.int .i64 0])∧w'.ownsRow w.heap.size 134 6 vS ss.length (zAk ss)
theorem zI6 (b:Nat) (vV vC vS:Value) (kind:Nat) (l:List UInt8) (w:World) (hfb:w.heap[b]?=some (.cells #[vV,vC,.int .i64 kind,vS] 105 (0,0))) :
  Calls Tryz.prog 46 #[.pointer (some ⟨b,0,none⟩),.int .i64 0,.string ⟨l.toArray⟩] w fun e w'=>zLN b l w e w':=by
 go_enter Tryz.func46,Tryz.ntmps46
 go_wp2_with fail;refine (zKB b vV vC vS kind l w hfb).mono ?_;intro e w1 hk;have hr:∃ o,e=.returned (.bool o):=by
  rcases hk with h | h | h
  ·exact ⟨_,h.2.1⟩
  ·exact ⟨_,h.2.1⟩
  ·exact ⟨_,h.2.2.1⟩
 obtain ⟨o,rfl⟩:=hr;have HK:=zF hk;clear hk;go_wp2_with fail;go_ret;exact zA HK
theorem zJq (q:QS) (vV vC:Value) (l:List UInt8) (w:World) (hV:w.ownsRow 0 139 2 vV q.vars.length (zd q.vars)) (hC:w.ownsRow 0 74 2 vC q.cl.length (zAK q.cl)) (hQ:QB q) :
  Calls Tryz.prog 24 #[.agg #[vV,vC],.string ⟨l.toArray⟩] w fun e w'=>zOY q l w e w':=by
 by_cases hlong:262144 < l.length
 ·have hd:decide ((262144:Int) < (l.length:Int))=true:=(by simp;omega);have HF:Hid (zA1 q l=.inl (1,0)):=zF (by unfold zA1;rw [if_pos hlong]);clear hlong;obtain ⟨aV,cV,rfl⟩:=zN hV;obtain ⟨aC,cC,rfl⟩:=zN hC
  go_enter Tryz.func24,Tryz.ntmps24
  go_wp2_with fail;refine bodyPost_ret (v:=.tuple #[.agg #[.int .i64 0,.slice none 0 0],.int .i64 1,.int .i64 0]) (by simp [results,Tryz.results24,go_sem]) rfl ⟨((Below.refl _ _).alloc (Nat.le_refl _) _).alloc (by simp) _,?_⟩;rw [zA HF];rfl
 ·have hl:l.length≤262144:=(by omega);have hd:decide ((262144:Int) < (l.length:Int))=false:=(by simp;omega);have hdr:=zA9 10 l;have HSP:Hid (zA1 q l=zGA q (decide ((zU 10 l).2=[])) (zU 10 l).1):=zF (by unfold zA1;rw [if_neg hlong]);clear hlong;have HlV:Hid (∀ k,vV.ownBlock=some k→k < w.heap.size):=zF (fun k hk=>(hV.lt k hk).2);have HlC:Hid (∀ k,vC.ownBlock=some k→k < w.heap.size):=zF (fun k hk=>(hC.lt k hk).2);obtain ⟨aV,cV,rfl⟩:=zN hV;obtain ⟨aC,cC,rfl⟩:=zN hC;have hA0:Below w.heap.size w ((w.alloc (.cells #[.slice aV q.vars.length cV,.slice aC q.cl.length cC] 60)).alloc (.cells #[.int .i64 0,.slice none 0 0] 67)):=((Below.refl _ _).alloc (Nat.le_refl _) _).alloc (by simp) _;have hf0:((w.alloc (.cells #[.slice aV q.vars.length cV,.slice aC q.cl.length cC] 60)).alloc (.cells #[.int .i64 0,.slice none 0 0] 67)).heap[w.heap.size]?=some (.cells #[.slice aV q.vars.length cV,.slice aC q.cl.length cC] 60 (0,0)):=by
   rw [heap_alloc_old _ _ (by simp)];exact heap_alloc_new _ _
  have hr0:((w.alloc (.cells #[.slice aV q.vars.length cV,.slice aC q.cl.length cC] 60)).alloc (.cells #[.int .i64 0,.slice none 0 0] 67)).heap[w.heap.size + 1]?=some (.cells #[.int .i64 0,.slice none 0 0] 67 (0,0)):=zP (by simp)
  go_enter Tryz.func24,Tryz.ntmps24
  go_wp2_with fail;refine (zJc l _ (by omega)).mono ?_;rintro e w1 ⟨v,rfl,hown,hb1⟩;have hB1:Below w.heap.size w w1:=hA0.trans (hb1.mono hA0.size);have hf1:=zH hb1 hf0;have hr1:=zH hb1 hr0;have hsz1:w.heap.size + 1 < w1.heap.size:=zB hr1;have f10:w1.cell? ⟨w.heap.size,0,none⟩=some (.slice aV q.vars.length cV):=zE hf1 rfl;have f11:w1.cell? ⟨w.heap.size,1,none⟩=some (.slice aC q.cl.length cC):=zE hf1 rfl;have HRL:Hid (∀ r∈(zU 10 l).1,r.length≤262144):=zF (fun r hr=>by
   have:=zDq 10 l r (by unfold zZ;exact List.mem_append_left _ hr);omega)
  have hoV1:=zO hV hB1;have hoC1:=zO hC hB1;generalize hrows:(zU 10 l).1=rows at *;obtain ⟨aL,cL,rfl⟩:=zN hown;obtain ⟨ended,hended⟩:∃ o,decide ((zU 10 l).2=[])=o:=⟨_,rfl⟩;rw [hended] at HSP ⊢;have hown1:=zAG (lo:=0) hown (Nat.zero_le _);have HROWS:=zF hrows;clear hown hrows hended;have hrows2:rows.length≤262144:=(by omega);clear hdr;go_wp2_with fail
  go_loopg [25] (rows.length) (fun m i wx=>∃ (k kind:Nat) (ss:List Stp) (vS:Value),i=.int .i64 k∧k + m=rows.length∧SBs ss∧(Tags q kind ss∧Marks rows ss)∧PInv wx w1.heap.size q kind ss (.slice aV q.vars.length cV) (.slice aC q.cl.length cC) vS∧Below w1.heap.size w1 wx∧
   ((k=0∧kind=0∧ss=[])∨(1≤k∧ss.length + 1=k∧zA1 q l=goQ q ended rows.length kind (ze ss) k (rows.drop k))))
  case atStart=>
   refine ⟨0,0,[],_,rfl,by omega,⟨by simp,by simp⟩,⟨zIa q 0,zHB rows⟩,⟨heap_alloc_new _ _,hoV1.alloc _,hoC1.alloc _,World.ownsRow_nil _ _ _ _,fun k hk=>Nat.lt_of_lt_of_le (zA HlV k hk) hB1.size,fun k hk=>Nat.lt_of_lt_of_le (zA HlC k hk) hB1.size⟩,(Below.refl _ _).alloc (Nat.le_refl _) _,Or.inl ⟨rfl,rfl,rfl⟩⟩
  case round=>
   obtain ⟨k,kind,ss,vS,rfl,hk,hSB,hTg,hP,hbx,hph⟩:=hrel;have HTG:=zF hTg;clear hTg;have HPH:=zF hph;clear hph;have hBx:Below w.heap.size w wr:=hB1.trans (hbx.mono hB1.size);have hrx:=(hbx.block _ hsz1).trans hr1;have r0:wr.cell? ⟨w.heap.size + 1,0,none⟩=some (.int .i64 0):=zE hrx rfl;have r1:wr.cell? ⟨w.heap.size + 1,1,none⟩=some (.slice none 0 0):=zE hrx rfl
   by_cases hlt:k < rows.length
   ·obtain ⟨g,cap,hVe,hg,hg',_,hcell⟩:=zS hown1 (by omega);injection hVe with hVe _ hV2;subst hVe hV2;have hcj:wr.cell? ⟨g,k,none⟩=some (S rows[k]):=by
     rw [hbx.cell (p:=⟨g,k,none⟩) hg'];exact hcell k _ (by simp [hlt])
    have hrl:=zA HRL _ (List.getElem_mem hlt);clear hcell;go_wp2_with fail
    rcases zA HPH with ⟨hk0,hkd,hss⟩ | ⟨hk1,hsk,hrq⟩
    ·have HK0:=zF hk0;subst hk0 hkd hss;have HRQ:Hid (zA1 q l=if rows[0]=zA4∨rows[0]=zCS then goQ q ended rows.length (zFK rows[0]) [] 1 (rows.drop 1) else .inl (5,1)):=zF (by
      rw [zA HSP];exact zNr q ended rows hlt)
     refine (zI6 w1.heap.size _ _ vS 0 rows[0] wr hP.fb).mono ?_;intro e w2 hkp;have hkind:∀ kd:Nat,PInv (wr.setCell ⟨w1.heap.size,2,none⟩ (.int .i64 kd)) w1.heap.size q kd [] (.slice aV q.vars.length cV) (.slice aC q.cl.length cC) vS∧Below w1.heap.size w1 (wr.setCell ⟨w1.heap.size,2,none⟩ (.int .i64 kd)):=fun kd=>⟨hP.setKind kd,hbx.setCell (p:=⟨w1.heap.size,2,none⟩) (Nat.le_refl _) _⟩
     rcases hkp with ⟨h1,rfl,rfl⟩ | ⟨h1,rfl,rfl⟩ | ⟨h1,h2,rfl,hw2⟩
     ·have HG:Hid (zA1 q l=goQ q ended rows.length 1 [] 1 (rows.drop 1)):=zF (by
       rw [zA HRQ,if_pos (Or.inr h1),h1];rfl)
      obtain ⟨hPk,hbk⟩:=hkind 1;have HPk:=zF hPk;have HBk:=zF hbk;clear h1 hPk hbk hkind;go_wp2_with fail
      go_roundg (gk - 1)
      case measure=>omega
      case rel=>exact ⟨1,1,[],vS,by go_num,by omega,hSB,⟨zIa q 1,zHB rows⟩,zA HPk,zA HBk,Or.inr ⟨by omega,rfl,zA HG⟩⟩
     ·have HG:Hid (zA1 q l=goQ q ended rows.length 2 [] 1 (rows.drop 1)):=zF (by
       rw [zA HRQ,if_pos (Or.inl h1),h1];rfl)
      obtain ⟨hPk,hbk⟩:=hkind 2;have HPk:=zF hPk;have HBk:=zF hbk;clear h1 hPk hbk hkind;go_wp2_with fail
      go_roundg (gk - 1)
      case measure=>omega
      case rel=>exact ⟨1,2,[],vS,by go_num,by omega,hSB,⟨zIa q 2,zHB rows⟩,zA HPk,zA HBk,Or.inr ⟨by omega,rfl,zA HG⟩⟩
     ·have HG:Hid (zA1 q l=.inl (5,1)):=zF (by rw [zA HRQ,if_neg (fun h=>h.elim h1 h2)]);subst hw2;clear h1 h2 hkind;have hz:=hrx;have r20:w2.cell? ⟨w.heap.size + 1,0,none⟩=some (.int .i64 0):=zE hz rfl;have r21:w2.cell? ⟨w.heap.size + 1,1,none⟩=some (.slice none 0 0):=zE hz rfl;have y20:=zD hz 0;have y21:=zD hz 1;have hR:=zI (zI hz 0 (.int .i64 0)) 1 (.slice none 0 0);have j0:=zC hR 0;have j1:=zC hR 1;go_wp2_with fail;refine bodyPost_ret (v:=.tuple #[.agg #[.int .i64 0,.slice none 0 0],.int .i64 5,.int .i64 1]) (by simp [results,Tryz.results24,go_sem,j0,j1]) rfl ⟨?_,?_⟩
      ·exact (hBx.setCell (p:=⟨w.heap.size + 1,0,none⟩) (Nat.le_succ _) _).setCell (p:=⟨w.heap.size + 1,1,none⟩) (Nat.le_succ _) _
      ·rw [zA HG];exact congrArg (fun m:Int=>Ending.returned (.tuple #[.agg #[.int .i64 0,.slice none 0 0],.int .i64 5,.int .i64 m])) (by omega)
    ·have HSK:=zF hsk;clear hsk;have hrq2:zA1 q l=match zDb q kind (ze ss) rows[k] with
       | none=>.inl (5,k + 1)
       | some c=>goQ q ended rows.length kind (ze ss ++ [c]) (k + 1) (rows.drop (k + 1)):=by
      rw [hrq];unfold goQ;rw [List.drop_eq_getElem_cons hlt,zLb]
      cases zDb q kind (ze ss) rows[k]<;>rfl
     have HRQ:=zF hrq2;clear hrq2 hrq;refine (zJG w1.heap.size q kind ss _ _ vS k rows[k] wr hP hQ hSB hk1 (by omega)).mono ?_;rintro e w2 ⟨hb2,hp⟩;have hb3:Below w1.heap.size w1 w2:=hbx.trans hb2;have hB3:Below w.heap.size w w2:=hB1.trans (hb3.mono hB1.size)
     cases hq:zDb q kind (ze ss) rows[k] with
     | none=>
      rw [hq] at hp;have hp':e=.returned (.bool false):=hp;subst hp';have HF:Hid (zA1 q l=.inl (5,k + 1)):=zF (by rw [zA HRQ,hq]);clear hp hq;have hz:=(hb3.block _ hsz1).trans hr1;have r20:w2.cell? ⟨w.heap.size + 1,0,none⟩=some (.int .i64 0):=zE hz rfl;have r21:w2.cell? ⟨w.heap.size + 1,1,none⟩=some (.slice none 0 0):=zE hz rfl;have y20:=zD hz 0;have y21:=zD hz 1;have hR:=zI (zI hz 0 (.int .i64 0)) 1 (.slice none 0 0);have j0:=zC hR 0;have j1:=zC hR 1;go_wp2_with fail;refine bodyPost_ret (v:=.tuple #[.agg #[.int .i64 0,.slice none 0 0],.int .i64 5,.int .i64 ((k:Int) + 1)]) (by simp [results,Tryz.results24,go_sem,j0,j1]) rfl ⟨?_,?_⟩
      ·exact (hB3.setCell (p:=⟨w.heap.size + 1,0,none⟩) (Nat.le_succ _) _).setCell (p:=⟨w.heap.size + 1,1,none⟩) (Nat.le_succ _) _
      ·rw [zA HF];exact congrArg (fun m:Int=>Ending.returned (.tuple #[.agg #[.int .i64 0,.slice none 0 0],.int .i64 5,.int .i64 m])) (by omega)
     | some c=>
      rw [hq] at hp;have hp':e=.returned (.bool true)∧(c.1 < 512∧c.2 < 512)∧∃ s vS',s.lits=c∧zSu q kind ss (zZ 32 rows[k]) s∧PInv w2 w1.heap.size q kind (ss ++ [s]) (.slice aV q.vars.length cV) (.slice aC q.cl.length cC) vS':=hp;obtain ⟨rfl,hlt2,s,vS',hsc,htg,hP'⟩:=hp';have HTN:Hid (Tags q kind (ss ++ [s])∧Marks rows (ss ++ [s])):=zF ⟨(zA HTG).1.snoc htg.1,(zA HTG).2.snoc (by
       rw [htg.2,zA HSK];simp [List.getD,hlt])⟩
      clear htg;have HF:Hid (zA1 q l=goQ q ended rows.length kind (ze (ss ++ [s])) (k + 1) (rows.drop (k + 1))):=zF (by rw [zA HRQ,hq,zM9,hsc]);have hSB':SBs (ss ++ [s]):=⟨by
       have:¬ 9000≤ss.length:=fun h9=>by unfold zDb at hq;rw [if_pos (by simpa [ze] using h9)] at hq;cases hq
       simp;omega,fun c' hc'=>by
       rcases List.mem_append.1 hc' with hc' | hc'
       ·exact hSB.bits c' hc'
       ·simp at hc';subst hc';rw [hsc];exact hlt2⟩
      have HS:=zF hSB';clear hp hq hSB' hsc;go_wp2_with fail
      go_roundg (gk - 1)
      case measure=>omega
      case rel=>exact ⟨k + 1,kind,ss ++ [s],vS',by go_num,by omega,zA HS,zA HTN,hP',hb3,Or.inr ⟨by omega,by have:=zA HSK;simp;omega,zA HF⟩⟩
   ·have hkl:k=rows.length:=(by omega);have HRQ:Hid (zA1 q l=if ended=true∧zCs (ze ss)=true then .inr (kind,ze ss) else .inl (5,rows.length + 1)):=zF (by
     rcases zA HPH with ⟨hk0,hkd,hss⟩ | ⟨hk1,_,hrq⟩
     ·have:rows=[]:=List.eq_nil_of_length_eq_zero (by omega)
      rw [zA HSP,this,hss,if_neg (by intro h;cases h.2)];rfl
     ·rw [hrq,hkl,List.drop_length];rfl)
    subst hkl
    cases ended with
    | false=>
     have HF:Hid (zA1 q l=.inl (5,rows.length + 1)):=zF (by rw [zA HRQ,if_neg (by intro h;cases h.1)]);have hz:=hrx;have r20:wr.cell? ⟨w.heap.size + 1,0,none⟩=some (.int .i64 0):=zE hz rfl;have r21:wr.cell? ⟨w.heap.size + 1,1,none⟩=some (.slice none 0 0):=zE hz rfl;have y20:=zD hz 0;have y21:=zD hz 1;have hR:=zI (zI hz 0 (.int .i64 0)) 1 (.slice none 0 0);have j0:=zC hR 0;have j1:=zC hR 1;go_wp2_with fail;refine bodyPost_ret (v:=.tuple #[.agg #[.int .i64 0,.slice none 0 0],.int .i64 5,.int .i64 ((rows.length:Int) + 1)]) (by simp [results,Tryz.results24,go_sem,j0,j1]) rfl ⟨?_,?_⟩
     ·exact (hBx.setCell (p:=⟨w.heap.size + 1,0,none⟩) (Nat.le_succ _) _).setCell (p:=⟨w.heap.size + 1,1,none⟩) (Nat.le_succ _) _
     ·rw [zA HF];exact congrArg (fun m:Int=>Ending.returned (.tuple #[.agg #[.int .i64 0,.slice none 0 0],.int .i64 5,.int .i64 m])) (by omega)
    | true=>
     go_wp2_with fail;refine (zMk w1.heap.size q kind ss _ _ vS wr hP hSB).mono ?_;rintro e w2 ⟨rfl,hb2⟩;have hP2:=hP.later hb2;have hb3:Below w1.heap.size w1 w2:=hbx.trans (hb2.mono hbx.size);have hB3:Below w.heap.size w w2:=hB1.trans (hb3.mono hB1.size)
     cases hcl:zCs (ze ss) with
     | false=>
      have HF:Hid (zA1 q l=.inl (5,rows.length + 1)):=zF (by rw [zA HRQ,if_neg (by rw [hcl];intro h;cases h.2)]);clear hcl;have hz:=(hb3.block _ hsz1).trans hr1;have r20:w2.cell? ⟨w.heap.size + 1,0,none⟩=some (.int .i64 0):=zE hz rfl;have r21:w2.cell? ⟨w.heap.size + 1,1,none⟩=some (.slice none 0 0):=zE hz rfl;have y20:=zD hz 0;have y21:=zD hz 1;have hR:=zI (zI hz 0 (.int .i64 0)) 1 (.slice none 0 0);have j0:=zC hR 0;have j1:=zC hR 1;go_wp2_with fail;refine bodyPost_ret (v:=.tuple #[.agg #[.int .i64 0,.slice none 0 0],.int .i64 5,.int .i64 ((rows.length:Int) + 1)]) (by simp [results,Tryz.results24,go_sem,j0,j1]) rfl ⟨?_,?_⟩
      ·exact (hB3.setCell (p:=⟨w.heap.size + 1,0,none⟩) (Nat.le_succ _) _).setCell (p:=⟨w.heap.size + 1,1,none⟩) (Nat.le_succ _) _
      ·rw [zA HF];exact congrArg (fun m:Int=>Ending.returned (.tuple #[.agg #[.int .i64 0,.slice none 0 0],.int .i64 5,.int .i64 m])) (by omega)
     | true=>
      have HSBH:=zF hSB;have HF:Hid (zA1 q l=.inr (kind,ze ss)):=zF (by rw [zA HRQ,if_pos (by simp [hcl])]);clear hcl;have hz:=(hb3.block _ hsz1).trans hr1;have r20:w2.cell? ⟨w.heap.size + 1,0,none⟩=some (.int .i64 0):=zE hz rfl;have r21:w2.cell? ⟨w.heap.size + 1,1,none⟩=some (.slice none 0 0):=zE hz rfl;have y20:=zD hz 0;have y21:=zD hz 1;have p2:w2.cell? ⟨w1.heap.size,2,none⟩=some (.int .i64 kind):=zE hP2.fb rfl;have p3:w2.cell? ⟨w1.heap.size,3,none⟩=some vS:=zE hP2.fb rfl;obtain ⟨aS,cS,rfl⟩:=zN hP2.oS;have hO:=ownsRow_setCell_below (ownsRow_setCell_below hP2.oS (a:=⟨w.heap.size + 1,0,none⟩) (show w.heap.size + 1 < w1.heap.size + 1 by omega) (.int .i64 kind)) (a:=⟨w.heap.size + 1,1,none⟩) (show w.heap.size + 1 < w1.heap.size + 1 by omega) (.slice aS ss.length cS);have HO:=zF (zAG (lo:=w.heap.size) hO (by omega));clear hO;have hR:=zI (zI hz 0 (.int .i64 kind)) 1 (.slice aS ss.length cS);have j0:=zC hR 0;have j1:=zC hR 1;go_wp2_with fail;refine bodyPost_ret (v:=.tuple #[.agg #[.int .i64 kind,.slice aS ss.length cS],.int .i64 0,.int .i64 0]) (by simp [results,Tryz.results24,go_sem,j0,j1]) rfl ⟨?_,?_⟩
      ·exact (hB3.setCell (p:=⟨w.heap.size + 1,0,none⟩) (Nat.le_succ _) _).setCell (p:=⟨w.heap.size + 1,1,none⟩) (Nat.le_succ _) _
      ·rw [zA HF];exact ⟨ss,_,rfl,⟨(zA HTG).1,by rw [zA HROWS];exact (zA HTG).2⟩,zA HSBH,rfl,zA HO⟩
theorem zEI (b:Nat) (vV vC:Value) (aV aC:Option Addr) (nV cV nC cC:Nat) (hV:vV=.slice aV nV cV) (hC:vC=.slice aC nC cC) (w:World) (hb:w.heap[b]?=some (.cells #[vV,vC] 64 (0,0))) :
  Calls Tryz.prog 25 #[.pointer (some ⟨b,0,none⟩)] w fun e w'=>e=.returned (.agg #[vV,vC])∧Below w.heap.size w w':=by
 subst hV hC;obtain ⟨hf0,hf1⟩:=zJ hb;have hbl:=zB hb
 go_enter Tryz.func25,Tryz.ntmps25
 go_wp2_with fail;refine bodyPost_ret (v:=.agg #[.slice aV nV cV,.slice aC nC cC]) (by simp [results,Tryz.results25,go_sem]) rfl ⟨rfl,?_⟩;exact (Below.refl _ _).alloc (Nat.le_refl _) _
def zCM (q:QS) (l:List UInt8):Nat × Nat × Nat:=match zA1 q l with
 | .inl (x,i)=>(0,x,i)
 | .inr (kind,_)=>(kind,0,0)
def zPH (q:QS) (l:List UInt8) (w:World) (e:Ending) (w':World):Prop:=
 Below w.heap.size w w'∧e=.returned (.tuple #[.int .i64 ((zCM q l).1:Int),.int .i64 ((zCM q l).2.1:Int),.int .i64 ((zCM q l).2.2:Int)])
theorem zHL (lo b:Nat) (q:QS) (l:List UInt8) (w:World) (hP:ProgAt lo w b q) (hQ:QB q) :
  Calls Tryz.prog 17 #[.pointer (some ⟨b,0,none⟩),.string ⟨l.toArray⟩] w fun e w'=>zPH q l w e w':=by
 obtain ⟨_,vV,vC,hfb,hV,hC⟩:=hP;have hbw:=zB hfb;have k0:w.cell? ⟨b,0,none⟩=some vV:=zE hfb rfl;have k1:w.cell? ⟨b,1,none⟩=some vC:=zE hfb rfl;obtain ⟨aV,cV,rfl⟩:=zN hV;obtain ⟨aC,cC,rfl⟩:=zN hC
 go_enter Tryz.func17,Tryz.ntmps17
 go_wp2_with fail;refine (zEI b _ _ aV aC _ cV _ cC rfl rfl w hfb).mono ?_;rintro e w0 ⟨rfl,hA⟩;go_wp2_with fail;refine (zJq q _ _ l _ (zAG (lo:=0) (zO hV hA) (Nat.zero_le _)) (zAG (lo:=0) (zO hC hA) (Nat.zero_le _)) hQ).mono ?_;rintro e w1 ⟨hb1,hp⟩;have hB1:Below w.heap.size w w1:=hA.trans (hb1.mono hA.size)
 cases hq:zA1 q l with
 | inl xi=>
  obtain ⟨x,i⟩:=xi;rw [hq] at hp;have hp':e=.returned (.tuple #[.agg #[.int .i64 0,.slice none 0 0],.int .i64 (x:Int),.int .i64 (i:Int)]):=hp;subst hp';have HC:Hid (zCM q l=(0,x,i)):=zF (by unfold zCM;rw [hq]);clear hp hq;go_wp2_with fail;go_ret3;exact ⟨hB1.alloc hB1.size _,by rw [zA HC];rfl⟩
 | inr ks=>
  obtain ⟨kind,ls⟩:=ks;rw [hq] at hp;obtain ⟨ss,vS,_,_,_,rfl,hS⟩:=hp;have HC:Hid (zCM q l=(kind,0,0)):=zF (by unfold zCM;rw [hq]);clear hq;obtain ⟨aS,cS,rfl⟩:=zN hS;go_wp2_with fail;go_ret3;exact ⟨hB1.alloc hB1.size _,by rw [zA HC];rfl⟩
end Go.Proofs.YtgipjjhkhfihpaaGreatDoor
