import Derived.Test.YtgipjjhkhfihpaaGreatDoorAR
import Derived.Test.YtgipjjhkhfihpaaGreatDoorAQ
import Derived.Test.YtgipjjhkhfihpaaGreatDoorAF
set_option maxRecDepth 100000
set_option maxHeartbeats 6400000
namespace Go.Proofs.YtgipjjhkhfihpaaGreatDoor
open Go.RowKit
theorem zEa (l:List Nat) (i:Nat) (b:Nat):(zu l).toArray.setIfInBounds i (.int .i64 (b:Int))=(zu (l.set i b)).toArray:=by
 simp [zu]
theorem zCO (l:List Nat) (i:Nat) (h:i < l.length):(zu l).toArray[i]?=some (.int .i64 (l.getD i 0:Int)):=by
 simp [zu,List.getElem?_eq_getElem h]
theorem zLn (p:List Stp) (mk:List Bool) (m k:Nat) (sh:List Stp) (nums:List Nat) (hk:k + (m + 1)=p.length) (st:Stp) (hst:p[k]'(by omega)=st) (h:mk.getD (k + 1) false=true):zBk p mk (m + 1) sh nums=zBk p mk m (sh ++ [zBZ nums k st]) (nums.set (k + 1) (sh.length + 1)):=by
 have e:p.length - (m + 1)=k:=(by omega);have hg:p.getD k ⟨0,0,0,0,(0,0)⟩=st:=(by rw [List.getD_eq_getElem?_getD,List.getElem?_eq_getElem (by omega)];exact hst);rw [zBk];rw [e,h,if_pos rfl,hg]
theorem zMh (p:List Stp) (mk:List Bool) (m k:Nat) (sh:List Stp) (nums:List Nat) (hk:k + (m + 1)=p.length) (h:mk.getD (k + 1) false=false):zBk p mk (m + 1) sh nums=zBk p mk m sh nums:=by
 have e:p.length - (m + 1)=k:=(by omega);rw [zBk];rw [e,h,if_neg (by decide)]
theorem zPR (p:List Stp) (last:Nat):(zBP p last).length=p.length + 1:=by
 unfold zBP
 suffices h:∀ i m,(zBg p last i m).length=m.length by rw [h];simp
 intro i
 induction i with
 | zero=>intro m;rfl
 | succ i ih=>intro m;rw [zBg,ih,zKE]
def zOZ (p:List Stp) (kind last:Nat) (w:World) (e:Ending) (w':World):Prop:=∃ v,e=.returned (.agg #[.int .i64 (kind:Int),v])∧w'.ownsRow w.heap.size 134 6 v (z6 p last).length (zAk (z6 p last))∧Below w.heap.size w w'
theorem zJm (b o:Nat) (cells:Array Value) (t:TypeId) (p:List Stp) (vS:Value) (kind last:Nat) (w:World) (hP:PAt w b o cells t p vS kind) (hl:p.length≤100000) :
  Calls Tryz.prog 63 #[.pointer (some ⟨b,o,none⟩),.int .i64 (last:Int)] w fun e w'=>zOZ p kind last w e w':=by
 obtain ⟨aS,cS,rfl⟩:=zN hP.own;have hbw:=zB hP.fb;have hmk:∀ w:World,(Instr.makeSlice 25 (.int .i64 ((p.length:Int) + 1)) (.int .i64 ((p.length:Int) + 1))).run Tryz.prog w=.ok (.slice (some ⟨w.heap.size,0,none⟩) (p.length + 1) (p.length + 1)) (w.alloc (.cells (zu (List.replicate (p.length + 1) 0)).toArray 3)):=fun w=>by
  obtain ⟨i1,hi1,hz10,hz11,hz12⟩:=info_parts Tryz.info3;have h:=run_makeSlice (P:=Tryz.prog) w 25 3 i1 (.int .i64 0) Tryz.underlying25 hi1 hz10 .i64 .i64 ((p.length + 1:Nat):Int) ((p.length + 1:Nat):Int) (by omega) (by omega) (by rw [hz11];simp;omega) (by rw [hz12];omega) (by omega);rw [hz11,Int.toNat_natCast,Nat.mul_one] at h;rw [show (Value.int .i64 0).cells=#[.int .i64 0] from rfl,zKu] at h;have e2:zu (List.replicate (p.length + 1) 0)=List.replicate (p.length + 1) (Value.int .i64 0):=(by simp [zu]);rw [e2];exact h
 go_enter Tryz.func63,Tryz.ntmps63
 go_wp2_with fail;have hA:Below w.heap.size w (w.alloc (.cells #[.int .i64 0,.slice none 0 0] 67)):=(Below.refl _ _).alloc (Nat.le_refl _) _;have hrs:=heap_alloc_new w (.cells #[.int .i64 0,.slice none 0 0] 67);refine (zMs b o cells t p _ kind last _ (hP.later hA) hl).mono ?_;rintro e u1 ⟨gN,rfl,hgN,hnd,hb1⟩;replace hrs:=zH hb1 hrs;have hB1:Below w.heap.size w u1:=hA.trans (hb1.mono hA.size);clear hA hb1;have hP1:=hP.later hB1;have ck1:u1.cell? ⟨b,o,none⟩=some (.int .i64 (kind:Int)):=(by rw [zC hP1.fb];exact hP1.ck);have cs1:u1.cell? ⟨b,o + 1,none⟩=some (.slice aS p.length cS):=(by rw [zC hP1.fb];exact hP1.cs);have lb1:=zB hP1.fb;have hA2:Below u1.heap.size u1 (u1.alloc (.cells #[.int .i64 (kind:Int),.slice none 0 0] 67)):=(Below.refl _ _).alloc (Nat.le_refl _) _;have cs2:(u1.alloc (.cells #[.int .i64 (kind:Int),.slice none 0 0] 67)).cell? ⟨b,o + 1,none⟩=some (.slice aS p.length cS):=(by rw [hA2.cell (p:=⟨b,o + 1,none⟩) lb1];exact cs1);have hA3:=(Below.refl (u1.heap.size + 1) (u1.alloc (.cells #[.int .i64 (kind:Int),.slice none 0 0] 67))).alloc (by simp) (.cells (zu (List.replicate (p.length + 1) 0)).toArray 3);have cs3:((u1.alloc (.cells #[.int .i64 (kind:Int),.slice none 0 0] 67)).alloc (.cells (zu (List.replicate (p.length + 1) 0)).toArray 3)).cell? ⟨b,o + 1,none⟩=some (.slice aS p.length cS):=(by rw [hA3.cell (p:=⟨b,o + 1,none⟩) (show b < u1.heap.size + 1 by omega)];exact cs2);go_wp2_with fail;have HNL:=zF (zPR p last);have hrs2:=zH hA2 hrs;have hnd2:=zH hA2 hnd;have hsh2:=heap_alloc_new u1 (.cells #[.int .i64 (kind:Int),.slice none 0 0] 67);have hB2:=hB1.trans (hA2.mono hB1.size);have l1':w.heap.size < u1.heap.size:=zB hrs;have l2':gN < u1.heap.size:=zB hnd;have hrs3:=(hA3.block w.heap.size (by omega)).trans hrs2;have hnd3:=(hA3.block gN (by omega)).trans hnd2;have hsh3:=(hA3.block u1.heap.size (by omega)).trans hsh2;have hnu3:((u1.alloc (.cells #[.int .i64 (kind:Int),.slice none 0 0] 67)).alloc (.cells (zu (List.replicate (p.length + 1) 0)).toArray 3)).heap[u1.heap.size + 1]?=some (.cells (zu (List.replicate (p.length + 1) 0)).toArray 3 (0,0)):=zP (by simp);have hB3:Below w.heap.size w ((u1.alloc (.cells #[.int .i64 (kind:Int),.slice none 0 0] 67)).alloc (.cells (zu (List.replicate (p.length + 1) 0)).toArray 3)):=hB2.trans (hA3.mono (by omega));have hsz3:((u1.alloc (.cells #[.int .i64 (kind:Int),.slice none 0 0] 67)).alloc (.cells (zu (List.replicate (p.length + 1) 0)).toArray 3)).heap.size=u1.heap.size + 2:=(by simp);generalize ((u1.alloc (.cells #[.int .i64 (kind:Int),.slice none 0 0] 67)).alloc (.cells (zu (List.replicate (p.length + 1) 0)).toArray 3))=u3 at *;clear hA2 hA3 hrs2 hnd2 hsh2 hB2 cs2 cs3 cs1 ck1
 go_loopg [30] (p.length) (fun m i wx=>∃ (k:Nat) (sh:List Stp) (nums:List Nat) (v:Value),i=.int .i64 k∧k + m=p.length∧z6 p last=(zBk p (zBP p last) m sh nums).1∧sh.length≤k∧nums.length=p.length + 1∧Below w.heap.size w wx∧wx.heap[w.heap.size]?=some (.cells #[.int .i64 0,.slice none 0 0] 67 (0,0))∧wx.heap[gN]?=some (.cells (zA8 (zBP p last)).toArray 4 (0,0))∧wx.heap[u1.heap.size]?=some (.cells #[.int .i64 (kind:Int),v] 67 (0,0))∧wx.heap[u1.heap.size + 1]?=some (.cells (zu nums).toArray 3 (0,0))∧wx.ownsRow (u1.heap.size + 2) 134 6 v sh.length (zAk sh))
 case atStart=>exact ⟨0,[],List.replicate (p.length + 1) 0,.slice none 0 0,rfl,by omega,rfl,Nat.le_refl _,by simp,hB3,hrs3,hnd3,hsh3,hnu3,World.ownsRow_nil _ _ _ _⟩
 case round=>
  clear hB3 hrs3 hnd3 hsh3 hnu3 hsz3 hrs hnd;obtain ⟨k,sh,nums,v,rfl,hkm,hsho,hshl,hnl,hB,hrs,hnd,hsh,hnu,hown⟩:=hrel;have HSH:=zF hsho;clear hsho;have HNN:=zF hnl;clear hnl;have lnd:=zB hnd;have lsh:=zB hsh;have lnu:=zB hnu;have hPr:=hP.later hB;obtain ⟨aV,cV,rfl⟩:=zN hown
  by_cases hlt:k < p.length
  ·have hd3:decide ((k:Int) < (p.length:Int))=true:=decide_eq_true (by omega);have hd4:decide (k < p.length)=true:=decide_eq_true hlt;obtain ⟨m,hm⟩:∃ m,gk=m + 1:=⟨gk - 1,by omega⟩;obtain ⟨g2,cap,hVe,_,hg2',_,hcell⟩:=zS hPr.own (by omega);injection hVe with hVe _ hV2;subst hVe hV2;obtain ⟨st,hst⟩:∃ X,p[k]=X:=⟨_,rfl⟩;have HYES:=zF (fun h=>zLn p (zBP p last) m k sh nums (by omega) st hst h);have HNO:=zF (fun h=>zMh p (zBP p last) m k sh nums (by omega) h);have e0:wr.cell? ⟨g2,k * 6,none⟩=some (.int .i64 (p[k].rule:Int)):=hcell _ _ (zh p k 0 hlt (by omega));have e1:wr.cell? ⟨g2,k * 6 + 1,none⟩=some (.int .i64 (p[k].first:Int)):=hcell _ _ (zh p k 1 hlt (by omega));have e2:wr.cell? ⟨g2,k * 6 + 2,none⟩=some (.int .i64 (p[k].second:Int)):=hcell _ _ (zh p k 2 hlt (by omega));have e3:wr.cell? ⟨g2,k * 6 + 3,none⟩=some (.int .i64 (p[k].var:Int)):=hcell _ _ (zh p k 3 hlt (by omega));have e4:wr.cell? ⟨g2,k * 6 + 4,none⟩=some (.int .i64 (p[k].lits.1:Int)):=hcell _ _ (zh p k 4 hlt (by omega));have e5:wr.cell? ⟨g2,k * 6 + 5,none⟩=some (.int .i64 (p[k].lits.2:Int)):=hcell _ _ (zh p k 5 hlt (by omega));rw [hst] at e0 e1 e2 e3 e4 e5;clear hst hcell;obtain ⟨sr,sf,ss,sv,l1,l2⟩:=st;dsimp only at *;rw [hm] at HSH;have hA:Below wr.heap.size wr (wr.alloc (.cells #[.int .i64 (sr:Int),.int .i64 (sf:Int),.int .i64 (ss:Int),.int .i64 (sv:Int),.int .i64 (l1:Int),.int .i64 (l2:Int)] 134)):=(Below.refl _ _).alloc (Nat.le_refl _) _;have ndA:(wr.alloc (.cells #[.int .i64 (sr:Int),.int .i64 (sf:Int),.int .i64 (ss:Int),.int .i64 (sv:Int),.int .i64 (l1:Int),.int .i64 (l2:Int)] 134)).cell? ⟨gN,k + 1,none⟩=some (.bool ((zBP p last).getD (k + 1) false)):=(by rw [hA.cell (p:=⟨gN,k + 1,none⟩) lnd,zC hnd];exact zBd _ _ (by rw [zA HNL];omega));have hk1:k + 1 < p.length + 1:=by omega
   cases hnb:(zBP p last).getD (k + 1) false with
   | false=>
    rw [hnb] at ndA;have HN:Hid (z6 p last=(zBk p (zBP p last) m sh nums).1):=zF (by rw [zA HSH,zA HNO hnb]);clear hnb;go_wp2_with fail
    go_roundg (gk - 1)
    case measure=>omega
    case rel=>exact ⟨k + 1,sh,nums,_,by go_num,by omega,by rw [show gk - 1=m by omega];exact zA HN,by omega,zA HNN,hB.trans (hA.mono hB.size),zH hA hrs,(hA.block _ lnd).trans hnd,(hA.block _ lsh).trans hsh,(hA.block _ lnu).trans hnu,zO hown hA⟩
   | true=>
    rw [hnb] at ndA;have HN:Hid (z6 p last=(zBk p (zBP p last) m (sh ++ [zBZ nums k ⟨sr,sf,ss,sv,(l1,l2)⟩]) (nums.set (k + 1) (sh.length + 1))).1):=zF (by rw [zA HSH,zA HYES hnb]);clear hnb;have hd5:decide ((0:Int)≤(sf:Int))=true:=decide_eq_true (by omega);have hd6:decide ((0:Int)≤(ss:Int))=true:=decide_eq_true (by omega)
    by_cases hs:ss≤k
    ·rcases (show (sr≠1∧sf≤k)∨sr=1∨(sr≠1∧¬ sf≤k) by omega) with hf | hf | hf
     ·skip
      have g1:((sr:Int) == 1)=false:=(by rw [beq_eq_false_iff_ne];omega);have g1n:(sr == 1)=false:=(by rw [beq_eq_false_iff_ne];omega);have g1m:((sr:Int) != 1)=true:=(by rw [bne,g1];rfl);have g1p:(sr != 1)=true:=(by rw [bne,g1n];rfl);have g1d:decide ((sr:Int)=1)=false:=decide_eq_false (by omega);have g1e:decide (sr=1)=false:=decide_eq_false (by omega);have g2':decide ((sf:Int)≤(k:Int))=true:=decide_eq_true (by omega);have g2n:decide (sf≤k)=true:=decide_eq_true (by omega);have hfl:sf < p.length + 1:=(by omega);have g3:decide ((ss:Int)≤(k:Int))=true:=decide_eq_true (by omega);have g3n:decide (ss≤k)=true:=decide_eq_true (by omega);have hsl:ss < p.length + 1:=(by omega);have HRN:Hid (zBZ nums k ⟨sr,sf,ss,sv,(l1,l2)⟩=⟨sr,nums.getD sf 0,nums.getD ss 0,sv,(l1,l2)⟩):=zF (by unfold zBZ;dsimp only;rw [if_pos hf,if_pos hs]);rw [zA HRN] at HN;clear hf hs HRN;have nf:(wr.alloc (.cells #[.int .i64 (sr:Int),.int .i64 (sf:Int),.int .i64 (ss:Int),.int .i64 (sv:Int),.int .i64 (l1:Int),.int .i64 (l2:Int)] 134)).cell? ⟨u1.heap.size + 1,sf,none⟩=some (.int .i64 (nums.getD sf 0:Int)):=(by rw [hA.cell (p:=⟨u1.heap.size + 1,sf,none⟩) lnu,zC hnu];exact zCO _ _ (by rw [zA HNN];exact hfl));have hA':Below wr.heap.size wr (wr.alloc (.cells #[.int .i64 (sr:Int),.int .i64 (nums.getD sf 0:Int),.int .i64 (ss:Int),.int .i64 (sv:Int),.int .i64 (l1:Int),.int .i64 (l2:Int)] 134)):=(Below.refl _ _).alloc (Nat.le_refl _) _;have nS:(wr.alloc (.cells #[.int .i64 (sr:Int),.int .i64 (nums.getD sf 0:Int),.int .i64 (ss:Int),.int .i64 (sv:Int),.int .i64 (l1:Int),.int .i64 (l2:Int)] 134)).cell? ⟨u1.heap.size + 1,ss,none⟩=some (.int .i64 (nums.getD ss 0:Int)):=(by rw [hA'.cell (p:=⟨u1.heap.size + 1,ss,none⟩) lnu,zC hnu];exact zCO _ _ (by rw [zA HNN];exact hsl));have hA4:Below wr.heap.size wr (wr.alloc (.cells #[.int .i64 (sr:Int),.int .i64 (nums.getD sf 0:Int),.int .i64 (nums.getD ss 0:Int),.int .i64 (sv:Int),.int .i64 (l1:Int),.int .i64 (l2:Int)] 134)):=(Below.refl _ _).alloc (Nat.le_refl _) _;generalize nums.getD sf 0=F at *;generalize nums.getD ss 0=G at *;go_wp2_with fail;have hsh4:=(hA4.block _ lsh).trans hsh;have hnu4:=(hA4.block _ lnu).trans hnu;have hnd4:=(hA4.block _ lnd).trans hnd;have hrs4:=zH hA4 hrs;have hown4:=zO hown hA4;have hB4:=hB.trans (hA4.mono hB.size);have hz4:wr.heap.size≤(wr.alloc (.cells #[.int .i64 (sr:Int),.int .i64 (F:Int),.int .i64 (G:Int),.int .i64 (sv:Int),.int .i64 (l1:Int),.int .i64 (l2:Int)] 134)).heap.size:=hA4.size;generalize (wr.alloc (.cells #[.int .i64 (sr:Int),.int .i64 (F:Int),.int .i64 (G:Int),.int .i64 (sv:Int),.int .i64 (l1:Int),.int .i64 (l2:Int)] 134))=w4 at *;refine (zCZ (u1.heap.size + 2) u1.heap.size 0 sh (.slice aV sh.length cV) ⟨sr,F,G,sv,(l1,l2)⟩ #[.int .i64 (kind:Int),.slice aV sh.length cV] 67 _ hsh4 rfl (by decide) hown4 (by omega) (by omega)).mono ?_;rintro e w5 ⟨v5,rfl,ho5,hf5,hn5,hm5⟩;have hT:∀ k,k < u1.heap.size + 2→k≠u1.heap.size→¬ (k=u1.heap.size∨(Value.slice aV sh.length cV).ownBlock=some k):=fun k hk hne h=>by
       rcases h with h | h
       ·exact hne h
       ·have:=zA0 hown4 h;omega
      have hnu5:=(hn5.block (u1.heap.size + 1) (zB hnu4) (hT _ (by omega) (by omega))).trans hnu4;have hnd5:=(hn5.block gN (zB hnd4) (hT _ (by omega) (by omega))).trans hnd4;have hrs5:=(hn5.block w.heap.size (zB hrs4) (hT _ (by omega) (by omega))).trans hrs4;have hB5:=hn5.under hB4 (Nat.le_refl _) (fun k hk=>by
       rcases hk with h | h
       ·omega
       ·have:=zA0 hown4 h;omega)
      have hnuS:(w5.setCell ⟨u1.heap.size + 1,k + 1,none⟩ (.int .i64 ((sh.length:Int) + 1))).heap[u1.heap.size + 1]?=some (.cells (zu (nums.set (k + 1) (sh.length + 1))).toArray 3 (0,0)):=by
       have h:=zI hnu5 (k + 1) (.int .i64 ((sh.length + 1:Nat):Int));rw [zEa] at h;exact h
      have cn5:w5.cell? ⟨u1.heap.size + 1,k + 1,none⟩=some (.int .i64 (nums.getD (k + 1) 0:Int)):=(by rw [zC hnu5];exact zCO _ _ (by rw [zA HNN];exact hk1));have zn5:=zD hnu5 (k + 1);have ln5:=zB hnu5;have hne5:v5.ownBlock≠some (u1.heap.size + 1):=fun e=>by have:=zA0 ho5 e;omega
      go_wp2_with fail
      go_roundg (gk - 1)
      case measure=>omega
      case rel=>exact ⟨k + 1,sh ++ [⟨sr,F,G,sv,(l1,l2)⟩],nums.set (k + 1) (sh.length + 1),v5,by go_num,by omega,by rw [show gk - 1=m by omega];exact zA HN,by rw [List.length_append];simp;omega,by rw [List.length_set];exact zA HNN,hB5.setCell (p:=⟨u1.heap.size + 1,k + 1,none⟩) (by show w.heap.size≤u1.heap.size + 1;omega) _,zf hrs5 (by omega) _ _,zf hnd5 (by omega) _ _,zf hf5 (by omega) _ _,hnuS,by rw [List.length_append];exact zR ho5 (p:=⟨u1.heap.size + 1,k + 1,none⟩) hne5 _⟩
     ·skip
      have g1:((sr:Int) == 1)=true:=(by rw [beq_iff_eq];omega);have g1n:(sr == 1)=true:=(by rw [beq_iff_eq];omega);have g1m:((sr:Int) != 1)=false:=(by rw [bne,g1];rfl);have g1p:(sr != 1)=false:=(by rw [bne,g1n];rfl);have g1d:decide ((sr:Int)=1)=true:=decide_eq_true (by omega);have g1e:decide (sr=1)=true:=decide_eq_true (by omega);have g3:decide ((ss:Int)≤(k:Int))=true:=decide_eq_true (by omega);have g3n:decide (ss≤k)=true:=decide_eq_true (by omega);have hsl:ss < p.length + 1:=(by omega);have HRN:Hid (zBZ nums k ⟨sr,sf,ss,sv,(l1,l2)⟩=⟨sr,sf,nums.getD ss 0,sv,(l1,l2)⟩):=zF (by unfold zBZ;dsimp only;rw [if_neg (by omega),if_pos hs]);rw [zA HRN] at HN;clear hf hs HRN;have hA':Below wr.heap.size wr (wr.alloc (.cells #[.int .i64 (sr:Int),.int .i64 (sf:Int),.int .i64 (ss:Int),.int .i64 (sv:Int),.int .i64 (l1:Int),.int .i64 (l2:Int)] 134)):=(Below.refl _ _).alloc (Nat.le_refl _) _;have nS:(wr.alloc (.cells #[.int .i64 (sr:Int),.int .i64 (sf:Int),.int .i64 (ss:Int),.int .i64 (sv:Int),.int .i64 (l1:Int),.int .i64 (l2:Int)] 134)).cell? ⟨u1.heap.size + 1,ss,none⟩=some (.int .i64 (nums.getD ss 0:Int)):=(by rw [hA'.cell (p:=⟨u1.heap.size + 1,ss,none⟩) lnu,zC hnu];exact zCO _ _ (by rw [zA HNN];exact hsl));have hA4:Below wr.heap.size wr (wr.alloc (.cells #[.int .i64 (sr:Int),.int .i64 (sf:Int),.int .i64 (nums.getD ss 0:Int),.int .i64 (sv:Int),.int .i64 (l1:Int),.int .i64 (l2:Int)] 134)):=(Below.refl _ _).alloc (Nat.le_refl _) _;generalize nums.getD ss 0=G at *;go_wp2_with fail;have hsh4:=(hA4.block _ lsh).trans hsh;have hnu4:=(hA4.block _ lnu).trans hnu;have hnd4:=(hA4.block _ lnd).trans hnd;have hrs4:=zH hA4 hrs;have hown4:=zO hown hA4;have hB4:=hB.trans (hA4.mono hB.size);have hz4:wr.heap.size≤(wr.alloc (.cells #[.int .i64 (sr:Int),.int .i64 (sf:Int),.int .i64 (G:Int),.int .i64 (sv:Int),.int .i64 (l1:Int),.int .i64 (l2:Int)] 134)).heap.size:=hA4.size;generalize (wr.alloc (.cells #[.int .i64 (sr:Int),.int .i64 (sf:Int),.int .i64 (G:Int),.int .i64 (sv:Int),.int .i64 (l1:Int),.int .i64 (l2:Int)] 134))=w4 at *;refine (zCZ (u1.heap.size + 2) u1.heap.size 0 sh (.slice aV sh.length cV) ⟨sr,sf,G,sv,(l1,l2)⟩ #[.int .i64 (kind:Int),.slice aV sh.length cV] 67 _ hsh4 rfl (by decide) hown4 (by omega) (by omega)).mono ?_;rintro e w5 ⟨v5,rfl,ho5,hf5,hn5,hm5⟩;have hT:∀ k,k < u1.heap.size + 2→k≠u1.heap.size→¬ (k=u1.heap.size∨(Value.slice aV sh.length cV).ownBlock=some k):=fun k hk hne h=>by
       rcases h with h | h
       ·exact hne h
       ·have:=zA0 hown4 h;omega
      have hnu5:=(hn5.block (u1.heap.size + 1) (zB hnu4) (hT _ (by omega) (by omega))).trans hnu4;have hnd5:=(hn5.block gN (zB hnd4) (hT _ (by omega) (by omega))).trans hnd4;have hrs5:=(hn5.block w.heap.size (zB hrs4) (hT _ (by omega) (by omega))).trans hrs4;have hB5:=hn5.under hB4 (Nat.le_refl _) (fun k hk=>by
       rcases hk with h | h
       ·omega
       ·have:=zA0 hown4 h;omega)
      have hnuS:(w5.setCell ⟨u1.heap.size + 1,k + 1,none⟩ (.int .i64 ((sh.length:Int) + 1))).heap[u1.heap.size + 1]?=some (.cells (zu (nums.set (k + 1) (sh.length + 1))).toArray 3 (0,0)):=by
       have h:=zI hnu5 (k + 1) (.int .i64 ((sh.length + 1:Nat):Int));rw [zEa] at h;exact h
      have cn5:w5.cell? ⟨u1.heap.size + 1,k + 1,none⟩=some (.int .i64 (nums.getD (k + 1) 0:Int)):=(by rw [zC hnu5];exact zCO _ _ (by rw [zA HNN];exact hk1));have zn5:=zD hnu5 (k + 1);have ln5:=zB hnu5;have hne5:v5.ownBlock≠some (u1.heap.size + 1):=fun e=>by have:=zA0 ho5 e;omega
      go_wp2_with fail
      go_roundg (gk - 1)
      case measure=>omega
      case rel=>exact ⟨k + 1,sh ++ [⟨sr,sf,G,sv,(l1,l2)⟩],nums.set (k + 1) (sh.length + 1),v5,by go_num,by omega,by rw [show gk - 1=m by omega];exact zA HN,by rw [List.length_append];simp;omega,by rw [List.length_set];exact zA HNN,hB5.setCell (p:=⟨u1.heap.size + 1,k + 1,none⟩) (by show w.heap.size≤u1.heap.size + 1;omega) _,zf hrs5 (by omega) _ _,zf hnd5 (by omega) _ _,zf hf5 (by omega) _ _,hnuS,by rw [List.length_append];exact zR ho5 (p:=⟨u1.heap.size + 1,k + 1,none⟩) hne5 _⟩
     ·skip
      have g1:((sr:Int) == 1)=false:=(by rw [beq_eq_false_iff_ne];omega);have g1n:(sr == 1)=false:=(by rw [beq_eq_false_iff_ne];omega);have g1m:((sr:Int) != 1)=true:=(by rw [bne,g1];rfl);have g1p:(sr != 1)=true:=(by rw [bne,g1n];rfl);have g1d:decide ((sr:Int)=1)=false:=decide_eq_false (by omega);have g1e:decide (sr=1)=false:=decide_eq_false (by omega);have g2':decide ((sf:Int)≤(k:Int))=false:=decide_eq_false (by omega);have g2n:decide (sf≤k)=false:=decide_eq_false (by omega);have g3:decide ((ss:Int)≤(k:Int))=true:=decide_eq_true (by omega);have g3n:decide (ss≤k)=true:=decide_eq_true (by omega);have hsl:ss < p.length + 1:=(by omega);have HRN:Hid (zBZ nums k ⟨sr,sf,ss,sv,(l1,l2)⟩=⟨sr,sf,nums.getD ss 0,sv,(l1,l2)⟩):=zF (by unfold zBZ;dsimp only;rw [if_neg (by omega),if_pos hs]);rw [zA HRN] at HN;clear hf hs HRN;have hA':Below wr.heap.size wr (wr.alloc (.cells #[.int .i64 (sr:Int),.int .i64 (sf:Int),.int .i64 (ss:Int),.int .i64 (sv:Int),.int .i64 (l1:Int),.int .i64 (l2:Int)] 134)):=(Below.refl _ _).alloc (Nat.le_refl _) _;have nS:(wr.alloc (.cells #[.int .i64 (sr:Int),.int .i64 (sf:Int),.int .i64 (ss:Int),.int .i64 (sv:Int),.int .i64 (l1:Int),.int .i64 (l2:Int)] 134)).cell? ⟨u1.heap.size + 1,ss,none⟩=some (.int .i64 (nums.getD ss 0:Int)):=(by rw [hA'.cell (p:=⟨u1.heap.size + 1,ss,none⟩) lnu,zC hnu];exact zCO _ _ (by rw [zA HNN];exact hsl));have hA4:Below wr.heap.size wr (wr.alloc (.cells #[.int .i64 (sr:Int),.int .i64 (sf:Int),.int .i64 (nums.getD ss 0:Int),.int .i64 (sv:Int),.int .i64 (l1:Int),.int .i64 (l2:Int)] 134)):=(Below.refl _ _).alloc (Nat.le_refl _) _;generalize nums.getD ss 0=G at *;go_wp2_with fail;have hsh4:=(hA4.block _ lsh).trans hsh;have hnu4:=(hA4.block _ lnu).trans hnu;have hnd4:=(hA4.block _ lnd).trans hnd;have hrs4:=zH hA4 hrs;have hown4:=zO hown hA4;have hB4:=hB.trans (hA4.mono hB.size);have hz4:wr.heap.size≤(wr.alloc (.cells #[.int .i64 (sr:Int),.int .i64 (sf:Int),.int .i64 (G:Int),.int .i64 (sv:Int),.int .i64 (l1:Int),.int .i64 (l2:Int)] 134)).heap.size:=hA4.size;generalize (wr.alloc (.cells #[.int .i64 (sr:Int),.int .i64 (sf:Int),.int .i64 (G:Int),.int .i64 (sv:Int),.int .i64 (l1:Int),.int .i64 (l2:Int)] 134))=w4 at *;refine (zCZ (u1.heap.size + 2) u1.heap.size 0 sh (.slice aV sh.length cV) ⟨sr,sf,G,sv,(l1,l2)⟩ #[.int .i64 (kind:Int),.slice aV sh.length cV] 67 _ hsh4 rfl (by decide) hown4 (by omega) (by omega)).mono ?_;rintro e w5 ⟨v5,rfl,ho5,hf5,hn5,hm5⟩;have hT:∀ k,k < u1.heap.size + 2→k≠u1.heap.size→¬ (k=u1.heap.size∨(Value.slice aV sh.length cV).ownBlock=some k):=fun k hk hne h=>by
       rcases h with h | h
       ·exact hne h
       ·have:=zA0 hown4 h;omega
      have hnu5:=(hn5.block (u1.heap.size + 1) (zB hnu4) (hT _ (by omega) (by omega))).trans hnu4;have hnd5:=(hn5.block gN (zB hnd4) (hT _ (by omega) (by omega))).trans hnd4;have hrs5:=(hn5.block w.heap.size (zB hrs4) (hT _ (by omega) (by omega))).trans hrs4;have hB5:=hn5.under hB4 (Nat.le_refl _) (fun k hk=>by
       rcases hk with h | h
       ·omega
       ·have:=zA0 hown4 h;omega)
      have hnuS:(w5.setCell ⟨u1.heap.size + 1,k + 1,none⟩ (.int .i64 ((sh.length:Int) + 1))).heap[u1.heap.size + 1]?=some (.cells (zu (nums.set (k + 1) (sh.length + 1))).toArray 3 (0,0)):=by
       have h:=zI hnu5 (k + 1) (.int .i64 ((sh.length + 1:Nat):Int));rw [zEa] at h;exact h
      have cn5:w5.cell? ⟨u1.heap.size + 1,k + 1,none⟩=some (.int .i64 (nums.getD (k + 1) 0:Int)):=(by rw [zC hnu5];exact zCO _ _ (by rw [zA HNN];exact hk1));have zn5:=zD hnu5 (k + 1);have ln5:=zB hnu5;have hne5:v5.ownBlock≠some (u1.heap.size + 1):=fun e=>by have:=zA0 ho5 e;omega
      go_wp2_with fail
      go_roundg (gk - 1)
      case measure=>omega
      case rel=>exact ⟨k + 1,sh ++ [⟨sr,sf,G,sv,(l1,l2)⟩],nums.set (k + 1) (sh.length + 1),v5,by go_num,by omega,by rw [show gk - 1=m by omega];exact zA HN,by rw [List.length_append];simp;omega,by rw [List.length_set];exact zA HNN,hB5.setCell (p:=⟨u1.heap.size + 1,k + 1,none⟩) (by show w.heap.size≤u1.heap.size + 1;omega) _,zf hrs5 (by omega) _ _,zf hnd5 (by omega) _ _,zf hf5 (by omega) _ _,hnuS,by rw [List.length_append];exact zR ho5 (p:=⟨u1.heap.size + 1,k + 1,none⟩) hne5 _⟩
    ·rcases (show (sr≠1∧sf≤k)∨sr=1∨(sr≠1∧¬ sf≤k) by omega) with hf | hf | hf
     ·skip
      have g1:((sr:Int) == 1)=false:=(by rw [beq_eq_false_iff_ne];omega);have g1n:(sr == 1)=false:=(by rw [beq_eq_false_iff_ne];omega);have g1m:((sr:Int) != 1)=true:=(by rw [bne,g1];rfl);have g1p:(sr != 1)=true:=(by rw [bne,g1n];rfl);have g1d:decide ((sr:Int)=1)=false:=decide_eq_false (by omega);have g1e:decide (sr=1)=false:=decide_eq_false (by omega);have g2':decide ((sf:Int)≤(k:Int))=true:=decide_eq_true (by omega);have g2n:decide (sf≤k)=true:=decide_eq_true (by omega);have hfl:sf < p.length + 1:=(by omega);have g3:decide ((ss:Int)≤(k:Int))=false:=decide_eq_false (by omega);have g3n:decide (ss≤k)=false:=decide_eq_false (by omega);have HRN:Hid (zBZ nums k ⟨sr,sf,ss,sv,(l1,l2)⟩=⟨sr,nums.getD sf 0,ss,sv,(l1,l2)⟩):=zF (by unfold zBZ;dsimp only;rw [if_pos hf,if_neg hs]);rw [zA HRN] at HN;clear hf hs HRN;have nf:(wr.alloc (.cells #[.int .i64 (sr:Int),.int .i64 (sf:Int),.int .i64 (ss:Int),.int .i64 (sv:Int),.int .i64 (l1:Int),.int .i64 (l2:Int)] 134)).cell? ⟨u1.heap.size + 1,sf,none⟩=some (.int .i64 (nums.getD sf 0:Int)):=(by rw [hA.cell (p:=⟨u1.heap.size + 1,sf,none⟩) lnu,zC hnu];exact zCO _ _ (by rw [zA HNN];exact hfl));have hA4:Below wr.heap.size wr (wr.alloc (.cells #[.int .i64 (sr:Int),.int .i64 (nums.getD sf 0:Int),.int .i64 (ss:Int),.int .i64 (sv:Int),.int .i64 (l1:Int),.int .i64 (l2:Int)] 134)):=(Below.refl _ _).alloc (Nat.le_refl _) _;generalize nums.getD sf 0=F at *;go_wp2_with fail;have hsh4:=(hA4.block _ lsh).trans hsh;have hnu4:=(hA4.block _ lnu).trans hnu;have hnd4:=(hA4.block _ lnd).trans hnd;have hrs4:=zH hA4 hrs;have hown4:=zO hown hA4;have hB4:=hB.trans (hA4.mono hB.size);have hz4:wr.heap.size≤(wr.alloc (.cells #[.int .i64 (sr:Int),.int .i64 (F:Int),.int .i64 (ss:Int),.int .i64 (sv:Int),.int .i64 (l1:Int),.int .i64 (l2:Int)] 134)).heap.size:=hA4.size;generalize (wr.alloc (.cells #[.int .i64 (sr:Int),.int .i64 (F:Int),.int .i64 (ss:Int),.int .i64 (sv:Int),.int .i64 (l1:Int),.int .i64 (l2:Int)] 134))=w4 at *;refine (zCZ (u1.heap.size + 2) u1.heap.size 0 sh (.slice aV sh.length cV) ⟨sr,F,ss,sv,(l1,l2)⟩ #[.int .i64 (kind:Int),.slice aV sh.length cV] 67 _ hsh4 rfl (by decide) hown4 (by omega) (by omega)).mono ?_;rintro e w5 ⟨v5,rfl,ho5,hf5,hn5,hm5⟩;have hT:∀ k,k < u1.heap.size + 2→k≠u1.heap.size→¬ (k=u1.heap.size∨(Value.slice aV sh.length cV).ownBlock=some k):=fun k hk hne h=>by
       rcases h with h | h
       ·exact hne h
       ·have:=zA0 hown4 h;omega
      have hnu5:=(hn5.block (u1.heap.size + 1) (zB hnu4) (hT _ (by omega) (by omega))).trans hnu4;have hnd5:=(hn5.block gN (zB hnd4) (hT _ (by omega) (by omega))).trans hnd4;have hrs5:=(hn5.block w.heap.size (zB hrs4) (hT _ (by omega) (by omega))).trans hrs4;have hB5:=hn5.under hB4 (Nat.le_refl _) (fun k hk=>by
       rcases hk with h | h
       ·omega
       ·have:=zA0 hown4 h;omega)
      have hnuS:(w5.setCell ⟨u1.heap.size + 1,k + 1,none⟩ (.int .i64 ((sh.length:Int) + 1))).heap[u1.heap.size + 1]?=some (.cells (zu (nums.set (k + 1) (sh.length + 1))).toArray 3 (0,0)):=by
       have h:=zI hnu5 (k + 1) (.int .i64 ((sh.length + 1:Nat):Int));rw [zEa] at h;exact h
      have cn5:w5.cell? ⟨u1.heap.size + 1,k + 1,none⟩=some (.int .i64 (nums.getD (k + 1) 0:Int)):=(by rw [zC hnu5];exact zCO _ _ (by rw [zA HNN];exact hk1));have zn5:=zD hnu5 (k + 1);have ln5:=zB hnu5;have hne5:v5.ownBlock≠some (u1.heap.size + 1):=fun e=>by have:=zA0 ho5 e;omega
      go_wp2_with fail
      go_roundg (gk - 1)
      case measure=>omega
      case rel=>exact ⟨k + 1,sh ++ [⟨sr,F,ss,sv,(l1,l2)⟩],nums.set (k + 1) (sh.length + 1),v5,by go_num,by omega,by rw [show gk - 1=m by omega];exact zA HN,by rw [List.length_append];simp;omega,by rw [List.length_set];exact zA HNN,hB5.setCell (p:=⟨u1.heap.size + 1,k + 1,none⟩) (by show w.heap.size≤u1.heap.size + 1;omega) _,zf hrs5 (by omega) _ _,zf hnd5 (by omega) _ _,zf hf5 (by omega) _ _,hnuS,by rw [List.length_append];exact zR ho5 (p:=⟨u1.heap.size + 1,k + 1,none⟩) hne5 _⟩
     ·skip
      have g1:((sr:Int) == 1)=true:=(by rw [beq_iff_eq];omega);have g1n:(sr == 1)=true:=(by rw [beq_iff_eq];omega);have g1m:((sr:Int) != 1)=false:=(by rw [bne,g1];rfl);have g1p:(sr != 1)=false:=(by rw [bne,g1n];rfl);have g1d:decide ((sr:Int)=1)=true:=decide_eq_true (by omega);have g1e:decide (sr=1)=true:=decide_eq_true (by omega);have g3:decide ((ss:Int)≤(k:Int))=false:=decide_eq_false (by omega);have g3n:decide (ss≤k)=false:=decide_eq_false (by omega);have HRN:Hid (zBZ nums k ⟨sr,sf,ss,sv,(l1,l2)⟩=⟨sr,sf,ss,sv,(l1,l2)⟩):=zF (by unfold zBZ;dsimp only;rw [if_neg (by omega),if_neg hs]);rw [zA HRN] at HN;clear hf hs HRN;have hA4:Below wr.heap.size wr (wr.alloc (.cells #[.int .i64 (sr:Int),.int .i64 (sf:Int),.int .i64 (ss:Int),.int .i64 (sv:Int),.int .i64 (l1:Int),.int .i64 (l2:Int)] 134)):=(Below.refl _ _).alloc (Nat.le_refl _) _;go_wp2_with fail;have hsh4:=(hA4.block _ lsh).trans hsh;have hnu4:=(hA4.block _ lnu).trans hnu;have hnd4:=(hA4.block _ lnd).trans hnd;have hrs4:=zH hA4 hrs;have hown4:=zO hown hA4;have hB4:=hB.trans (hA4.mono hB.size);have hz4:wr.heap.size≤(wr.alloc (.cells #[.int .i64 (sr:Int),.int .i64 (sf:Int),.int .i64 (ss:Int),.int .i64 (sv:Int),.int .i64 (l1:Int),.int .i64 (l2:Int)] 134)).heap.size:=hA4.size;generalize (wr.alloc (.cells #[.int .i64 (sr:Int),.int .i64 (sf:Int),.int .i64 (ss:Int),.int .i64 (sv:Int),.int .i64 (l1:Int),.int .i64 (l2:Int)] 134))=w4 at *;refine (zCZ (u1.heap.size + 2) u1.heap.size 0 sh (.slice aV sh.length cV) ⟨sr,sf,ss,sv,(l1,l2)⟩ #[.int .i64 (kind:Int),.slice aV sh.length cV] 67 _ hsh4 rfl (by decide) hown4 (by omega) (by omega)).mono ?_;rintro e w5 ⟨v5,rfl,ho5,hf5,hn5,hm5⟩;have hT:∀ k,k < u1.heap.size + 2→k≠u1.heap.size→¬ (k=u1.heap.size∨(Value.slice aV sh.length cV).ownBlock=some k):=fun k hk hne h=>by
       rcases h with h | h
       ·exact hne h
       ·have:=zA0 hown4 h;omega
      have hnu5:=(hn5.block (u1.heap.size + 1) (zB hnu4) (hT _ (by omega) (by omega))).trans hnu4;have hnd5:=(hn5.block gN (zB hnd4) (hT _ (by omega) (by omega))).trans hnd4;have hrs5:=(hn5.block w.heap.size (zB hrs4) (hT _ (by omega) (by omega))).trans hrs4;have hB5:=hn5.under hB4 (Nat.le_refl _) (fun k hk=>by
       rcases hk with h | h
       ·omega
       ·have:=zA0 hown4 h;omega)
      have hnuS:(w5.setCell ⟨u1.heap.size + 1,k + 1,none⟩ (.int .i64 ((sh.length:Int) + 1))).heap[u1.heap.size + 1]?=some (.cells (zu (nums.set (k + 1) (sh.length + 1))).toArray 3 (0,0)):=by
       have h:=zI hnu5 (k + 1) (.int .i64 ((sh.length + 1:Nat):Int));rw [zEa] at h;exact h
      have cn5:w5.cell? ⟨u1.heap.size + 1,k + 1,none⟩=some (.int .i64 (nums.getD (k + 1) 0:Int)):=(by rw [zC hnu5];exact zCO _ _ (by rw [zA HNN];exact hk1));have zn5:=zD hnu5 (k + 1);have ln5:=zB hnu5;have hne5:v5.ownBlock≠some (u1.heap.size + 1):=fun e=>by have:=zA0 ho5 e;omega
      go_wp2_with fail
      go_roundg (gk - 1)
      case measure=>omega
      case rel=>exact ⟨k + 1,sh ++ [⟨sr,sf,ss,sv,(l1,l2)⟩],nums.set (k + 1) (sh.length + 1),v5,by go_num,by omega,by rw [show gk - 1=m by omega];exact zA HN,by rw [List.length_append];simp;omega,by rw [List.length_set];exact zA HNN,hB5.setCell (p:=⟨u1.heap.size + 1,k + 1,none⟩) (by show w.heap.size≤u1.heap.size + 1;omega) _,zf hrs5 (by omega) _ _,zf hnd5 (by omega) _ _,zf hf5 (by omega) _ _,hnuS,by rw [List.length_append];exact zR ho5 (p:=⟨u1.heap.size + 1,k + 1,none⟩) hne5 _⟩
     ·skip
      have g1:((sr:Int) == 1)=false:=(by rw [beq_eq_false_iff_ne];omega);have g1n:(sr == 1)=false:=(by rw [beq_eq_false_iff_ne];omega);have g1m:((sr:Int) != 1)=true:=(by rw [bne,g1];rfl);have g1p:(sr != 1)=true:=(by rw [bne,g1n];rfl);have g1d:decide ((sr:Int)=1)=false:=decide_eq_false (by omega);have g1e:decide (sr=1)=false:=decide_eq_false (by omega);have g2':decide ((sf:Int)≤(k:Int))=false:=decide_eq_false (by omega);have g2n:decide (sf≤k)=false:=decide_eq_false (by omega);have g3:decide ((ss:Int)≤(k:Int))=false:=decide_eq_false (by omega);have g3n:decide (ss≤k)=false:=decide_eq_false (by omega);have HRN:Hid (zBZ nums k ⟨sr,sf,ss,sv,(l1,l2)⟩=⟨sr,sf,ss,sv,(l1,l2)⟩):=zF (by unfold zBZ;dsimp only;rw [if_neg (by omega),if_neg hs]);rw [zA HRN] at HN;clear hf hs HRN;have hA4:Below wr.heap.size wr (wr.alloc (.cells #[.int .i64 (sr:Int),.int .i64 (sf:Int),.int .i64 (ss:Int),.int .i64 (sv:Int),.int .i64 (l1:Int),.int .i64 (l2:Int)] 134)):=(Below.refl _ _).alloc (Nat.le_refl _) _;go_wp2_with fail;have hsh4:=(hA4.block _ lsh).trans hsh;have hnu4:=(hA4.block _ lnu).trans hnu;have hnd4:=(hA4.block _ lnd).trans hnd;have hrs4:=zH hA4 hrs;have hown4:=zO hown hA4;have hB4:=hB.trans (hA4.mono hB.size);have hz4:wr.heap.size≤(wr.alloc (.cells #[.int .i64 (sr:Int),.int .i64 (sf:Int),.int .i64 (ss:Int),.int .i64 (sv:Int),.int .i64 (l1:Int),.int .i64 (l2:Int)] 134)).heap.size:=hA4.size;generalize (wr.alloc (.cells #[.int .i64 (sr:Int),.int .i64 (sf:Int),.int .i64 (ss:Int),.int .i64 (sv:Int),.int .i64 (l1:Int),.int .i64 (l2:Int)] 134))=w4 at *;refine (zCZ (u1.heap.size + 2) u1.heap.size 0 sh (.slice aV sh.length cV) ⟨sr,sf,ss,sv,(l1,l2)⟩ #[.int .i64 (kind:Int),.slice aV sh.length cV] 67 _ hsh4 rfl (by decide) hown4 (by omega) (by omega)).mono ?_;rintro e w5 ⟨v5,rfl,ho5,hf5,hn5,hm5⟩;have hT:∀ k,k < u1.heap.size + 2→k≠u1.heap.size→¬ (k=u1.heap.size∨(Value.slice aV sh.length cV).ownBlock=some k):=fun k hk hne h=>by
       rcases h with h | h
       ·exact hne h
       ·have:=zA0 hown4 h;omega
      have hnu5:=(hn5.block (u1.heap.size + 1) (zB hnu4) (hT _ (by omega) (by omega))).trans hnu4;have hnd5:=(hn5.block gN (zB hnd4) (hT _ (by omega) (by omega))).trans hnd4;have hrs5:=(hn5.block w.heap.size (zB hrs4) (hT _ (by omega) (by omega))).trans hrs4;have hB5:=hn5.under hB4 (Nat.le_refl _) (fun k hk=>by
       rcases hk with h | h
       ·omega
       ·have:=zA0 hown4 h;omega)
      have hnuS:(w5.setCell ⟨u1.heap.size + 1,k + 1,none⟩ (.int .i64 ((sh.length:Int) + 1))).heap[u1.heap.size + 1]?=some (.cells (zu (nums.set (k + 1) (sh.length + 1))).toArray 3 (0,0)):=by
       have h:=zI hnu5 (k + 1) (.int .i64 ((sh.length + 1:Nat):Int));rw [zEa] at h;exact h
      have cn5:w5.cell? ⟨u1.heap.size + 1,k + 1,none⟩=some (.int .i64 (nums.getD (k + 1) 0:Int)):=(by rw [zC hnu5];exact zCO _ _ (by rw [zA HNN];exact hk1));have zn5:=zD hnu5 (k + 1);have ln5:=zB hnu5;have hne5:v5.ownBlock≠some (u1.heap.size + 1):=fun e=>by have:=zA0 ho5 e;omega
      go_wp2_with fail
      go_roundg (gk - 1)
      case measure=>omega
      case rel=>exact ⟨k + 1,sh ++ [⟨sr,sf,ss,sv,(l1,l2)⟩],nums.set (k + 1) (sh.length + 1),v5,by go_num,by omega,by rw [show gk - 1=m by omega];exact zA HN,by rw [List.length_append];simp;omega,by rw [List.length_set];exact zA HNN,hB5.setCell (p:=⟨u1.heap.size + 1,k + 1,none⟩) (by show w.heap.size≤u1.heap.size + 1;omega) _,zf hrs5 (by omega) _ _,zf hnd5 (by omega) _ _,zf hf5 (by omega) _ _,hnuS,by rw [List.length_append];exact zR ho5 (p:=⟨u1.heap.size + 1,k + 1,none⟩) hne5 _⟩
  ·have hd3:decide ((k:Int) < (p.length:Int))=false:=decide_eq_false (by omega);have hd4:decide (k < p.length)=false:=decide_eq_false hlt;have hg0:gk=0:=(by omega);have HF:Hid (z6 p last=sh):=zF (by rw [zA HSH,hg0];rfl);have cq0:wr.cell? ⟨u1.heap.size,0,none⟩=some (.int .i64 (kind:Int)):=zE hsh rfl;have cq1:wr.cell? ⟨u1.heap.size,1,none⟩=some (.slice aV sh.length cV):=zE hsh rfl;obtain ⟨cr0,cr1⟩:=zJ hrs;have z0:=zD hrs 0;have z1:=zD hrs 1;have lrs:=zB hrs;have hR:=zI (zI hrs 0 (.int .i64 (kind:Int))) 1 (.slice aV sh.length cV);have j0:=zC hR 0;have j1:=zC hR 1;clear hg0;go_wp2_with fail;refine bodyPost_ret (v:=.agg #[.int .i64 (kind:Int),.slice aV sh.length cV]) (by simp [results,Tryz.results63,go_sem,j0,j1]) rfl ⟨_,rfl,?_,(hB.setCell (p:=⟨w.heap.size,0,none⟩) (Nat.le_refl _) _).setCell (p:=⟨w.heap.size,1,none⟩) (Nat.le_refl _) _⟩;rw [zA HF];have hne0:∀ k,(Value.slice aV sh.length cV).ownBlock=some k→k≠w.heap.size:=fun k hk e=>by have:=zA0 hown hk;omega
   exact zAG (zR (zR hown (p:=⟨w.heap.size,0,none⟩) (fun e=>hne0 _ e rfl) _) (p:=⟨w.heap.size,1,none⟩) (fun e=>hne0 _ e rfl) _) (by omega)
def zC0 (t n:Nat) (c:Nat × Nat):Bool:=(zb c.1 n == 0) && (zb c.2 t == 0)
def zEx (p q:Nat):Bool:=(p &&& (p - 1) == 0) && ((q &&& (q - 1) == 0) && ((p == 0) || (q == 0)))
def zBf (all t n:Nat) (c:Nat × Nat):Bool:=zEx (zb c.1 n) (zb c.2 t) && (((zb c.1 n ||| zb c.2 t) &&& all == 0) && ((zb c.1 n &&& t == 0) && (zb c.2 t &&& n == 0)))
def zCe (cl:List (Nat × Nat)) (all:Nat):Nat→Nat→Nat→Nat→Bool × Nat
 | 0,k,_,_=>(false,k)
 | fuel + 1,k,t,n=>if cl.any (zC0 t n) then (true,k) else
  match cl.find? (zBf all t n) with
  | none=>(false,k)
  | some c=>zCe cl all fuel (k + 1) (t ||| zb c.1 n) (n ||| zb c.2 t)
def zBn (F:zv):Bool × Nat:=zCe F.cl F.all 1024 0 0 0
theorem zH5 (t p:Nat) (hp:p≠0) (h:p &&& t=0):t < t ||| p:=by
 have hle:t≤t ||| p:=Nat.left_le_or
 rcases Nat.lt_or_ge t (t ||| p) with h1 | h1
 ·exact h1
 ·exfalso
  have e:t ||| p=t:=Nat.le_antisymm h1 hle
  apply hp
  apply Nat.eq_of_testBit_eq
  intro i;have h2:(t ||| p).testBit i=t.testBit i:=(by rw [e]);have h3:(p &&& t).testBit i=false:=(by rw [h];simp);rw [Nat.testBit_or] at h2;rw [Nat.testBit_and] at h3;rw [Nat.zero_testBit]
  cases hh:p.testBit i with
  | false=>rfl
  | true=>rw [hh] at h2 h3;simp at h2 h3;rw [h2] at h3;cases h3
theorem zLC (p:Nat) (h:p < 512):(bits .and .i64 (p:Int) ((p:Int) - 1) == 0)=(p &&& (p - 1) == 0):=by
 cases p with
 | zero=>decide
 | succ p=>
  rw [show (((p + 1:Nat):Int) - 1)=((p:Nat):Int) from by omega,zBN _ _ (by omega) (by omega),zAN];rfl
theorem zJX (cl:List (Nat × Nat)) (f:Nat × Nat→Bool) (k:Nat) (h:k < cl.length):(cl.take (k + 1)).any f=((cl.take k).any f || f cl[k]):=by
 rw [List.take_succ_eq_append_getElem h,List.any_append];simp
theorem zN1 (cl:List (Nat × Nat)) (f:Nat × Nat→Bool) (k:Nat) (h:k < cl.length) (hf:f cl[k]=true):cl.any f=true:=by
 rw [List.any_eq_true];exact ⟨_,List.getElem_mem h,hf⟩
theorem zQ1 (cl:List (Nat × Nat)) (f:Nat × Nat→Bool) (k:Nat) (h:k < cl.length) (hno:(cl.take k).any f=false) (hf:f cl[k]=true):cl.find? f=some cl[k]:=by
 conv=>lhs;rw [← List.take_append_drop k cl,List.drop_eq_getElem_cons h]
 rw [List.find?_append]
 have:(cl.take k).find? f=none:=by
  rw [List.find?_eq_none];intro x hx hh;rw [List.any_eq_false] at hno;exact hno x hx hh
 rw [this,List.find?_cons,hf];rfl
theorem zR6 (cl:List (Nat × Nat)) (f:Nat × Nat→Bool) (hno:cl.any f=false):cl.find? f=none:=by
 rw [List.find?_eq_none];intro x hx hh;rw [List.any_eq_false] at hno;exact hno x hx hh
theorem zHX (lo b:Nat) (F:zv) (w:World) (hR:RefAt lo w b F) (hcl:∀ c∈F.cl,c.1 < 512∧c.2 < 512) (hl:F.cl.length≤24) (hall:F.all < 512) :
  Calls Tryz.prog 55 #[.pointer (some ⟨b,0,none⟩)] w fun e w'=>e=.returned (.tuple #[.bool (zBn F).1,.int .i64 ((zBn F).2:Nat)])∧Below w.heap.size w w':=by
 obtain ⟨_,vO,vE,vC,hfb,_,_,hC⟩:=hR;obtain ⟨aC,cC,rfl⟩:=zN hC;have hbw:=zB hfb;have k3:w.cell? ⟨b,3,none⟩=some (.slice aC F.cl.length cC):=zE hfb rfl;have k1:w.cell? ⟨b,1,none⟩=some (.int .i64 F.all):=zE hfb rfl;have HCL:=zF hcl;clear hcl;have HCELL:Hid (∀ (m:Nat) (hm:m < F.cl.length),∃ g2,aC=some ⟨g2,0,none⟩∧g2 < w.heap.size∧w.cell? ⟨g2,m * 2,none⟩=some (.int .i64 (F.cl[m].1:Int))∧w.cell? ⟨g2,m * 2 + 1,none⟩=some (.int .i64 (F.cl[m].2:Int))):=zF (fun m hm=>by
  obtain ⟨g2,cap2,hVe,hg2,hg2',_,hcell⟩:=zS hC (by omega);injection hVe with hVe _ hV2;subst hVe hV2;obtain ⟨hpa,hpb⟩:=zAc F.cl m hm;exact ⟨g2,rfl,hg2',hcell _ _ hpa,hcell _ _ hpb⟩)
 clear hC
 go_enter Tryz.func55,Tryz.ntmps55
 go_wp2_with fail
 go_loopg [4,5,6] 1024 (fun q t n k wx=>∃ (tt nn kk:Nat),t=.int .i64 tt∧n=.int .i64 nn∧k=.int .i64 kk∧tt < 512∧nn < 512∧kk≤tt + nn∧1024≤q + (tt + nn)∧zBn F=zCe F.cl F.all q kk tt nn∧Below w.heap.size w wx)
 case atStart=>exact ⟨0,0,0,rfl,rfl,rfl,by omega,by omega,by omega,by omega,rfl,Below.refl _ _⟩
 case round=>
  obtain ⟨tt,nn,kk,rfl,rfl,rfl,ht,hn,hk,hq,hun,hb⟩:=hrel;obtain ⟨fu,hfu⟩:∃ fu,gk=fu + 1:=⟨gk - 1,by omega⟩;have HUN:Hid (zBn F=if F.cl.any (zC0 tt nn) then (true,kk) else match F.cl.find? (zBf F.all tt nn) with
   | none=>(false,kk)
   | some c=>zCe F.cl F.all fu (kk + 1) (tt ||| zb c.1 nn) (nn ||| zb c.2 tt)):=zF (by rw [hun,hfu];rfl)
  obtain ⟨wo,rfl⟩:∃ wo,wo=wr:=⟨_,rfl⟩;obtain ⟨go,hgo⟩:∃ go,go=gk:=⟨_,rfl⟩;have HGO:=zF hgo;have HFU:=zF hfu;clear hun hfu hgo;go_wp2_with fail
  go_loopg [7] F.cl.length (fun q i wx=>∃ j:Nat,i=.int .i64 j∧j + q=F.cl.length∧(F.cl.take j).any (zC0 tt nn)=false∧Below w.heap.size w wx)
  case atStart=>exact ⟨0,rfl,by omega,rfl,hb⟩
  case round=>
   obtain ⟨j,rfl,hj,hno,hb2⟩:=hrel;have HNO:=zF hno;clear hno;have y3:wr.cell? ⟨b,3,none⟩=some (.slice aC F.cl.length cC):=(by rw [hb2.cell (p:=⟨b,3,none⟩) hbw];exact k3);have y1:wr.cell? ⟨b,1,none⟩=some (.int .i64 F.all):=by rw [hb2.cell (p:=⟨b,1,none⟩) hbw];exact k1
   by_cases hlt:j < F.cl.length
   ·obtain ⟨g2,rfl,hg2,hz0,hz1⟩:=zA HCELL j hlt;have hx0:wr.cell? ⟨g2,j * 2,none⟩=some (.int .i64 (F.cl[j].1:Int)):=(by rw [hb2.cell (p:=⟨g2,j * 2,none⟩) hg2];exact hz0);have hx1:wr.cell? ⟨g2,j * 2 + 1,none⟩=some (.int .i64 (F.cl[j].2:Int)):=(by rw [hb2.cell (p:=⟨g2,j * 2 + 1,none⟩) hg2];exact hz1);have HT:=zF (zJX F.cl (zC0 tt nn) j hlt);have HH:=zF (zN1 F.cl (zC0 tt nn) j hlt);obtain ⟨hb1,hb2x⟩:=zA HCL _ (List.getElem_mem hlt);clear hz0 hz1;generalize F.cl[j]=c at *;obtain ⟨p,n⟩:=c;dsimp only at hx0 hx1 hb1 hb2x;have h1:(bits .andNot .i64 (p:Int) (nn:Int) == 0)=(zb p nn == 0):=(by rw [zBJ _ _ (by omega) (by omega),zAN]);have h2:(bits .andNot .i64 (n:Int) (tt:Int) == 0)=(zb n tt == 0):=(by rw [zBJ _ _ (by omega) (by omega),zAN]);have HD:Hid (zC0 tt nn (p,n)=((zb p nn == 0) && (zb n tt == 0))):=zF rfl
    cases e1:(zb p nn == 0) with
    | false=>
     rw [e1] at h1;have HD1:Hid (zC0 tt nn (p,n)=false):=zF (by rw [zA HD,e1];rfl);clear e1;go_wp2_with fail
     go_roundg (gk - 1)
     case measure=>omega
     case rel=>exact ⟨j + 1,by go_num,by omega,by rw [zA HT,zA HNO,zA HD1];rfl,hb2⟩
    | true=>
     rw [e1] at h1
     cases e2:(zb n tt == 0) with
     | false=>
      rw [e2] at h2;have HD1:Hid (zC0 tt nn (p,n)=false):=zF (by rw [zA HD,e1,e2];rfl);clear e1 e2;go_wp2_with fail
      go_roundg (gk - 1)
      case measure=>omega
      case rel=>exact ⟨j + 1,by go_num,by omega,by rw [zA HT,zA HNO,zA HD1];rfl,hb2⟩
     | true=>
      rw [e2] at h2;have HF:Hid (zBn F=(true,kk)):=zF (by rw [zA HUN,zA HH (by rw [zA HD,e1,e2];rfl)];rfl);clear e1 e2;go_wp2_with fail;go_ret2;exact ⟨by rw [zA HF];rfl,hb2⟩
   ·have hjl:j=F.cl.length:=(by omega);have HND:Hid (F.cl.any (zC0 tt nn)=false):=zF (by have:=zA HNO;rw [hjl,List.take_length] at this;exact this);have HUN2:Hid (zBn F=match F.cl.find? (zBf F.all tt nn) with
     | none=>(false,kk)
     | some c=>zCe F.cl F.all fu (kk + 1) (tt ||| zb c.1 nn) (nn ||| zb c.2 tt)):=zF (by rw [zA HUN,zA HND];rfl)
    subst hjl;obtain ⟨wp,rfl⟩:∃ wp,wp=wr:=⟨_,rfl⟩;go_wp2_with fail
    go_loopg [4,5,8,9] F.cl.length (fun q t n mo i wx=>∃ j:Nat,i=.int .i64 j∧t=.int .i64 tt∧n=.int .i64 nn∧mo=.bool false∧j + q=F.cl.length∧(F.cl.take j).any (zBf F.all tt nn)=false∧Below w.heap.size w wx)
    case atStart=>exact ⟨0,rfl,rfl,rfl,rfl,by omega,rfl,hb2⟩
    case round=>
     obtain ⟨j,rfl,rfl,rfl,rfl,hj2,hno2,hb3⟩:=hrel;have HNO2:=zF hno2;clear hno2;have x3:wr.cell? ⟨b,3,none⟩=some (.slice aC F.cl.length cC):=(by rw [hb3.cell (p:=⟨b,3,none⟩) hbw];exact k3);have x1:wr.cell? ⟨b,1,none⟩=some (.int .i64 F.all):=by rw [hb3.cell (p:=⟨b,1,none⟩) hbw];exact k1
     by_cases hlt2:j < F.cl.length
     ·obtain ⟨g2,rfl,hg2,hz0,hz1⟩:=zA HCELL j hlt2;have hx0:wr.cell? ⟨g2,j * 2,none⟩=some (.int .i64 (F.cl[j].1:Int)):=(by rw [hb3.cell (p:=⟨g2,j * 2,none⟩) hg2];exact hz0);have hx1:wr.cell? ⟨g2,j * 2 + 1,none⟩=some (.int .i64 (F.cl[j].2:Int)):=(by rw [hb3.cell (p:=⟨g2,j * 2 + 1,none⟩) hg2];exact hz1);have HT:=zF (zJX F.cl (zBf F.all tt nn) j hlt2);have HH:=zF (zQ1 F.cl (zBf F.all tt nn) j hlt2 (zA HNO2));have HDD:Hid (zC0 tt nn F.cl[j]=false):=zF (by
       cases hh:zC0 tt nn F.cl[j] with
       | false=>rfl
       | true=>have:=zN1 F.cl (zC0 tt nn) j hlt2 hh;rw [zA HND] at this;cases this)
      obtain ⟨hb1,hb2x⟩:=zA HCL _ (List.getElem_mem hlt2);clear hz0 hz1;generalize F.cl[j]=c at *;obtain ⟨cp,cn⟩:=c;dsimp only at hx0 hx1 hb1 hb2x;have l1:bits .andNot .i64 (cp:Int) (nn:Int)=((zb cp nn:Nat):Int):=zBJ _ _ (by omega) (by omega);have l2:bits .andNot .i64 (cn:Int) (tt:Int)=((zb cn tt:Nat):Int):=zBJ _ _ (by omega) (by omega);have lp:=zDl cp nn hb1;have lq:=zDl cn tt hb2x;have HUC:Hid (zBf F.all tt nn (cp,cn)=(zEx (zb cp nn) (zb cn tt) && (((zb cp nn ||| zb cn tt) &&& F.all == 0) && ((zb cp nn &&& tt == 0) && (zb cn tt &&& nn == 0))))):=zF rfl;have HDE:Hid (zC0 tt nn (cp,cn)=((zb cp nn == 0) && (zb cn tt == 0))):=zF rfl;obtain ⟨p,hep⟩:∃ p,zb cp nn=p:=⟨_,rfl⟩;obtain ⟨q,heq⟩:∃ q,zb cn tt=q:=⟨_,rfl⟩;have HEP:=zF hep;have HEQ:=zF heq;rw [hep] at l1 lp HUC HDE;rw [heq] at l2 lq HUC HDE;clear hep heq;have a1:=zLC p lp;have a2:=zLC q lq;have z1:((p:Int) == 0)=(p == 0):=zAN p;have z2:((q:Int) == 0)=(q == 0):=zAN q;have ho:bits .or .i64 (p:Int) (q:Int)=((p ||| q:Nat):Int):=zCK _ _ (by omega) (by omega);have hpq:=zBD p q lp lq;have hu:(bits .and .i64 ((p ||| q:Nat):Int) (F.all:Int) != 0)=((p ||| q) &&& F.all != 0):=by
       rw [zBN _ _ (by omega) (by omega),Bool.eq_iff_iff,bne_iff_ne,bne_iff_ne];omega
      have htq:(bits .and .i64 (p:Int) (tt:Int) != 0)=(p &&& tt != 0):=by
       rw [zBN _ _ (by omega) (by omega),Bool.eq_iff_iff,bne_iff_ne,bne_iff_ne];omega
      have hnq:(bits .and .i64 (q:Int) (nn:Int) != 0)=(q &&& nn != 0):=by
       rw [zBN _ _ (by omega) (by omega),Bool.eq_iff_iff,bne_iff_ne,bne_iff_ne];omega
      have ot:bits .or .i64 (tt:Int) (p:Int)=((tt ||| p:Nat):Int):=zCK _ _ (by omega) (by omega);have on:bits .or .i64 (nn:Int) (q:Int)=((nn ||| q:Nat):Int):=zCK _ _ (by omega) (by omega)
      cases ea:(p &&& (p - 1) == 0) with
      | false=>
       rw [ea] at a1;have HU1:Hid (zBf F.all tt nn (cp,cn)=false):=zF (by rw [zA HUC];unfold zEx;rw [ea];simp);clear ea;go_wp2_with fail
       go_roundg (gk - 1)
       case measure=>omega
       case rel=>exact ⟨j + 1,by go_num,rfl,rfl,rfl,by omega,by rw [zA HT,zA HNO2,zA HU1];rfl,hb3⟩
      | true=>
       rw [ea] at a1
       cases eb:(q &&& (q - 1) == 0) with
       | false=>
        rw [eb] at a2;have HU1:Hid (zBf F.all tt nn (cp,cn)=false):=zF (by rw [zA HUC];unfold zEx;rw [ea,eb];simp);clear ea eb;go_wp2_with fail
        go_roundg (gk - 1)
        case measure=>omega
        case rel=>exact ⟨j + 1,by go_num,rfl,rfl,rfl,by omega,by rw [zA HT,zA HNO2,zA HU1];rfl,hb3⟩
       | true=>
        rw [eb] at a2
        cases ep:(p == 0) with
        | true=>
         rw [ep] at z1
         cases eu:((p ||| q) &&& F.all == 0) with
         | false=>
          have huf:((p ||| q) &&& F.all  != 0)=true:=(by rw [bne,eu];rfl);rw [huf] at hu;have HU1:Hid (zBf F.all tt nn (cp,cn)=false):=zF (by rw [zA HUC];unfold zEx;rw [ea,eb,ep,eu];simp);clear ea eb ep eu huf;go_wp2_with fail
          go_roundg (gk - 1)
          case measure=>omega
          case rel=>exact ⟨j + 1,by go_num,rfl,rfl,rfl,by omega,by rw [zA HT,zA HNO2,zA HU1];rfl,hb3⟩
         | true=>
          have huf:((p ||| q) &&& F.all  != 0)=false:=(by rw [bne,eu];rfl);rw [huf] at hu
          cases et:(p &&& tt == 0) with
          | false=>
           have htqf:(p &&& tt  != 0)=true:=(by rw [bne,et];rfl);rw [htqf] at htq;have HU1:Hid (zBf F.all tt nn (cp,cn)=false):=zF (by rw [zA HUC];unfold zEx;rw [ea,eb,ep,eu,et];simp);clear ea eb ep eu et htqf;go_wp2_with fail
           go_roundg (gk - 1)
           case measure=>omega
           case rel=>exact ⟨j + 1,by go_num,rfl,rfl,rfl,by omega,by rw [zA HT,zA HNO2,zA HU1];rfl,hb3⟩
          | true=>
           have htqf:(p &&& tt  != 0)=false:=(by rw [bne,et];rfl);rw [htqf] at htq
           cases en:(q &&& nn == 0) with
           | false=>
            have hnqf:(q &&& nn  != 0)=true:=(by rw [bne,en];rfl);rw [hnqf] at hnq;have HU1:Hid (zBf F.all tt nn (cp,cn)=false):=zF (by rw [zA HUC];unfold zEx;rw [ea,eb,ep,eu,et,en];simp);clear ea eb ep eu et en hnqf;go_wp2_with fail
            go_roundg (gk - 1)
            case measure=>omega
            case rel=>exact ⟨j + 1,by go_num,rfl,rfl,rfl,by omega,by rw [zA HT,zA HNO2,zA HU1];rfl,hb3⟩
           | true=>
            have hnqf:(q &&& nn  != 0)=false:=(by rw [bne,en];rfl);rw [hnqf] at hnq;have HFD:Hid (F.cl.find? (zBf F.all tt nn)=some (cp,cn)):=zF (zA HH (by rw [zA HUC];unfold zEx;rw [ea,eb,ep,eu,et,en];rfl));have HNX:Hid (zBn F=zCe F.cl F.all fu (kk + 1) (tt ||| p) (nn ||| q)):=zF (by rw [zA HUN2,zA HFD];dsimp only;rw [zA HEP,zA HEQ]);have et':p &&& tt=0:=(by simpa using et);have en':q &&& nn=0:=(by simpa using en);have HUP:Hid (tt + nn < (tt ||| p) + (nn ||| q)):=zF (by
             have hl1:tt≤tt ||| p:=Nat.left_le_or;have hl2:nn≤nn ||| q:=Nat.left_le_or
             by_cases hp0:p=0
             ·have hq0:q≠0:=fun e=>by
               have:=zA HDD
               rw [zA HDE,hp0,e] at this;cases this
              have:=zH5 nn q hq0 en'
              omega
             ·have:=zH5 tt p hp0 et'
              omega)
            clear ea eb ep eu et en et' en' huf htqf hnqf;go_wp2_with fail
            go_roundg (go - 1)
            case measure=>have:=zA HGO;have:=zA HFU;omega
            case rel=>
             have h1:=zA HGO;have h2:=zA HFU;have h3:=zA HUP;refine ⟨tt ||| p,nn ||| q,kk + 1,rfl,rfl,by go_num,zBD _ _ ht lp,zBD _ _ hn lq,by omega,by omega,?_,hb3⟩;rw [zA HNX,show go - 1=fu from by omega]
        | false=>
         rw [ep] at z1
         cases eq:(q == 0) with
         | false=>
          rw [eq] at z2;have HU1:Hid (zBf F.all tt nn (cp,cn)=false):=zF (by rw [zA HUC];unfold zEx;rw [ea,eb,ep,eq];simp);clear ea eb ep eq;go_wp2_with fail
          go_roundg (gk - 1)
          case measure=>omega
          case rel=>exact ⟨j + 1,by go_num,rfl,rfl,rfl,by omega,by rw [zA HT,zA HNO2,zA HU1];rfl,hb3⟩
         | true=>
          rw [eq] at z2
          cases eu:((p ||| q) &&& F.all == 0) with
          | false=>
           have huf:((p ||| q) &&& F.all  != 0)=true:=(by rw [bne,eu];rfl);rw [huf] at hu;have HU1:Hid (zBf F.all tt nn (cp,cn)=false):=zF (by rw [zA HUC];unfold zEx;rw [ea,eb,ep,eq,eu];simp);clear ea eb ep eq eu huf;go_wp2_with fail
           go_roundg (gk - 1)
           case measure=>omega
           case rel=>exact ⟨j + 1,by go_num,rfl,rfl,rfl,by omega,by rw [zA HT,zA HNO2,zA HU1];rfl,hb3⟩
          | true=>
           have huf:((p ||| q) &&& F.all  != 0)=false:=(by rw [bne,eu];rfl);rw [huf] at hu
           cases et:(p &&& tt == 0) with
           | false=>
            have htqf:(p &&& tt  != 0)=true:=(by rw [bne,et];rfl);rw [htqf] at htq;have HU1:Hid (zBf F.all tt nn (cp,cn)=false):=zF (by rw [zA HUC];unfold zEx;rw [ea,eb,ep,eq,eu,et];simp);clear ea eb ep eq eu et htqf;go_wp2_with fail
            go_roundg (gk - 1)
            case measure=>omega
            case rel=>exact ⟨j + 1,by go_num,rfl,rfl,rfl,by omega,by rw [zA HT,zA HNO2,zA HU1];rfl,hb3⟩
           | true=>
            have htqf:(p &&& tt  != 0)=false:=(by rw [bne,et];rfl);rw [htqf] at htq
            cases en:(q &&& nn == 0) with
            | false=>
             have hnqf:(q &&& nn  != 0)=true:=(by rw [bne,en];rfl);rw [hnqf] at hnq;have HU1:Hid (zBf F.all tt nn (cp,cn)=false):=zF (by rw [zA HUC];unfold zEx;rw [ea,eb,ep,eq,eu,et,en];simp);clear ea eb ep eq eu et en hnqf;go_wp2_with fail
             go_roundg (gk - 1)
             case measure=>omega
             case rel=>exact ⟨j + 1,by go_num,rfl,rfl,rfl,by omega,by rw [zA HT,zA HNO2,zA HU1];rfl,hb3⟩
            | true=>
             have hnqf:(q &&& nn  != 0)=false:=(by rw [bne,en];rfl);rw [hnqf] at hnq;have HFD:Hid (F.cl.find? (zBf F.all tt nn)=some (cp,cn)):=zF (zA HH (by rw [zA HUC];unfold zEx;rw [ea,eb,ep,eq,eu,et,en];rfl));have HNX:Hid (zBn F=zCe F.cl F.all fu (kk + 1) (tt ||| p) (nn ||| q)):=zF (by rw [zA HUN2,zA HFD];dsimp only;rw [zA HEP,zA HEQ]);have et':p &&& tt=0:=(by simpa using et);have en':q &&& nn=0:=(by simpa using en);have HUP:Hid (tt + nn < (tt ||| p) + (nn ||| q)):=zF (by
              have hl1:tt≤tt ||| p:=Nat.left_le_or;have hl2:nn≤nn ||| q:=Nat.left_le_or
              by_cases hp0:p=0
              ·have hq0:q≠0:=fun e=>by
                have:=zA HDD
                rw [zA HDE,hp0,e] at this;cases this
               have:=zH5 nn q hq0 en'
               omega
              ·have:=zH5 tt p hp0 et'
               omega)
             clear ea eb ep eq eu et en et' en' huf htqf hnqf;go_wp2_with fail
             go_roundg (go - 1)
             case measure=>have:=zA HGO;have:=zA HFU;omega
             case rel=>
              have h1:=zA HGO;have h2:=zA HFU;have h3:=zA HUP;refine ⟨tt ||| p,nn ||| q,kk + 1,rfl,rfl,by go_num,zBD _ _ ht lp,zBD _ _ hn lq,by omega,by omega,?_,hb3⟩;rw [zA HNX,show go - 1=fu from by omega]
     ·have HFD:Hid (F.cl.find? (zBf F.all tt nn)=none):=zF (zR6 _ _ (by have:=zA HNO2;rw [show j=F.cl.length from by omega,List.take_length] at this;exact this));have HF:Hid (zBn F=(false,kk)):=zF (by rw [zA HUN2,zA HFD]);go_wp2_with fail;go_ret2;exact ⟨by rw [zA HF];rfl,hb3⟩
def zC9 (u:Nat) (s:Bool):Nat × Nat:=if s then (2 ^ u,0) else (0,2 ^ u)
theorem zFY (u:Nat) (s t:Bool) (v:Nat):L (zC9 u s) t v=(t == s && decide (v=u)):=by
 unfold zC9
 cases s<;>cases t<;>simp [L,Nat.testBit_two_pow,eq_comm]
theorem zH8:∀ p:Fin 512,p.val≠0→p.val &&& (p.val - 1)=0→∃ v:Fin 9,p.val=2 ^ v.val:=by decide +kernel
theorem zP9:∀ (u:Fin 9),1≤u.val→(zAJ (zC9 u.val true)=[(u.val:Int)]∧zEx (zC9 u.val true).1 (zC9 u.val true).2=true)∧(zAJ (zC9 u.val false)=[-(u.val:Int)]∧zEx (zC9 u.val false).1 (zC9 u.val false).2=true):=by decide +kernel
theorem zJp (u:Nat) (s:Bool) (h1:1≤u) (h8:u≤8):zAJ (zC9 u s)=[zAF u s]∧zEx (zC9 u s).1 (zC9 u s).2=true:=by
 have:=zP9 ⟨u,by omega⟩ h1
 cases s
 ·exact this.2
 ·exact this.1
structure VOk (q:QS) (vals:Nat × Nat):Prop where
 free:Free vals
 lok:LOk q vals
section
variable {q:QS} (hq:QGood q) {F:zv} (hF:FQ F q) {uni:Nat × Nat} (hu:zFy q uni)
include hq hF hu
omit hq hu hF in
theorem zPB {t n:Nat} (hv:VOk q (t,n)) {c:Nat × Nat} (hd:zC0 t n c=true):zBj uni (t,n) c=true:=by
 unfold zC0 at hd;rw [Bool.and_eq_true,beq_iff_eq,beq_iff_eq] at hd;have hl:zAM c (t,n)=(0,0):=by
  show (zb c.1 n,zb c.2 t)=(0,0);rw [hd.1,hd.2]
 have hall:∀ s v,L c s v=true→L (t,n) (!s) v=true:=by
  intro s v hs
  have:=zES c (t,n) s v
  rw [hl,zDh,hs] at this
  simpa using this.symm
 unfold zBj zDK;have h1:zEr c (t,n)=false:=by
  cases h:zEr c (t,n) with
  | false=>rfl
  | true=>
   obtain ⟨s,v,a,b⟩:=(zCB _ _).1 h;have h2:=hall s v a
   cases s
   ·exact (hv.free v h2 b).elim
   ·exact (hv.free v b h2).elim
 have h2:zHS c=false:=by
  rw [zGm];intro v a b;exact hv.free v (hall false v b) (hall true v a)
 have h3:zCz (zAz (0,0) uni)=true:=(zDp _).2 (fun s v=>by rw [zDm,zDh];rfl);rw [h1,h2,hl,h3];rfl
theorem zJk {t n:Nat} (hv:VOk q (t,n)) {c:Nat × Nat} (hc:LOk q c) (hnd:zC0 t n c=false):zBf F.all t n c=zBA uni (t,n) c∧(zBA uni (t,n) c=true→∃ u s,1≤u∧u≤8∧zAM c (t,n)=zC9 u s):=by
 have hll:LOk q (zAM c (t,n)):=zKj hc ⟨zDY _ _ hc.bd.1,zDY _ _ hc.bd.2⟩ (fun s v h=>by rw [zES,Bool.and_eq_true] at h;exact h.1);have hback:zBA uni (t,n) c=true→∃ u s,1≤u∧u≤8∧zAM c (t,n)=zC9 u s:=by
  intro h;unfold zBA at h;rw [Bool.and_eq_true,Bool.and_eq_true,beq_iff_eq] at h;obtain ⟨u,s,h1,h8,_,hL,hone⟩:=zLm h.2.1;refine ⟨u,s,h1,h8,zJe (fun t' v=>?_)⟩;rw [zFY]
  cases hh:L (zAM c (t,n)) t' v with
  | true=>
   have hn:=hq.name (hll.vars t' v hh);obtain ⟨rfl,rfl⟩:=hone t' v hn.1 hn.2 hh
   simp
  | false=>
   by_cases e:v=u
   ·subst e
    by_cases e2:t'=s
    ·subst e2;rw [hL] at hh;cases hh
    ·simp [e2]
   ·simp [e]
 refine ⟨?_,hback⟩;have hopen:∀ u s,1≤u→u≤8→zAM c (t,n)=zC9 u s→(zDK c (t,n)=true↔(zb c.1 n &&& t=0∧zb c.2 t &&& n=0)):=by
  intro u s h1 h8 hl;have e1:zb c.1 n=(zC9 u s).1:=congrArg Prod.fst hl;have e2:zb c.2 t=(zC9 u s).2:=congrArg Prod.snd hl;have hm:(zb c.1 n &&& t=0∧zb c.2 t &&& n=0)↔L (t,n) s u=false:=by
   rw [e1,e2]
   cases s
   ·simp only [zC9,Bool.false_eq_true,if_false,Nat.zero_and,true_and,L];rw [Nat.and_comm,← Bool.not_eq_true,← zCy,bne_iff_ne,Decidable.not_not]
   ·simp only [zC9,if_true,Nat.zero_and,and_true,L];rw [Nat.and_comm,← Bool.not_eq_true,← zCy,bne_iff_ne,Decidable.not_not]
  rw [hm];have hin:L c s u=true∧L (t,n) (!s) u=false:=by
   have:=zES c (t,n) s u
   rw [hl,zFY] at this;simp at this;exact ⟨this.1,this.2⟩
  have hoth:∀ r v,L c r v=true→(v=u∧r=s)∨L (t,n) (!r) v=true:=by
   intro r v hr
   have:=zES c (t,n) r v
   rw [hl,zFY,hr] at this
   cases hh:L (t,n) (!r) v with
   | true=>exact Or.inr rfl
   | false=>rw [hh] at this;simp at this;exact Or.inl ⟨this.2,this.1⟩
  unfold zDK;rw [Bool.and_eq_true,Bool.not_eq_true',Bool.not_eq_true',zGm]
  constructor
  ·rintro ⟨h3,_⟩
   cases hh:L (t,n) s u with
   | false=>rfl
   | true=>rw [(zCB _ _).2 ⟨s,u,hin.1,hh⟩] at h3;cases h3
  ·intro h3
   constructor
   ·cases hme:zEr c (t,n) with
    | false=>rfl
    | true=>
     obtain ⟨r,v,a,b⟩:=(zCB _ _).1 hme
     rcases hoth r v a with ⟨rfl,rfl⟩ | h4
     ·rw [h3] at b;cases b
     ·cases r
      ·exact (hv.free v h4 b).elim
      ·exact (hv.free v b h4).elim
   ·intro v a b
    rcases hoth true v a with ⟨rfl,rfl⟩ | h4
    ·rcases hoth false v b with ⟨_,h5⟩ | h5
     ·cases h5
     ·have:L (t,n) true v=true:=h5
      rw [h3] at this;cases this
    ·rcases hoth false v b with ⟨rfl,rfl⟩ | h5
     ·have:L (t,n) false v=true:=h4
      rw [h3] at this;cases this
     ·exact hv.free v h5 h4
 have huni:∀ u s,1≤u→u≤8→zAM c (t,n)=zC9 u s→(zEr (zAM c (t,n)) uni=false↔(zb c.1 n ||| zb c.2 t) &&& F.all=0):=by
  intro u s h1 h8 hl;have e1:zb c.1 n=(zC9 u s).1:=congrArg Prod.fst hl;have e2:zb c.2 t=(zC9 u s).2:=congrArg Prod.snd hl;have hmem:u∈q.vars.map (·.1):=hll.vars s u (by rw [hl,zFY];simp);obtain ⟨x,hx,hxe⟩:=List.mem_map.1 hmem;have hor:(zb c.1 n ||| zb c.2 t)=2 ^ u:=(by rw [e1,e2];cases s<;>simp [zC9]);rw [hor,Nat.and_comm];have hk:F.all.testBit u=x.2:=(by rw [← hxe];exact hF.kinds x hx);have hz:(F.all &&& 2 ^ u=0)↔x.2=false:=(by rw [← hk,← Bool.not_eq_true,← zCy,bne_iff_ne,Decidable.not_not]);rw [hz,hl,← Bool.not_eq_true,zCB]
  constructor
  ·intro h
   cases hx2:x.2 with
   | false=>rfl
   | true=>exact absurd ⟨s,u,by rw [zFY];simp,(hu s u).2 ⟨x,hx,hxe,hx2⟩⟩ h
  ·rintro h ⟨r,v,a,b⟩;rw [zFY,Bool.and_eq_true,beq_iff_eq,decide_eq_true_eq] at a;obtain ⟨rfl,rfl⟩:=a;obtain ⟨y,hy,hye,hyu⟩:=(hu r v).1 b
   have:=zGs hq hy hx (by rw [hye];exact hxe.symm)
   rw [this,h] at hyu;cases hyu
 have hsing:∀ u s,1≤u→u≤8→zAM c (t,n)=zC9 u s→zBf F.all t n c=zBA uni (t,n) c:=by
  intro u s h1 h8 hl;obtain ⟨l1,l2⟩:=zJp u s h1 h8;have e1:zb c.1 n=(zC9 u s).1:=congrArg Prod.fst hl;have e2:zb c.2 t=(zC9 u s).2:=congrArg Prod.snd hl;have ho:=hopen u s h1 h8 hl;have hun:=huni u s h1 h8 hl;unfold zBf zBA;rw [show zEx (zb c.1 n) (zb c.2 t)=true from by rw [e1,e2];exact l2,show (zAJ (zAM c (t,n))).length=1 from by rw [hl,l1];rfl];rw [Bool.eq_iff_iff];simp only [Bool.true_and,Bool.and_eq_true,beq_iff_eq,Bool.not_eq_true',beq_self_eq_true];rw [ho,← hun]
  constructor
  ·rintro ⟨a,b,d⟩;exact ⟨⟨b,d⟩,a⟩
  ·rintro ⟨⟨b,d⟩,a⟩;exact ⟨a,b,d⟩
 cases hi:zBA uni (t,n) c with
 | true=>
  obtain ⟨u,s,h1,h8,hl⟩:=hback hi;rw [hsing u s h1 h8 hl];exact hi
 | false=>
  cases hc2:zBf F.all t n c with
  | false=>rfl
  | true=>
   exfalso
   unfold zBf zEx at hc2;simp only [Bool.and_eq_true,Bool.or_eq_true,beq_iff_eq] at hc2;obtain ⟨⟨p1,p2,p3⟩,_⟩:=hc2;have hnz:zb c.1 n≠0∨zb c.2 t≠0:=by
    unfold zC0 at hnd;rw [Bool.and_eq_false_iff,beq_eq_false_iff_ne,beq_eq_false_iff_ne] at hnd;exact hnd
   have hex:∃ u s,zAM c (t,n)=zC9 u s:=by
    rcases p3 with h | h
    ·have hne:zb c.2 t≠0:=by
      rcases hnz with h5 | h5
      ·exact absurd h h5
      ·exact h5
     obtain ⟨v,hv2⟩:=zH8 ⟨zb c.2 t,zDY _ _ hc.bd.2⟩ hne p2;exact ⟨v.val,false,by show (zb c.1 n,zb c.2 t)=(0,2 ^ v.val);rw [h];exact congrArg _ hv2⟩
    ·have hne:zb c.1 n≠0:=by
      rcases hnz with h5 | h5
      ·exact h5
      ·exact absurd h h5
     obtain ⟨v,hv2⟩:=zH8 ⟨zb c.1 n,zDY _ _ hc.bd.1⟩ hne p1;exact ⟨v.val,true,by show (zb c.1 n,zb c.2 t)=(2 ^ v.val,0);rw [h];exact congrArg (fun z=>(z,0)) hv2⟩
   obtain ⟨u,s,hl⟩:=hex;have hn:=hq.name (hll.vars s u (by rw [hl,zFY];simp))
   have:=hsing u s hn.1 hn.2 hl
   rw [hi] at this;unfold zBf zEx at this
   simp_all
def zNR (q:QS) (vals:Nat × Nat):Nat:=(q.vars.filter (fun x=>!L vals true x.1 && !L vals false x.1)).length
omit hu hF in
theorem zSJ {vals:Nat × Nat} {x:Nat × Bool} (hx:x∈q.vars) (h1:L vals true x.1=false) (h2:L vals false x.1=false) (s:Bool):zNR q (zQ vals (zAF x.1 s)) < zNR q vals:=by
 have hn:=hq.qb.names x hx;unfold zNR;have e:q.vars.filter (fun y=>!L (zQ vals (zAF x.1 s)) true y.1 && !L (zQ vals (zAF x.1 s)) false y.1)=(q.vars.filter (fun y=>!L vals true y.1 && !L vals false y.1)).filter (fun y=>!L (zQ vals (zAF x.1 s)) true y.1 && !L (zQ vals (zAF x.1 s)) false y.1):=by
  rw [List.filter_filter]
  apply List.filter_congr
  intro y _;rw [zBH _ _ _ hn.1 hn.2,zBH _ _ _ hn.1 hn.2]
  cases L vals true y.1<;>cases L vals false y.1<;>simp
 rw [e];refine List.length_filter_lt_length_iff_exists.2 ⟨x,List.mem_filter.2 ⟨hx,by rw [h1,h2];rfl⟩,?_⟩;rw [zBH _ _ _ hn.1 hn.2,zBH _ _ _ hn.1 hn.2]
 cases s<;>simp
omit hq hF hu in
theorem zPw (cl:List (Nat × Nat)) (all:Nat):∀ f k t n,k≤(zCe cl all f k t n).2:=by
 intro f
 induction f with
 | zero=>intro k t n;exact Nat.le_refl _
 | succ f ih=>
  intro k t n;rw [zCe]
  split
  ·exact Nat.le_refl _
  ·split
   ·exact Nat.le_refl _
   ·exact Nat.le_trans (Nat.le_succ k) (ih _ _ _)
omit hq hF hu in
theorem zQq:(zg q []).map (zM (z7 q.cl))=q.cl:=by
 unfold zg;simp only [List.filter_nil,List.map_nil,List.append_nil,List.map_map]
 apply List.ext_getElem
 ·simp
 ·intro i h1 h2;simp only [List.getElem_map,List.getElem_range,Function.comp];rw [zBU _ i (by rw [zBx];exact h2),zFl q.cl i h2]
omit hq hF hu in
theorem zQf:∀ s∈zg q [],1≤s:=by
 intro s hs;unfold zg at hs;simp only [List.filter_nil,List.map_nil,List.append_nil,List.mem_map] at hs;obtain ⟨i,_,rfl⟩:=hs;omega
theorem zOx:∀ (f k t n m:Nat) (trail:List (Int × Nat)),VOk q (t,n)→zNR q (t,n) < m→(zCe q.cl F.all f k t n).1=true→
  (zAp (z7 q.cl) uni (zg q []) m (t,n) trail).conf≠0∧(zAp (z7 q.cl) uni (zg q []) m (t,n) trail).trail.length + k≤trail.length + (zCe q.cl F.all f k t n).2:=by
 intro f
 induction f with
 | zero=>intro k t n m trail _ _ h;cases h
 | succ f ih=>
  intro k t n m trail hv hm h;obtain ⟨m,rfl⟩:∃ m',m=m' + 1:=⟨m - 1,by omega⟩;have hge:=zPw q.cl F.all (f + 1) k t n;rw [zAp]
  by_cases hcf:zBi (z7 q.cl) uni (zg q []) (t,n)≠0
  ·rw [if_pos hcf];exact ⟨hcf,by show trail.length + k≤_;omega⟩
  ·rw [if_neg hcf];have hnoconf:∀ c∈q.cl,zBj uni (t,n) c=false:=by
    intro c hc
    cases hh:zBj uni (t,n) c with
    | false=>rfl
    | true=>
     exfalso
     apply hcf
     rw [← zQq] at hc;obtain ⟨s,hs,rfl⟩:=List.mem_map.1 hc;exact zJn zQf hs hh
   have hnd:∀ c∈q.cl,zC0 t n c=false:=by
    intro c hc
    cases hh:zC0 t n c with
    | false=>rfl
    | true=>have:=zPB (uni:=uni) hv hh;rw [hnoconf c hc] at this;cases this
   have hany:q.cl.any (zC0 t n)=false:=(by rw [List.any_eq_false];intro c hc;rw [hnd c hc];decide);have hF1:zCe q.cl F.all (f + 1) k t n=match q.cl.find? (zBf F.all t n) with
    | none=>(false,k)
    | some c=>zCe q.cl F.all f (k + 1) (t ||| zb c.1 n) (n ||| zb c.2 t):=by rw [zCe,hany];rfl
   rw [hF1] at h ⊢;have hlok:∀ c∈q.cl,LOk q c:=fun c hc=>⟨hq.qb.bits c hc,hq.vars c hc⟩
   have hfind:q.cl.find? (zBf F.all t n)=q.cl.find? (zBA uni (t,n)):=by
    have:∀ l:List (Nat × Nat),(∀ c∈l,c∈q.cl)→l.find? (zBf F.all t n)=l.find? (zBA uni (t,n)):=by
     intro l
     induction l with
     | nil=>intro _;rfl
     | cons c l il=>
      intro hl;rw [List.find?_cons,List.find?_cons,(zJk hq hF hu hv (hlok c (hl c (by simp))) (hnd c (hl c (by simp)))).1,il (fun x hx=>hl x (by simp [hx]))]
    exact this q.cl (fun _ h=>h)
   cases hfd:q.cl.find? (zBf F.all t n) with
   | none=>rw [hfd] at h;cases h
   | some c=>
    rw [hfd] at h;dsimp only at h ⊢;rw [hfind] at hfd;have hcm:=List.mem_of_find?_eq_some hfd;have hci:=List.find?_some hfd;have hcs:∃ s,(zg q []).find? (fun s=>zBA uni (t,n) (zM (z7 q.cl) s))=some s∧zM (z7 q.cl) s=c:=by
     have h5:=hfd;rw [← zQq (q:=q),List.find?_map] at h5
     cases hg:(zg q []).find? (zBA uni (t,n) ∘ zM (z7 q.cl)) with
     | none=>rw [hg] at h5;cases h5
     | some s=>rw [hg] at h5;injection h5 with h5;exact ⟨s,hg,h5⟩
    obtain ⟨s,hs1,hs2⟩:=hcs;have hspos:=zQf s (List.mem_of_find?_eq_some hs1);obtain ⟨u,sg,hu1,hu8,hl⟩:=(zJk hq hF hu hv (hlok c hcm) (hnd c hcm)).2 hci;have hun:zAd (z7 q.cl) uni (zg q []) (t,n)=(zAF u sg,s):=by
     unfold zAd;rw [hs1];dsimp only;rw [hs2,hl,(zJp u sg hu1 hu8).1];rfl
    rw [hun,if_neg (by show ¬ s=0;omega)];dsimp only;have e1:zb c.1 n=(zC9 u sg).1:=congrArg Prod.fst hl;have e2:zb c.2 t=(zC9 u sg).2:=congrArg Prod.snd hl;have hw:zQ (t,n) (zAF u sg)=(t ||| zb c.1 n,n ||| zb c.2 t):=by
     rw [e1,e2]
     apply zJe
     intro r v;rw [zBH _ _ _ hu1 hu8]
     cases sg<;>cases r<;>simp [L,zC9,Nat.testBit_two_pow,eq_comm]
    have hnone:L (t,n) true u=false∧L (t,n) false u=false∧∃ x∈q.vars,x.1=u:=by
     have h6:=zES c (t,n) sg u;rw [hl,zFY] at h6;simp at h6;have h7:L (t,n) sg u=false:=by
      unfold zBA zDK at hci;rw [Bool.and_eq_true,Bool.and_eq_true,Bool.not_eq_true'] at hci
      cases hh:L (t,n) sg u with
      | false=>rfl
      | true=>have h9:=hci.1.1;rw [(zCB _ _).2 ⟨sg,u,h6.1,hh⟩] at h9;cases h9
     obtain ⟨x,hx,hxe⟩:=List.mem_map.1 ((hlok c hcm).vars sg u h6.1);refine ⟨?_,?_,x,hx,hxe⟩
     ·cases sg
      ·exact h6.2
      ·exact h7
     ·cases sg
      ·exact h7
      ·exact h6.2
    obtain ⟨hn1,hn2,x,hx,hxe⟩:=hnone;have hv':VOk q (zQ (t,n) (zAF u sg)):=by
     refine ⟨zHT hu1 hu8 hv.free (by cases sg<;>assumption),zKK _ _ hv.lok.bd,fun r v hr=>?_⟩;rw [zBH _ _ _ hu1 hu8,Bool.or_eq_true,Bool.and_eq_true] at hr
     rcases hr with hr | ⟨_,hr⟩
     ·exact hv.lok.vars r v hr
     ·rw [of_decide_eq_true hr,← hxe];exact List.mem_map_of_mem hx
    have hlt:zNR q (zQ (t,n) (zAF u sg)) < zNR q (t,n):=by
     have:=zSJ hq hx (by rw [hxe];exact hn1) (by rw [hxe];exact hn2) sg
     rwa [hxe] at this
    rw [hw] at hv' hlt ⊢
    have:=ih (k + 1) _ _ m (trail ++ [(zAF u sg,s)]) hv' (by omega) h
    refine ⟨this.1,?_⟩;have h8:=this.2;simp only [List.length_append,List.length_cons,List.length_nil] at h8;omega
end
theorem zRi {C:SC} {m:Nat} {path:Nat × Nat} {d:Nat} {s:SS} {r:SS × (Nat × Nat)} (h:zAa C s path=.inl r):z8 C m path d s=r:=by
 cases m with
 | zero=>rw [z8,h]
 | succ m=>rw [z8,h]
theorem zLH (cl:List (Nat × Nat)):twos (z7 cl)=0:=by
 unfold twos z7;rw [List.length_eq_zero_iff,List.filter_eq_nil_iff];intro s hs;obtain ⟨c,_,rfl⟩:=List.mem_map.1 hs
 simp
theorem zKr {F:zv} {q:QS} (hq:QGood q) (hF:FQ F q) (budget room:Nat) (h:(zBn F).1=true):(zAC q budget room).2.1=1∧(zAC q budget room).1.nodes=1∧twos (zAC q budget room).1.ref≤(zBn F).2:=by
 have hun:zBn F=zCe q.cl F.all 1024 0 0 0:=(by unfold zBn;rw [hF.cl]);rw [hun] at h ⊢;have hz:VOk q (0,0):=⟨fun v a=>(by rw [zDh] at a;cases a),zKo q⟩;have hlt:zNR q (0,0) < q.vars.length + 1:=Nat.lt_succ_of_le (List.length_filter_le _ _);obtain ⟨h1,h2⟩:=zOx hq hF (zIP hq) 1024 0 0 0 (q.vars.length + 1) [] hz hlt h;have hS1:=zHI (zG7 hq budget room) 1;have hU:zX (zAo q budget room) { zAf q with nodes:=1 } (0,0)=zAp (z7 q.cl) (zDL q.vars (0,0)) (zg q []) (q.vars.length + 1) (0,0) []:=rfl;have hc:(zX (zAo q budget room) { zAf q with nodes:=1 } (0,0)).conf≠0:=(by rw [hU];exact h1);have hex:=zIR (C:=zAo q budget room) hq (zIP hq) hS1 (zHA q) hc;have hn:zAa (zAo q budget room) (zAf q) (0,0)=.inl (zAW (zAo q budget room) { zAf q with nodes:=1 } (zX (zAo q budget room) { zAf q with nodes:=1 } (0,0))):=by
  have hb:¬ (0 < (zAo q budget room).budget∧(zAo q budget room).budget≤(zAf q).nodes):=by
   show ¬ (0 < budget∧budget≤0);omega
  rw [zAa,if_neg hb];dsimp only;exact if_pos hc
 have hl:zAC q budget room=zAW (zAo q budget room) { zAf q with nodes:=1 } (zX (zAo q budget room) { zAf q with nodes:=1 } (0,0)):=zRi hn;rw [hl];refine ⟨hex.2.2.2.2.2.1,hex.2.2.2.1,?_⟩;have h3:=hex.2.2.2.2.2.2;have h4:twos ({ zAf q with nodes:=1 }:SS).ref=0:=zLH q.cl;rw [h4] at h3;have h5:(zX (zAo q budget room) { zAf q with nodes:=1 } (0,0)).trail.length≤(zCe q.cl F.all 1024 0 0 0).2:=by
  rw [hU]
  simpa using h2
 rw [Nat.zero_add] at h3;exact Nat.le_trans h3 h5
structure Vd where
 kind:Nat
 nodes:Nat
 lemmas:Nat
 text:List UInt8
def zEj (q:QS) (budget room:Nat):Vd:=
 let r:=zAC q budget room
 ⟨r.2.1,r.1.nodes,r.1.most,if r.2.1=0 then [] else zDM (r.2.1 == 2) (z6 (r.1.proof r.2.1) r.2.2)⟩
end Go.Proofs.YtgipjjhkhfihpaaGreatDoor
