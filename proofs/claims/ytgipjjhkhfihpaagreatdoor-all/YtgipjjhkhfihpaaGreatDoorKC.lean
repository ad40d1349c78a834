import Derived.Test.YtgipjjhkhfihpaaGreatDoorKA
import Derived.Test.YtgipjjhkhfihpaaGreatDoorKB
set_option maxRecDepth 100000
set_option maxHeartbeats 6400000
namespace Go.Proofs.YtgipjjhkhfihpaaGreatDoor
open Go.RowKit
structure RefAt (lo:Nat) (w:World) (b:Nat) (F:zv):Prop where
 lo_le:lo≤b
 at_:∃ vO vE vC,w.heap[b]?=some (.cells #[vO,.int .i64 (F.all:Int),vE,vC] 92 (0,0))∧
  w.ownsRow lo 3 1 vO F.order.length (zu F.order)∧w.ownsRow lo 3 1 vE F.ends.length (zu F.ends)∧w.ownsRow lo 121 2 vC F.cl.length (zAK F.cl)
def zGT (l:List UInt8) (w:World) (e:Ending) (w':World):Prop:=
 Below w.heap.size w w'∧
 match zCU l with
 | .inl (x,i)=>e=.returned (.tuple #[.pointer none,.int .i64 (x:Int),.int .i64 (i:Int)])
 | .inr F=>∃ b,e=.returned (.tuple #[.pointer (some ⟨b,0,none⟩),.int .i64 0,.int .i64 0])∧RefAt w.heap.size w' b F
theorem zIU (l:List UInt8) (w w':World) (e:Ending) (i:Nat) (m:Int) (hm:m=(i:Int)) (hl:l.length≤2000) (hb:Below w.heap.size w w') (h:zAy rs0 0 (zZ 10 l).dropLast=.inr i)
  (he:e=.returned (.tuple #[.pointer none,.int .i64 2,.int .i64 m])):zGT l w e w':=by
 subst hm;refine ⟨hb,?_⟩;unfold zCU;rw [if_neg (by omega),h];exact he
theorem RInv.isBelow {w w1 wr:World} {bf:Nat} {st:RS} {vT vK vC:Value} (h:RInv w1 bf st vT vK vC wr) (hb:Below w.heap.size w w1) (hbf:w1.heap.size=bf):Below w.heap.size w wr:=
 hb.trans (h.below.mono (hbf ▸ hb.size))
theorem zQ0 (l:List UInt8) (w:World) (hl:l.length≤2000) :
  Calls Tryz.prog 52 #[.string ⟨l.toArray⟩] w fun e w'=>zGT l w e w':=by
 go_enter Tryz.func52,Tryz.ntmps52
 go_wp2_with fail;refine (zKR l 10 w (by omega)).mono ?_;rintro e w1 ⟨v,rfl,hown,hb⟩;obtain ⟨g,cap,rfl,hg,hg',hcap,hcell⟩:=zS hown (by simp [zZ]);have hne:0 < (zZ 10 l).length:=(by simp [zZ]);have hlen:(zZ 10 l).length≤2001:=(by have:=zA9 10 l;simp [zZ];omega);have HC:=zF hcell;clear hcell;go_wp2_with fail
 go_loopg [8,9,10,11,12] ((zZ 10 l).length) (fun q told kinds seen used i wr=>∃ (k:Nat) (st:RS) (vC:Value),i=.int .i64 k∧k + q=(zZ 10 l).length∧1≤q∧seen=.int .i64 st.seen∧used=.int .i64 st.used∧st.seen < 512∧st.used < 512∧st.told.length≤2001 * k∧st.cl.length≤k∧st.kinds.length=st.told.length∧
   RInv w1 w1.heap.size st told kinds vC wr∧zAy rs0 0 (zZ 10 l).dropLast=zAy st k ((zZ 10 l).dropLast.drop k))
 case atStart=>
  refine ⟨0,rs0,.slice none 0 0,rfl,by omega,by omega,rfl,rfl,by decide,by decide,by simp [rs0],by simp [rs0],rfl,?_,by simp⟩;exact ⟨(Below.refl _ _).alloc (Nat.le_refl _) _,heap_alloc_new _ _,World.ownsRow_nil _ _ _ _,World.ownsRow_nil _ _ _ _,World.ownsRow_nil _ _ _ _⟩
 case round=>
  obtain ⟨k,st,vC,rfl,hkq,hq1,rfl,rfl,hs1,hs2,ht1,hc1,hkt,hI,hrr⟩:=hrel;obtain ⟨wo,rfl⟩:∃ wo,wo=wr:=⟨_,rfl⟩;obtain ⟨go,rfl⟩:∃ go,go=gk:=⟨_,rfl⟩
  by_cases hlt:1 < go
  ·have hkl:k < (zZ 10 l).length:=(by omega);obtain ⟨row,hrow⟩:∃ row,(zZ 10 l)[k]?=some row:=⟨_,List.getElem?_eq_getElem hkl⟩;have hcr:wo.cell? ⟨g,k,none⟩=some (S row):=by
    rw [hI.below.cell (p:=⟨g,k,none⟩) hg'];exact zA HC k _ (by rw [List.getElem?_map,hrow];rfl)
   have hrl:row.length≤2000:=by
    have:=zDq 10 l row (List.mem_of_getElem? hrow);omega
   rw [zJF _ k row hrow (by omega)] at hrr;have HF:Hid ((zCF st row).2=false→zAy rs0 0 (zZ 10 l).dropLast=.inr (k + 1)):=zF (fun h=>by rw [hrr,zAy,if_neg (by simp [h])]);have HO:Hid ((zCF st row).2=true→zAy rs0 0 (zZ 10 l).dropLast=zAy (zCF st row).1 (k + 1) ((zZ 10 l).dropLast.drop (k + 1))):=zF (fun h=>by rw [hrr,zAy,if_pos h]);clear hrr hrow;have hdk:decide ((k:Int) < ((zZ 10 l).length:Int) - 1)=true:=(by simp;omega);go_wp2_with fail;refine (zKR row 32 wo (by omega)).mono ?_;rintro e w2 ⟨v2,rfl,hown2,hb2⟩;have hwl:(zZ 32 row).length≤2001:=(by have:=zA9 32 row;simp [zZ];omega);obtain ⟨hd,tl,hws⟩:∃ hd tl,zZ 32 row=hd :: tl:=by
    cases h:zZ 32 row with
    | nil=>simp [zZ] at h
    | cons a b=>exact ⟨a,b,rfl⟩
   rw [hws] at hown2 hwl;have HS:=zF hws;clear hws;obtain ⟨g2,cap2,rfl,hg2,hg2',hcap2,hcell2⟩:=zS hown2 (by simp);have hc20:w2.cell? ⟨g2,0,none⟩=some (S hd):=hcell2 0 _ rfl;have hI2:=hI.later hb2;have hb2s:=hb2.size;have HC2:=zF hcell2;clear hcell2;simp only [List.length_cons] at hwl hcap2 ⊢
   by_cases hc:hd=[99]
   ·subst hc;clear hown2;have HRS:=zF (zPD st row tl (zA HS));go_wp2_with fail
    go_loopg [14,16] (tl.length) (fun q ok i wx=>∃ j:Nat,i=.int .i64 (j + 1)∧j + q=tl.length∧ok=.bool (zBF (tl.take j)).2∧Below w2.heap.size w2 wx∧
     wx.heap[w2.heap.size]?=some (.cells #[.int .i64 ((zBF (tl.take j)).1.1:Int),.int .i64 ((zBF (tl.take j)).1.2:Int)] 121 (0,0)))
    case atStart=>
     refine ⟨0,rfl,by omega,rfl,(Below.refl _ _).alloc (Nat.le_refl _) _,?_⟩;exact heap_alloc_new _ _
    case round=>
     obtain ⟨j,rfl,hjq,rfl,hb3,hbc⟩:=hrel;have hll:=zJU (tl.take j)
     by_cases hj:j < tl.length
     ·have hcj:wr.cell? ⟨g2,j + 1,none⟩=some (S tl[j]):=by
       rw [hb3.cell (p:=⟨g2,j + 1,none⟩) hg2'];exact zA HC2 (j + 1) _ (by simp [hj])
      have HT:=zF (zMR tl j hj);generalize hLT:zBF (tl.take j)=LT at *;obtain ⟨⟨p,n⟩,ok⟩:=LT;go_wp2_with fail;refine (zHr tl[j] w2.heap.size p n wr hbc hll.1 hll.2).mono ?_;rintro e w3 ⟨rfl,hbc3,ho3⟩;have hb4:Below w2.heap.size w2 w3:=hb3.trans (ho3.below hb3.size (fun k hk h=>by omega))
      cases ok with
      | true=>
       go_wp2_with fail
       go_roundg (gk - 1)
       case measure=>omega
       case rel=>
        refine ⟨j + 1,by go_num,by omega,?_,hb4,?_⟩
        ·rw [zA HT];simp
        ·rw [zA HT];exact hbc3
      | false=>
       go_wp2_with fail
       go_roundg (gk - 1)
       case measure=>omega
       case rel=>
        refine ⟨j + 1,by go_num,by omega,?_,hb4,?_⟩
        ·rw [zA HT];simp
        ·rw [zA HT];exact hbc3
     ·have hjl:j=tl.length:=(by omega);subst hjl;have hI3:=hI2.later hb3;have hbf:w1.heap.size < w2.heap.size:=zB hI2.fb;have hbw:w2.heap.size < wr.heap.size:=zB hbc;have hbfw:w1.heap.size < wr.heap.size:=(by omega);have HTL:Hid (zBF (tl.take tl.length)=zBF tl):=zF (by rw [List.take_length]);generalize hLT:zBF (tl.take tl.length)=LT at *;obtain ⟨⟨p,n⟩,ok⟩:=LT;have hpn:p < 512:=hll.1;have hnn':n < 512:=hll.2;have hf3:wr.cell? ⟨w1.heap.size,3,none⟩=some vC:=zE hI3.fb rfl;have hfz:=zD hI3.fb 3;have hp0:wr.cell? ⟨w2.heap.size,0,none⟩=some (.int .i64 p):=zE hbc rfl;have hp1:wr.cell? ⟨w2.heap.size,1,none⟩=some (.int .i64 n):=zE hbc rfl;have hapc:vC.ownBlock≠some w2.heap.size:=fun e=>by have:=hI2.oC.lt _ e;omega
      have hor1:bits .or .i64 (st.used:Int) (p:Int)=((st.used ||| p:Nat):Int):=zCK _ _ (by omega) (by omega);have hlt1:st.used ||| p < 512:=zBD _ _ hs2 hpn;have hor2:bits .or .i64 ((st.used ||| p:Nat):Int) (n:Int)=((st.used ||| p ||| n:Nat):Int):=zCK _ _ (by omega) (by omega);have hlt2:st.used ||| p ||| n < 512:=zBD _ _ hlt1 hnn';obtain ⟨i1,hi1,hz10,hz11,hz12⟩:=info_parts Tryz.info121;go_wp2_with fail
      go_region_law (refine zE6 rfl (.tmp 71) (.tmp 73) 90 rfl (w1.heap.size + 1) 121 i1 (.agg #[.int .i64 0,.int .i64 0]) 2 16 Tryz.underlying90 hi1 hz10 hz11 hz12 rfl (by decide) vC st.cl.length (zAK st.cl) (hI3.oC.alloc _).drew rfl ⟨wr.heap.size,0,none⟩ 1 1 [.int .i64 p,.int .i64 n] rfl rfl (zBX wr [.int .i64 p,.int .i64 n] 121) (by simp [Value.oneCell']) (by unfold maxLen;omega) (by omega) (by simp;omega) ?_;intro v' w' hown' hgrow hnn;have hJ:=hI3.push_clause (((Below.refl _ wr).alloc (Nat.le_refl _) _).drew) hgrow hown' (st.used ||| p ||| n);obtain ⟨g3,cap3,rfl,hg3,hg3',hcap3,hcell3⟩:=zS hown' (by omega);obtain ⟨hfb',hbc'⟩:=zKa hI3 (((Below.refl _ wr).alloc (Nat.le_refl _) _).drew) hgrow hbc hapc;have hq3:w'.cell? ⟨w1.heap.size,3,none⟩=some vC:=(by rw [zC hfb'];rfl);have hqz:=zD hfb' 3;have hq0:w'.cell? ⟨w2.heap.size,0,none⟩=some (.int .i64 p):=(by rw [zC hbc'];rfl);have hq1:w'.cell? ⟨w2.heap.size,1,none⟩=some (.int .i64 n):=(by rw [zC hbc'];rfl))
      all_goals
       cases ok with
       | false=>
        go_wp2_with fail;go_ret3;exact zIU l w _ _ (k + 1) _ (by omega) hl (hJ.isBelow hb rfl) (zA HF (by rw [zA HRS,← zA HTL])) rfl
       | true=>
        go_wp2_with fail
        go_roundg (go - 1)
        case measure=>omega
        case rel=>
         refine ⟨k + 1,{ st with cl:=st.cl ++ [(p,n)],used:=st.used ||| p ||| n },_,by go_num,by omega,by omega,rfl,?_,hs1,hlt2,by simp;omega,by simp;omega,hkt,hJ,?_⟩
         ·first | rfl | rw [hor1,hor2]
         ·rw [zA HO (by rw [zA HRS,← zA HTL]),zA HRS,← zA HTL]
   ·have hcb:(hd == [99])=false:=(by simp [hc]);have hfC:w2.cell? ⟨w1.heap.size,3,none⟩=some vC:=zE hI2.fb rfl;obtain ⟨aC,cC,rfl⟩:=zN hI2.oC
    by_cases hn:(hd=[101]∨hd=[97])∧st.cl=[]∧tl≠[]
    ·obtain ⟨hh,hcl,htl⟩:=hn;have HRS:=zF (zOT st row hd tl (zA HS) hh hcl htl);have hcl0:((st.cl.length:Int) == 0)=true:=(by rw [hcl];rfl);have htl1:decide ((1:Int) < (tl.length:Int) + 1)=true:=by
      cases tl with
      | nil=>exact absurd rfl htl
      | cons a b=>simp;omega
     have HCL:=zF hcl;clear hcl htl;obtain ⟨ua,hua⟩:∃ ua,(hd == [97])=ua:=⟨_,rfl⟩;have hea:(hd == [101])=!ua:=(by rcases hh with rfl | rfl<;>(subst hua;decide));rw [hua] at HRS;clear hh hc;obtain ⟨i3,hi3,hz30,hz31,hz32⟩:=info_parts Tryz.info3;obtain ⟨i4,hi4,hz40,hz41,hz42⟩:=info_parts Tryz.info4
     cases ua
     all_goals
      go_wp2_with fail
      go_loopg [8,9,10,14,18] (tl.length) (fun q told kinds seen ok i wx=>∃ j:Nat,i=.int .i64 (j + 1)∧j + q=tl.length∧ok=.bool (zAg (hd == [97]) st (tl.take j)).ok∧seen=.int .i64 ((zAg (hd == [97]) st (tl.take j)).seen:Int)∧
       wx.ownsRow wo.heap.size 9 1 (.slice (some ⟨g2,0,none⟩) (tl.length + 1) cap2) (tl.length + 1) ((hd :: tl).map S)∧
       RInv w1 w1.heap.size { st with told:=(zAg (hd == [97]) st (tl.take j)).told,kinds:=(zAg (hd == [97]) st (tl.take j)).kinds,seen:=(zAg (hd == [97]) st (tl.take j)).seen } told kinds (.slice aC st.cl.length cC) wx)
      case atStart=>exact ⟨0,rfl,by omega,rfl,rfl,hown2,hI2⟩
      case round=>
       obtain ⟨j,rfl,hjq,rfl,rfl,how,hIx⟩:=hrel;obtain ⟨hv1,hv2,hv3⟩:=zOX (hd == [97]) st (tl.take j) hs1 hkt;rw [List.length_take] at hv2 hv3
       by_cases hj:j < tl.length
       ·have hcj:wr.cell? ⟨g2,j + 1,none⟩=some (S tl[j]):=by
         rw [how.cellAt (j + 1) (by omega)];simp [hj]
        have HT:=zF (zLE (hd == [97]) st tl j hj);rw [hua] at hv1 hv2 hv3 HT hIx ⊢;generalize hLT:zAg _ st (tl.take j)=LT at *;obtain ⟨pt,pk,ps,pok⟩:=LT;obtain ⟨d0,d1⟩:=zB3 tl[j];obtain ⟨dn,hdn⟩:=Int.eq_ofNat_of_zero_le d0;have HVS:=zF (zIg (hd == [97]) ⟨pt,pk,ps,pok⟩ tl[j] dn hdn);rw [hua] at HVS;dsimp only at hv1 hv2 hv3 HVS hIx;have hd8:dn≤8:=(by omega);have hor:bits .or .i64 (ps:Int) (wrap64 (2 ^ dn))=((ps ||| 2 ^ dn:Nat):Int):=by
         have:=zF1 ps hv1 (dn:Int) (by omega) (by omega)
         rwa [Int.toNat_natCast] at this
        have hpl:pt.length≤2001 * k + 2001:=(by omega);have hkl':pk.length≤2001 * k + 2001:=(by omega);have hk2001:k≤2001:=(by omega);go_wp2_with fail;refine (zDr tl[j] wr).mono ?_;rintro e w3 ⟨rfl,hb3⟩;rw [hdn];clear hdn d0 d1;have hIy:=hIx.later hb3;have howy:=zO how hb3;have hc30:w3.cell? ⟨g2,0,none⟩=some (S hd):=(by rw [howy.cellAt 0 (by omega)];rfl);have hbs3:w1.heap.size + 1≤w3.heap.size:=zB hIy.fb;have hex:∃ b0 b1:Bool,((dn:Int) == 0)=b0∧(bits .and .i64 ((ps:Int) / 2 ^ dn) 1 == 1)=b1∧(decide (dn=0∨ps.testBit dn=true))=(b0 || b1):=by
         refine ⟨_,_,rfl,rfl,?_⟩;rw [zCx ps dn hv1 hd8]
         by_cases h:dn=0<;>simp [h]
        obtain ⟨b0,b1,hq0,hq1,hq2⟩:=hex;have HQ:=zF hq2;clear hq2
        cases b0<;>cases b1
        all_goals
         go_wp2_with (first | (at_builtin;refine zV rfl (.tmp 132) (.tmp 134) 25 rfl (w1.heap.size + 1) i3 (.int .i64 0) 1 8 Tryz.underlying25 hi3 hz30 hz31 hz32 rfl (by decide) _ _ _ hIy.oT rfl rfl rfl (by simp [Value.oneCell']) (by unfold maxLen;simp;omega) (by simp;omega) hbs3 ?_;intro v4 w4 hown4 hgrow4 hnn4;have hI4:=hIy.push_told (Below.refl _ _) hgrow4 hown4 (ps ||| 2 ^ dn);have how4:=zA3 howy (Below.refl _ _) hIy.oT hgrow4 (by decide);have hc40:w4.cell? ⟨g2,0,none⟩=some (S hd):=(by rw [how4.cellAt 0 (by omega)];rfl);have hbs4:w1.heap.size + 1≤w4.heap.size:=zB hI4.fb) | (at_builtin;refine zV rfl (.tmp 136) (.tmp 141) 154 rfl (w1.heap.size + 1) i4 (.bool false) 1 1 Tryz.underlying154 hi4 hz40 hz41 hz42 rfl (by decide) _ _ _ hI4.oK rfl rfl rfl (by simp [Value.oneCell']) (by unfold maxLen;simp;omega) (by simp;omega) hbs4 ?_;intro v5 w5 hown5 hgrow5 hnn5;have hI5:=hI4.push_kind (Below.refl _ _) hgrow5 hown5;have how5:=zA3 how4 (Below.refl _ _) hI4.oK hgrow5 (by decide)))
         go_roundg (gk - 1)
         case measure=>omega
         case rel=>
          refine ⟨j + 1,by go_num,by omega,?_,?_,how5,?_⟩
          ·rw [hua,zA HT,zA HVS]
           first | rw [if_neg (of_decide_eq_false (zA HQ))] | rw [if_pos (of_decide_eq_true (zA HQ))]
          ·rw [hua,zA HT,zA HVS]
          ·rw [hua,zA HT,zA HVS];exact hI5
       ·have hjl:j=tl.length:=(by omega);subst hjl;have HTL:Hid (zAg (hd == [97]) st (tl.take tl.length)=zAg (hd == [97]) st tl):=zF (by rw [List.take_length]);rw [hua] at hv1 hv2 hv3 HTL hIx ⊢;generalize hLT:zAg _ st (tl.take tl.length)=LT at *;obtain ⟨pt,pk,ps,pok⟩:=LT;dsimp only at hv1 hv2 hv3 hIx
        cases pok with
        | false=>
         go_wp2_with fail;go_ret3;exact zIU l w _ _ (k + 1) _ (by omega) hl (hIx.isBelow hb rfl) (zA HF (by rw [zA HRS,← zA HTL])) rfl
        | true=>
         go_wp2_with fail
         go_roundg (go - 1)
         case measure=>omega
         case rel=>
          refine ⟨k + 1,{ st with told:=pt,kinds:=pk,seen:=ps },_,by go_num,by omega,by omega,rfl,rfl,hv1,hs2,by dsimp only;omega,by dsimp only;omega,by dsimp only;omega,hIx,?_⟩;rw [zA HO (by rw [zA HRS,← zA HTL]),zA HRS,← zA HTL]
    ·have HN:=zF (zPo st row hd tl (zA HS) hc hn);have hex:∃ b1 b2 b3 b4:Bool,(hd == [101])=b1∧(hd == [97])=b2∧((st.cl.length:Int) == 0)=b3∧decide ((1:Int) < (tl.length:Int) + 1)=b4∧((b1 || b2) && b3 && b4)=false:=by
      refine ⟨_,_,_,_,rfl,rfl,rfl,rfl,?_⟩
      cases hq:((hd == [101] || hd == [97]) && ((st.cl.length:Int) == 0) && decide ((1:Int) < (tl.length:Int) + 1)) with
      | false=>rfl
      | true=>
       exfalso;apply hn
       simp at hq;refine ⟨hq.1.1,hq.1.2,?_⟩;intro e;subst e;simp at hq
     obtain ⟨b1,b2,b3,b4,h1,h2,h3,h4,h5⟩:=hex;clear hn hc
     cases b1<;>cases b2<;>cases b3<;>cases b4<;>first | (exfalso;revert h5;decide) | skip
     all_goals clear h5
     all_goals go_wp2_with fail
     all_goals go_ret3
     all_goals exact zIU l w _ _ (k + 1) _ (by omega) hl (hI2.isBelow hb rfl) (zA HF (zA HN)) rfl
  ·have hgo:go=1:=(by omega);subst hgo;have hk1:k + 1=(zZ 10 l).length:=(by omega);obtain ⟨last,hlast⟩:∃ last,(zZ 10 l)[k]?=some last:=⟨_,List.getElem?_eq_getElem (by omega)⟩;have hcl:wo.cell? ⟨g,(zZ 10 l).length - 1,none⟩=some (S last):=by
    rw [hI.below.cell (p:=⟨g,(zZ 10 l).length - 1,none⟩) hg',show (zZ 10 l).length - 1=k from by omega];exact zA HC k _ (by rw [List.getElem?_map,hlast];rfl)
   have HL:Hid ((zZ 10 l).getLast?=some last):=zF (by rw [List.getLast?_eq_getElem?,show (zZ 10 l).length - 1=k from by omega,hlast]);have hdrop:(zZ 10 l).dropLast.drop k=[]:=(by simp;omega);rw [hdrop] at hrr;have HRR:Hid (zAy rs0 0 (zZ 10 l).dropLast=.inl st):=zF (by rw [hrr];rfl);clear hrr hlast hdrop;have hdk:decide ((k:Int) < ((zZ 10 l).length:Int) - 1)=false:=(by simp;omega);have hfC:wo.cell? ⟨w1.heap.size,3,none⟩=some vC:=zE hI.fb rfl;obtain ⟨aC,cC,rfl⟩:=zN hI.oC
   cases last with
   | cons c r=>
    go_wp2_with fail;go_ret3;refine ⟨hI.isBelow hb rfl,?_⟩;unfold zCU;rw [if_neg (by omega),zA HRR];simp only [zA HL];rw [if_pos (by simp)];exact congrArg (fun m:Int=>Ending.returned (.tuple #[.pointer none,.int .i64 2,.int .i64 m])) (by omega)
   | nil=>
    by_cases h24:24 < st.cl.length
    ·have hd24:decide ((24:Int) < (st.cl.length:Int))=true:=(by simp;omega);go_wp2_with fail;go_ret3;refine ⟨hI.isBelow hb rfl,?_⟩;unfold zCU;rw [if_neg (by omega),zA HRR];simp only [zA HL];rw [if_neg (by simp),if_pos h24];rfl
    ·have hd24:decide ((24:Int) < (st.cl.length:Int))=false:=(by simp;omega);have HP:Hid (zCU l=.inr (zW st)):=zF (by
      unfold zCU;rw [if_neg (by omega),zA HRR];simp only [zA HL];rw [if_neg (by simp),if_neg h24])
     have hF0:=FInv.of hI;have HKT:=zF hkt;clear hkt;obtain ⟨i3,hi3,hz30,hz31,hz32⟩:=info_parts Tryz.info3;go_wp2_with fail
     go_loopg [20] 9 (fun q i wx=>∃ (j:Nat) (vO:Value),i=.int .i64 (j + 1)∧j + q=9∧1≤q∧FInv w1 w1.heap.size st (zB0 st j) 0 [] u8 u9 (.slice aC st.cl.length cC) vO (.slice none 0 0) wx)
     case atStart=>exact ⟨0,_,rfl,by omega,by omega,hF0⟩
     case round=>
      obtain ⟨j,vO,rfl,hjq,hq1',hF⟩:=hrel;have hfl:=zF9 st j
      by_cases hj:j < 8
      ·have hs0:wr.cell? ⟨w1.heap.size,0,none⟩=some vO:=(by rw [zC hF.fb];rfl);have hbs:w1.heap.size + 1≤wr.heap.size:=zB hF.fb;have hfz:=zD hF.fb 0;have hd8:decide ((j:Int) + 1≤8)=true:=(by simp;omega);have hex:∃ b0 b1:Bool,(bits .and .i64 ((st.used:Int) / 2 ^ (j + 1)) 1 == 1)=b0∧(bits .and .i64 ((st.seen:Int) / 2 ^ (j + 1)) 1 == 0)=!b1∧st.used.testBit (j + 1)=b0∧st.seen.testBit (j + 1)=b1:=by
        refine ⟨_,_,zCx st.used (j + 1) hs2 (by omega),?_,rfl,rfl⟩;rw [zHz st.seen (j + 1) hs1 (by omega)]
        cases st.seen.testBit (j + 1)<;>rfl
       obtain ⟨b0,b1,hx0,hx1,hx2,hx3⟩:=hex;have HX:Hid (zB0 st (j + 1)=zB0 st j ++ (if b0 && !b1 then [j + 1] else [])):=zF (by rw [zLJ,hx2,hx3]);clear hx2 hx3;have hj1:((j:Int) + 1)=((j + 1:Nat):Int):=(by omega);have HJ:=zF hj1;clear hj1
       cases b0<;>cases b1
       all_goals
        go_wp2_with (at_builtin;refine zp rfl (.tmp 180) (.tmp 182) 25 rfl (w1.heap.size + 1) i3 (.int .i64 0) 1 8 Tryz.underlying25 hi3 hz30 hz31 hz32 rfl (by decide) _ _ _ hF.oO rfl rfl rfl (by simp [Value.oneCell']) (by unfold maxLen;omega) (by omega) hbs ?_;intro v' w' hown' hgrow hat;rw [zA HJ] at hown';obtain ⟨hfb',hT',hK',hF'⟩:=hF.push_order (Below.refl _ _) hgrow hown' hat;obtain ⟨g3,cap3,rfl,hg3,hg3',hcap3,hcell3⟩:=zS hown' (by omega);have hq3:w'.cell? ⟨w1.heap.size,0,none⟩=some vO:=(by rw [zC hfb'];rfl);have hqz:=zD hfb' 0)
        go_roundg (gk - 1)
        case measure=>omega
        case rel=>
         first
          | exact ⟨j + 1,_,by go_num,by omega,by omega,by rw [zA HX];exact hF'⟩
          | exact ⟨j + 1,_,by go_num,by omega,by omega,by rw [zA HX];simpa using hF⟩
      ·have hj8:j=8:=(by omega);subst hj8;have HTD:=zF (zSY _ _ _ _ (by simp [rs0]) (zA HRR));obtain ⟨aT,cT,rfl⟩:=zN hF.oT;obtain ⟨aK,cK,rfl⟩:=zN hF.oK;have hs0:wr.cell? ⟨w1.heap.size,0,none⟩=some vO:=zE hF.fb rfl;obtain ⟨w4,rfl⟩:∃ w4,w4=wr:=⟨_,rfl⟩;go_wp2_with fail
       go_loopg [21] (st.told.length) (fun q i wx=>∃ (j:Nat) (vO:Value),i=.int .i64 j∧j + q=st.told.length∧FInv w1 w1.heap.size st (zB0 st 8 ++ st.told.take j) (zDE st j) [] (.slice aT st.told.length cT) (.slice aK st.kinds.length cK) (.slice aC st.cl.length cC) vO (.slice none 0 0) wx)
       case atStart=>exact ⟨0,vO,rfl,by omega,by simpa [zDE] using hF⟩
       case round=>
        obtain ⟨j,vO,rfl,hjq2,hF⟩:=hrel
        by_cases hj:j < st.told.length
        ·have hjk:j < st.kinds.length:=(by have:=zA HKT;omega);have HAL:=zF (zNv st j hj hjk);have hal:=zK3 st (zA HTD) j;have htj:st.told[j]≤8:=zA HTD _ (List.getElem_mem hj);have HTK:Hid (st.told.take (j + 1)=st.told.take j ++ [st.told[j]]):=zF (List.take_succ_eq_append_getElem hj);obtain ⟨gT,cT',hTe,hgT,hgT',_,hcT⟩:=zS hF.oT (by omega);injection hTe with hTe _ hTe2;subst hTe hTe2;obtain ⟨gK,cK',hKe,hgK,hgK',_,hcK⟩:=zS hF.oK (by omega);injection hKe with hKe _ hKe2;subst hKe hKe2;have hct:wr.cell? ⟨gT,j,none⟩=some (.int .i64 (st.told[j]:Int)):=hcT j _ (by simp [zu,hj]);clear hcT hcK;have hs0:wr.cell? ⟨w1.heap.size,0,none⟩=some vO:=zE hF.fb rfl;have hbs:w1.heap.size + 1≤wr.heap.size:=zB hF.fb;have hbsl:w1.heap.size < wr.heap.size:=zB hF.fb;have hfz:=zD hF.fb 0;have hol:(zB0 st 8 ++ st.told.take j).length≤8 + 2001 * 2001:=by
          have:=zF9 st 8
          rw [List.length_append,List.length_take]
          have:2001 * k≤2001 * 2001:=Nat.mul_le_mul_left _ (by omega)
          omega
         generalize hOrd:zB0 st 8 ++ st.told.take j=ord at *;have HOrd:=zF hOrd;clear hOrd;generalize zDE st j=al at *;generalize hTJ:st.told[j]=tj at *;have HTJ:=zF hTJ;clear hTJ;have hor:bits .or .i64 (al:Int) (wrap64 (2 ^ tj))=((al ||| 2 ^ tj:Nat):Int):=by
          have:=zF1 al hal (tj:Int) (by omega) (by omega)
          rwa [Int.toNat_natCast] at this
         obtain ⟨kj,hkj⟩:∃ kj,st.kinds[j]=kj:=⟨_,rfl⟩;have HKJ:=zF hkj;clear hkj;go_wp2_with fail
         go_region_law (refine zDy rfl (.tmp 196) (.tmp 201) 25 rfl (w1.heap.size + 1) 3 i3 (.int .i64 0) 1 8 Tryz.underlying25 hi3 hz30 hz31 hz32 rfl (by decide) vO ord.length (zu ord) (hF.oO.alloc _).drew rfl ⟨wr.heap.size,0,none⟩ 1 1 [.int .i64 tj] rfl rfl (zBX wr [.int .i64 tj] 3) (by simp [Value.oneCell']) (by decide) (by unfold maxLen;omega) (by omega) (by simp;omega) ?_;intro v' w' hown' hgrow hat;obtain ⟨hfb',hT',hK',hF'⟩:=hF.push_order (((Below.refl _ wr).alloc (Nat.le_refl _) _).drew) hgrow hown' hat;obtain ⟨g3,cap3,rfl,hg3,hg3',hcap3,hcell3⟩:=zS hown' (by omega);have hq3:w'.cell? ⟨w1.heap.size,0,none⟩=some vO:=(by rw [zC hfb'];rfl);have hqz:=zD hfb' 0)
         all_goals
          generalize hw5:World.setCell _ _ _=w5 at hF' ⊢;clear hw5;have hck:w5.cell? ⟨gK,j,none⟩=some (.bool kj):=by
           rw [hF'.oK.cellAt j (by omega)];simp [zJs,hjk,zA HKJ]
          have hct5:w5.cell? ⟨gT,j,none⟩=some (.int .i64 tj):=by
           rw [hF'.oT.cellAt j (by omega)];simp [zu,hj,zA HTJ]
          have hca:w5.cell? ⟨w1.heap.size,1,none⟩=some (.int .i64 al):=zE hF'.fb rfl;have hfz1:=zD hF'.fb 1;have HOK:Hid (zB0 st 8 ++ st.told.take (j + 1)=ord ++ [tj]):=zF (by rw [zA HTK,← zA HOrd];simp)
          cases kj with
          | false=>
           go_wp2_with fail
           go_roundg (gk - 1)
           case measure=>omega
           case rel=>
            exact ⟨j + 1,_,by go_num,by omega,by rw [zA HOK,zA HAL,zA HKJ,if_neg (by decide)];exact hF'⟩
          | true=>
           have hF6:=(hF'.set_all (al ||| 2 ^ tj)).drew;go_wp2_with fail
           go_region
           all_goals
            go_wp2_with fail
            go_roundg (gk - 1)
            case measure=>omega
            case rel=>
             exact ⟨j + 1,_,by go_num,by omega,by rw [zA HOK,zA HAL,zA HKJ,if_pos rfl];exact hF6⟩
        ·have hjl:j=st.told.length:=(by omega);subst hjl;rw [List.take_length] at hF;have hal:=zK3 st (zA HTD) st.told.length;have HOL:Hid (∀ v∈zCt st,v≤8):=zF (fun v hv=>by
          unfold zCt at hv;rw [List.mem_append] at hv
          rcases hv with hv | hv
          ·exact zPL st 8 v hv
          ·exact zA HTD v hv)
         have hol:(zCt st).length≤8 + 2001 * 2001:=by
          have:=zF9 st 8
          unfold zCt;rw [List.length_append]
          have:2001 * k≤2001 * 2001:=Nat.mul_le_mul_left _ (by omega)
          omega
         have HFN:Hid (zW st=⟨zCt st,zDE st st.told.length,zDS (zCt st) (zDE st st.told.length) (zCt st).length,st.cl⟩):=zF rfl;have hF7:FInv w1 w1.heap.size st (zCt st) (zDE st st.told.length) [] (.slice aT st.told.length cT) (.slice aK st.kinds.length cK) (.slice aC st.cl.length cC) vO (.slice none 0 0) wr:=hF;clear hF;generalize zCt st=ord at *;generalize zDE st st.told.length=al at *;obtain ⟨aO,cO,rfl⟩:=zN hF7.oO;have hs0:wr.cell? ⟨w1.heap.size,0,none⟩=some (.slice aO ord.length cO):=zE hF7.fb rfl;obtain ⟨w5,rfl⟩:∃ w5,w5=wr:=⟨_,rfl⟩;go_wp2_with fail
         go_loopg [22] (ord.length + 1) (fun q i wx=>∃ (j:Nat) (vE:Value),i=.int .i64 (j + 1)∧j + q=ord.length + 1∧1≤q∧FInv w1 w1.heap.size st ord al (zDS ord al j) (.slice aT st.told.length cT) (.slice aK st.kinds.length cK) (.slice aC st.cl.length cC) (.slice aO ord.length cO) vE wx)
         case atStart=>exact ⟨0,_,rfl,by omega,by omega,hF7⟩
         case round=>
          obtain ⟨j,vE,rfl,hjq3,hq3,hF⟩:=hrel;have hs0:wr.cell? ⟨w1.heap.size,0,none⟩=some (.slice aO ord.length cO):=zE hF.fb rfl;have hs1:wr.cell? ⟨w1.heap.size,1,none⟩=some (.int .i64 al):=zE hF.fb rfl;have hs2:wr.cell? ⟨w1.heap.size,2,none⟩=some vE:=zE hF.fb rfl
          by_cases hj:j < ord.length
          ·have hdj:decide ((j:Int) + 1≤(ord.length:Int))=true:=(by simp;omega);have hel:=zNf ord al j;have HES:=zF (zHg ord al j);have hbs:w1.heap.size + 1≤wr.heap.size:=zB hF.fb;have hfz:=zD hF.fb 2;obtain ⟨gO,cO',hOe,hgO,hgO',_,hcO⟩:=zS hF.oO (by omega);injection hOe with hOe _ hOe2;subst hOe hOe2;have hco0:wr.cell? ⟨gO,j,none⟩=some (.int .i64 (ord[j]:Int)):=hcO j _ (by simp [zu,hj]);have ho0:ord[j]≤8:=zA HOL _ (List.getElem_mem hj)
           by_cases hl1:j + 1=ord.length
           ·have hb1:((j:Int) + 1 == (ord.length:Int))=true:=(by rw [beq_iff_eq];omega);have HEE:Hid (zFo ord al (j + 1)=true):=zF (by unfold zFo;rw [show (j + 1 == ord.length)=true from by simp [hl1]];rfl);clear hcO;have HL1:=zF hl1;clear hl1;have HJ1:Hid ((j:Int) + 1=((j + 1:Nat):Int)):=zF (by omega)
            go_wp2_with (at_builtin;refine zp rfl (.tmp 267) (.tmp 269) 25 rfl (w1.heap.size + 1) i3 (.int .i64 0) 1 8 Tryz.underlying25 hi3 hz30 hz31 hz32 rfl (by decide) _ _ _ hF.oE rfl rfl rfl (by simp [Value.oneCell']) (by unfold maxLen;omega) (by omega) hbs ?_;intro v' w' hown' hgrow hat;rw [zA HJ1] at hown';obtain ⟨hfb',hF'⟩:=hF.push_end (Below.refl _ _) hgrow hown' hat;obtain ⟨g3,cap3,rfl,hg3,hg3',hcap3,hcell3⟩:=zS hown' (by omega);have hq3:w'.cell? ⟨w1.heap.size,2,none⟩=some vE:=(by rw [zC hfb'];rfl);have hqz:=zD hfb' 2)
            go_roundg (gk - 1)
            case measure=>omega
            case rel=>
             exact ⟨j + 1,_,by go_num,by omega,by omega,by rw [zA HES,zA HEE];exact hF'⟩
           ·have hb1:((j:Int) + 1 == (ord.length:Int))=false:=(by rw [beq_eq_false_iff_ne];omega);have hj1:j + 1 < ord.length:=(by omega);have hco1:wr.cell? ⟨gO,j + 1,none⟩=some (.int .i64 (ord[j + 1]:Int)):=hcO (j + 1) _ (by simp [zu,hj1]);have ho1:ord[j + 1]≤8:=zA HOL _ (List.getElem_mem hj1);have HEE:Hid (zFo ord al (j + 1)=(al.testBit ord[j + 1] != al.testBit ord[j])):=zF (by
             unfold zFo;rw [show (j + 1 == ord.length)=false from by simp;omega];simp [List.getD,hj,hj1])
            clear hcO hl1;generalize hA:ord[j + 1]=oa at *;generalize hB:ord[j]=ob at *;clear hA hB;have HJ1:Hid ((j:Int) + 1=((j + 1:Nat):Int)):=zF (by omega);go_wp2_with fail;refine (zDW w1.heap.size al oa wr hal ho1 hs1).mono ?_;rintro e wq ⟨rfl,hwq⟩;subst hwq;go_wp2_with fail;refine (zDW w1.heap.size al ob wq hal ho0 hs1).mono ?_;rintro e wq2 ⟨rfl,hwq⟩;subst hwq
            cases hta:al.testBit oa<;>cases htb:al.testBit ob
            all_goals
             go_wp2_with (at_builtin;refine zp rfl (.tmp 267) (.tmp 269) 25 rfl (w1.heap.size + 1) i3 (.int .i64 0) 1 8 Tryz.underlying25 hi3 hz30 hz31 hz32 rfl (by decide) _ _ _ hF.oE rfl rfl rfl (by simp [Value.oneCell']) (by unfold maxLen;omega) (by omega) hbs ?_;intro v' w' hown' hgrow hat;rw [zA HJ1] at hown';obtain ⟨hfb',hF'⟩:=hF.push_end (Below.refl _ _) hgrow hown' hat;obtain ⟨g3,cap3,rfl,hg3,hg3',hcap3,hcell3⟩:=zS hown' (by omega);have hq3:w'.cell? ⟨w1.heap.size,2,none⟩=some vE:=(by rw [zC hfb'];rfl);have hqz:=zD hfb' 2)
             go_roundg (gk - 1)
             case measure=>omega
             case rel=>
              first
               | exact ⟨j + 1,_,by go_num,by omega,by omega,by rw [zA HES,zA HEE,hta,htb];exact hF'⟩
               | exact ⟨j + 1,_,by go_num,by omega,by omega,by rw [zA HES,zA HEE,hta,htb];simpa using hF⟩
          ·have hjl:j=ord.length:=(by omega);subst hjl;have hdj:decide ((ord.length:Int) + 1≤(ord.length:Int))=false:=(by simp;omega);go_wp2_with fail;go_ret3;refine ⟨hF.isBelow hb rfl,?_⟩;rw [zA HP];refine ⟨w1.heap.size,rfl,hb.size,?_⟩;rw [zA HFN];exact ⟨_,_,_,hF.fb,zAG hF.oO (by have:=hb.size;omega),zAG hF.oE (by have:=hb.size;omega),zAG hF.oC (by have:=hb.size;omega)⟩
theorem zPa (l:List UInt8) (w:World) (hl:2000 < l.length) :
  Calls Tryz.prog 52 #[.string ⟨l.toArray⟩] w fun e w'=>zGT l w e w':=by
 have hd:decide ((2000:Int) < (l.length:Int))=true:=by simp;omega
 go_enter Tryz.func52,Tryz.ntmps52
 go_wp2_with fail;go_ret3;refine ⟨Below.refl _ _,?_⟩;unfold zCU;rw [if_pos hl];rfl
theorem zLU (l:List UInt8) (w:World):Calls Tryz.prog 52 #[.string ⟨l.toArray⟩] w fun e w'=>zGT l w e w':=by
 by_cases h:l.length≤2000
 ·exact zQ0 l w h
 ·exact zPa l w (by omega)
def WAt (w:World) (bw:Nat) (text:List UInt8) (px pf:Option Addr) (proof:List UInt8) (c4 c5 c6:Value):Prop:=
 w.heap[bw]?=some (.cells #[S text,.pointer px,.pointer pf,S proof,c4,c5,c6] 48 (0,0))
theorem WAt.later {w w':World} {bw:Nat} {text:List UInt8} {px pf:Option Addr} {proof:List UInt8} {c4 c5 c6:Value} (h:WAt w bw text px pf proof c4 c5 c6) (hb:Below w.heap.size w w'):WAt w' bw text px pf proof c4 c5 c6:=
 (hb.block bw (zB h)).trans h
def FPair (lo:Nat) (w:World) (px pf:Option Addr):Prop:=
 (px=none∧pf=none)∨∃ b b' st q0,px=some ⟨b,0,none⟩∧pf=some ⟨b',0,none⟩∧ProgAt lo w b (zK q0)∧RefAt lo w b' (zW st)∧zEA st q0∧q0.cl.length≤24∧zCf q0
theorem RefAt.later {lo b:Nat} {w w':World} {F:zv} (h:RefAt lo w b F) (hb:Below w.heap.size w w'):RefAt lo w' b F:=by
 obtain ⟨h1,vO,vE,vC,h2,h3,h4,h5⟩:=h;exact ⟨h1,vO,vE,vC,(hb.block b (zB h2)).trans h2,zO h3 hb,zO h4 hb,zO h5 hb⟩
theorem ProgAt.later {lo b:Nat} {w w':World} {q:QS} (h:ProgAt lo w b q) (hb:Below w.heap.size w w'):ProgAt lo w' b q:=by
 obtain ⟨h1,vV,vC,h2,h3,h4⟩:=h;exact ⟨h1,vV,vC,(hb.block b (zB h2)).trans h2,zO h3 hb,zO h4 hb⟩
theorem RefAt.set {lo b bw o:Nat} {w:World} {F:zv} {u:Value} (h:RefAt lo w b F) (hlt:bw < lo):RefAt lo (w.setCell ⟨bw,o,none⟩ u) b F:=by
 obtain ⟨h1,vO,vE,vC,h2,h3,h4,h5⟩:=h;exact ⟨h1,vO,vE,vC,(Below.heap_setCell _ _ _ _ (by show b≠bw;omega)).trans h2,ownsRow_setCell_below h3 (a:=⟨bw,o,none⟩) hlt u,ownsRow_setCell_below h4 (a:=⟨bw,o,none⟩) hlt u,ownsRow_setCell_below h5 (a:=⟨bw,o,none⟩) hlt u⟩
theorem ProgAt.set {lo b bw o:Nat} {w:World} {q:QS} {u:Value} (h:ProgAt lo w b q) (hlt:bw < lo):ProgAt lo (w.setCell ⟨bw,o,none⟩ u) b q:=by
 obtain ⟨h1,vV,vC,h2,h3,h4⟩:=h;exact ⟨h1,vV,vC,(Below.heap_setCell _ _ _ _ (by show b≠bw;omega)).trans h2,ownsRow_setCell_below h3 (a:=⟨bw,o,none⟩) hlt u,ownsRow_setCell_below h4 (a:=⟨bw,o,none⟩) hlt u⟩
theorem FPair.set {lo bw o:Nat} {w:World} {px pf:Option Addr} {u:Value} (h:FPair lo w px pf) (hlt:bw < lo):FPair lo (w.setCell ⟨bw,o,none⟩ u) px pf:=by
 rcases h with h | ⟨b,b',st,q0,h1,h2,h3,h4,h5⟩
 ·exact Or.inl h
 ·exact Or.inr ⟨b,b',st,q0,h1,h2,h3.set hlt,h4.set hlt,h5⟩
theorem ProgAt.lo {lo lo' b:Nat} {w:World} {q:QS} (h:ProgAt lo w b q) (hl:lo'≤lo):ProgAt lo' w b q:=by
 obtain ⟨h1,vV,vC,h2,h3,h4⟩:=h;exact ⟨by omega,vV,vC,h2,zAG h3 hl,zAG h4 hl⟩
theorem RefAt.lo {lo lo' b:Nat} {w:World} {F:zv} (h:RefAt lo w b F) (hl:lo'≤lo):RefAt lo' w b F:=by
 obtain ⟨h1,vO,vE,vC,h2,h3,h4,h5⟩:=h;exact ⟨by omega,vO,vE,vC,h2,zAG h3 hl,zAG h4 hl,zAG h5 hl⟩
def zCW (lo:Nat) (w:World) (ts:List TypeId) (k:Nat):Prop:=k < lo∨∃ cs t fr,w.heap[k]?=some (.cells cs t fr)∧t∉ts
theorem zCJ {w w':World} {T:Nat→Prop} {base:Nat} {e:TypeId} {size:Nat} {v:Value} {n:Nat} {xs:List Value} {ts:List TypeId} (h:w.ownsRow base e size v n xs) (ho:Only T w w') (he:e∈ts) (hT:∀ k,k < w.heap.size→T k→zCW base w ts k):w'.ownsRow base e size v n xs:=by
 obtain ⟨h1,h2⟩:=h;refine ⟨h1,?_⟩
 rcases h2 with h2 | ⟨g,cap,cur,rfl,hg,hh,h3⟩
 ·exact Or.inl h2
 ·refine Or.inr ⟨g,cap,cur,rfl,hg,?_,h3⟩;rw [ho.block g (zB hh) (fun ht=>?_)]
  ·exact hh
  ·rcases hT g (zB hh) ht with h | ⟨cs,t,fr,h4,h5⟩
   ·omega
   ·rw [hh] at h4;simp at h4;exact h5 (h4.2.1 ▸ he)
theorem zEC {w w':World} {T:Nat→Prop} {lo b:Nat} {cs:Array Value} {t:TypeId} {fr:Nat × Nat} {ts:List TypeId} (h:w.heap[b]?=some (.cells cs t fr)) (hlo:lo≤b) (ho:Only T w w') (he:t∈ts) (hT:∀ k,k < w.heap.size→T k→zCW lo w ts k):w'.heap[b]?=some (.cells cs t fr):=by
 rw [ho.block b (zB h) (fun ht=>?_)]
 ·exact h
 ·rcases hT b (zB h) ht with h1 | ⟨cs',t',fr',h4,h5⟩
  ·omega
  ·rw [h] at h4;simp at h4;exact h5 (h4.2.1 ▸ he)
def zFe:List TypeId:=[64,139,74,92,3,121]
theorem ProgAt.only {lo b:Nat} {w w':World} {q:QS} {T:Nat→Prop} (h:ProgAt lo w b q) (ho:Only T w w') (hT:∀ k,k < w.heap.size→T k→zCW lo w zFe k):ProgAt lo w' b q:=by
 obtain ⟨h1,vV,vC,h2,h3,h4⟩:=h;exact ⟨h1,vV,vC,zEC h2 h1 ho (by decide) hT,zCJ h3 ho (by decide) hT,zCJ h4 ho (by decide) hT⟩
theorem RefAt.only {lo b:Nat} {w w':World} {F:zv} {T:Nat→Prop} (h:RefAt lo w b F) (ho:Only T w w') (hT:∀ k,k < w.heap.size→T k→zCW lo w zFe k):RefAt lo w' b F:=by
 obtain ⟨h1,vO,vE,vC,h2,h3,h4,h5⟩:=h;exact ⟨h1,vO,vE,vC,zEC h2 h1 ho (by decide) hT,zCJ h3 ho (by decide) hT,zCJ h4 ho (by decide) hT,zCJ h5 ho (by decide) hT⟩
theorem FPair.only {lo:Nat} {w w':World} {px pf:Option Addr} {T:Nat→Prop} (h:FPair lo w px pf) (ho:Only T w w') (hT:∀ k,k < w.heap.size→T k→zCW lo w zFe k):FPair lo w' px pf:=by
 rcases h with h | ⟨b,b',st,q0,h1,h2,h3,h4,h5⟩
 ·exact Or.inl h
 ·exact Or.inr ⟨b,b',st,q0,h1,h2,h3.only ho hT,h4.only ho hT,h5⟩
theorem FPair.lo {lo lo':Nat} {w:World} {px pf:Option Addr} (h:FPair lo w px pf) (hl:lo'≤lo):FPair lo' w px pf:=by
 rcases h with h | ⟨b,b',st,q0,h1,h2,h3,h4,h5⟩
 ·exact Or.inl h
 ·exact Or.inr ⟨b,b',st,q0,h1,h2,h3.lo hl,h4.lo hl,h5⟩
theorem zRk (c:Int) (n:Nat) (w:World) (hn:0 < n) (hn2:n≤1048576) (h1:-9223372036854775808≤c) (h2:c≤9223372036854775807) :
  Calls Tryz.prog 29 #[.int .i64 c,.int .i64 n] w fun e w'=>∃ r:Nat,e=.returned (.int .i64 r)∧r < n∧w'=w:=by
 by_cases hc:c < 0
 ·have hd:decide (c < 0)=true:=by simpa using hc
  go_enter Tryz.func29,Tryz.ntmps29
  go_wp2_with fail;go_ret;have e:-((c + 1).tmod n)=(-(c + 1)) % n:=(by rw [← Int.neg_tmod,Int.tmod_eq_emod_of_nonneg (by omega)]);have e1:=Int.emod_nonneg (-(c + 1)) (show (n:Int)≠0 by omega);have e2:=Int.emod_lt_of_pos (-(c + 1)) (show (0:Int) < n by omega);refine ⟨((-(c + 1)) % n).toNat,zA7 ?_,by omega,rfl⟩;omega
 ·have hd:decide (c < 0)=false:=by simpa using hc
  go_enter Tryz.func29,Tryz.ntmps29
  go_wp2_with fail;go_ret;refine ⟨(c % n).toNat,?_,?_,rfl⟩
  ·refine zA7 ?_
   have:=Int.emod_nonneg c (show (n:Int)≠0 by omega)
   omega
  ·have:=Int.emod_nonneg c (show (n:Int)≠0 by omega)
   have:=Int.emod_lt_of_pos c (show (0:Int) < n by omega)
   omega
def zQJ (bw:Nat) (text:List UInt8) (px pf:Option Addr) (proof:List UInt8) (c4 c5 c6:Value) (w:World) (e:Ending) (w':World):Prop:=
 e=.returned (.tuple #[])∧Only (·=bw) w w'∧∃ proof':List UInt8,proof'.length≤proof.length∧WAt w' bw text px pf proof' c4 c5 c6
theorem WAt.setProof {w:World} {bw:Nat} {text:List UInt8} {px pf:Option Addr} {proof:List UInt8} {c4 c5 c6:Value} (h:WAt w bw text px pf proof c4 c5 c6) (proof':List UInt8):WAt (w.setCell ⟨bw,3,none⟩ (S proof')) bw text px pf proof' c4 c5 c6:=zI h 3 _
theorem zQ9 (bw:Nat) (text:List UInt8) (px pf:Option Addr) (proof:List UInt8) (c4 c5 c6:Value) (a c:Int) (w:World) (hw:WAt w bw text px pf proof c4 c5 c6) (hpl:proof.length≤1048576)
  (ha1:-9223372036854775808≤a) (ha2:a≤9223372036854775807) (hc1:-9223372036854775808≤c) (hc2:c≤9223372036854775807) :
  Calls Tryz.prog 28 #[.pointer (some ⟨bw,0,none⟩),.int .i64 a,.int .i64 c] w fun e w'=>zQJ bw text px pf proof c4 c5 c6 w e w':=by
 have hbw:bw < w.heap.size:=zB hw;have h3:w.cell? ⟨bw,3,none⟩=some (S proof):=zE hw rfl;have z3:=zD hw 3
 by_cases hp:proof=[]
 ·subst hp
  go_enter Tryz.func28,Tryz.ntmps28
  go_wp2_with fail
  go_end0
  exact ⟨rfl,Only.refl _ _,[],Nat.le_refl _,hw⟩
 ·have hp0:0 < proof.length:=List.length_pos_iff.2 hp;have hpe:proof.isEmpty=false:=(by simpa using hp);clear hp
  go_enter Tryz.func28,Tryz.ntmps28
  go_wp2_with fail;refine (zRk a proof.length w hp0 hpl ha1 ha2).mono ?_;rintro e w1 ⟨r,rfl,hr,hw1⟩;subst hw1;have hr1:r + 1≤proof.length:=by omega
  by_cases hc:c < 0
  ·have hd:decide (0≤c)=false:=(by simp;omega);have HE:Hid (ByteArray.extract ⟨proof.toArray⟩ 0 r ++ ⟨#[]⟩ ++ ByteArray.extract ⟨proof.toArray⟩ (r + 1) proof.length=⟨((proof.drop 0).take (r - 0) ++ [] ++ (proof.drop (r + 1)).take (proof.length - (r + 1))).toArray⟩):=zF (by
    rw [zAu,zAu,show (ByteArray.mk #[])=ByteArray.mk ([]:List UInt8).toArray from rfl,zBV,zBV])
   go_wp2_with fail
   go_region
   all_goals go_wp2_with fail
   all_goals go_end0
   all_goals
    rw [zA HE];refine ⟨rfl,((Only.refl _ _).setAt _ _).drew,_,?_,(hw.setProof _).later ((Below.refl _ _).drew)⟩
    simp;omega
  ·have hd:decide (0≤c)=true:=(by simp;omega);have hcv:=zJt (c % 256) (by omega) (by omega) w1;have HE:Hid (∀ x:UInt8,ByteArray.extract ⟨proof.toArray⟩ 0 r ++ ⟨#[x]⟩ ++ ByteArray.extract ⟨proof.toArray⟩ (r + 1) proof.length=⟨((proof.drop 0).take (r - 0) ++ [x] ++ (proof.drop (r + 1)).take (proof.length - (r + 1))).toArray⟩):=zF (by
    intro x;rw [zAu,zAu,show (ByteArray.mk #[x])=ByteArray.mk ([x]:List UInt8).toArray from rfl,zBV,zBV])
   go_wp2_with fail
   go_region
   all_goals go_wp2_with fail
   all_goals go_end0
   all_goals
    rw [zA HE];refine ⟨rfl,(((Only.refl _ _).setAt _ _).alloc _).drew,_,?_,(hw.setProof _).later (((Below.refl _ _).alloc (Nat.le_refl _) _).drew)⟩
    simp;omega
structure OpV where
 kind:Int
 a:Int
 b:Int
 c:Int
 s:List UInt8
 t:List UInt8
def OpV.cells (o:OpV):List Value:=[.int .i64 o.kind,.int .i64 o.a,.int .i64 o.b,.int .i64 o.c,S o.s,S o.t]
def zE8 (x:Int):Prop:=-9223372036854775808≤x∧x≤9223372036854775807
structure OpV.Ok (o:OpV):Prop where
 kind:zE8 o.kind
 a:zE8 o.a
 b:zE8 o.b
 c:zE8 o.c
theorem Only.pre {T:Nat→Prop} {a b c:World} (h:Below a.heap.size a b) (k:Only T b c):Only T a c:=(Only.of_below h).trans k
def zGj (k:Int):Bool:=k == 1 || k == 2 || k == 4 || k == 5
def zDX (l:List OpV):List Value:=l.flatMap OpV.cells
theorem zKZ (l:List OpV) (o:OpV):zDX (l ++ [o])=zDX l ++ o.cells:=by simp [zDX]
theorem zMf (l:List OpV) (k j:Nat) (h:k < l.length) (hj:j < 6):(zDX l)[k * 6 + j]?=l[k].cells[j]?:=by
 induction l generalizing k with
 | nil=>simp at h
 | cons a l ih=>
  cases k with
  | zero=>
   simp only [zDX,List.flatMap_cons];rw [List.getElem?_append_left (by simp [OpV.cells];omega)]
   simp
  | succ k=>
   have:=ih k (by simpa using h)
   simp only [zDX,List.flatMap_cons] at this ⊢;rw [show (k + 1) * 6 + j=k * 6 + j + 6 from by omega,List.getElem?_append_right (by simp [OpV.cells])]
   simpa [OpV.cells] using this
def zDP (l:List OpV) (k:Nat):Nat:=((l.take k).map (fun o=>o.s.length + 1)).sum
theorem zMM (l:List OpV) (k:Nat) (h:k < l.length):zDP l (k + 1)=zDP l k + (l[k].s.length + 1):=by
 unfold zDP;rw [List.take_succ_eq_append_getElem h,List.map_append,List.sum_append];simp only [List.map_cons,List.map_nil,List.sum_cons,List.sum_nil,Nat.add_zero]
theorem zPl (l:List OpV) (k:Nat) (_h:k≤l.length):zDP l k≤zDP l l.length:=by
 have e:l.take l.length=l.take k ++ l.drop k:=(by rw [List.take_length,List.take_append_drop]);unfold zDP;rw [e,List.map_append,List.sum_append];omega
end Go.Proofs.YtgipjjhkhfihpaaGreatDoor
