import Derived.Test.YtgipjjhkhfihpaaGreatDoorKF
set_option maxRecDepth 100000
set_option maxHeartbeats 6400000
namespace Go.Proofs.YtgipjjhkhfihpaaGreatDoor
open Go.RowKit
def zC0 (t n:Nat) (c:Nat × Nat):Bool:=(zb c.1 n == 0) && (zb c.2 t == 0)
def zEx (p q:Nat):Bool:=(p &&& (p - 1) == 0) && ((q &&& (q - 1) == 0) && ((p == 0) || (q == 0)))
def zBf (all t n:Nat) (c:Nat × Nat):Bool:=zEx (zb c.1 n) (zb c.2 t) && (((zb c.1 n ||| zb c.2 t) &&& all == 0) && ((zb c.1 n &&& t == 0) && (zb c.2 t &&& n == 0)))
def zCe (cl:List (Nat × Nat)) (all:Nat):Nat→Nat→Nat→Nat→Bool × Nat
 | 0,k,_,_=>(false,k)
 | fuel + 1,k,t,n=>if cl.any (zC0 t n) then (true,k) else
  match cl.find? (zBf all t n) with
  | none=>(false,k)
  | some c=>zCe cl all fuel (k + 1) (t ||| zb c.1 n) (n ||| zb c.2 t)
def zBn (F:zv):Bool × Nat:=zCe F.cl F.all 1024 0 0 0
theorem zH5 (t p:Nat) (hp:p≠0) (h:p &&& t=0):t < t ||| p:=by
 have hle:t≤t ||| p:=Nat.left_le_or
 rcases Nat.lt_or_ge t (t ||| p) with h1 | h1
 ·exact h1
 ·exfalso
  have e:t ||| p=t:=Nat.le_antisymm h1 hle
  apply hp
  apply Nat.eq_of_testBit_eq
  intro i;have h2:(t ||| p).testBit i=t.testBit i:=(by rw [e]);have h3:(p &&& t).testBit i=false:=(by rw [h];simp);rw [Nat.testBit_or] at h2;rw [Nat.testBit_and] at h3;rw [Nat.zero_testBit]
  cases hh:p.testBit i with
  | false=>rfl
  | true=>rw [hh] at h2 h3;simp at h2 h3;rw [h2] at h3;cases h3
theorem zLC (p:Nat) (h:p < 512):(bits .and .i64 (p:Int) ((p:Int) - 1) == 0)=(p &&& (p - 1) == 0):=by
 cases p with
 | zero=>decide
 | succ p=>
  rw [show (((p + 1:Nat):Int) - 1)=((p:Nat):Int) from by omega,zBN _ _ (by omega) (by omega),zAN];rfl
theorem zJX (cl:List (Nat × Nat)) (f:Nat × Nat→Bool) (k:Nat) (h:k < cl.length):(cl.take (k + 1)).any f=((cl.take k).any f || f cl[k]):=by
 rw [List.take_succ_eq_append_getElem h,List.any_append];simp
theorem zN1 (cl:List (Nat × Nat)) (f:Nat × Nat→Bool) (k:Nat) (h:k < cl.length) (hf:f cl[k]=true):cl.any f=true:=by
 rw [List.any_eq_true];exact ⟨_,List.getElem_mem h,hf⟩
theorem zQ1 (cl:List (Nat × Nat)) (f:Nat × Nat→Bool) (k:Nat) (h:k < cl.length) (hno:(cl.take k).any f=false) (hf:f cl[k]=true):cl.find? f=some cl[k]:=by
 conv=>lhs;rw [← List.take_append_drop k cl,List.drop_eq_getElem_cons h]
 rw [List.find?_append]
 have:(cl.take k).find? f=none:=by
  rw [List.find?_eq_none];intro x hx hh;rw [List.any_eq_false] at hno;exact hno x hx hh
 rw [this,List.find?_cons,hf];rfl
theorem zR6 (cl:List (Nat × Nat)) (f:Nat × Nat→Bool) (hno:cl.any f=false):cl.find? f=none:=by
 rw [List.find?_eq_none];intro x hx hh;rw [List.any_eq_false] at hno;exact hno x hx hh
theorem zHX (lo b:Nat) (F:zv) (w:World) (hR:RefAt lo w b F) (hcl:∀ c∈F.cl,c.1 < 512∧c.2 < 512) (hl:F.cl.length≤24) (hall:F.all < 512) :
  Calls Tryz.prog 55 #[.pointer (some ⟨b,0,none⟩)] w fun e w'=>e=.returned (.tuple #[.bool (zBn F).1,.int .i64 ((zBn F).2:Nat)])∧Below w.heap.size w w':=by
 obtain ⟨_,vO,vE,vC,hfb,_,_,hC⟩:=hR;obtain ⟨aC,cC,rfl⟩:=zN hC;have hbw:=zB hfb;have k3:w.cell? ⟨b,3,none⟩=some (.slice aC F.cl.length cC):=zE hfb rfl;have k1:w.cell? ⟨b,1,none⟩=some (.int .i64 F.all):=zE hfb rfl;have HCL:=zF hcl;clear hcl;have HCELL:Hid (∀ (m:Nat) (hm:m < F.cl.length),∃ g2,aC=some ⟨g2,0,none⟩∧g2 < w.heap.size∧w.cell? ⟨g2,m * 2,none⟩=some (.int .i64 (F.cl[m].1:Int))∧w.cell? ⟨g2,m * 2 + 1,none⟩=some (.int .i64 (F.cl[m].2:Int))):=zF (fun m hm=>by
  obtain ⟨g2,cap2,hVe,hg2,hg2',_,hcell⟩:=zS hC (by omega);injection hVe with hVe _ hV2;subst hVe hV2;obtain ⟨hpa,hpb⟩:=zAc F.cl m hm;exact ⟨g2,rfl,hg2',hcell _ _ hpa,hcell _ _ hpb⟩)
 clear hC
 go_enter Tryz.func55,Tryz.ntmps55
 go_wp2_with fail
 go_loopg [4,5,6] 1024 (fun q t n k wx=>∃ (tt nn kk:Nat),t=.int .i64 tt∧n=.int .i64 nn∧k=.int .i64 kk∧tt < 512∧nn < 512∧kk≤tt + nn∧1024≤q + (tt + nn)∧zBn F=zCe F.cl F.all q kk tt nn∧Below w.heap.size w wx)
 case atStart=>exact ⟨0,0,0,rfl,rfl,rfl,by omega,by omega,by omega,by omega,rfl,Below.refl _ _⟩
 case round=>
  obtain ⟨tt,nn,kk,rfl,rfl,rfl,ht,hn,hk,hq,hun,hb⟩:=hrel;obtain ⟨fu,hfu⟩:∃ fu,gk=fu + 1:=⟨gk - 1,by omega⟩;have HUN:Hid (zBn F=if F.cl.any (zC0 tt nn) then (true,kk) else match F.cl.find? (zBf F.all tt nn) with
   | none=>(false,kk)
   | some c=>zCe F.cl F.all fu (kk + 1) (tt ||| zb c.1 nn) (nn ||| zb c.2 tt)):=zF (by rw [hun,hfu];rfl)
  obtain ⟨wo,rfl⟩:∃ wo,wo=wr:=⟨_,rfl⟩;obtain ⟨go,hgo⟩:∃ go,go=gk:=⟨_,rfl⟩;have HGO:=zF hgo;have HFU:=zF hfu;clear hun hfu hgo;go_wp2_with fail
  go_loopg [7] F.cl.length (fun q i wx=>∃ j:Nat,i=.int .i64 j∧j + q=F.cl.length∧(F.cl.take j).any (zC0 tt nn)=false∧Below w.heap.size w wx)
  case atStart=>exact ⟨0,rfl,by omega,rfl,hb⟩
  case round=>
   obtain ⟨j,rfl,hj,hno,hb2⟩:=hrel;have HNO:=zF hno;clear hno;have y3:wr.cell? ⟨b,3,none⟩=some (.slice aC F.cl.length cC):=(by rw [hb2.cell (p:=⟨b,3,none⟩) hbw];exact k3);have y1:wr.cell? ⟨b,1,none⟩=some (.int .i64 F.all):=by rw [hb2.cell (p:=⟨b,1,none⟩) hbw];exact k1
   by_cases hlt:j < F.cl.length
   ·obtain ⟨g2,rfl,hg2,hz0,hz1⟩:=zA HCELL j hlt;have hx0:wr.cell? ⟨g2,j * 2,none⟩=some (.int .i64 (F.cl[j].1:Int)):=(by rw [hb2.cell (p:=⟨g2,j * 2,none⟩) hg2];exact hz0);have hx1:wr.cell? ⟨g2,j * 2 + 1,none⟩=some (.int .i64 (F.cl[j].2:Int)):=(by rw [hb2.cell (p:=⟨g2,j * 2 + 1,none⟩) hg2];exact hz1);have HT:=zF (zJX F.cl (zC0 tt nn) j hlt);have HH:=zF (zN1 F.cl (zC0 tt nn) j hlt);obtain ⟨hb1,hb2x⟩:=zA HCL _ (List.getElem_mem hlt);clear hz0 hz1;generalize F.cl[j]=c at *;obtain ⟨p,n⟩:=c;dsimp only at hx0 hx1 hb1 hb2x;have h1:(bits .andNot .i64 (p:Int) (nn:Int) == 0)=(zb p nn == 0):=(by rw [zBJ _ _ (by omega) (by omega),zAN]);have h2:(bits .andNot .i64 (n:Int) (tt:Int) == 0)=(zb n tt == 0):=(by rw [zBJ _ _ (by omega) (by omega),zAN]);have HD:Hid (zC0 tt nn (p,n)=((zb p nn == 0) && (zb n tt == 0))):=zF rfl
    cases e1:(zb p nn == 0) with
    | false=>
     rw [e1] at h1;have HD1:Hid (zC0 tt nn (p,n)=false):=zF (by rw [zA HD,e1];rfl);clear e1;go_wp2_with fail
     go_roundg (gk - 1)
     case measure=>omega
     case rel=>exact ⟨j + 1,by go_num,by omega,by rw [zA HT,zA HNO,zA HD1];rfl,hb2⟩
    | true=>
     rw [e1] at h1
     cases e2:(zb n tt == 0) with
     | false=>
      rw [e2] at h2;have HD1:Hid (zC0 tt nn (p,n)=false):=zF (by rw [zA HD,e1,e2];rfl);clear e1 e2;go_wp2_with fail
      go_roundg (gk - 1)
      case measure=>omega
      case rel=>exact ⟨j + 1,by go_num,by omega,by rw [zA HT,zA HNO,zA HD1];rfl,hb2⟩
     | true=>
      rw [e2] at h2;have HF:Hid (zBn F=(true,kk)):=zF (by rw [zA HUN,zA HH (by rw [zA HD,e1,e2];rfl)];rfl);clear e1 e2;go_wp2_with fail;go_ret2;exact ⟨by rw [zA HF];rfl,hb2⟩
   ·have hjl:j=F.cl.length:=(by omega);have HND:Hid (F.cl.any (zC0 tt nn)=false):=zF (by have:=zA HNO;rw [hjl,List.take_length] at this;exact this);have HUN2:Hid (zBn F=match F.cl.find? (zBf F.all tt nn) with
     | none=>(false,kk)
     | some c=>zCe F.cl F.all fu (kk + 1) (tt ||| zb c.1 nn) (nn ||| zb c.2 tt)):=zF (by rw [zA HUN,zA HND];rfl)
    subst hjl;obtain ⟨wp,rfl⟩:∃ wp,wp=wr:=⟨_,rfl⟩;go_wp2_with fail
    go_loopg [4,5,8,9] F.cl.length (fun q t n mo i wx=>∃ j:Nat,i=.int .i64 j∧t=.int .i64 tt∧n=.int .i64 nn∧mo=.bool false∧j + q=F.cl.length∧(F.cl.take j).any (zBf F.all tt nn)=false∧Below w.heap.size w wx)
    case atStart=>exact ⟨0,rfl,rfl,rfl,rfl,by omega,rfl,hb2⟩
    case round=>
     obtain ⟨j,rfl,rfl,rfl,rfl,hj2,hno2,hb3⟩:=hrel;have HNO2:=zF hno2;clear hno2;have x3:wr.cell? ⟨b,3,none⟩=some (.slice aC F.cl.length cC):=(by rw [hb3.cell (p:=⟨b,3,none⟩) hbw];exact k3);have x1:wr.cell? ⟨b,1,none⟩=some (.int .i64 F.all):=by rw [hb3.cell (p:=⟨b,1,none⟩) hbw];exact k1
     by_cases hlt2:j < F.cl.length
     ·obtain ⟨g2,rfl,hg2,hz0,hz1⟩:=zA HCELL j hlt2;have hx0:wr.cell? ⟨g2,j * 2,none⟩=some (.int .i64 (F.cl[j].1:Int)):=(by rw [hb3.cell (p:=⟨g2,j * 2,none⟩) hg2];exact hz0);have hx1:wr.cell? ⟨g2,j * 2 + 1,none⟩=some (.int .i64 (F.cl[j].2:Int)):=(by rw [hb3.cell (p:=⟨g2,j * 2 + 1,none⟩) hg2];exact hz1);have HT:=zF (zJX F.cl (zBf F.all tt nn) j hlt2);have HH:=zF (zQ1 F.cl (zBf F.all tt nn) j hlt2 (zA HNO2));have HDD:Hid (zC0 tt nn F.cl[j]=false):=zF (by
       cases hh:zC0 tt nn F.cl[j] with
       | false=>rfl
       | true=>have:=zN1 F.cl (zC0 tt nn) j hlt2 hh;rw [zA HND] at this;cases this)
      obtain ⟨hb1,hb2x⟩:=zA HCL _ (List.getElem_mem hlt2);clear hz0 hz1;generalize F.cl[j]=c at *;obtain ⟨cp,cn⟩:=c;dsimp only at hx0 hx1 hb1 hb2x;have l1:bits .andNot .i64 (cp:Int) (nn:Int)=((zb cp nn:Nat):Int):=zBJ _ _ (by omega) (by omega);have l2:bits .andNot .i64 (cn:Int) (tt:Int)=((zb cn tt:Nat):Int):=zBJ _ _ (by omega) (by omega);have lp:=zDl cp nn hb1;have lq:=zDl cn tt hb2x;have HUC:Hid (zBf F.all tt nn (cp,cn)=(zEx (zb cp nn) (zb cn tt) && (((zb cp nn ||| zb cn tt) &&& F.all == 0) && ((zb cp nn &&& tt == 0) && (zb cn tt &&& nn == 0))))):=zF rfl;have HDE:Hid (zC0 tt nn (cp,cn)=((zb cp nn == 0) && (zb cn tt == 0))):=zF rfl;obtain ⟨p,hep⟩:∃ p,zb cp nn=p:=⟨_,rfl⟩;obtain ⟨q,heq⟩:∃ q,zb cn tt=q:=⟨_,rfl⟩;have HEP:=zF hep;have HEQ:=zF heq;rw [hep] at l1 lp HUC HDE;rw [heq] at l2 lq HUC HDE;clear hep heq;have a1:=zLC p lp;have a2:=zLC q lq;have z1:((p:Int) == 0)=(p == 0):=zAN p;have z2:((q:Int) == 0)=(q == 0):=zAN q;have ho:bits .or .i64 (p:Int) (q:Int)=((p ||| q:Nat):Int):=zCK _ _ (by omega) (by omega);have hpq:=zBD p q lp lq;have hu:(bits .and .i64 ((p ||| q:Nat):Int) (F.all:Int) != 0)=((p ||| q) &&& F.all != 0):=by
       rw [zBN _ _ (by omega) (by omega),Bool.eq_iff_iff,bne_iff_ne,bne_iff_ne];omega
      have htq:(bits .and .i64 (p:Int) (tt:Int) != 0)=(p &&& tt != 0):=by
       rw [zBN _ _ (by omega) (by omega),Bool.eq_iff_iff,bne_iff_ne,bne_iff_ne];omega
      have hnq:(bits .and .i64 (q:Int) (nn:Int) != 0)=(q &&& nn != 0):=by
       rw [zBN _ _ (by omega) (by omega),Bool.eq_iff_iff,bne_iff_ne,bne_iff_ne];omega
      have ot:bits .or .i64 (tt:Int) (p:Int)=((tt ||| p:Nat):Int):=zCK _ _ (by omega) (by omega);have on:bits .or .i64 (nn:Int) (q:Int)=((nn ||| q:Nat):Int):=zCK _ _ (by omega) (by omega)
      cases ea:(p &&& (p - 1) == 0) with
      | false=>
       rw [ea] at a1;have HU1:Hid (zBf F.all tt nn (cp,cn)=false):=zF (by rw [zA HUC];unfold zEx;rw [ea];simp);clear ea;go_wp2_with fail
       go_roundg (gk - 1)
       case measure=>omega
       case rel=>exact ⟨j + 1,by go_num,rfl,rfl,rfl,by omega,by rw [zA HT,zA HNO2,zA HU1];rfl,hb3⟩
      | true=>
       rw [ea] at a1
       cases eb:(q &&& (q - 1) == 0) with
       | false=>
        rw [eb] at a2;have HU1:Hid (zBf F.all tt nn (cp,cn)=false):=zF (by rw [zA HUC];unfold zEx;rw [ea,eb];simp);clear ea eb;go_wp2_with fail
        go_roundg (gk - 1)
        case measure=>omega
        case rel=>exact ⟨j + 1,by go_num,rfl,rfl,rfl,by omega,by rw [zA HT,zA HNO2,zA HU1];rfl,hb3⟩
       | true=>
        rw [eb] at a2
        cases ep:(p == 0) with
        | true=>
         rw [ep] at z1
         cases eu:((p ||| q) &&& F.all == 0) with
         | false=>
          have huf:((p ||| q) &&& F.all  != 0)=true:=(by rw [bne,eu];rfl);rw [huf] at hu;have HU1:Hid (zBf F.all tt nn (cp,cn)=false):=zF (by rw [zA HUC];unfold zEx;rw [ea,eb,ep,eu];simp);clear ea eb ep eu huf;go_wp2_with fail
          go_roundg (gk - 1)
          case measure=>omega
          case rel=>exact ⟨j + 1,by go_num,rfl,rfl,rfl,by omega,by rw [zA HT,zA HNO2,zA HU1];rfl,hb3⟩
         | true=>
          have huf:((p ||| q) &&& F.all  != 0)=false:=(by rw [bne,eu];rfl);rw [huf] at hu
          cases et:(p &&& tt == 0) with
          | false=>
           have htqf:(p &&& tt  != 0)=true:=(by rw [bne,et];rfl);rw [htqf] at htq;have HU1:Hid (zBf F.all tt nn (cp,cn)=false):=zF (by rw [zA HUC];unfold zEx;rw [ea,eb,ep,eu,et];simp);clear ea eb ep eu et htqf;go_wp2_with fail
           go_roundg (gk - 1)
           case measure=>omega
           case rel=>exact ⟨j + 1,by go_num,rfl,rfl,rfl,by omega,by rw [zA HT,zA HNO2,zA HU1];rfl,hb3⟩
          | true=>
           have htqf:(p &&& tt  != 0)=false:=(by rw [bne,et];rfl);rw [htqf] at htq
           cases en:(q &&& nn == 0) with
           | false=>
            have hnqf:(q &&& nn  != 0)=true:=(by rw [bne,en];rfl);rw [hnqf] at hnq;have HU1:Hid (zBf F.all tt nn (cp,cn)=false):=zF (by rw [zA HUC];unfold zEx;rw [ea,eb,ep,eu,et,en];simp);clear ea eb ep eu et en hnqf;go_wp2_with fail
            go_roundg (gk - 1)
            case measure=>omega
            case rel=>exact ⟨j + 1,by go_num,rfl,rfl,rfl,by omega,by rw [zA HT,zA HNO2,zA HU1];rfl,hb3⟩
           | true=>
            have hnqf:(q &&& nn  != 0)=false:=(by rw [bne,en];rfl);rw [hnqf] at hnq;have HFD:Hid (F.cl.find? (zBf F.all tt nn)=some (cp,cn)):=zF (zA HH (by rw [zA HUC];unfold zEx;rw [ea,eb,ep,eu,et,en];rfl));have HNX:Hid (zBn F=zCe F.cl F.all fu (kk + 1) (tt ||| p) (nn ||| q)):=zF (by rw [zA HUN2,zA HFD];dsimp only;rw [zA HEP,zA HEQ]);have et':p &&& tt=0:=(by simpa using et);have en':q &&& nn=0:=(by simpa using en);have HUP:Hid (tt + nn < (tt ||| p) + (nn ||| q)):=zF (by
             have hl1:tt≤tt ||| p:=Nat.left_le_or;have hl2:nn≤nn ||| q:=Nat.left_le_or
             by_cases hp0:p=0
             ·have hq0:q≠0:=fun e=>by
               have:=zA HDD
               rw [zA HDE,hp0,e] at this;cases this
              have:=zH5 nn q hq0 en'
              omega
             ·have:=zH5 tt p hp0 et'
              omega)
            clear ea eb ep eu et en et' en' huf htqf hnqf;go_wp2_with fail
            go_roundg (go - 1)
            case measure=>have:=zA HGO;have:=zA HFU;omega
            case rel=>
             have h1:=zA HGO;have h2:=zA HFU;have h3:=zA HUP;refine ⟨tt ||| p,nn ||| q,kk + 1,rfl,rfl,by go_num,zBD _ _ ht lp,zBD _ _ hn lq,by omega,by omega,?_,hb3⟩;rw [zA HNX,show go - 1=fu from by omega]
        | false=>
         rw [ep] at z1
         cases eq:(q == 0) with
         | false=>
          rw [eq] at z2;have HU1:Hid (zBf F.all tt nn (cp,cn)=false):=zF (by rw [zA HUC];unfold zEx;rw [ea,eb,ep,eq];simp);clear ea eb ep eq;go_wp2_with fail
          go_roundg (gk - 1)
          case measure=>omega
          case rel=>exact ⟨j + 1,by go_num,rfl,rfl,rfl,by omega,by rw [zA HT,zA HNO2,zA HU1];rfl,hb3⟩
         | true=>
          rw [eq] at z2
          cases eu:((p ||| q) &&& F.all == 0) with
          | false=>
           have huf:((p ||| q) &&& F.all  != 0)=true:=(by rw [bne,eu];rfl);rw [huf] at hu;have HU1:Hid (zBf F.all tt nn (cp,cn)=false):=zF (by rw [zA HUC];unfold zEx;rw [ea,eb,ep,eq,eu];simp);clear ea eb ep eq eu huf;go_wp2_with fail
           go_roundg (gk - 1)
           case measure=>omega
           case rel=>exact ⟨j + 1,by go_num,rfl,rfl,rfl,by omega,by rw [zA HT,zA HNO2,zA HU1];rfl,hb3⟩
          | true=>
           have huf:((p ||| q) &&& F.all  != 0)=false:=(by rw [bne,eu];rfl);rw [huf] at hu
           cases et:(p &&& tt == 0) with
           | false=>
            have htqf:(p &&& tt  != 0)=true:=(by rw [bne,et];rfl);rw [htqf] at htq;have HU1:Hid (zBf F.all tt nn (cp,cn)=false):=zF (by rw [zA HUC];unfold zEx;rw [ea,eb,ep,eq,eu,et];simp);clear ea eb ep eq eu et htqf;go_wp2_with fail
            go_roundg (gk - 1)
            case measure=>omega
            case rel=>exact ⟨j + 1,by go_num,rfl,rfl,rfl,by omega,by rw [zA HT,zA HNO2,zA HU1];rfl,hb3⟩
           | true=>
            have htqf:(p &&& tt  != 0)=false:=(by rw [bne,et];rfl);rw [htqf] at htq
            cases en:(q &&& nn == 0) with
            | false=>
             have hnqf:(q &&& nn  != 0)=true:=(by rw [bne,en];rfl);rw [hnqf] at hnq;have HU1:Hid (zBf F.all tt nn (cp,cn)=false):=zF (by rw [zA HUC];unfold zEx;rw [ea,eb,ep,eq,eu,et,en];simp);clear ea eb ep eq eu et en hnqf;go_wp2_with fail
             go_roundg (gk - 1)
             case measure=>omega
             case rel=>exact ⟨j + 1,by go_num,rfl,rfl,rfl,by omega,by rw [zA HT,zA HNO2,zA HU1];rfl,hb3⟩
            | true=>
             have hnqf:(q &&& nn  != 0)=false:=(by rw [bne,en];rfl);rw [hnqf] at hnq;have HFD:Hid (F.cl.find? (zBf F.all tt nn)=some (cp,cn)):=zF (zA HH (by rw [zA HUC];unfold zEx;rw [ea,eb,ep,eq,eu,et,en];rfl));have HNX:Hid (zBn F=zCe F.cl F.all fu (kk + 1) (tt ||| p) (nn ||| q)):=zF (by rw [zA HUN2,zA HFD];dsimp only;rw [zA HEP,zA HEQ]);have et':p &&& tt=0:=(by simpa using et);have en':q &&& nn=0:=(by simpa using en);have HUP:Hid (tt + nn < (tt ||| p) + (nn ||| q)):=zF (by
              have hl1:tt≤tt ||| p:=Nat.left_le_or;have hl2:nn≤nn ||| q:=Nat.left_le_or
              by_cases hp0:p=0
              ·have hq0:q≠0:=fun e=>by
                have:=zA HDD
                rw [zA HDE,hp0,e] at this;cases this
               have:=zH5 nn q hq0 en'
               omega
              ·have:=zH5 tt p hp0 et'
               omega)
             clear ea eb ep eq eu et en et' en' huf htqf hnqf;go_wp2_with fail
             go_roundg (go - 1)
             case measure=>have:=zA HGO;have:=zA HFU;omega
             case rel=>
              have h1:=zA HGO;have h2:=zA HFU;have h3:=zA HUP;refine ⟨tt ||| p,nn ||| q,kk + 1,rfl,rfl,by go_num,zBD _ _ ht lp,zBD _ _ hn lq,by omega,by omega,?_,hb3⟩;rw [zA HNX,show go - 1=fu from by omega]
     ·have HFD:Hid (F.cl.find? (zBf F.all tt nn)=none):=zF (zR6 _ _ (by have:=zA HNO2;rw [show j=F.cl.length from by omega,List.take_length] at this;exact this));have HF:Hid (zBn F=(false,kk)):=zF (by rw [zA HUN2,zA HFD]);go_wp2_with fail;go_ret2;exact ⟨by rw [zA HF];rfl,hb3⟩
end Go.Proofs.YtgipjjhkhfihpaaGreatDoor
