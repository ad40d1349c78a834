import Derived.Test.YtgipjjhkhfihpaaGreatDoorKZ
set_option maxRecDepth 100000
set_option maxHeartbeats 6400000
namespace Go.Proofs.YtgipjjhkhfihpaaGreatDoor
open Go.RowKit
theorem zKw (ops:List OpV) (ao:Option Addr) (cap:Nat) (ks:List Int) (ko:Option Addr) (kcap:Nat) (w:World) (hs:ScriptAt w ao ops) (hks:zSh w ko ks) (hsz:zLA ops) (hln:ops.length≤140737488355328) (hkl:ks.length≤1048576)
  (HU:Hid (∀ (base:Nat) (v:Value) (w':World),zEP ops=true→w'.ownsRow base 29 6 v (ops.filter (fun o=>inB ks o.kind)).length (zDX (ops.filter (fun o=>inB ks o.kind)))→Below w.heap.size w w'→Calls Tryz.prog 14 #[v] w' fun e w''=>e=.returned (.int .i64 (-1))∧Below w'.heap.size w' w'')) :
  Calls Tryz.prog 10 #[.slice ao ops.length cap,.slice ko ks.length kcap] w fun e w'=>e=.returned (.bool true)∧Below w.heap.size w w':=by
 go_enter Tryz.func10,Tryz.ntmps10
 go_wp2_with fail;refine (zPZ ops ao cap w hs hsz hln).mono ?_;rintro e w1 ⟨rfl,hb1⟩
 cases hsm:zEP ops with
 | false=>
  go_wp2_with fail;go_ret;exact ⟨rfl,hb1⟩
 | true=>
  have HSM:=zF hsm;have hlo:ops.length≤524288:=by
   have h1:zDk ops ops.length≤524288:=of_decide_eq_true hsm;have h2:=zGM ops 0 (by omega);rw [zEB] at h2;omega
  clear hsm;obtain ⟨i0,hi,hz0,hz1,hz2⟩:=info_parts Tryz.info29;go_wp2_with fail
  go_loopg [6,7] (ops.length) (fun q v i wx=>∃ (k:Nat),i=.int .i64 k∧k + q=ops.length∧wx.ownsRow w.heap.size 29 6 v (zHb ks ops k).length (zDX (zHb ks ops k))∧Below w.heap.size w wx)
  case atStart=>exact ⟨0,rfl,by omega,World.ownsRow_nil _ _ _ _,hb1⟩
  case round=>
   obtain ⟨k,rfl,hk,hown,hb⟩:=hrel;obtain ⟨wo,rfl⟩:∃ wo,wo=wr:=⟨_,rfl⟩;obtain ⟨go,rfl⟩:∃ go,go=gk:=⟨_,rfl⟩;have hbs:=hb.size;have hsl:=zPq ks ops k
   by_cases hlt:k < ops.length
   ·obtain ⟨b,off,rfl,hbl,hcell⟩:=hs (by intro e;subst e;simp at hlt);obtain ⟨hc0,hc1,hc2,hc3,hc4,hc5⟩:=ScriptAt.cells hcell hbl hb k hlt;have HSS:=zF (zMi ks ops k hlt);have hdk:decide ((k:Int) < (ops.length:Int))=true:=(by simp;omega);clear hcell;have hbwo:b < wo.heap.size:=(by omega);generalize ops[k]=o at *;have hex:∃ b1 b2 b4 b5:Bool,(o.kind == 1)=b1∧(o.kind == 2)=b2∧(o.kind == 4)=b4∧(o.kind == 5)=b5∧zGj o.kind=(b1 || b2 || b4 || b5)∧(b1 && b2)=false∧(b1 && b4)=false∧(b1 && b5)=false∧(b2 && b4)=false∧(b2 && b5)=false∧(b4 && b5)=false:=by
     refine ⟨_,_,_,_,rfl,rfl,rfl,rfl,rfl,?_,?_,?_,?_,?_,?_⟩
     all_goals (rw [Bool.and_eq_false_iff,beq_eq_false_iff_ne,beq_eq_false_iff_ne];omega)
    obtain ⟨b1,b2,b4,b5,e1,e2,e4,e5,eb,x1,x2,x3,x4,x5,x6⟩:=hex;have HEB:=zF eb;clear eb
    cases b1<;>cases b2<;>cases b4<;>cases b5<;>first | (exfalso;revert x1 x2 x3 x4 x5 x6;decide) | skip
    all_goals clear x1 x2 x3 x4 x5 x6
    all_goals
     go_wp2_with fail
     go_loopg [9,10] (ks.length) (fun q x i wx=>∃ (j:Nat),i=.int .i64 j∧j + q=ks.length∧x=.bool (zGj o.kind || (ks.take j).any (· == o.kind))∧wx=wo)
     case atStart=>exact ⟨0,rfl,by omega,by rw [zA HEB];rfl,rfl⟩
     case round=>
      obtain ⟨j,rfl,hj,rfl,hwx⟩:=hrel;subst hwx
      by_cases hjl:j < ks.length
      ·obtain ⟨bk,offk,rfl,hbk,hck⟩:=hks (by intro e;subst e;simp at hjl);have hcj:wr.cell? ⟨bk,offk + j,none⟩=some (.int .i64 ks[j]):=by
        rw [hb.cell (p:=⟨bk,offk + j,none⟩) hbk];exact hck j hjl
       have HAT:=zF (zQ2 ks o.kind j hjl);have hdj:decide ((j:Int) < (ks.length:Int))=true:=(by simp;omega);obtain ⟨kj,hkj⟩:∃ kj,ks[j]=kj:=⟨_,rfl⟩;rw [hkj] at hcj;have HKJ:=zF hkj;clear hkj hck
       cases hin:(zGj o.kind || (ks.take j).any (· == o.kind)) with
       | true=>
        go_wp2_with fail
        go_roundg (gk - 1)
        case measure=>omega
        case rel=>exact ⟨j + 1,by go_num,by omega,by rw [zA HAT,← Bool.or_assoc,hin];rfl,rfl⟩
       | false=>
        cases heq:(o.kind == kj) with
        | true=>
         go_wp2_with fail
         go_roundg (gk - 1)
         case measure=>omega
         case rel=>exact ⟨j + 1,by go_num,by omega,by rw [zA HAT,← Bool.or_assoc,hin,zA HKJ,show (kj == o.kind)=true from by rw [beq_iff_eq] at heq ⊢;exact heq.symm];rfl,rfl⟩
        | false=>
         go_wp2_with fail
         go_roundg (gk - 1)
         case measure=>omega
         case rel=>exact ⟨j + 1,by go_num,by omega,by rw [zA HAT,← Bool.or_assoc,hin,zA HKJ,show (kj == o.kind)=false from by rw [beq_eq_false_iff_ne] at heq ⊢;exact fun e=>heq e.symm];rfl,rfl⟩
      ·have hjl2:j=ks.length:=(by omega);subst hjl2;have HIN:Hid ((zGj o.kind || (ks.take ks.length).any (· == o.kind))=inB ks o.kind):=zF (by rw [List.take_length];rfl);rw [zA HIN];have hdj:decide ((ks.length:Int) < (ks.length:Int))=false:=by simp
       cases hin:inB ks o.kind with
       | true=>
        go_wp2_with (at_builtin;refine zV rfl (.tmp 56) (.tmp 61) 22 rfl w.heap.size i0 (.agg #[.int .i64 0,.int .i64 0,.int .i64 0,.int .i64 0,.string ⟨#[]⟩,.string ⟨#[]⟩]) 6 64 Tryz.underlying22 hi hz0 hz1 hz2 rfl (by decide) _ _ _ hown rfl rfl rfl (by simp [Value.oneCell']) (by unfold maxLen;omega) (by omega) hbs ?_;intro v' w4 hown4 hgrow hnn)
        go_roundg (go - 1)
        case measure=>omega
        case rel=>
         refine ⟨k + 1,by go_num,by omega,?_,za hb hgrow hown (Nat.le_refl _) hbs⟩;rw [zA HSS,hin,if_pos rfl,zKZ]
         simpa [OpV.cells] using hown4
       | false=>
        go_wp2_with fail
        go_roundg (go - 1)
        case measure=>omega
        case rel=>exact ⟨k + 1,by go_num,by omega,by rw [zA HSS,hin,if_neg (by decide),List.append_nil];exact hown,hb⟩
   ·have hkl2:k=ops.length:=(by omega);subst hkl2;have hown2:=hown;unfold zHb at hown2;rw [List.take_length] at hown2;have hdk:decide ((ops.length:Int) < (ops.length:Int))=false:=(by simp);have HO2:=zF hown2;clear hown hown2 hsl;go_wp2_with fail;refine ((zA HU) _ _ wo (zA HSM) (zA HO2) hb).mono ?_;rintro e w5 ⟨rfl,hb5⟩;go_wp2_with fail;go_ret;exact ⟨rfl,hb.trans (hb5.mono hbs)⟩
end Go.Proofs.YtgipjjhkhfihpaaGreatDoor
