import Derived.Test.YtgipjjhkhfihpaaGreatDoorKC
import Derived.Deep.QuietTactic
import Derived.BigQuiet
set_option maxRecDepth 100000
set_option maxHeartbeats 6400000
namespace Go.Proofs.YtgipjjhkhfihpaaGreatDoor
open Go.RowKit
def ScriptAt (w:World) (ao:Option Addr) (ops:List OpV):Prop:=
 ops≠[]→∃ b off,ao=some ⟨b,off,none⟩∧b < w.heap.size∧∀ k (hk:k < ops.length) j (_:j < 6) u,ops[k].cells[j]?=some u→w.cell? ⟨b,off + (k * 6 + j),none⟩=some u
theorem ScriptAt.cells {w wr:World} {b off:Nat} {ops:List OpV} (h:∀ k (hk:k < ops.length) j (_:j < 6) u,ops[k].cells[j]?=some u→w.cell? ⟨b,off + (k * 6 + j),none⟩=some u) (hlt:b < w.heap.size) (hb:Below w.heap.size w wr) (k:Nat) (hk:k < ops.length) :
  wr.cell? ⟨b,off + k * 6,none⟩=some (.int .i64 ops[k].kind)∧wr.cell? ⟨b,off + k * 6 + 1,none⟩=some (.int .i64 ops[k].a)∧wr.cell? ⟨b,off + k * 6 + 2,none⟩=some (.int .i64 ops[k].b)∧
  wr.cell? ⟨b,off + k * 6 + 3,none⟩=some (.int .i64 ops[k].c)∧wr.cell? ⟨b,off + k * 6 + 4,none⟩=some (S ops[k].s)∧wr.cell? ⟨b,off + k * 6 + 5,none⟩=some (S ops[k].t):=by
 have hc:∀ j (_:j < 6) u,ops[k].cells[j]?=some u→wr.cell? ⟨b,off + k * 6 + j,none⟩=some u:=fun j hj u hu=>by
  rw [hb.cell (p:=⟨b,off + k * 6 + j,none⟩) hlt,show off + k * 6 + j=off + (k * 6 + j) from by omega];exact h k hk j hj u hu
 exact ⟨hc 0 (by omega) _ rfl,hc 1 (by omega) _ rfl,hc 2 (by omega) _ rfl,hc 3 (by omega) _ rfl,hc 4 (by omega) _ rfl,hc 5 (by omega) _ rfl⟩
def zDk (ops:List OpV) (k:Nat):Nat:=ops.length + ((ops.take k).map (fun o=>o.s.length + o.t.length)).sum
theorem zMr (ops:List OpV) (k:Nat) (h:k < ops.length):zDk ops (k + 1)=zDk ops k + (ops[k].s.length + ops[k].t.length):=by
 unfold zDk;rw [List.take_succ_eq_append_getElem h,List.map_append,List.sum_append];simp only [List.map_cons,List.map_nil,List.sum_cons,List.sum_nil,Nat.add_zero];omega
theorem zGM (ops:List OpV) (k:Nat) (_h:k≤ops.length):zDk ops k≤zDk ops ops.length:=by
 have e:ops.take ops.length=ops.take k ++ ops.drop k:=(by rw [List.take_length,List.take_append_drop]);unfold zDk;rw [e,List.map_append,List.sum_append];omega
theorem zEB (ops:List OpV):zDk ops 0=ops.length:=by simp [zDk]
def zEP (ops:List OpV):Bool:=decide (zDk ops ops.length≤524288)
def zLA (ops:List OpV):Prop:=∀ o∈ops,o.s.length≤140737488355328∧o.t.length≤140737488355328
theorem zPZ (ops:List OpV) (ao:Option Addr) (cap:Nat) (w:World) (hs:ScriptAt w ao ops) (hsz:zLA ops) (hln:ops.length≤140737488355328) :
  Calls Tryz.prog 13 #[.slice ao ops.length cap] w fun e w'=>e=.returned (.bool (zEP ops))∧Below w.heap.size w w':=by
 by_cases hlong:524288 < ops.length
 ·have hd:decide ((524288:Int) < (ops.length:Int))=true:=(by simp;omega);have HF:Hid (zEP ops=false):=zF (by
   unfold zEP
   have:=zGM ops 0 (by omega)
   rw [zEB] at this
   simp;omega)
  go_enter Tryz.func13,Tryz.ntmps13
  go_wp2_with fail;go_ret;exact ⟨zAI (zA HF).symm,Below.refl _ _⟩
 ·have hd:decide ((524288:Int) < (ops.length:Int))=false:=(by simp;omega);have HSZ:=zF hsz;clear hsz
  go_enter Tryz.func13,Tryz.ntmps13
  go_wp2_with fail
  go_loopg [3,4] (ops.length) (fun q n i wx=>∃ (k:Nat),i=.int .i64 k∧k + q=ops.length∧n=.int .i64 (zDk ops k:Nat)∧zDk ops k≤524288∧Below w.heap.size w wx)
  case atStart=>exact ⟨0,rfl,by omega,by rw [zEB],by rw [zEB];omega,Below.refl _ _⟩
  case round=>
   obtain ⟨k,rfl,hk,rfl,hle,hbm⟩:=hrel
   by_cases hlt:k < ops.length
   ·obtain ⟨b,off,rfl,hbl,hcell⟩:=hs (by intro e;subst e;simp at hlt);obtain ⟨_,_,_,_,hc4,hc5⟩:=ScriptAt.cells hcell hbl hbm k hlt;obtain ⟨hz1,hz2⟩:=zA HSZ _ (List.getElem_mem hlt);have HTS:=zF (zMr ops k hlt);have HTL:=zF (zGM ops (k + 1) (by omega));have hdk:decide ((k:Int) < (ops.length:Int))=true:=(by simp;omega);clear hcell;generalize zDk ops k=tk at *;generalize ops[k]=o at *;go_wp2_with fail
    go_quiet (fail)
    by_cases hbig:524288 < tk + (o.s.length + o.t.length)
    ·have hq:decide ((524288:Int) < (tk:Int) + (o.s.length:Int) + (o.t.length:Int))=true:=(by simp;omega);have HF:Hid (zEP ops=false):=zF (by
      unfold zEP;have h1:=zA HTL;have h2:=zA HTS
      simp;omega)
     go_wp2_with fail;go_ret;exact ⟨zAI (zA HF).symm,below_drewN hbm nq⟩
    ·have hq:decide ((524288:Int) < (tk:Int) + (o.s.length:Int) + (o.t.length:Int))=false:=(by simp;omega);go_wp2_with fail
     go_roundg (gk - 1)
     case measure=>omega
     case rel=>
      refine ⟨k + 1,by go_num,by omega,?_,by rw [zA HTS];omega,below_drewN hbm nq⟩;rw [zA HTS];exact congrArg (Value.int .i64) (by omega)
   ·have hkl:k=ops.length:=(by omega);subst hkl;have HF:Hid (zEP ops=true):=zF (by unfold zEP;simpa using hle);go_wp2_with fail;go_ret;exact ⟨zAI (zA HF).symm,hbm⟩
def zSh (w:World) (ko:Option Addr) (ks:List Int):Prop:=
 ks≠[]→∃ b off,ko=some ⟨b,off,none⟩∧b < w.heap.size∧∀ j (hj:j < ks.length),w.cell? ⟨b,off + j,none⟩=some (.int .i64 ks[j])
def inB (ks:List Int) (k:Int):Bool:=zGj k || ks.any (· == k)
def zHb (ks:List Int) (ops:List OpV) (k:Nat):List OpV:=(ops.take k).filter (fun o=>inB ks o.kind)
theorem zMi (ks:List Int) (ops:List OpV) (k:Nat) (h:k < ops.length):zHb ks ops (k + 1)=zHb ks ops k ++ (if inB ks ops[k].kind then [ops[k]] else []):=by
 unfold zHb;rw [List.take_succ_eq_append_getElem h,List.filter_append]
 congr 1
 simp [List.filter_cons]
theorem zPq (ks:List Int) (ops:List OpV) (k:Nat):(zHb ks ops k).length≤ops.length:=by
 unfold zHb;refine Nat.le_trans (List.length_filter_le _ _) ?_
 simp;omega
theorem zQ2 (ks:List Int) (x:Int) (j:Nat) (h:j < ks.length):(ks.take (j + 1)).any (· == x)=((ks.take j).any (· == x) || (ks[j] == x)):=by
 rw [List.take_succ_eq_append_getElem h,List.any_append];simp
theorem Tryz.info29:(Tryz.prog.info? 29).map (fun i=>(i.zero,i.size,i.bytes))=some (some (.agg #[.int .i64 0,.int .i64 0,.int .i64 0,.int .i64 0,.string ⟨#[]⟩,.string ⟨#[]⟩]),6,64):=by kernel_rfl
theorem zKI (p:OpV→Bool) (ops:List OpV):zDP (ops.filter p) (ops.filter p).length≤zDk ops ops.length:=by
 unfold zDP zDk;rw [List.take_length,List.take_length]
 induction ops with
 | nil=>simp
 | cons o ops ih=>
  rw [List.filter_cons]
  split
  ·simp only [List.map_cons,List.sum_cons,List.length_cons];omega
  ·simp only [List.map_cons,List.sum_cons,List.length_cons];omega
end Go.Proofs.YtgipjjhkhfihpaaGreatDoor
