import Derived.Test.YtgipjjhkhfihpaaGreatDoorAX
import Derived.Test.YtgipjjhkhfihpaaGreatDoorAH
import Derived.Test.YtgipjjhkhfihpaaGreatDoorAK
import Derived.Test.YtgipjjhkhfihpaaGreatDoorAW
import Derived.Test.YtgipjjhkhfihpaaGreatDoorAN
import Derived.Test.YtgipjjhkhfihpaaGreatDoorAO
import Derived.Deep.RegionWith
import Derived.Test.YtgipjjhkhfihpaaGreatDoorAC
set_option maxRecDepth 100000
set_option maxHeartbeats 6400000
namespace Go.Proofs.YtgipjjhkhfihpaaGreatDoor
open Go.RowKit
abbrev VdV (v:Vd):Value:=.agg #[.int .i64 (v.kind:Int),.int .i64 (v.nodes:Int),.int .i64 (v.lemmas:Int),.string ⟨v.text.toArray⟩]
theorem zLG {q:QS} (hq:QGood q) (budget room:Nat) (h:(zAC q budget room).2.1≠0):(∀ s∈(zBe (zAC q budget room)).2,zJY s)∧(∀ s∈(zBe (zAC q budget room)).2,(zA2 s).length≤400)∧(zBe (zAC q budget room)).2.length≤100000∧(zBe (zAC q budget room)).1=(zAC q budget room).2.1∧((zAC q budget room).2.1=1∨(zAC q budget room).2.1=2)∧(zBe (zAC q budget room)).2=z6 ((zAC q budget room).1.proof (zAC q budget room).2.1) (zAC q budget room).2.2:=by
 have hin:=zLS hq budget room;have hl:=zKA (C:=zAo q budget room) hq (zIP hq) q.vars.length 0 (0,0) (zAf q) hin.lin.inv hin.path hin.dm;have hsz:=hl.size;have hmo:=hl.most;have hm:=hin.most;have h24:zAw (zAf q)≤100 + 12 * (zAf q).nodes:=hin.lin.size;unfold zAC at h ⊢;generalize z8 (zAo q budget room) q.vars.length (0,0) 0 (zAf q)=r at *;have hf:=hl.fact h;have h0:(zAf q).nodes=0:=rfl;rw [h0] at hsz hmo hm h24;have hplen:(r.1.proof r.2.1).length≤90000:=by
  have:(r.1.proof r.2.1).length≤zAw r.1:=by
   unfold SS.proof zAw
   split<;>omega
  generalize 2 ^ (q.vars.length + 1)=X at *;omega
 obtain ⟨b1,b2,b3⟩:=zQM hq.qb (hl.inv.pok hf.inn.kind) hf.inn.lo hf.inn.hi hf.inn.free hplen;have hsp:zBe r=(r.2.1,z6 (r.1.proof r.2.1) r.2.2):=by
  unfold zBe SS.proof
  rcases hf.inn.kind with e | e
  ·rw [if_pos e,e];rfl
  ·rw [if_neg (by omega),if_pos e,e];rfl
 rw [hsp];exact ⟨b1,b2,b3,rfl,hf.inn.kind,rfl⟩
theorem zIH (b:Nat) (a l:Int) (w:World) (h:a < 0∨1048576 < a∨l < 0∨64 < l) :
  Calls Tryz.prog 22 #[.pointer (some ⟨b,0,none⟩),.int .i64 a,.int .i64 l] w fun e w'=>e=.returned (.tuple #[VdV ⟨0,0,0,[]⟩,.int .i64 4])∧Below w.heap.size w w':=by
 have HV:Hid (VdV ⟨0,0,0,[]⟩=.agg #[.int .i64 0,.int .i64 0,.int .i64 0,.string ⟨#[]⟩]):=zF rfl
 rcases (show a < 0∨(¬ a < 0∧1048576 < a)∨(¬ a < 0∧¬ 1048576 < a∧l < 0)∨(¬ a < 0∧¬ 1048576 < a∧¬ l < 0∧64 < l) by omega) with h | h | h | h
 ·have d0:decide (a < 0)=true:=decide_eq_true (by omega);clear h
  go_enter Tryz.func22,Tryz.ntmps22
  go_wp2_with fail;generalize hw0:(w.alloc (.cells #[.int .i64 0,.int .i64 0,.int .i64 0,.string ⟨#[]⟩] 54))=u1;have hB:Below w.heap.size w u1:=(by rw [← hw0];exact (Below.refl _ _).alloc (Nat.le_refl _) _);have hrs:u1.heap[w.heap.size]?=some (.cells #[.int .i64 0,.int .i64 0,.int .i64 0,.string ⟨#[]⟩] 54 (0,0)):=(by rw [← hw0];exact zP (by simp));clear hw0;obtain ⟨crs0,crs1,crs2,crs3⟩:=zAi hrs;have lrs:=zB hrs;refine bodyPost_ret (v:=.tuple #[.agg #[.int .i64 0,.int .i64 0,.int .i64 0,.string ⟨#[]⟩],.int .i64 4]) (by simp [results,Tryz.results22,go_sem,crs0,crs1,crs2,crs3]) rfl ⟨by rw [zA HV],hB⟩
 ·have d0:decide (a < 0)=false:=decide_eq_false (by omega);have d1:decide ((1048576:Int) < a)=true:=decide_eq_true (by omega);clear h
  go_enter Tryz.func22,Tryz.ntmps22
  go_wp2_with fail;generalize hw0:(w.alloc (.cells #[.int .i64 0,.int .i64 0,.int .i64 0,.string ⟨#[]⟩] 54))=u1;have hB:Below w.heap.size w u1:=(by rw [← hw0];exact (Below.refl _ _).alloc (Nat.le_refl _) _);have hrs:u1.heap[w.heap.size]?=some (.cells #[.int .i64 0,.int .i64 0,.int .i64 0,.string ⟨#[]⟩] 54 (0,0)):=(by rw [← hw0];exact zP (by simp));clear hw0;obtain ⟨crs0,crs1,crs2,crs3⟩:=zAi hrs;have lrs:=zB hrs;refine bodyPost_ret (v:=.tuple #[.agg #[.int .i64 0,.int .i64 0,.int .i64 0,.string ⟨#[]⟩],.int .i64 4]) (by simp [results,Tryz.results22,go_sem,crs0,crs1,crs2,crs3]) rfl ⟨by rw [zA HV],hB⟩
 ·have d0:decide (a < 0)=false:=decide_eq_false (by omega);have d1:decide ((1048576:Int) < a)=false:=decide_eq_false (by omega);have d2:decide (l < 0)=true:=decide_eq_true (by omega);clear h
  go_enter Tryz.func22,Tryz.ntmps22
  go_wp2_with fail;generalize hw0:(w.alloc (.cells #[.int .i64 0,.int .i64 0,.int .i64 0,.string ⟨#[]⟩] 54))=u1;have hB:Below w.heap.size w u1:=(by rw [← hw0];exact (Below.refl _ _).alloc (Nat.le_refl _) _);have hrs:u1.heap[w.heap.size]?=some (.cells #[.int .i64 0,.int .i64 0,.int .i64 0,.string ⟨#[]⟩] 54 (0,0)):=(by rw [← hw0];exact zP (by simp));clear hw0;obtain ⟨crs0,crs1,crs2,crs3⟩:=zAi hrs;have lrs:=zB hrs;refine bodyPost_ret (v:=.tuple #[.agg #[.int .i64 0,.int .i64 0,.int .i64 0,.string ⟨#[]⟩],.int .i64 4]) (by simp [results,Tryz.results22,go_sem,crs0,crs1,crs2,crs3]) rfl ⟨by rw [zA HV],hB⟩
 ·have d0:decide (a < 0)=false:=decide_eq_false (by omega);have d1:decide ((1048576:Int) < a)=false:=decide_eq_false (by omega);have d2:decide (l < 0)=false:=decide_eq_false (by omega);have d3:decide ((64:Int) < l)=true:=decide_eq_true (by omega);clear h
  go_enter Tryz.func22,Tryz.ntmps22
  go_wp2_with fail;generalize hw0:(w.alloc (.cells #[.int .i64 0,.int .i64 0,.int .i64 0,.string ⟨#[]⟩] 54))=u1;have hB:Below w.heap.size w u1:=(by rw [← hw0];exact (Below.refl _ _).alloc (Nat.le_refl _) _);have hrs:u1.heap[w.heap.size]?=some (.cells #[.int .i64 0,.int .i64 0,.int .i64 0,.string ⟨#[]⟩] 54 (0,0)):=(by rw [← hw0];exact zP (by simp));clear hw0;obtain ⟨crs0,crs1,crs2,crs3⟩:=zAi hrs;have lrs:=zB hrs;refine bodyPost_ret (v:=.tuple #[.agg #[.int .i64 0,.int .i64 0,.int .i64 0,.string ⟨#[]⟩],.int .i64 4]) (by simp [results,Tryz.results22,go_sem,crs0,crs1,crs2,crs3]) rfl ⟨by rw [zA HV],hB⟩
theorem zNV (lo b:Nat) (q:QS) (bn ln:Nat) (w:World) (hP:ProgAt lo w b q) (hq:QGood q) (ht:TabAt w) (hbn:bn≤1048576) (hln:ln≤64) :
  Calls Tryz.prog 22 #[.pointer (some ⟨b,0,none⟩),.int .i64 (bn:Int),.int .i64 (ln:Int)] w fun e w'=>e=.returned (.tuple #[VdV (zEj q bn ln),.int .i64 0])∧Below w.heap.size w w':=by
 obtain ⟨_,vV,vC,hfb,hV,hC⟩:=hP;have hbw:=zB hfb;obtain ⟨aV,cV,rfl⟩:=zN hV;obtain ⟨aC,cC,rfl⟩:=zN hC;have d0:decide ((bn:Int) < 0)=false:=decide_eq_false (by omega);have d1:decide ((1048576:Int) < (bn:Int))=false:=decide_eq_false (by omega);have d2:decide ((ln:Int) < 0)=false:=decide_eq_false (by omega);have d3:decide ((64:Int) < (ln:Int))=false:=decide_eq_false (by omega);have d1n:decide (1048576 < bn)=false:=decide_eq_false (by omega);have d3n:decide (64 < ln)=false:=decide_eq_false (by omega);have HTX:=zF (zLG hq bn ln);have HVD:Hid (zEj q bn ln=⟨(zAC q bn ln).2.1,(zAC q bn ln).1.nodes,(zAC q bn ln).1.most,if (zAC q bn ln).2.1=0 then [] else zDM ((zAC q bn ln).2.1 == 2) (z6 ((zAC q bn ln).1.proof (zAC q bn ln).2.1) (zAC q bn ln).2.2)⟩):=zF rfl
 go_enter Tryz.func22,Tryz.ntmps22
 go_wp2_with fail;generalize hw0:(w.alloc (.cells #[.int .i64 0,.int .i64 0,.int .i64 0,.string ⟨#[]⟩] 54))=u1;have hB:Below w.heap.size w u1:=(by rw [← hw0];exact (Below.refl _ _).alloc (Nat.le_refl _) _);have hrs:u1.heap[w.heap.size]?=some (.cells #[.int .i64 0,.int .i64 0,.int .i64 0,.string ⟨#[]⟩] 54 (0,0)):=(by rw [← hw0];exact zP (by simp));clear hw0;obtain ⟨crs0,crs1,crs2,crs3⟩:=zAi hrs;have lrs:=zB hrs;refine (zEI b _ _ aV aC _ cV _ cC rfl rfl _ ((hB.block _ hbw).trans hfb)).mono ?_;rintro e u2 ⟨rfl,b2⟩;replace hB:=hB.trans (b2.mono hB.size);replace hrs:=zH b2 hrs;clear crs0 crs1 crs2 crs3;obtain ⟨crs0,crs1,crs2,crs3⟩:=zAi hrs;replace lrs:=zB hrs;go_wp2_with fail;refine (zNS q aV aC cV cC bn ln _ (zAG (lo:=0) (zO hV hB) (Nat.zero_le _)) (zAG (lo:=0) (zO hC hB) (Nat.zero_le _)) hq hbn hln).mono ?_;rintro e u3 ⟨v3,rfl,ho3,b3⟩;replace hB:=hB.trans (b3.mono hB.size);replace hrs:=zH b3 hrs;clear crs0 crs1 crs2 crs3;obtain ⟨crs0,crs1,crs2,crs3⟩:=zAi hrs;replace lrs:=zB hrs;generalize zAC q bn ln=r at *;obtain ⟨S4,f1,f2⟩:=r;dsimp only at ho3 HTX HVD ⊢;generalize zBe (S4,f1,f2)=sp at *;obtain ⟨pk,sl⟩:=sp;dsimp only at ho3 HTX ⊢;obtain ⟨a3,c3,rfl⟩:=zN ho3
 by_cases hf1:f1=0
 ·have hq1:((f1:Int) == 0)=true:=(by rw [beq_iff_eq];omega);have hq2:(f1 == 0)=true:=(by rw [beq_iff_eq];exact hf1);have HX:Hid (zEj q bn ln=⟨f1,S4.nodes,S4.most,[]⟩):=zF (by rw [zA HVD,if_pos hf1]);clear hf1;have hA5:Below u3.heap.size u3 ((u3.alloc (.cells #[.int .i64 (f1:Int),.int .i64 (S4.nodes:Int),.int .i64 (S4.most:Int),.int .i64 (pk:Int),.slice a3 sl.length c3] 97)).alloc (.cells #[.int .i64 (f1:Int),.int .i64 (S4.nodes:Int),.int .i64 (S4.most:Int),.string ⟨#[]⟩] 54)):=((Below.refl _ _).alloc (Nat.le_refl _) _).alloc (by simp) _;have hrs5:=zH hA5 hrs;have hB5:=hB.trans (hA5.mono hB.size);have hRW:=setRow_heap ((u3.alloc (.cells #[.int .i64 (f1:Int),.int .i64 (S4.nodes:Int),.int .i64 (S4.most:Int),.int .i64 (pk:Int),.slice a3 sl.length c3] 97)).alloc (.cells #[.int .i64 (f1:Int),.int .i64 (S4.nodes:Int),.int .i64 (S4.most:Int),.string ⟨#[]⟩] 54)) w.heap.size _ #[.int .i64 (f1:Int),.int .i64 (S4.nodes:Int),.int .i64 (S4.most:Int),.string ⟨#[]⟩] _ _ hrs5;have j0:(((u3.alloc (.cells #[.int .i64 (f1:Int),.int .i64 (S4.nodes:Int),.int .i64 (S4.most:Int),.int .i64 (pk:Int),.slice a3 sl.length c3] 97)).alloc (.cells #[.int .i64 (f1:Int),.int .i64 (S4.nodes:Int),.int .i64 (S4.most:Int),.string ⟨#[]⟩] 54)).setRow w.heap.size #[.int .i64 (f1:Int),.int .i64 (S4.nodes:Int),.int .i64 (S4.most:Int),.string ⟨#[]⟩]).cell? ⟨w.heap.size,0,none⟩=some (.int .i64 (f1:Int)):=zE hRW rfl;have j1:(((u3.alloc (.cells #[.int .i64 (f1:Int),.int .i64 (S4.nodes:Int),.int .i64 (S4.most:Int),.int .i64 (pk:Int),.slice a3 sl.length c3] 97)).alloc (.cells #[.int .i64 (f1:Int),.int .i64 (S4.nodes:Int),.int .i64 (S4.most:Int),.string ⟨#[]⟩] 54)).setRow w.heap.size #[.int .i64 (f1:Int),.int .i64 (S4.nodes:Int),.int .i64 (S4.most:Int),.string ⟨#[]⟩]).cell? ⟨w.heap.size,1,none⟩=some (.int .i64 (S4.nodes:Int)):=zE hRW rfl;have j2:(((u3.alloc (.cells #[.int .i64 (f1:Int),.int .i64 (S4.nodes:Int),.int .i64 (S4.most:Int),.int .i64 (pk:Int),.slice a3 sl.length c3] 97)).alloc (.cells #[.int .i64 (f1:Int),.int .i64 (S4.nodes:Int),.int .i64 (S4.most:Int),.string ⟨#[]⟩] 54)).setRow w.heap.size #[.int .i64 (f1:Int),.int .i64 (S4.nodes:Int),.int .i64 (S4.most:Int),.string ⟨#[]⟩]).cell? ⟨w.heap.size,2,none⟩=some (.int .i64 (S4.most:Int)):=zE hRW rfl;have j3:(((u3.alloc (.cells #[.int .i64 (f1:Int),.int .i64 (S4.nodes:Int),.int .i64 (S4.most:Int),.int .i64 (pk:Int),.slice a3 sl.length c3] 97)).alloc (.cells #[.int .i64 (f1:Int),.int .i64 (S4.nodes:Int),.int .i64 (S4.most:Int),.string ⟨#[]⟩] 54)).setRow w.heap.size #[.int .i64 (f1:Int),.int .i64 (S4.nodes:Int),.int .i64 (S4.most:Int),.string ⟨#[]⟩]).cell? ⟨w.heap.size,3,none⟩=some (.string ⟨#[]⟩):=zE hRW rfl;clear hRW
  go_wp2_with ((refine wpList_store_row rfl 54 _ _ rfl w.heap.size _ rfl rfl 54 _ hrs5 (by kernel_rfl) rfl (by simp [Value.oneCell']) ?_))
  refine bodyPost_ret (v:=.tuple #[.agg #[.int .i64 (f1:Int),.int .i64 (S4.nodes:Int),.int .i64 (S4.most:Int),.string ⟨#[]⟩],.int .i64 0]) (by simp [results,Tryz.results22,go_sem,j0,j1,j2,j3]) rfl ⟨by rw [zA HX],below_setRow hB5 (Nat.le_refl _) _⟩
 ·have hq1:((f1:Int) == 0)=false:=(by rw [beq_eq_false_iff_ne];omega);have hq2:(f1 == 0)=false:=(by rw [beq_eq_false_iff_ne];exact hf1);obtain ⟨t1,t2,t3,t4,t5,t6⟩:=zA HTX hf1;have HX:Hid (zEj q bn ln=⟨f1,S4.nodes,S4.most,zDM (pk == 2) sl⟩):=zF (by rw [zA HVD,if_neg hf1,← t6,t4]);have hpk:pk=1∨pk=2:=(by rw [t4];exact t5);clear hf1 HTX t4 t5 t6;have hA5:Below u3.heap.size u3 ((u3.alloc (.cells #[.int .i64 (f1:Int),.int .i64 (S4.nodes:Int),.int .i64 (S4.most:Int),.int .i64 (pk:Int),.slice a3 sl.length c3] 97)).alloc (.cells #[.int .i64 (f1:Int),.int .i64 (S4.nodes:Int),.int .i64 (S4.most:Int),.string ⟨#[]⟩] 54)):=((Below.refl _ _).alloc (Nat.le_refl _) _).alloc (by simp) _;have hrs5:=zH hA5 hrs;have hB5:=hB.trans (hA5.mono hB.size);have han:((u3.alloc (.cells #[.int .i64 (f1:Int),.int .i64 (S4.nodes:Int),.int .i64 (S4.most:Int),.int .i64 (pk:Int),.slice a3 sl.length c3] 97)).alloc (.cells #[.int .i64 (f1:Int),.int .i64 (S4.nodes:Int),.int .i64 (S4.most:Int),.string ⟨#[]⟩] 54)).heap[u3.heap.size]?=some (.cells #[.int .i64 (f1:Int),.int .i64 (S4.nodes:Int),.int .i64 (S4.most:Int),.int .i64 (pk:Int),.slice a3 sl.length c3] 97 (0,0)):=(by rw [heap_alloc_old _ _ (by simp)];exact zP (by simp));have hve:((u3.alloc (.cells #[.int .i64 (f1:Int),.int .i64 (S4.nodes:Int),.int .i64 (S4.most:Int),.int .i64 (pk:Int),.slice a3 sl.length c3] 97)).alloc (.cells #[.int .i64 (f1:Int),.int .i64 (S4.nodes:Int),.int .i64 (S4.most:Int),.string ⟨#[]⟩] 54)).heap[u3.heap.size + 1]?=some (.cells #[.int .i64 (f1:Int),.int .i64 (S4.nodes:Int),.int .i64 (S4.most:Int),.string ⟨#[]⟩] 54 (0,0)):=zP (by simp);have ho5:=zAG (lo:=0) (zO ho3 hA5) (Nat.zero_le _);have hrl:w.heap.size < u3.heap.size:=zB hrs;go_wp2_with fail;generalize ((u3.alloc (.cells #[.int .i64 (f1:Int),.int .i64 (S4.nodes:Int),.int .i64 (S4.most:Int),.int .i64 (pk:Int),.slice a3 sl.length c3] 97)).alloc (.cells #[.int .i64 (f1:Int),.int .i64 (S4.nodes:Int),.int .i64 (S4.most:Int),.string ⟨#[]⟩] 54))=u5 at *;refine (zQ5 u3.heap.size 3 _ 97 sl _ pk _ ⟨han,rfl,rfl,ho5,by decide⟩ hpk (ht.later hB5) t1 t2 t3).mono ?_;rintro e u6 ⟨rfl,b6⟩;generalize zDM (pk == 2) sl=tx at *;replace hrs5:=zH b6 hrs5;replace hve:=zH b6 hve;replace hB5:=hB5.trans (b6.mono hB5.size);have z3:=zD hve 3;obtain ⟨-,-,-,q3⟩:=zAi hve;have lve:=zB hve;have hveS:(u6.setCell ⟨u3.heap.size + 1,3,none⟩ (.string ⟨tx.toArray⟩)).heap[u3.heap.size + 1]?=some (.cells #[.int .i64 (f1:Int),.int .i64 (S4.nodes:Int),.int .i64 (S4.most:Int),.string ⟨tx.toArray⟩] 54 (0,0)):=zI hve 3 (.string ⟨tx.toArray⟩);have hrsS:=zf hrs5 (c:=u3.heap.size + 1) (by omega) 3 (.string ⟨tx.toArray⟩);have hBS:=hB5.setCell (p:=⟨u3.heap.size + 1,3,none⟩) (show w.heap.size≤u3.heap.size + 1 by omega) (.string ⟨tx.toArray⟩);have hRW:=setRow_heap (u6.setCell ⟨u3.heap.size + 1,3,none⟩ (.string ⟨tx.toArray⟩)) w.heap.size _ #[.int .i64 (f1:Int),.int .i64 (S4.nodes:Int),.int .i64 (S4.most:Int),.string ⟨tx.toArray⟩] _ _ hrsS;have j0:((u6.setCell ⟨u3.heap.size + 1,3,none⟩ (.string ⟨tx.toArray⟩)).setRow w.heap.size #[.int .i64 (f1:Int),.int .i64 (S4.nodes:Int),.int .i64 (S4.most:Int),.string ⟨tx.toArray⟩]).cell? ⟨w.heap.size,0,none⟩=some (.int .i64 (f1:Int)):=zE hRW rfl;have j1:((u6.setCell ⟨u3.heap.size + 1,3,none⟩ (.string ⟨tx.toArray⟩)).setRow w.heap.size #[.int .i64 (f1:Int),.int .i64 (S4.nodes:Int),.int .i64 (S4.most:Int),.string ⟨tx.toArray⟩]).cell? ⟨w.heap.size,1,none⟩=some (.int .i64 (S4.nodes:Int)):=zE hRW rfl;have j2:((u6.setCell ⟨u3.heap.size + 1,3,none⟩ (.string ⟨tx.toArray⟩)).setRow w.heap.size #[.int .i64 (f1:Int),.int .i64 (S4.nodes:Int),.int .i64 (S4.most:Int),.string ⟨tx.toArray⟩]).cell? ⟨w.heap.size,2,none⟩=some (.int .i64 (S4.most:Int)):=zE hRW rfl;have j3:((u6.setCell ⟨u3.heap.size + 1,3,none⟩ (.string ⟨tx.toArray⟩)).setRow w.heap.size #[.int .i64 (f1:Int),.int .i64 (S4.nodes:Int),.int .i64 (S4.most:Int),.string ⟨tx.toArray⟩]).cell? ⟨w.heap.size,3,none⟩=some (.string ⟨tx.toArray⟩):=zE hRW rfl;clear hRW
  go_wp2_with (first | (refine wpList_load_row rfl 54 _ rfl (u3.heap.size + 1) rfl 54 _ (0,0) _ hveS Tryz.underlying54 rfl (by kernel_rfl) ?_) | (refine wpList_store_row rfl 54 _ _ rfl w.heap.size _ rfl rfl 54 _ hrsS (by kernel_rfl) rfl (by simp [Value.oneCell']) ?_))
  refine bodyPost_ret (v:=.tuple #[.agg #[.int .i64 (f1:Int),.int .i64 (S4.nodes:Int),.int .i64 (S4.most:Int),.string ⟨tx.toArray⟩],.int .i64 0]) (by simp [results,Tryz.results22,go_sem,j0,j1,j2,j3]) rfl ⟨by rw [zA HX],below_setRow hBS (Nat.le_refl _) _⟩
def zGB (bw:Nat) (text proof:List UInt8) (px pf:Option Addr) (c4 c5 c6:Value) (w:World) (e:Ending) (w':World):Prop:=
 e=.returned (.bool true)∧Only (·=bw) w w'∧∃ proof',WAt w' bw text px pf proof' c4 c5 c6∧proof'.length≤max proof.length 262144
theorem zNZ (bw b1 b2 _lo:Nat) (q:QS) (a l:Int) (text proof:List UInt8) (c4 c5 c6:Value) (w:World) (hw:WAt w bw text (some ⟨b1,0,none⟩) (some ⟨b2,0,none⟩) proof c4 c5 c6) (hln:zAb text=.inr q) (h:a < 0∨1048576 < a∨l < 0∨64 < l) :
  Calls Tryz.prog 32 #[.pointer (some ⟨bw,0,none⟩),.int .i64 a,.int .i64 l] w fun e w'=>zGB bw text proof (some ⟨b1,0,none⟩) (some ⟨b2,0,none⟩) c4 c5 c6 w e w':=by
 have hbw:bw < w.heap.size:=zB hw;have k1:w.cell? ⟨bw,1,none⟩=some (.pointer (some ⟨b1,0,none⟩)):=zE hw rfl;have HV:Hid (VdV ⟨0,0,0,[]⟩=.agg #[.int .i64 0,.int .i64 0,.int .i64 0,.string ⟨#[]⟩]):=zF rfl;have HLN:=zF hln;clear hln
 go_enter Tryz.func32,Tryz.ntmps32
 go_wp2_with fail;refine (zIH b1 a l w h).mono ?_;rintro e u1 ⟨rfl,c1⟩;rw [zA HV];have hw1:=hw.later c1;have hA1:Below u1.heap.size u1 (u1.alloc (.cells #[.int .i64 0,.int .i64 0,.int .i64 0,.string ⟨#[]⟩] 54)):=(Below.refl _ _).alloc (Nat.le_refl _) _;have hw1a:=hw1.later hA1;have hv1:=heap_alloc_new u1 (.cells #[.int .i64 0,.int .i64 0,.int .i64 0,.string ⟨#[]⟩] 54);have k0:(u1.alloc (.cells #[.int .i64 0,.int .i64 0,.int .i64 0,.string ⟨#[]⟩] 54)).cell? ⟨bw,0,none⟩=some (S text):=zE hw1a rfl;have l1:=zB hw1a;have hB1:=c1.trans (hA1.mono c1.size);go_wp2_with fail;generalize (u1.alloc (.cells #[.int .i64 0,.int .i64 0,.int .i64 0,.string ⟨#[]⟩] 54))=u2 at *;refine (zIe text u2).mono ?_;rintro e u3 ⟨c3,hp3⟩;rw [zA HLN] at hp3;obtain ⟨by_,rfl,hPy⟩:=hp3;have hw3:=hw1a.later c3;have hv3:=zH c3 hv1;have hB3:=hB1.trans (c3.mono hB1.size);go_wp2_with fail;refine (zIH by_ a l u3 h).mono ?_;rintro e u4 ⟨rfl,c4'⟩;rw [zA HV];have hv4:=(c4'.block _ (zB hv3)).trans hv3;have hw4:=hw3.later c4';have hB4:=hB3.trans (c4'.mono hB3.size);have hA4:Below u4.heap.size u4 (u4.alloc (.cells #[.int .i64 0,.int .i64 0,.int .i64 0,.string ⟨#[]⟩] 54)):=(Below.refl _ _).alloc (Nat.le_refl _) _;have hv4a:=zH hA4 hv4;have q0:(u4.alloc (.cells #[.int .i64 0,.int .i64 0,.int .i64 0,.string ⟨#[]⟩] 54)).cell? ⟨u1.heap.size,0,none⟩=some (.int .i64 0):=zE hv4a rfl;have q1:(u4.alloc (.cells #[.int .i64 0,.int .i64 0,.int .i64 0,.string ⟨#[]⟩] 54)).cell? ⟨u1.heap.size,1,none⟩=some (.int .i64 0):=zE hv4a rfl;have q2:(u4.alloc (.cells #[.int .i64 0,.int .i64 0,.int .i64 0,.string ⟨#[]⟩] 54)).cell? ⟨u1.heap.size,2,none⟩=some (.int .i64 0):=zE hv4a rfl;have q3:(u4.alloc (.cells #[.int .i64 0,.int .i64 0,.int .i64 0,.string ⟨#[]⟩] 54)).cell? ⟨u1.heap.size,3,none⟩=some (.string ⟨#[]⟩):=zE hv4a rfl;have lv4:=zB hv4a;have lv4':=zB hv4
 rcases (show a < 0∨(¬ a < 0∧1048576 < a)∨(¬ a < 0∧¬ 1048576 < a∧l < 0)∨(¬ a < 0∧¬ 1048576 < a∧¬ l < 0∧64 < l) by omega) with h | h | h | h
 ·have d0:decide (a < 0)=true:=decide_eq_true (by omega);clear h;go_wp2_with fail;go_ret;exact ⟨rfl,Only.of_below (hB4.trans (hA4.mono hB4.size)),proof,hw4.later hA4,Nat.le_max_left _ _⟩
 ·have d0:decide (a < 0)=false:=decide_eq_false (by omega);have d1:decide ((1048576:Int) < a)=true:=decide_eq_true (by omega);clear h;go_wp2_with fail;go_ret;exact ⟨rfl,Only.of_below (hB4.trans (hA4.mono hB4.size)),proof,hw4.later hA4,Nat.le_max_left _ _⟩
 ·have d0:decide (a < 0)=false:=decide_eq_false (by omega);have d1:decide ((1048576:Int) < a)=false:=decide_eq_false (by omega);have d2:decide (l < 0)=true:=decide_eq_true (by omega);clear h;go_wp2_with fail;go_ret;exact ⟨rfl,Only.of_below (hB4.trans (hA4.mono hB4.size)),proof,hw4.later hA4,Nat.le_max_left _ _⟩
 ·have d0:decide (a < 0)=false:=decide_eq_false (by omega);have d1:decide ((1048576:Int) < a)=false:=decide_eq_false (by omega);have d2:decide (l < 0)=false:=decide_eq_false (by omega);have d3:decide ((64:Int) < l)=true:=decide_eq_true (by omega);clear h;go_wp2_with fail;go_ret;exact ⟨rfl,Only.of_below (hB4.trans (hA4.mono hB4.size)),proof,hw4.later hA4,Nat.le_max_left _ _⟩
structure zS4 (F:zv) (bn ln:Nat) (v:Vd):Prop where
 one:1≤v.nodes
 most:v.nodes + 1≤2 ^ (F.order.length + 1)
 lem:v.lemmas≤ln
 upto:0 < bn→v.nodes≤bn
 unknown:v.kind=0→0 < bn∧v.nodes=bn∧v.text=[]∧(zBn F).1=false
 known:v.kind≠0→∃ tr two,zw F v.text=.inr (tr,two)∧v.kind=(if tr then 2 else 1)∧zA5 (zBI F.cl) F.all F.order 0=tr∧((zBn F).1=true→v.nodes=1∧two≤(zBn F).2)∧v.text.length≤262144
theorem zJD {F:zv} {l:List UInt8} {x:Bool × Nat} (h:zw F l=.inr x):l.length≤262144:=by
 apply Classical.byContradiction
 intro hn;unfold zw at h;rw [if_pos (by omega)] at h
 cases h
theorem zS0 {F:zv} {q:QS} (hq:QGood q) (hF:FQ F q) (hO:FOk F) (bn ln:Nat):zS4 F bn ln (zEj q bn ln):=by
 have h:=zQw hq hF hO bn ln;have hu:=zKr hq hF bn ln;have hlen:F.order.length=q.vars.length:=(by rw [hF.order,List.length_map]);have hv:zEj q bn ln=⟨(zAC q bn ln).2.1,(zAC q bn ln).1.nodes,(zAC q bn ln).1.most,if (zAC q bn ln).2.1=0 then [] else zDM ((zAC q bn ln).2.1 == 2) (z6 ((zAC q bn ln).1.proof (zAC q bn ln).2.1) (zAC q bn ln).2.2)⟩:=rfl;rw [hv];generalize zAC q bn ln=r at *;refine ⟨h.one,?_,h.lemmas,h.upto,fun h0=>?_,fun h0=>?_⟩
 ·rw [hlen];exact h.most
 ·have h1:=h.unknown h0;refine ⟨h1.1,h1.2,?_,?_⟩
  ·show (if r.2.1=0 then [] else _)=[];rw [if_pos h0]
  ·cases hc:(zBn F).1 with
   | false=>rfl
   | true=>
    have:=(hu hc).1
    have h0':r.2.1=0:=h0;omega
 ·have h0':r.2.1≠0:=h0;obtain ⟨_,_,p3,p4⟩:=h.proof h0';have htx:(if r.2.1=0 then [] else zDM (r.2.1 == 2) (z6 (r.1.proof r.2.1) r.2.2))=zDM (r.2.1 == 2) (z6 (r.1.proof r.2.1) r.2.2):=if_neg h0';refine ⟨r.2.1 == 2,twos (z6 (r.1.proof r.2.1) r.2.2),?_,?_,?_,fun hc=>?_,?_⟩
  ·show zw F (if r.2.1=0 then [] else _)=_;rw [htx];exact p3
  ·show r.2.1=_
   rcases h.kind with e | e | e
   ·exact absurd e h0'
   ·rw [e];rfl
   ·rw [e];rfl
  ·exact zGW hO _ _ _ p3
  ·obtain ⟨u1,u2,u3⟩:=hu hc;refine ⟨u2,?_⟩;rw [u1] at p4 ⊢;exact Nat.le_trans p4 u3
  ·show (if r.2.1=0 then [] else _).length≤262144;rw [htx];exact zJD p3
theorem zOi {F:zv} {q:QS} (h:FQ F q) (hb:QB q):QGood q:=
 ⟨hb,h.nodup,fun c hc s v hl=>by
  rw [← h.order];refine h.vars c hc v ?_
  cases s with
  | true=>exact Or.inl hl
  | false=>exact Or.inr hl⟩
theorem zSf (n:Nat) (h:n≤8):wrap64 (2 * 2 ^ n)=((2 * 2 ^ n:Nat):Int):=by
 have hp:2 * 2 ^ n≤512:=(by have:=zD2 n h;omega);rw [show (2:Int) * 2 ^ n=((2 * 2 ^ n:Nat):Int) from by simp];generalize 2 * 2 ^ n=m at *;exact IntWalk.wrap64_in _ ⟨by omega,by omega⟩
theorem zOt (bw b1 b2 lo:Nat) (st:RS) (q0:QS) (bn ln:Nat) (text proof:List UInt8) (c4 c5 c6:Value) (w:World) (hw:WAt w bw text (some ⟨b1,0,none⟩) (some ⟨b2,0,none⟩) proof c4 c5 c6)
  (hP:ProgAt lo w b1 (zK q0)) (hR:RefAt lo w b2 (zW st)) (hS:zEA st q0) (h24:q0.cl.length≤24) (hN:zCf q0) (hln:zAb text=.inr (zK q0)) (ht:TabAt w) (hbn:bn≤1048576) (hl64:ln≤64) :
  Calls Tryz.prog 32 #[.pointer (some ⟨bw,0,none⟩),.int .i64 (bn:Int),.int .i64 (ln:Int)] w fun e w'=>zGB bw text proof (some ⟨b1,0,none⟩) (some ⟨b2,0,none⟩) c4 c5 c6 w e w':=by
 obtain ⟨hFQ,hFO,hFW⟩:=zLP hS hN h24;have hQG:=zOi hFQ (zQN hN h24);have hvd:=zS0 hQG hFQ hFO bn ln;have HSV:=zF (fun (lo b:Nat) (w:World) (hP:ProgAt lo w b (zK q0)) (ht:TabAt w)=>zNV lo b (zK q0) bn ln w hP hQG ht hbn hl64);generalize zEj (zK q0) bn ln=vd at *;obtain ⟨vk,vn,vm,vt⟩:=vd;have HVD:=zF hvd;have hol:=hFW.len;have hone:1≤vn:=hvd.one;have hvm:vm≤ln:=hvd.lem;have hmo:vn + 1≤2 ^ ((zW st).order.length + 1):=hvd.most;have hvn:vn≤512:=by
  have h3:2 ^ ((zW st).order.length + 1)≤2 ^ 9:=Nat.pow_le_pow_right (by decide) (by omega);have h4:(2:Nat) ^ 9=512:=(by decide);omega
 have HMO:=zF hmo;clear hvd hmo hFQ hFO hQG hS hN h24;generalize zW st=F at *;have hbw:bw < w.heap.size:=zB hw;have k1:w.cell? ⟨bw,1,none⟩=some (.pointer (some ⟨b1,0,none⟩)):=zE hw rfl;have HLN:=zF hln;clear hln
 go_enter Tryz.func32,Tryz.ntmps32
 go_wp2_with fail;refine (zA HSV lo b1 w hP ht).mono ?_;rintro e u1 ⟨rfl,c1⟩;have hw1:=hw.later c1;have hA1:Below u1.heap.size u1 (u1.alloc (.cells #[.int .i64 (vk:Int),.int .i64 (vn:Int),.int .i64 (vm:Int),.string ⟨vt.toArray⟩] 54)):=(Below.refl _ _).alloc (Nat.le_refl _) _;have hw1a:=hw1.later hA1;have hv1:=heap_alloc_new u1 (.cells #[.int .i64 (vk:Int),.int .i64 (vn:Int),.int .i64 (vm:Int),.string ⟨vt.toArray⟩] 54);have k0:(u1.alloc (.cells #[.int .i64 (vk:Int),.int .i64 (vn:Int),.int .i64 (vm:Int),.string ⟨vt.toArray⟩] 54)).cell? ⟨bw,0,none⟩=some (S text):=zE hw1a rfl;have l1:=zB hw1a;have hB1:=c1.trans (hA1.mono c1.size);go_wp2_with fail;generalize (u1.alloc (.cells #[.int .i64 (vk:Int),.int .i64 (vn:Int),.int .i64 (vm:Int),.string ⟨vt.toArray⟩] 54))=u2 at *;refine (zIe text u2).mono ?_;rintro e u3 ⟨c3,hp3⟩;rw [zA HLN] at hp3;obtain ⟨by_,rfl,hPy⟩:=hp3;have hw3:=hw1a.later c3;have hv3:=zH c3 hv1;have hB3:=hB1.trans (c3.mono hB1.size);go_wp2_with fail;refine (zA HSV _ by_ u3 hPy (ht.later hB3)).mono ?_;rintro e u4 ⟨rfl,c4'⟩;have hv4:=(c4'.block _ (zB hv3)).trans hv3;have hw4:=hw3.later c4';have hB4:=hB3.trans (c4'.mono hB3.size);have hA4:Below u4.heap.size u4 (u4.alloc (.cells #[.int .i64 (vk:Int),.int .i64 (vn:Int),.int .i64 (vm:Int),.string ⟨vt.toArray⟩] 54)):=(Below.refl _ _).alloc (Nat.le_refl _) _;have hv5:=zH hA4 hv4;have hu5:=heap_alloc_new u4 (.cells #[.int .i64 (vk:Int),.int .i64 (vn:Int),.int .i64 (vm:Int),.string ⟨vt.toArray⟩] 54);have hw5:=hw4.later hA4;have hB5:=hB4.trans (hA4.mono hB4.size);have lv4:=zB hv4;have hR5:=hR.later hB5;obtain ⟨_,vO,vE,vC,hfb,hO,_,_⟩:=id hR5;obtain ⟨aO,cO,rfl⟩:=zN hO;clear hO;generalize F.order.length=no at *;have lfb:=zB hfb;have lw5:=zB hw5;have q0':(u4.alloc (.cells #[.int .i64 (vk:Int),.int .i64 (vn:Int),.int .i64 (vm:Int),.string ⟨vt.toArray⟩] 54)).cell? ⟨u1.heap.size,0,none⟩=some (.int .i64 (vk:Int)):=(by rw [zC hv5];rfl);have q1:(u4.alloc (.cells #[.int .i64 (vk:Int),.int .i64 (vn:Int),.int .i64 (vm:Int),.string ⟨vt.toArray⟩] 54)).cell? ⟨u1.heap.size,1,none⟩=some (.int .i64 (vn:Int)):=zE hv5 rfl;have q2:(u4.alloc (.cells #[.int .i64 (vk:Int),.int .i64 (vn:Int),.int .i64 (vm:Int),.string ⟨vt.toArray⟩] 54)).cell? ⟨u1.heap.size,2,none⟩=some (.int .i64 (vm:Int)):=zE hv5 rfl;have q3:(u4.alloc (.cells #[.int .i64 (vk:Int),.int .i64 (vn:Int),.int .i64 (vm:Int),.string ⟨vt.toArray⟩] 54)).cell? ⟨u1.heap.size,3,none⟩=some (.string ⟨vt.toArray⟩):=zE hv5 rfl;have r2:(u4.alloc (.cells #[.int .i64 (vk:Int),.int .i64 (vn:Int),.int .i64 (vm:Int),.string ⟨vt.toArray⟩] 54)).cell? ⟨bw,2,none⟩=some (.pointer (some ⟨b2,0,none⟩)):=zE hw5 rfl;have f0:(u4.alloc (.cells #[.int .i64 (vk:Int),.int .i64 (vn:Int),.int .i64 (vm:Int),.string ⟨vt.toArray⟩] 54)).cell? ⟨b2,0,none⟩=some (.slice aO no cO):=zE hfb rfl;have d0:decide ((bn:Int) < 0)=false:=decide_eq_false (by omega);have d1:decide ((1048576:Int) < (bn:Int))=false:=decide_eq_false (by omega);have d2:decide ((ln:Int) < 0)=false:=decide_eq_false (by omega);have d3:decide ((64:Int) < (ln:Int))=false:=decide_eq_false (by omega);have d1n:decide (1048576 < bn)=false:=decide_eq_false (by omega);have d3n:decide (64 < ln)=false:=decide_eq_false (by omega);have g1:decide ((vn:Int) < 1)=false:=decide_eq_false (by omega);have g1n:decide (vn < 1)=false:=decide_eq_false (by omega);have g2:decide ((vm:Int) < 0)=false:=decide_eq_false (by omega);have g3:decide ((ln:Int) < (vm:Int))=false:=decide_eq_false (by omega);have g3n:decide (ln < vm)=false:=decide_eq_false (by omega);have hsh:=zSf no hol;have hmo2:vn < 2 * 2 ^ no:=(by have:=zA HMO;rw [Nat.pow_succ,Nat.mul_comm] at this;omega);have hm512:2 * 2 ^ no≤512:=by
  have h3:2 ^ no≤2 ^ 8:=Nat.pow_le_pow_right (by decide) hol;have h4:(2:Nat) ^ 8=256:=(by decide);omega
 generalize (2 * 2 ^ no:Nat)=mst at *;clear HMO;have g6:decide ((mst:Int)≤(vn:Int))=false:=decide_eq_false (by omega);have g6n:decide (mst≤vn)=false:=decide_eq_false (by omega)
 by_cases hk0:vk=0
 ·obtain ⟨ub,un,ut,uc⟩:=(zA HVD).unknown hk0;dsimp only at un ut;subst ut;have e1:((vk:Int) == 0)=true:=(by rw [beq_iff_eq];omega);have e1n:(vk == 0)=true:=(by rw [beq_iff_eq];exact hk0);have g4:decide ((0:Int) < (bn:Int))=true:=decide_eq_true (by omega);have g4n:decide (0 < bn)=true:=decide_eq_true (by omega);have g5:decide ((bn:Int) < (vn:Int))=false:=decide_eq_false (by omega);have g5n:decide (bn < vn)=false:=decide_eq_false (by omega);have e2:((vn:Int) == (bn:Int))=true:=(by rw [beq_iff_eq];omega);have e2n:(vn == bn)=true:=(by rw [beq_iff_eq];exact un);have g7:decide ((bn:Int) < (mst:Int))=true:=decide_eq_true (by omega);have g7n:decide (bn < mst)=true:=decide_eq_true (by omega);have g8:decide ((bn:Int) < wrap64 (2 * 2 ^ no))=true:=(by rw [hsh];exact g7);have HUC:=zF uc;clear un ub hk0 uc;go_wp2_with fail;have hB5':=hB5;generalize (u4.alloc (.cells #[.int .i64 (vk:Int),.int .i64 (vn:Int),.int .i64 (vm:Int),.string ⟨([]:List UInt8).toArray⟩] 54))=u5 at *;refine (zHX lo b2 F u5 hR5 hFW.bits hFW.cl hFW.all).mono ?_;rintro e u6 ⟨rfl,c6'⟩;have hB6:=hB5.trans (c6'.mono hB5.size);have hv6:=(c6'.block _ (zB hv5)).trans hv5;have hw6:=hw5.later c6';have p0:u6.cell? ⟨u1.heap.size,0,none⟩=some (.int .i64 (vk:Int)):=zE hv6 rfl;have p1:u6.cell? ⟨u1.heap.size,1,none⟩=some (.int .i64 (vn:Int)):=zE hv6 rfl;have p3:u6.cell? ⟨u1.heap.size,3,none⟩=some (.string ⟨([]:List UInt8).toArray⟩):=zE hv6 rfl;have p2:u6.cell? ⟨bw,2,none⟩=some (.pointer (some ⟨b2,0,none⟩)):=zE hw6 rfl;have lv6:=zB hv6;have lw6:=zB hw6;clear q0' q1 q2 q3 r2 f0;have uc:=zA HUC;generalize zBn F=ur at *;obtain ⟨cf,un⟩:=ur;dsimp only at uc ⊢;subst uc;go_wp2_with fail;go_ret;exact ⟨rfl,Only.of_below hB6,proof,hw6,Nat.le_max_left _ _⟩
 ·have e1:((vk:Int) == 0)=false:=(by rw [beq_eq_false_iff_ne];omega);have e1n:(vk == 0)=false:=(by rw [beq_eq_false_iff_ne];exact hk0);obtain ⟨tr,two,hpr,hvk,htr,huc,hvl⟩:=(zA HVD).known hk0;dsimp only at hpr hvk huc hvl;have HPR:=zF hpr;have HTR:=zF htr;have HUC:=zF huc;have HVK:=zF hvk;clear hpr htr huc hvk hk0;have HUP:=zF (zA HVD).upto
  rcases Classical.em (bn=0) with hb0 | hb0
  ·have g4:decide ((0:Int) < (bn:Int))=false:=decide_eq_false (by omega);have g4n:decide (0 < bn)=false:=decide_eq_false (by omega);clear hb0;go_wp2_with fail;have hB5':=hB5;generalize (u4.alloc (.cells #[.int .i64 (vk:Int),.int .i64 (vn:Int),.int .i64 (vm:Int),.string ⟨vt.toArray⟩] 54))=u5 at *;refine (zHX lo b2 F u5 hR5 hFW.bits hFW.cl hFW.all).mono ?_;rintro e u6 ⟨rfl,c6'⟩;have hB6:=hB5.trans (c6'.mono hB5.size);have hv6:=(c6'.block _ (zB hv5)).trans hv5;have hw6:=hw5.later c6';have p0:u6.cell? ⟨u1.heap.size,0,none⟩=some (.int .i64 (vk:Int)):=zE hv6 rfl;have p1:u6.cell? ⟨u1.heap.size,1,none⟩=some (.int .i64 (vn:Int)):=zE hv6 rfl;have p3:u6.cell? ⟨u1.heap.size,3,none⟩=some (.string ⟨vt.toArray⟩):=zE hv6 rfl;have p2:u6.cell? ⟨bw,2,none⟩=some (.pointer (some ⟨b2,0,none⟩)):=zE hw6 rfl;have lv6:=zB hv6;have lw6:=zB hw6;clear q0' q1 q2 q3 r2 f0;generalize zBn F=ur at *;obtain ⟨cf,un⟩:=ur;dsimp only at HUC ⊢;go_wp2_with fail;refine (zFj lo b2 F hFW.len hFW.names hFW.all hFW.bits hFW.cl u6 (hR.later hB6)).mono ?_;rintro e u7 ⟨rfl,c7⟩;rw [zA HTR];have hB7:=hB6.trans (c7.mono hB6.size);have hv7:=zH c7 hv6;have hw7:=hw6.later c7;have o0:u7.cell? ⟨u1.heap.size,0,none⟩=some (.int .i64 (vk:Int)):=zE hv7 rfl;have o1:u7.cell? ⟨u1.heap.size,1,none⟩=some (.int .i64 (vn:Int)):=zE hv7 rfl;have o3:u7.cell? ⟨u1.heap.size,3,none⟩=some (.string ⟨vt.toArray⟩):=zE hv7 rfl;have o2:u7.cell? ⟨bw,2,none⟩=some (.pointer (some ⟨b2,0,none⟩)):=zE hw7 rfl;have lv7:=zB hv7;have lw7:=zB hw7;clear p0 p1 p2 p3
   cases tr with
   | true=>
    have hvk:vk=2:=zA HVK;have f1:((vk:Int) == 2)=true:=(by rw [beq_iff_eq];omega);have f1n:(vk == 2)=true:=(by rw [beq_iff_eq];exact hvk);have f1m:((vk:Int) != 2)=false:=(by rw [bne,f1];rfl);clear hvk d0 d1 d2 d3 d1n d3n g1 g1n g2 g3 g3n g6 g6n hsh hmo2 hm512 g4 g4n HVD HUP HTR HSV HLN hv1 hv3 hv4 hw1a hw3 hw4 hw5 hv5 hu5 hB1 hB3 hB4 hR5 c1 c3 c4' c6' hPy hA1 hA4 e1 e1n
    try clear g5 g5n hup
    go_wp2_with fail;clear o0 o1
    go_region_with (go_at_call 57;refine (zB2 lo b2 F vt _ ((hR.later hB7).later (Below.refl _ u7).drew) hFW).mono ?_;rintro e u8 ⟨hb8,hp⟩;rw [zA HPR] at hp;have hp2:e=.returned (.tuple #[.int .i64 2,.int .i64 0,.int .i64 0,.int .i64 (two:Int)]):=hp;subst hp2;clear hp;have c8:Below u7.heap.size u7 u8:=(Below.refl _ u7).drew.trans hb8)
    all_goals
     have hB8:=hB7.trans (c8.mono hB7.size);have hv8:=zH c8 hv7;have hw8:=hw7.later c8;have n0:u8.cell? ⟨u1.heap.size,0,none⟩=some (.int .i64 (vk:Int)):=zE hv8 rfl;have n1:u8.cell? ⟨u1.heap.size,1,none⟩=some (.int .i64 (vn:Int)):=zE hv8 rfl;have n3:u8.cell? ⟨u1.heap.size,3,none⟩=some (.string ⟨vt.toArray⟩):=zE hv8 rfl;have m3:u8.cell? ⟨bw,3,none⟩=some (S proof):=zE hw8 rfl;have z3:=zD hw8 3;have lv8:=zB hv8;have lw8:=zB hw8;have hneb:u1.heap.size≠bw:=(by have:=zB hw1;omega);have hw9:=hw8.setProof vt;have hv9:=zf hv8 (c:=bw) (fun e=>hneb e.symm) 3 (S vt);have t1:(u8.setCell ⟨bw,3,none⟩ (S vt)).cell? ⟨u1.heap.size,1,none⟩=some (.int .i64 (vn:Int)):=zE hv9 rfl;have hO9:=(Only.of_below (T:=(·=bw)) hB8).setAt 3 (S vt)
     cases cf with
     | false=>
      go_wp2_with fail;go_ret;exact ⟨rfl,hO9,vt,hw9,by omega⟩
     | true=>
      obtain ⟨hn1,h2u⟩:=zA HUC rfl;have x1:((vn:Int) == 1)=true:=(by rw [beq_iff_eq];omega);have x1n:(vn == 1)=true:=(by rw [beq_iff_eq];exact hn1);have x2:decide ((two:Int)≤(un:Int))=true:=decide_eq_true (by omega);have x2n:decide (two≤un)=true:=decide_eq_true h2u;clear hn1 h2u;go_wp2_with fail;go_ret;exact ⟨rfl,hO9,vt,hw9,by omega⟩
   | false=>
    have hvk:vk=1:=zA HVK;have f1:((vk:Int) == 1)=true:=(by rw [beq_iff_eq];omega);have f1n:(vk == 1)=true:=(by rw [beq_iff_eq];exact hvk);have f1m:((vk:Int) != 1)=false:=(by rw [bne,f1];rfl);clear hvk d0 d1 d2 d3 d1n d3n g1 g1n g2 g3 g3n g6 g6n hsh hmo2 hm512 g4 g4n HVD HUP HTR HSV HLN hv1 hv3 hv4 hw1a hw3 hw4 hw5 hv5 hu5 hB1 hB3 hB4 hR5 c1 c3 c4' c6' hPy hA1 hA4 e1 e1n
    try clear g5 g5n hup
    go_wp2_with fail;clear o0 o1
    go_region_with (go_at_call 57;refine (zB2 lo b2 F vt _ ((hR.later hB7).later (Below.refl _ u7).drew) hFW).mono ?_;rintro e u8 ⟨hb8,hp⟩;rw [zA HPR] at hp;have hp2:e=.returned (.tuple #[.int .i64 1,.int .i64 0,.int .i64 0,.int .i64 (two:Int)]):=hp;subst hp2;clear hp;have c8:Below u7.heap.size u7 u8:=(Below.refl _ u7).drew.trans hb8)
    all_goals
     have hB8:=hB7.trans (c8.mono hB7.size);have hv8:=zH c8 hv7;have hw8:=hw7.later c8;have n0:u8.cell? ⟨u1.heap.size,0,none⟩=some (.int .i64 (vk:Int)):=zE hv8 rfl;have n1:u8.cell? ⟨u1.heap.size,1,none⟩=some (.int .i64 (vn:Int)):=zE hv8 rfl;have n3:u8.cell? ⟨u1.heap.size,3,none⟩=some (.string ⟨vt.toArray⟩):=zE hv8 rfl;have m3:u8.cell? ⟨bw,3,none⟩=some (S proof):=zE hw8 rfl;have z3:=zD hw8 3;have lv8:=zB hv8;have lw8:=zB hw8;have hneb:u1.heap.size≠bw:=(by have:=zB hw1;omega);have hw9:=hw8.setProof vt;have hv9:=zf hv8 (c:=bw) (fun e=>hneb e.symm) 3 (S vt);have t1:(u8.setCell ⟨bw,3,none⟩ (S vt)).cell? ⟨u1.heap.size,1,none⟩=some (.int .i64 (vn:Int)):=zE hv9 rfl;have hO9:=(Only.of_below (T:=(·=bw)) hB8).setAt 3 (S vt)
     cases cf with
     | false=>
      go_wp2_with fail;go_ret;exact ⟨rfl,hO9,vt,hw9,by omega⟩
     | true=>
      obtain ⟨hn1,h2u⟩:=zA HUC rfl;have x1:((vn:Int) == 1)=true:=(by rw [beq_iff_eq];omega);have x1n:(vn == 1)=true:=(by rw [beq_iff_eq];exact hn1);have x2:decide ((two:Int)≤(un:Int))=true:=decide_eq_true (by omega);have x2n:decide (two≤un)=true:=decide_eq_true h2u;clear hn1 h2u;go_wp2_with fail;go_ret;exact ⟨rfl,hO9,vt,hw9,by omega⟩
  ·have g4:decide ((0:Int) < (bn:Int))=true:=decide_eq_true (by omega);have g4n:decide (0 < bn)=true:=decide_eq_true (by omega);have hup:vn≤bn:=zA HUP (by omega);have g5:decide ((bn:Int) < (vn:Int))=false:=decide_eq_false (by omega);have g5n:decide (bn < vn)=false:=decide_eq_false (by omega);clear hb0;go_wp2_with fail;have hB5':=hB5;generalize (u4.alloc (.cells #[.int .i64 (vk:Int),.int .i64 (vn:Int),.int .i64 (vm:Int),.string ⟨vt.toArray⟩] 54))=u5 at *;refine (zHX lo b2 F u5 hR5 hFW.bits hFW.cl hFW.all).mono ?_;rintro e u6 ⟨rfl,c6'⟩;have hB6:=hB5.trans (c6'.mono hB5.size);have hv6:=(c6'.block _ (zB hv5)).trans hv5;have hw6:=hw5.later c6';have p0:u6.cell? ⟨u1.heap.size,0,none⟩=some (.int .i64 (vk:Int)):=zE hv6 rfl;have p1:u6.cell? ⟨u1.heap.size,1,none⟩=some (.int .i64 (vn:Int)):=zE hv6 rfl;have p3:u6.cell? ⟨u1.heap.size,3,none⟩=some (.string ⟨vt.toArray⟩):=zE hv6 rfl;have p2:u6.cell? ⟨bw,2,none⟩=some (.pointer (some ⟨b2,0,none⟩)):=zE hw6 rfl;have lv6:=zB hv6;have lw6:=zB hw6;clear q0' q1 q2 q3 r2 f0;generalize zBn F=ur at *;obtain ⟨cf,un⟩:=ur;dsimp only at HUC ⊢;go_wp2_with fail;refine (zFj lo b2 F hFW.len hFW.names hFW.all hFW.bits hFW.cl u6 (hR.later hB6)).mono ?_;rintro e u7 ⟨rfl,c7⟩;rw [zA HTR];have hB7:=hB6.trans (c7.mono hB6.size);have hv7:=zH c7 hv6;have hw7:=hw6.later c7;have o0:u7.cell? ⟨u1.heap.size,0,none⟩=some (.int .i64 (vk:Int)):=zE hv7 rfl;have o1:u7.cell? ⟨u1.heap.size,1,none⟩=some (.int .i64 (vn:Int)):=zE hv7 rfl;have o3:u7.cell? ⟨u1.heap.size,3,none⟩=some (.string ⟨vt.toArray⟩):=zE hv7 rfl;have o2:u7.cell? ⟨bw,2,none⟩=some (.pointer (some ⟨b2,0,none⟩)):=zE hw7 rfl;have lv7:=zB hv7;have lw7:=zB hw7;clear p0 p1 p2 p3
   cases tr with
   | true=>
    have hvk:vk=2:=zA HVK;have f1:((vk:Int) == 2)=true:=(by rw [beq_iff_eq];omega);have f1n:(vk == 2)=true:=(by rw [beq_iff_eq];exact hvk);have f1m:((vk:Int) != 2)=false:=(by rw [bne,f1];rfl);clear hvk d0 d1 d2 d3 d1n d3n g1 g1n g2 g3 g3n g6 g6n hsh hmo2 hm512 g4 g4n HVD HUP HTR HSV HLN hv1 hv3 hv4 hw1a hw3 hw4 hw5 hv5 hu5 hB1 hB3 hB4 hR5 c1 c3 c4' c6' hPy hA1 hA4 e1 e1n
    try clear g5 g5n hup
    go_wp2_with fail;clear o0 o1
    go_region_with (go_at_call 57;refine (zB2 lo b2 F vt _ ((hR.later hB7).later (Below.refl _ u7).drew) hFW).mono ?_;rintro e u8 ⟨hb8,hp⟩;rw [zA HPR] at hp;have hp2:e=.returned (.tuple #[.int .i64 2,.int .i64 0,.int .i64 0,.int .i64 (two:Int)]):=hp;subst hp2;clear hp;have c8:Below u7.heap.size u7 u8:=(Below.refl _ u7).drew.trans hb8)
    all_goals
     have hB8:=hB7.trans (c8.mono hB7.size);have hv8:=zH c8 hv7;have hw8:=hw7.later c8;have n0:u8.cell? ⟨u1.heap.size,0,none⟩=some (.int .i64 (vk:Int)):=zE hv8 rfl;have n1:u8.cell? ⟨u1.heap.size,1,none⟩=some (.int .i64 (vn:Int)):=zE hv8 rfl;have n3:u8.cell? ⟨u1.heap.size,3,none⟩=some (.string ⟨vt.toArray⟩):=zE hv8 rfl;have m3:u8.cell? ⟨bw,3,none⟩=some (S proof):=zE hw8 rfl;have z3:=zD hw8 3;have lv8:=zB hv8;have lw8:=zB hw8;have hneb:u1.heap.size≠bw:=(by have:=zB hw1;omega);have hw9:=hw8.setProof vt;have hv9:=zf hv8 (c:=bw) (fun e=>hneb e.symm) 3 (S vt);have t1:(u8.setCell ⟨bw,3,none⟩ (S vt)).cell? ⟨u1.heap.size,1,none⟩=some (.int .i64 (vn:Int)):=zE hv9 rfl;have hO9:=(Only.of_below (T:=(·=bw)) hB8).setAt 3 (S vt)
     cases cf with
     | false=>
      go_wp2_with fail;go_ret;exact ⟨rfl,hO9,vt,hw9,by omega⟩
     | true=>
      obtain ⟨hn1,h2u⟩:=zA HUC rfl;have x1:((vn:Int) == 1)=true:=(by rw [beq_iff_eq];omega);have x1n:(vn == 1)=true:=(by rw [beq_iff_eq];exact hn1);have x2:decide ((two:Int)≤(un:Int))=true:=decide_eq_true (by omega);have x2n:decide (two≤un)=true:=decide_eq_true h2u;clear hn1 h2u;go_wp2_with fail;go_ret;exact ⟨rfl,hO9,vt,hw9,by omega⟩
   | false=>
    have hvk:vk=1:=zA HVK;have f1:((vk:Int) == 1)=true:=(by rw [beq_iff_eq];omega);have f1n:(vk == 1)=true:=(by rw [beq_iff_eq];exact hvk);have f1m:((vk:Int) != 1)=false:=(by rw [bne,f1];rfl);clear hvk d0 d1 d2 d3 d1n d3n g1 g1n g2 g3 g3n g6 g6n hsh hmo2 hm512 g4 g4n HVD HUP HTR HSV HLN hv1 hv3 hv4 hw1a hw3 hw4 hw5 hv5 hu5 hB1 hB3 hB4 hR5 c1 c3 c4' c6' hPy hA1 hA4 e1 e1n
    try clear g5 g5n hup
    go_wp2_with fail;clear o0 o1
    go_region_with (go_at_call 57;refine (zB2 lo b2 F vt _ ((hR.later hB7).later (Below.refl _ u7).drew) hFW).mono ?_;rintro e u8 ⟨hb8,hp⟩;rw [zA HPR] at hp;have hp2:e=.returned (.tuple #[.int .i64 1,.int .i64 0,.int .i64 0,.int .i64 (two:Int)]):=hp;subst hp2;clear hp;have c8:Below u7.heap.size u7 u8:=(Below.refl _ u7).drew.trans hb8)
    all_goals
     have hB8:=hB7.trans (c8.mono hB7.size);have hv8:=zH c8 hv7;have hw8:=hw7.later c8;have n0:u8.cell? ⟨u1.heap.size,0,none⟩=some (.int .i64 (vk:Int)):=zE hv8 rfl;have n1:u8.cell? ⟨u1.heap.size,1,none⟩=some (.int .i64 (vn:Int)):=zE hv8 rfl;have n3:u8.cell? ⟨u1.heap.size,3,none⟩=some (.string ⟨vt.toArray⟩):=zE hv8 rfl;have m3:u8.cell? ⟨bw,3,none⟩=some (S proof):=zE hw8 rfl;have z3:=zD hw8 3;have lv8:=zB hv8;have lw8:=zB hw8;have hneb:u1.heap.size≠bw:=(by have:=zB hw1;omega);have hw9:=hw8.setProof vt;have hv9:=zf hv8 (c:=bw) (fun e=>hneb e.symm) 3 (S vt);have t1:(u8.setCell ⟨bw,3,none⟩ (S vt)).cell? ⟨u1.heap.size,1,none⟩=some (.int .i64 (vn:Int)):=zE hv9 rfl;have hO9:=(Only.of_below (T:=(·=bw)) hB8).setAt 3 (S vt)
     cases cf with
     | false=>
      go_wp2_with fail;go_ret;exact ⟨rfl,hO9,vt,hw9,by omega⟩
     | true=>
      obtain ⟨hn1,h2u⟩:=zA HUC rfl;have x1:((vn:Int) == 1)=true:=(by rw [beq_iff_eq];omega);have x1n:(vn == 1)=true:=(by rw [beq_iff_eq];exact hn1);have x2:decide ((two:Int)≤(un:Int))=true:=decide_eq_true (by omega);have x2n:decide (two≤un)=true:=decide_eq_true h2u;clear hn1 h2u;go_wp2_with fail;go_ret;exact ⟨rfl,hO9,vt,hw9,by omega⟩
theorem zKw (ops:List OpV) (ao:Option Addr) (cap:Nat) (ks:List Int) (ko:Option Addr) (kcap:Nat) (w:World) (hs:ScriptAt w ao ops) (hks:zSh w ko ks) (hsz:zLA ops) (hln:ops.length≤140737488355328) (hkl:ks.length≤1048576)
  (HU:Hid (∀ (base:Nat) (v:Value) (w':World),zEP ops=true→w'.ownsRow base 29 6 v (ops.filter (fun o=>inB ks o.kind)).length (zDX (ops.filter (fun o=>inB ks o.kind)))→Below w.heap.size w w'→Calls Tryz.prog 14 #[v] w' fun e w''=>e=.returned (.int .i64 (-1))∧Below w'.heap.size w' w'')) :
  Calls Tryz.prog 10 #[.slice ao ops.length cap,.slice ko ks.length kcap] w fun e w'=>e=.returned (.bool true)∧Below w.heap.size w w':=by
 go_enter Tryz.func10,Tryz.ntmps10
 go_wp2_with fail;refine (zPZ ops ao cap w hs hsz hln).mono ?_;rintro e w1 ⟨rfl,hb1⟩
 cases hsm:zEP ops with
 | false=>
  go_wp2_with fail;go_ret;exact ⟨rfl,hb1⟩
 | true=>
  have HSM:=zF hsm;have hlo:ops.length≤524288:=by
   have h1:zDk ops ops.length≤524288:=of_decide_eq_true hsm;have h2:=zGM ops 0 (by omega);rw [zEB] at h2;omega
  clear hsm;obtain ⟨i0,hi,hz0,hz1,hz2⟩:=info_parts Tryz.info29;go_wp2_with fail
  go_loopg [6,7] (ops.length) (fun q v i wx=>∃ (k:Nat),i=.int .i64 k∧k + q=ops.length∧wx.ownsRow w.heap.size 29 6 v (zHb ks ops k).length (zDX (zHb ks ops k))∧Below w.heap.size w wx)
  case atStart=>exact ⟨0,rfl,by omega,World.ownsRow_nil _ _ _ _,hb1⟩
  case round=>
   obtain ⟨k,rfl,hk,hown,hb⟩:=hrel;obtain ⟨wo,rfl⟩:∃ wo,wo=wr:=⟨_,rfl⟩;obtain ⟨go,rfl⟩:∃ go,go=gk:=⟨_,rfl⟩;have hbs:=hb.size;have hsl:=zPq ks ops k
   by_cases hlt:k < ops.length
   ·obtain ⟨b,off,rfl,hbl,hcell⟩:=hs (by intro e;subst e;simp at hlt);obtain ⟨hc0,hc1,hc2,hc3,hc4,hc5⟩:=ScriptAt.cells hcell hbl hb k hlt;have HSS:=zF (zMi ks ops k hlt);have hdk:decide ((k:Int) < (ops.length:Int))=true:=(by simp;omega);clear hcell;have hbwo:b < wo.heap.size:=(by omega);generalize ops[k]=o at *;have hex:∃ b1 b2 b4 b5:Bool,(o.kind == 1)=b1∧(o.kind == 2)=b2∧(o.kind == 4)=b4∧(o.kind == 5)=b5∧zGj o.kind=(b1 || b2 || b4 || b5)∧(b1 && b2)=false∧(b1 && b4)=false∧(b1 && b5)=false∧(b2 && b4)=false∧(b2 && b5)=false∧(b4 && b5)=false:=by
     refine ⟨_,_,_,_,rfl,rfl,rfl,rfl,rfl,?_,?_,?_,?_,?_,?_⟩
     all_goals (rw [Bool.and_eq_false_iff,beq_eq_false_iff_ne,beq_eq_false_iff_ne];omega)
    obtain ⟨b1,b2,b4,b5,e1,e2,e4,e5,eb,x1,x2,x3,x4,x5,x6⟩:=hex;have HEB:=zF eb;clear eb
    cases b1<;>cases b2<;>cases b4<;>cases b5<;>first | (exfalso;revert x1 x2 x3 x4 x5 x6;decide) | skip
    all_goals clear x1 x2 x3 x4 x5 x6
    all_goals
     go_wp2_with fail
     go_loopg [9,10] (ks.length) (fun q x i wx=>∃ (j:Nat),i=.int .i64 j∧j + q=ks.length∧x=.bool (zGj o.kind || (ks.take j).any (· == o.kind))∧wx=wo)
     case atStart=>exact ⟨0,rfl,by omega,by rw [zA HEB];rfl,rfl⟩
     case round=>
      obtain ⟨j,rfl,hj,rfl,hwx⟩:=hrel;subst hwx
      by_cases hjl:j < ks.length
      ·obtain ⟨bk,offk,rfl,hbk,hck⟩:=hks (by intro e;subst e;simp at hjl);have hcj:wr.cell? ⟨bk,offk + j,none⟩=some (.int .i64 ks[j]):=by
        rw [hb.cell (p:=⟨bk,offk + j,none⟩) hbk];exact hck j hjl
       have HAT:=zF (zQ2 ks o.kind j hjl);have hdj:decide ((j:Int) < (ks.length:Int))=true:=(by simp;omega);obtain ⟨kj,hkj⟩:∃ kj,ks[j]=kj:=⟨_,rfl⟩;rw [hkj] at hcj;have HKJ:=zF hkj;clear hkj hck
       cases hin:(zGj o.kind || (ks.take j).any (· == o.kind)) with
       | true=>
        go_wp2_with fail
        go_roundg (gk - 1)
        case measure=>omega
        case rel=>exact ⟨j + 1,by go_num,by omega,by rw [zA HAT,← Bool.or_assoc,hin];rfl,rfl⟩
       | false=>
        cases heq:(o.kind == kj) with
        | true=>
         go_wp2_with fail
         go_roundg (gk - 1)
         case measure=>omega
         case rel=>exact ⟨j + 1,by go_num,by omega,by rw [zA HAT,← Bool.or_assoc,hin,zA HKJ,show (kj == o.kind)=true from by rw [beq_iff_eq] at heq ⊢;exact heq.symm];rfl,rfl⟩
        | false=>
         go_wp2_with fail
         go_roundg (gk - 1)
         case measure=>omega
         case rel=>exact ⟨j + 1,by go_num,by omega,by rw [zA HAT,← Bool.or_assoc,hin,zA HKJ,show (kj == o.kind)=false from by rw [beq_eq_false_iff_ne] at heq ⊢;exact fun e=>heq e.symm];rfl,rfl⟩
      ·have hjl2:j=ks.length:=(by omega);subst hjl2;have HIN:Hid ((zGj o.kind || (ks.take ks.length).any (· == o.kind))=inB ks o.kind):=zF (by rw [List.take_length];rfl);rw [zA HIN];have hdj:decide ((ks.length:Int) < (ks.length:Int))=false:=by simp
       cases hin:inB ks o.kind with
       | true=>
        go_wp2_with (at_builtin;refine zV rfl (.tmp 56) (.tmp 61) 22 rfl w.heap.size i0 (.agg #[.int .i64 0,.int .i64 0,.int .i64 0,.int .i64 0,.string ⟨#[]⟩,.string ⟨#[]⟩]) 6 64 Tryz.underlying22 hi hz0 hz1 hz2 rfl (by decide) _ _ _ hown rfl rfl rfl (by simp [Value.oneCell']) (by unfold maxLen;omega) (by omega) hbs ?_;intro v' w4 hown4 hgrow hnn)
        go_roundg (go - 1)
        case measure=>omega
        case rel=>
         refine ⟨k + 1,by go_num,by omega,?_,za hb hgrow hown (Nat.le_refl _) hbs⟩;rw [zA HSS,hin,if_pos rfl,zKZ]
         simpa [OpV.cells] using hown4
       | false=>
        go_wp2_with fail
        go_roundg (go - 1)
        case measure=>omega
        case rel=>exact ⟨k + 1,by go_num,by omega,by rw [zA HSS,hin,if_neg (by decide),List.append_nil];exact hown,hb⟩
   ·have hkl2:k=ops.length:=(by omega);subst hkl2;have hown2:=hown;unfold zHb at hown2;rw [List.take_length] at hown2;have hdk:decide ((ops.length:Int) < (ops.length:Int))=false:=(by simp);have HO2:=zF hown2;clear hown hown2 hsl;go_wp2_with fail;refine ((zA HU) _ _ wo (zA HSM) (zA HO2) hb).mono ?_;rintro e w5 ⟨rfl,hb5⟩;go_wp2_with fail;go_ret;exact ⟨rfl,hb.trans (hb5.mono hbs)⟩
theorem DInv.ap {bw:Nat} {w:World} {D:DW} (h:DInv bw w D):∀ i (hi:i < D.h6s.length),apart D.v5 D.h6s[i]:=by
 intro i hi k h1 h2;have hnz:=h.n5 k h1;obtain ⟨c,hc⟩:=zr h.o5 k h1;have hlt:=zB hc;have ho:Only (·=k) w { w with heap:=w.heap.setIfInBounds k (.cells #[] 3 (0,0)) }:=⟨rfl,rfl,rfl,by simp,fun j hj hne=>by
  show (w.heap.setIfInBounds k _)[j]?=w.heap[j]?;rw [Array.getElem?_setIfInBounds_ne (fun e=>hne e.symm)]⟩
 rcases h.lss (·=k) _ ho (fun j hj e=>hnz (e ▸ hj)) i hi with h0 | ⟨g,n,cs,e1,_,e2,_⟩
 ·rw [h0] at h2;cases h2
 ·rw [e1] at h2;have e3:some g=some k:=h2;injection e3 with e3;subst e3;have e4:(w.heap.setIfInBounds g (.cells #[] 3 (0,0)))[g]?=some (.cells cs 25 (0,0)):=e2;rw [Array.getElem?_setIfInBounds_self_of_lt hlt] at e4;injection e4 with e4;injection e4 with _ e5 _;exact absurd e5 (by decide)
theorem DInv.lists {bw:Nat} {w:World} {D:DW} (h:DInv bw w D):ListsAt bw w D.v5 D.v6 D.h5s D.h6s:=⟨h.o5,h.o6,h.ls.now,h.lss.now,h.ap⟩
theorem DInv.blocks {bw:Nat} {w w':World} {D:DW} {e:Ending} (hD:DInv bw w D) (hp:zHk bw D.text D.px D.pf D.proof D.v4 D.v5 D.v6 D.h5s D.h6s w e w'):StepD bw D 0 w e w':=by
 obtain ⟨hret,ho,v5',v6',n5,x6,hw',hL',hn5,hf5,hx6,hv5,hv6⟩:=hp;have hbw:=zB hD.wat;have hsz:=ho.size;have hTZ:∀ k,D.Z k→¬ (k=bw∨D.v5.ownBlock=some k∨D.v6.ownBlock=some k):=fun k hk h=>by
  rcases h with h | h | h
  ·have:=(hD.zin k hk).1;omega
  ·exact hD.n5 k h hk
  ·exact hD.n6 k h hk
 obtain ⟨Z',hZ'⟩:∃ Z':Nat→Prop,∀ k,Z' k↔(D.Z k∨(w.heap.size≤k∧k < w'.heap.size∧v5'.ownBlock≠some k∧v6'.ownBlock≠some k)):=⟨_,fun _=>Iff.rfl⟩;have hZ1:∀ k,D.Z k→Z' k:=fun k h=>(hZ' k).2 (Or.inl h)
 have hnz:∀ k,k < w.heap.size→¬ D.Z k→¬ Z' k:=fun k hk hz h=>by
  rcases (hZ' k).1 h with h | h
  ·exact hz h
  ·omega
 have hint:∀ g c,w'.heap[g]?=some (.cells c 3 (0,0))→w.heap.size≤g→Z' g:=fun g c hg hfr=>(hZ' g).2 (Or.inr ⟨hfr,zB hg,fun e=>by
  obtain ⟨c',hc'⟩:=zr hL'.o5 g e;exact absurd (zc hg hc') (by decide),fun e=>by
  obtain ⟨c',hc'⟩:=zr hL'.o6 g e;exact absurd (zc hg hc') (by decide)⟩)
 refine ⟨hret,ho.below (Nat.le_of_lt hbw) (fun k hk h=>?_),{ D with v5:=v5',v6:=v6',h5s:=D.h5s ++ n5,h6s:=D.h6s ++ [x6],Z:=Z' },⟨hw',?_,hL'.o5,hL'.o6,?_,(hD.form.step ho hTZ).grow hZ1,?_,?_,?_,?_,?_,?_,?_,hD.gap⟩,by show D.text.length≤_;omega,by show D.proof.length≤_;omega,by show D.gs.length≤_;omega,by show (D.h5s ++ n5).length≤_;rw [List.length_append];omega,by show (D.h6s ++ [x6]).length≤_;rw [List.length_append,List.length_singleton];omega⟩
 ·rcases h with h | h | h
  ·omega
  ·have:=(hD.o5.lt k h).1;omega
  ·have:=(hD.o6.lt k h).1;omega
 ·refine zY hD.o4 ho (fun k hk h=>?_);obtain ⟨c,hc⟩:=zr hD.o4 k hk
  rcases h with h | h | h
  ·have:=(hD.o4.lt k hk).1;omega
  ·obtain ⟨c',hc'⟩:=zr hD.o5 k h;exact absurd (zc hc hc') (by decide)
  ·obtain ⟨c',hc'⟩:=zr hD.o6 k h;exact absurd (zc hc hc') (by decide)
 ·intro k hk
  rcases (hZ' k).1 hk with h | h
  ·have:=hD.zin k h;omega
  ·omega
 ·intro T w2 ho2 hT2 i hi
  by_cases hil:i < D.h5s.length
  ·obtain ⟨g,n,e1,e2,e3⟩:=(hD.ls.step ho hTZ) T w2 ho2 (fun k hk=>hT2 k (hZ1 k hk)) i hil;exact ⟨g,n,by rw [List.getElem_append_left hil];exact e1,e2,e3⟩
  ·obtain ⟨g,n,e1,e2,e3⟩:=hL'.ls i hi;have hmem:(D.h5s ++ n5)[i]∈n5:=(by rw [List.getElem_append_right (by omega)];exact List.getElem_mem _);have hfr:=hf5 _ hmem g (by rw [e1];rfl);exact ⟨g,n,e1,e2,(ho2.block g (zB e3) (hT2 g (hint g _ e3 hfr))).trans e3⟩
 ·intro T w2 ho2 hT2 i hi
  by_cases hil:i < D.h6s.length
  ·have h0:=(hD.lss.step ho hTZ) T w2 ho2 (fun k hk=>hT2 k (hZ1 k hk)) i hil;rw [List.getElem_append_left hil];exact h0
  ·have hl:=hL'.lss i hi;have hie:(D.h6s ++ [x6])[i]=x6:=by
    have:i=D.h6s.length:=by rw [List.length_append,List.length_singleton] at hi;omega
    subst this
    simp
   rcases hl with h0 | ⟨h,n,cs,e1,e2,e3,e4⟩
   ·exact Or.inl h0
   ·rcases hx6 with h0 | ⟨h',cap,cs',f1,f2,f3,f4⟩
    ·rw [hie,h0] at e1;cases e1
    ·rw [hie,f1] at e1;injection e1 with g1 g2 g3;injection g1 with g1;injection g1 with g1;subst g1 g2;rw [e3] at f3;injection f3 with f3;injection f3 with f3 _ _;subst f3;have hhz:Z' h':=(hZ' h').2 (Or.inr ⟨f2,zB e3,fun e=>hL'.ap i hi h' e (by rw [hie,f1];rfl),fun e=>by
      obtain ⟨c',hc'⟩:=zr hL'.o6 h' e;exact absurd (zc e3 hc') (by decide)⟩)
     refine Or.inr ⟨h',cap,cs,by rw [hie,f1],e2,(ho2.block h' (zB e3) (hT2 h' hhz)).trans e3,fun k hk=>?_⟩;obtain ⟨x,a1,a2⟩:=e4 k hk;obtain ⟨y,b1,b2,_⟩:=f4 k hk;rw [a1] at b1;injection b1 with b1;injection b1 with b1 _ _;injection b1 with b1;injection b1 with b1;subst b1;exact ⟨x,a1,(ho2.block x (zB a2) (hT2 x (hint x _ a2 b2))).trans a2⟩
 ·intro k hk;exact hnz k (hD.o4.lt k hk).2 (hD.n4 k hk)
 ·intro k hk h
  rcases (hZ' k).1 h with h | h
  ·rcases hv5 with e | ⟨j,e1,e2⟩
   ·exact hD.n5 k (e ▸ hk) h
   ·have hk':v5'.ownBlock=some k:=hk;rw [e1] at hk';injection hk' with hk'
    have:=(hD.zin k h).2
    omega
  ·exact h.2.2.1 hk
 ·intro k hk h
  rcases (hZ' k).1 h with h | h
  ·rcases hv6 with e | ⟨j,e1,e2⟩
   ·exact hD.n6 k (e ▸ hk) h
   ·have hk':v6'.ownBlock=some k:=hk;rw [e1] at hk';injection hk' with hk'
    have:=(hD.zin k h).2
    omega
  ·exact h.2.2.2 hk
 ·intro G hG;refine ((hD.games G hG).keep ho hTZ (fun k hk ht=>?_)).grow hZ1
  rcases ht with h | h | h
  ·have:=(hD.gz G hG k hk).1;omega
  ·obtain ⟨c',hc'⟩:=zr hD.o5 k h;exact zEt (hD.games G hG) hc' (by decide) (by decide) (by decide) hk
  ·obtain ⟨c',hc'⟩:=zr hD.o6 k h;exact zEt (hD.games G hG) hc' (by decide) (by decide) (by decide) hk
 ·intro G hG k hk;exact ⟨(hD.gz G hG k hk).1,hnz k ((hD.games G hG).lt hk) (hD.gz G hG k hk).2⟩
theorem zL8 (bw:Nat) (D:DW) (o:OpV) (w:World) (hD:DInv bw w D) (hk:o.kind=6) :
  Calls Tryz.prog 19 #[.pointer (some ⟨bw,0,none⟩),.agg #[.int .i64 o.kind,.int .i64 o.a,.int .i64 o.b,.int .i64 o.c,S o.s,S o.t]] w fun e w'=>StepD bw D (o.s.length + 1) w e w':=by
 have hbw:=zB hD.wat;obtain ⟨kind,a,b,c,s,t⟩:=o;dsimp only at hk ⊢;subst hk;have h1:w.cell? ⟨bw,1,none⟩=some (.pointer D.px):=zE hD.wat rfl;have hbel:Below w.heap.size w (w.alloc (.cells #[.int .i64 6,.int .i64 a,.int .i64 b,.int .i64 c,S s,S t] 29)):=(Below.refl _ _).alloc (Nat.le_refl _) _;have hDA:=hD.later hbel;have HFIN:Hid (∀ e w2,StepD bw D 0 (w.alloc (.cells #[.int .i64 6,.int .i64 a,.int .i64 b,.int .i64 c,S s,S t] 29)) e w2→e=.returned (.bool true)∧StepD bw D (s.length + 1) w (.returned (.bool true)) w2):=zF (fun e w2 h=>by
  have he:=h.ret;subst he;exact ⟨rfl,(h.after (hbel.mono (Nat.le_of_lt hbw))).more (by omega)⟩)
 rcases hDA.form with ⟨hpx,hpf⟩ | ⟨b1,b2,st,q0,hpx,hpf,hF,hSm,h24,hN,hln⟩
 ·rw [hpx] at h1;have HQ:Hid (StepD bw D (s.length + 1) w (.returned (.bool true)) (w.alloc (.cells #[.int .i64 6,.int .i64 a,.int .i64 b,.int .i64 c,S s,S t] 29))):=zF ((StepD.quiet (hbel.mono (Nat.le_of_lt hbw)) hDA rfl rfl (by omega) rfl rfl).more (by omega))
  go_enter Tryz.func19,Tryz.ntmps19
  go_wp2_with fail;go_ret;exact zA HQ
 ·rw [hpx] at h1;have hwA:=hDA.wat;rw [hpx,hpf] at hwA;have HOP:Hid (Calls Tryz.prog 33 #[.pointer (some ⟨bw,0,none⟩)] (w.alloc (.cells #[.int .i64 6,.int .i64 a,.int .i64 b,.int .i64 c,S s,S t] 29)) fun e w'=>StepD bw D 0 (w.alloc (.cells #[.int .i64 6,.int .i64 a,.int .i64 b,.int .i64 c,S s,S t] 29)) e w'):=zF (by
   refine (zMu bw b1 b2 (bw + 1) st q0 D.text D.proof D.v4 D.v5 D.v6 _ hwA hF.now.1 hF.now.2 hSm h24 hN).mono ?_;rintro e w2 ⟨rfl,hb2⟩;exact StepD.quiet (hb2.mono (Nat.le_of_lt (zB hwA))) (hDA.later hb2) rfl rfl (by omega) rfl rfl)
  clear hDA hF hSm h24 hN hD hbel hwA hln
  go_enter Tryz.func19,Tryz.ntmps19
  go_wp2_with fail;refine (zA HOP).mono ?_;intro e w2 hs;obtain ⟨rfl,hfin⟩:=zA HFIN _ _ hs;clear hs;go_wp2_with fail;go_ret;exact hfin
theorem zI9 (bw:Nat) (D:DW) (o:OpV) (w:World) (hD:DInv bw w D) (hk:o.kind=10) (hn5:D.h5s.length≤1048576000) (hn6:D.h6s.length≤1073741823) :
  Calls Tryz.prog 19 #[.pointer (some ⟨bw,0,none⟩),.agg #[.int .i64 o.kind,.int .i64 o.a,.int .i64 o.b,.int .i64 o.c,S o.s,S o.t]] w fun e w'=>StepD bw D (o.s.length + 1) w e w':=by
 have hbw:=zB hD.wat;obtain ⟨kind,a,b,c,s,t⟩:=o;dsimp only at hk ⊢;subst hk;have h1:w.cell? ⟨bw,1,none⟩=some (.pointer D.px):=zE hD.wat rfl;have hbel:Below w.heap.size w (w.alloc (.cells #[.int .i64 10,.int .i64 a,.int .i64 b,.int .i64 c,S s,S t] 29)):=(Below.refl _ _).alloc (Nat.le_refl _) _;have hDA:=hD.later hbel;have HFIN:Hid (∀ e w2,StepD bw D 0 (w.alloc (.cells #[.int .i64 10,.int .i64 a,.int .i64 b,.int .i64 c,S s,S t] 29)) e w2→e=.returned (.bool true)∧StepD bw D (s.length + 1) w (.returned (.bool true)) w2):=zF (fun e w2 h=>by
  have he:=h.ret;subst he;exact ⟨rfl,(h.after (hbel.mono (Nat.le_of_lt hbw))).more (by omega)⟩)
 rcases hDA.form with ⟨hpx,hpf⟩ | ⟨b1,b2,st,q0,hpx,hpf,hF,hSm,h24,hN,hln⟩
 ·rw [hpx] at h1;have HQ:Hid (StepD bw D (s.length + 1) w (.returned (.bool true)) (w.alloc (.cells #[.int .i64 10,.int .i64 a,.int .i64 b,.int .i64 c,S s,S t] 29))):=zF ((StepD.quiet (hbel.mono (Nat.le_of_lt hbw)) hDA rfl rfl (by omega) rfl rfl).more (by omega))
  go_enter Tryz.func19,Tryz.ntmps19
  go_wp2_with fail;go_ret;exact zA HQ
 ·rw [hpx] at h1;have hwA:=hDA.wat;rw [hpx,hpf] at hwA;have HOP:Hid (Calls Tryz.prog 35 #[.pointer (some ⟨bw,0,none⟩)] (w.alloc (.cells #[.int .i64 10,.int .i64 a,.int .i64 b,.int .i64 c,S s,S t] 29)) fun e w'=>StepD bw D 0 (w.alloc (.cells #[.int .i64 10,.int .i64 a,.int .i64 b,.int .i64 c,S s,S t] 29)) e w'):=zF (by
   refine (zLD bw b1 b2 st q0 D.text D.proof D.v4 D.v5 D.v6 D.h5s D.h6s _ hwA hF.now.1 hF.now.2 hSm hN hDA.lists hn5 hn6).mono ?_;intro e w2 hp;rw [← hpx,← hpf] at hp;exact hDA.blocks hp)
  clear hDA hF hSm h24 hN hD hbel hwA hln
  go_enter Tryz.func19,Tryz.ntmps19
  go_wp2_with fail;refine (zA HOP).mono ?_;intro e w2 hs;obtain ⟨rfl,hfin⟩:=zA HFIN _ _ hs;clear hs;go_wp2_with fail;go_ret;exact hfin
theorem zMB (bw:Nat) (D:DW) (o:OpV) (w:World) (hD:DInv bw w D) (hk:o.kind=3) (ht:TabAt w) :
  Calls Tryz.prog 19 #[.pointer (some ⟨bw,0,none⟩),.agg #[.int .i64 o.kind,.int .i64 o.a,.int .i64 o.b,.int .i64 o.c,S o.s,S o.t]] w fun e w'=>StepD bw D (o.s.length + 1) w e w':=by
 have hbw:=zB hD.wat;obtain ⟨kind,a,b,c,s,t⟩:=o;dsimp only at hk ⊢;subst hk;have h1:w.cell? ⟨bw,1,none⟩=some (.pointer D.px):=zE hD.wat rfl;have hbel:Below w.heap.size w (w.alloc (.cells #[.int .i64 3,.int .i64 a,.int .i64 b,.int .i64 c,S s,S t] 29)):=(Below.refl _ _).alloc (Nat.le_refl _) _;have hDA:=hD.later hbel;have HFIN:Hid (∀ e w2,StepD bw D 0 (w.alloc (.cells #[.int .i64 3,.int .i64 a,.int .i64 b,.int .i64 c,S s,S t] 29)) e w2→e=.returned (.bool true)∧StepD bw D (s.length + 1) w (.returned (.bool true)) w2):=zF (fun e w2 h=>by
  have he:=h.ret;subst he;exact ⟨rfl,(h.after (hbel.mono (Nat.le_of_lt hbw))).more (by omega)⟩)
 rcases hDA.form with ⟨hpx,hpf⟩ | ⟨b1,b2,st,q0,hpx,hpf,hF,hSm,h24,hN,hln⟩
 ·rw [hpx] at h1;have HQ:Hid (StepD bw D (s.length + 1) w (.returned (.bool true)) (w.alloc (.cells #[.int .i64 3,.int .i64 a,.int .i64 b,.int .i64 c,S s,S t] 29))):=zF ((StepD.quiet (hbel.mono (Nat.le_of_lt hbw)) hDA rfl rfl (by omega) rfl rfl).more (by omega))
  go_enter Tryz.func19,Tryz.ntmps19
  go_wp2_with fail;go_ret;exact zA HQ
 ·rw [hpx] at h1;have hwA:=hDA.wat;rw [hpx,hpf] at hwA;have HOP:Hid (Calls Tryz.prog 32 #[.pointer (some ⟨bw,0,none⟩),.int .i64 a,.int .i64 b] (w.alloc (.cells #[.int .i64 3,.int .i64 a,.int .i64 b,.int .i64 c,S s,S t] 29)) fun e w'=>StepD bw D 0 (w.alloc (.cells #[.int .i64 3,.int .i64 a,.int .i64 b,.int .i64 c,S s,S t] 29)) e w'):=zF (by
   have hC:Calls Tryz.prog 32 #[.pointer (some ⟨bw,0,none⟩),.int .i64 a,.int .i64 b] (w.alloc (.cells #[.int .i64 3,.int .i64 a,.int .i64 b,.int .i64 c,S s,S t] 29)) fun e w'=>zGB bw D.text D.proof (some ⟨b1,0,none⟩) (some ⟨b2,0,none⟩) D.v4 D.v5 D.v6 (w.alloc (.cells #[.int .i64 3,.int .i64 a,.int .i64 b,.int .i64 c,S s,S t] 29)) e w':=by
    by_cases hbad:a < 0∨1048576 < a∨b < 0∨64 < b
    ·exact zNZ bw b1 b2 (bw + 1) (zK q0) a b D.text D.proof D.v4 D.v5 D.v6 _ hwA hln hbad
    ·obtain ⟨bn,rfl⟩:∃ n:Nat,a=(n:Int):=⟨a.toNat,by omega⟩;obtain ⟨ln,rfl⟩:∃ n:Nat,b=(n:Int):=⟨b.toNat,by omega⟩;exact zOt bw b1 b2 (bw + 1) st q0 bn ln D.text D.proof D.v4 D.v5 D.v6 _ hwA hF.now.1 hF.now.2 hSm h24 hN hln (ht.later hbel) (by omega) (by omega)
   refine hC.mono ?_;rintro e w2 ⟨rfl,ho2,proof',hw2,hp2⟩;refine ⟨rfl,ho2.below (Nat.le_of_lt (zB hwA)) (fun k hk e=>by omega),_,hDA.base ho2 hw2 (Or.inl ⟨rfl,hpx.symm,hpf.symm⟩),by show D.text.length≤_;omega,by show proof'.length≤_;omega,by show D.gs.length≤_;omega,by show D.h5s.length≤_;omega,by show D.h6s.length≤_;omega⟩)
  clear hDA hF hSm h24 hN hD hbel hwA hln
  go_enter Tryz.func19,Tryz.ntmps19
  go_wp2_with fail;refine (zA HOP).mono ?_;intro e w2 hs;obtain ⟨rfl,hfin⟩:=zA HFIN _ _ hs;clear hs;go_wp2_with fail;go_ret;exact hfin
def zQk (k:Int):Bool:=zNx k || k == 3 || k == 6 || k == 10
theorem zMa:zNs TabAt zQk:=by
 intro bw D o w ht hD hk hok hpl htl hsl hn4 hn5 hn6;unfold zQk at hk;simp only [Bool.or_eq_true,beq_iff_eq] at hk
 rcases hk with ((hk | hk) | hk) | hk
 ·exact zJx bw D o w trivial hD hk hok hpl htl hsl hn4 hn5 hn6
 ·exact zMB bw D o w hD hk ht
 ·exact zL8 bw D o w hD hk
 ·exact zI9 bw D o w hD hk hn5 hn6
theorem zPG (k:Int) (h:inB [10,6,3,7,8,9,11] k=true):zQk k=true:=by
 unfold inB at h;unfold zQk zNx zJj;simp only [Bool.or_eq_true,List.any_cons,List.any_nil,beq_iff_eq] at h ⊢
 rcases h with h | h | h | h | h | h | h | h | h
 ·exact Or.inl (Or.inl (Or.inl (Or.inl (Or.inl h))))
 ·exact Or.inr h.symm
 ·exact Or.inl (Or.inr h.symm)
 ·exact Or.inl (Or.inl (Or.inr h.symm))
 ·exact Or.inl (Or.inl (Or.inl (Or.inr h.symm)))
 ·exact Or.inl (Or.inl (Or.inl (Or.inl (Or.inr (Or.inl (Or.inl h.symm))))))
 ·exact Or.inl (Or.inl (Or.inl (Or.inl (Or.inr (Or.inl (Or.inr h.symm))))))
 ·exact Or.inl (Or.inl (Or.inl (Or.inl (Or.inr (Or.inr h.symm)))))
 ·cases h
theorem zR3 (ops:List OpV) (ao:Option Addr) (cap:Nat) (w:World) (hs:ScriptAt w ao ops) (hsz:zLA ops) (hln:ops.length≤140737488355328) (hok:∀ o∈ops,o.Ok) (ht:TabAt w) :
  Calls Tryz.prog 8 #[.slice ao ops.length cap] w fun e w'=>e=.returned (.bool true)∧Below w.heap.size w w':=by
 have HOK:=zF hok;clear hok;have HU:Hid (∀ (base:Nat) (v:Value) (w':World),zEP ops=true→w'.ownsRow base 29 6 v (ops.filter (fun o=>inB [10,6,3,7,8,9,11] o.kind)).length (zDX (ops.filter (fun o=>inB [10,6,3,7,8,9,11] o.kind)))→Below (w.alloc (.cells #[.int .i64 10,.int .i64 6,.int .i64 3,.int .i64 7,.int .i64 8,.int .i64 9,.int .i64 11] 3)).heap.size (w.alloc (.cells #[.int .i64 10,.int .i64 6,.int .i64 3,.int .i64 7,.int .i64 8,.int .i64 9,.int .i64 11] 3)) w'→Calls Tryz.prog 14 #[v] w' fun e w''=>e=.returned (.int .i64 (-1))∧Below w'.heap.size w' w''):=zF (by
  intro base v w' hsm hown hbel;have ht':TabAt w':=(ht.later ((Below.refl w.heap.size w).alloc (Nat.le_refl _) (.cells #[.int .i64 10,.int .i64 6,.int .i64 3,.int .i64 7,.int .i64 8,.int .i64 9,.int .i64 11] 3))).later hbel;have h1:zDk ops ops.length≤524288:=of_decide_eq_true hsm;have h2:=zKI (fun o=>inB [10,6,3,7,8,9,11] o.kind) ops;have h3:(ops.filter (fun o=>inB [10,6,3,7,8,9,11] o.kind)).length≤ops.length:=List.length_filter_le _ _;have h4:=zGM ops 0 (by omega);rw [zEB] at h4;refine zSo TabAt zQk zMa base _ v w' hown ?_ (by omega) (by omega) (fun wx h=>ht'.later h);intro o ho;rw [List.mem_filter] at ho;exact ⟨zPG _ ho.2,zA HOK o ho.1⟩)
 go_enter Tryz.func8,Tryz.ntmps8
 go_wp2_with fail;have hbel:Below w.heap.size w (w.alloc (.cells #[.int .i64 10,.int .i64 6,.int .i64 3,.int .i64 7,.int .i64 8,.int .i64 9,.int .i64 11] 3)):=(Below.refl _ _).alloc (Nat.le_refl _) _;have hs':ScriptAt (w.alloc (.cells #[.int .i64 10,.int .i64 6,.int .i64 3,.int .i64 7,.int .i64 8,.int .i64 9,.int .i64 11] 3)) ao ops:=by
  intro hne;obtain ⟨b,off,h1,h2,h3⟩:=hs hne;exact ⟨b,off,h1,Nat.lt_of_lt_of_le h2 hbel.size,fun k hk j hj u hu=>by rw [hbel.cell (p:=⟨b,off + (k * 6 + j),none⟩) h2];exact h3 k hk j hj u hu⟩
 refine (zKw ops ao cap [10,6,3,7,8,9,11] (some ⟨w.heap.size,0,none⟩) 7 _ hs' (fun _=>⟨w.heap.size,0,rfl,by simp,fun j hj=>by
  have hj7:j < 7:=(by simpa using hj);rw [zC (heap_alloc_new w _)]
  match j,hj7 with
  | 0,_=>rfl
  | 1,_=>rfl
  | 2,_=>rfl
  | 3,_=>rfl
  | 4,_=>rfl
  | 5,_=>rfl
  | 6,_=>rfl⟩) hsz hln (by simp) HU).mono ?_
 rintro e w1 ⟨rfl,hb⟩;go_wp2_with fail;go_ret;exact ⟨rfl,zBw hbel hb⟩
theorem tabG:Tryz.prog.globalNamed "internal/strconv.uint64pow10"=some ((Tryz.prog.globalNamed "internal/strconv.uint64pow10").getD 0):=by kernel_rfl
theorem tabT:(Tryz.prog.globals[(Tryz.prog.globalNamed "internal/strconv.uint64pow10").getD 0]?).map (·.type)=some 206:=by kernel_rfl
theorem zKk {d1 d2:DataW Unit} {W:World} (h:laidMet Tryz.prog [("math/bits.deBruijn32tab",d1),("math/bits.deBruijn64tab",d2),("internal/strconv.uint64pow10",Lib.tabData .u64 Lib.pow10Tab)] W):TabAt W:=by
 obtain ⟨ps,hv,_⟩:=h;obtain ⟨_,_,_,_,_,_,_,_,_,_,hv2,_⟩:=hv;obtain ⟨_,_,_,_,_,_,_,_,_,_,hv3,_⟩:=hv2;obtain ⟨g',t',cs,fuel,p,q,hg',ht',hvar,hd,_,_⟩:=hv3;obtain rfl:=Option.some.inj (tabG.symm.trans hg');obtain rfl:=Option.some.inj (tabT.symm.trans ht');unfold TabAt Lib.TabIs;rw [hvar,← Lib.cells_of_tab (show Tryz.prog.underlying 206=some (.array 20 200) by kernel_rfl) (show Tryz.prog.underlying 200=some (.int .u64) by kernel_rfl) (by kernel_rfl) (by kernel_rfl) hd]
theorem zL4 {W:World} (h:laidMetH Tryz.prog Rows.solvesRow.laid W):TabAt W:=by
 have hf:(Rows.solvesRow.laid.filter fun x=>x.2.handleName?.isSome)=[]:=(by rfl);unfold laidMetH at h;rw [hf] at h;exact zKk h
end Go.Proofs.YtgipjjhkhfihpaaGreatDoor
namespace Go.Proofs.YtgipjjhkhfihpaaGreatDoor
open Go.ChangeShapes Go.WideShapes Go.ChangeAt Go.RowKit Go.Deep
theorem zMU (os:Os) (started:os.Started) (H:Type) (enc:TypeId × Value→H) (F:Stop.Interp) :
  ReturnsInHanded {} Tryz.checked os 8 .any ((OpenSpec.ofChange Rows.allSpec).preRow enc Tryz.prog Tryz.f8 Rows.allRow.domain false Rows.allRow.laid) (((OpenSpec.ofChange Rows.allSpec).at F).post enc Tryz.prog Tryz.f8 false true false false):=by
 obtain ⟨places,hx⟩:∃ places,DataW.whole enc Tryz.prog ((World.doorLaid Tryz.prog 400 os).forCall (fun _ _=>0) ⟨#[],#[.slice none 0 0],[]⟩).memory Tryz.f8.params.toList Rows.allSpec.vars false #[Value.slice none 0 0].toList 8=some ([.nil],[],places):=⟨[],by kernel_rfl⟩;refine returnsInHanded_of_row (C:=Tryz.checked) (s:=OpenSpec.ofChange Rows.allSpec) Tryz.own started (by kernel_rfl) Tryz.func8
  (witness_row_at (enc:=enc) (C:=Tryz.checked) false (World.doorLaid Tryz.prog 400 os) #[.slice none 0 0] rfl (by kernel_rfl) (by kernel_rfl) (by kernel_rfl)
   (OpenSpec.preRow_of_cond 8 hx (by kernel_rfl) (fun k hk=>by cases hk) (by kernel_rfl) (zRX os _))) ?_
 intro W base args ds gs before hval0 hW _ _ hsz0 hL _ _;have hsz:(DataW.weightsEach Tryz.prog (Tryz.f8.params.toList ++ Rows.allSpec.plain.varTypes Tryz.prog) (ds ++ gs)).all (·≤reachBytes)=true:=hsz0;clear hsz0;have hval:∀ (j:Nat) t v,Tryz.f8.params[j]?=some t→args[j]?=some v→Value.okWide Tryz.prog W .any base t v:=hval0;have hW':=hW;obtain ⟨p,q,hA0,hV,rfl,hfz,hnd⟩:=hW;have hA:DataW.TrodAll enc Tryz.prog W 0 (fun _=>true) true Tryz.f8.params.toList args.toList ds p:=hA0;rw [Tryz.params8] at hA hval hsz;obtain ⟨v0,d0,rfl,rfl,h0⟩:=trodAll_one hA;obtain ⟨rfl,rfl⟩:=trodVars_none hV;obtain ⟨a0,len,cap,rfl⟩:=okWide_slice Tryz.underlying22 (hval 0 22 v0 rfl rfl);have k0:=h0;have lt0:∀ x∈p,x.block < W.heap.size:=(by obtain ⟨m,hm⟩:=k0;exact DataW.trod_lt m _ _ _ hm);obtain ⟨fuel,hf⟩:=h0;clear hA0 hval0 hA;simp only [List.append_nil] at hW';obtain ⟨ops,hlen,hsc,hok,hdat⟩:=zLM (show DataW.trod enc Tryz.prog W 0 (fun _=>true) true fuel 22 [.slice a0 len cap]=some (d0,p) from hf);have hsize:zLA ops∧ops.length≤140737488355328:=by
  rcases hdat with ⟨rfl,_⟩ | ⟨sp,hx⟩
  ·exact ⟨fun o ho=>by simp at ho,by simp⟩
  ·have hd:d0=.slice (ops.map OpV.data) sp:=hx;subst hd;exact zJ9 (sp:=sp) hsz
 subst hlen;refine (zR3 ops a0 cap W hsc hsize.1 hsize.2 hok (zL4 hL)).mono fun e W' ⟨he,bel⟩=>?_
 subst he;exact ⟨_,rfl,_,_,_,[],_,[],hW',trodAll_mk1 (shut_bool Tryz.underlying4 _),trodAll_mk1 (Below.trod Tryz.laidOut (by kernel_rfl) (of_decide_eq_true (by kernel_rfl)) k0 bel lt0),rfl,bel.frame _,fun h=>by cases h⟩
theorem zQm:Rows.AllSaid:=
 OpenClaim.holds_of_cond 8 Tryz.f8 rfl rfl rfl rfl rfl rfl rfl ⟨rfl,rfl,rfl,rfl,rfl⟩ rfl rfl rfl rfl rfl (by kernel_rfl) Tryz.func8 (by kernel_rfl)
  (of_decide_eq_true (by kernel_rfl)) (by unfold Func.isWrapper;first | (rw [if_pos (by decide +kernel)];kernel_rfl) | (rw [if_neg (by decide +kernel)];exact ⟨rfl,rfl⟩))
  (fun os started H enc _ F=>by rw [OpenClaim.pre_eq_preRow];exact zMU os started H enc F)
theorem zPO (f:FuncId) (fn:Func) (hf:Tryz.pinned.checked.prog.funcNamed "duel/duellaw.All"=some f) (hfn:Tryz.pinned.checked.prog.funcs[f]?=some fn) :
  false=Tryz.pinned.checked.prog.looks []∧∀ (j:Nat) t,fn.params[j]?=some t→Tryz.pinned.checked.prog.wantsStandIn t=false:=by
 obtain rfl:f=8:=Option.some.inj ((show Tryz.prog.funcNamed "duel/duellaw.All"=some 8 by kernel_rfl).symm.trans hf) |>.symm;obtain rfl:fn=Tryz.f8:=(Option.some.inj (Tryz.func8.symm.trans hfn)).symm;refine ⟨by kernel_rfl,fun j t ht=>?_⟩;rw [Tryz.params8] at ht;obtain rfl:t=22:=(by simpa using Array.mem_of_getElem? ht);exact (show Tryz.prog.wantsStandIn 22=false by kernel_rfl)
theorem all_holds:Rows.AllCardSaid:=
 Claim7.holds_tied_plain_at .later [] _ _ _ _ zQm (fun _ h=>by cases h) (by kernel_rfl) (fun _ h=>by cases h) all_row_tie rfl ⟨rfl,rfl⟩ (by kernel_rfl) rfl zPO (by kernel_rfl)
#print z7 all_holds
end Go.Proofs.YtgipjjhkhfihpaaGreatDoor
