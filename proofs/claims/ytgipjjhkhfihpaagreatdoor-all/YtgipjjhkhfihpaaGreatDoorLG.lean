import Derived.Test.YtgipjjhkhfihpaaGreatDoorLF
import Derived.BigRegion
import Derived.Deep.DeepCutAuto
import Derived.Test.YtgipjjhkhfihpaaGreatDoorKI
set_option maxRecDepth 100000
set_option maxHeartbeats 6400000
namespace Go.Proofs.YtgipjjhkhfihpaaGreatDoor
open Go.RowKit
theorem zMg (bw b1 b2:Nat) (st:RS) (q0:QS) (D:DW) (ask:Bool) (truth:Bool) (two kind:Nat) (w:World) (hD:DInv bw w D) (hpx:D.px=some ⟨b1,0,none⟩) (hpf:D.pf=some ⟨b2,0,none⟩) (hPr:Pair st q0) (hF:Firm D.Z (fun w=>ProgAt (bw + 1) w b1 (zK q0)∧RefAt (bw + 1) w b2 (zW st)) w) (hpr:zw (zW st) D.proof=.inr (truth,two)) (hkd:kind=kd truth) (hn5:D.h5s.length≤1073741824) (hn4:D.gs.length≤1073741824) :
  Calls Tryz.prog 34 #[.pointer (some ⟨bw,0,none⟩),.bool ask] w fun e w'=>StepD bw D 0 w e w':=by
 have hce:=zIC hPr.fq hPr.fo D.proof;rw [hpr] at hce;have hk12:kind=1∨kind=2:=(by subst hkd;cases truth<;>simp [kd]);have hce2:zCM (zK q0) D.proof=(kind,0,0):=(by subst hkd;cases truth<;>exact hce);obtain ⟨ls,hrq⟩:=zPV hce2 (by omega);have HPR:Hid (∀ w w' e,zI4 (zW st) D.proof w e w'→Below w.heap.size w w'∧e=.returned (.tuple #[.int .i64 (kind:Int),.int .i64 0,.int .i64 0,.int .i64 (two:Int)])):=zF (fun w w' e h=>by
  obtain ⟨h1,h2⟩:=h;rw [hpr] at h2;subst hkd
  cases truth<;>exact ⟨h1,h2⟩)
 have HRQ:=zF hrq;have hP:=hF.now.1;have hR:=hF.now.2;have hw:=hD.wat;rw [hpx,hpf] at hw;have hbw:bw < w.heap.size:=zB hw;have k1:w.cell? ⟨bw,1,none⟩=some (.pointer (some ⟨b1,0,none⟩)):=zE hw rfl;have k3:w.cell? ⟨bw,3,none⟩=some (S D.proof):=zE hw rfl;obtain ⟨i1,hi1,hz10,hz11,hz12⟩:=info_parts zRN;obtain ⟨a4,c4,h4f⟩:=zN hD.o4;have hmk:∀ w:World,(Instr.makeSlice 25 (.int .i64 8) (.int .i64 8)).run Tryz.prog w=.ok (.slice (some ⟨w.heap.size,0,none⟩) 8 8) (w.alloc (.cells #[.int .i64 0,.int .i64 0,.int .i64 0,.int .i64 0,.int .i64 0,.int .i64 0,.int .i64 0,.int .i64 0] 3)):=fun _=>by kernel_rfl
 clear hce hce2 hpr hrq hkd
 go_enter Tryz.func34,Tryz.ntmps34
 go_wp2_with fail
 go_region_with (go_at_call 18;refine (zHR (bw + 1) b1 (zK q0) D.proof _ (hP.later (Below.refl _ w).drew) hPr.qb).mono ?_;rintro e w1 ⟨hb1,hp⟩;rw [zA HRQ] at hp;obtain ⟨ss,db,gv,hls,htg,hsb,rfl,hGA,hdb,hfr⟩:=hp;have hB1:Below w.heap.size w w1:=(Below.refl _ w).drew.trans hb1)
 all_goals
  have hw1:=hw.later hB1;have j2:w1.cell? ⟨bw,2,none⟩=some (.pointer (some ⟨b2,0,none⟩)):=zE hw1 rfl;have j3:w1.cell? ⟨bw,3,none⟩=some (S D.proof):=zE hw1 rfl;have hbw1:=zB hw1;have hR1:=hR.later hB1;go_wp2_with fail
  go_region_with (go_at_call 57;refine (zB2 (bw + 1) b2 (zW st) D.proof _ (hR1.later (Below.refl _ w1).drew) hPr.fw).mono ?_;intro e w2 hp;obtain ⟨hb2',rfl⟩:=zA HPR _ _ _ hp;clear hp;have hb2:Below w1.heap.size w1 w2:=(Below.refl _ w1).drew.trans hb2')
  all_goals
   have hB2:Below w.heap.size w w2:=hB1.trans (hb2.mono hB1.size);have hw2:=hw.later hB2;have j1:w2.cell? ⟨bw,1,none⟩=some (.pointer (some ⟨b1,0,none⟩)):=zE hw2 rfl;have m2:w2.cell? ⟨bw,2,none⟩=some (.pointer (some ⟨b2,0,none⟩)):=zE hw2 rfl;have m3:w2.cell? ⟨bw,3,none⟩=some (S D.proof):=zE hw2 rfl;have hbw2:=zB hw2;have hGA2:=hGA.later hb2;clear j2 j3 hw1 hR1;go_wp2_with fail
   go_cut [12] (fun s12 wx=>∃ gb vb,s12=.pointer (some ⟨gb,0,none⟩)∧w2.heap.size≤gb∧w2.heap.size≤vb∧Below w2.heap.size w2 wx∧wx.heap[gb]?=some (.cells #[.pointer (some ⟨db,0,none⟩),.pointer (some ⟨b1,0,none⟩),.pointer (some ⟨b2,0,none⟩),S D.proof,.int .i64 (kind:Int),.slice none 0 0,.int .i64 0,.slice (some ⟨vb,0,none⟩) 8 8] 87 (0,0))∧wx.heap[vb]?=some (.cells #[.int .i64 0,.int .i64 0,.int .i64 0,.int .i64 0,.int .i64 0,.int .i64 0,.int .i64 0,.int .i64 0] 3 (0,0)))
   case first=>
    clear hD hF HPR HRQ hP hR hGA hGA2 hB1 hb1 hb2 hb2' hw htg hsb hfr hls hPr hi1 hz10 hz11 hz12 h4f k1 k3 hw2
    go_region
    all_goals
     go_wp2_with fail
     go_meet
     exact ⟨w2.heap.size + 1,w2.heap.size,rfl,Nat.le_succ _,Nat.le_refl _,((((Below.refl _ _).alloc (Nat.le_refl _) _).alloc (by simp) _)).drew,zP (by simp),(heap_alloc_old _ _ (by simp)).trans (heap_alloc_new _ _)⟩
   case rest=>
   obtain ⟨gb,vb,rfl,hgb,hvb,hb3,hgB,hvB⟩:=hcut;have hB3:Below w.heap.size w wc:=hB2.trans (hb3.mono hB2.size);have hwc:=hw.later hB3;have lbw:=zB hwc;have n4:wc.cell? ⟨bw,4,none⟩=some (.slice a4 D.gs.length c4):=(by rw [zC hwc];exact congrArg some h4f);have ho4:=zO hD.o4 hB3;obtain ⟨bs,hpure,hnx⟩:=zPP hPr (by rw [hls];exact zA HRQ) htg hsb gb db b1 b2 vb gv;have HTL:Hid (∀ w4 v',w4.ownsRow (bw + 1) 51 1 v' (D.gs.length + 1) (D.gs.map zIi ++ [.pointer (some ⟨gb,0,none⟩)])→wc.grownBy w4 (Value.slice a4 D.gs.length c4).ownBlock→(v'.ownBlock=(Value.slice a4 D.gs.length c4).ownBlock∨∃ k,v'.ownBlock=some k∧wc.heap.size≤k)→
    (w4.setCell ⟨bw,4,none⟩ v').heap[gb]?=some (.cells #[.pointer (some ⟨db,0,none⟩),.pointer (some ⟨b1,0,none⟩),.pointer (some ⟨b2,0,none⟩),S D.proof,.int .i64 (kind:Int),.slice none 0 0,.int .i64 0,.slice (some ⟨vb,0,none⟩) 8 8] 87 (0,0))∧RefAt 0 (w4.setCell ⟨bw,4,none⟩ v') b2 (zW st)∧
    ∀ w7,Below (w4.setCell ⟨bw,4,none⟩ v').heap.size (w4.setCell ⟨bw,4,none⟩ v') w7→
     DInv bw (w7.setCell ⟨gb,6,none⟩ (.int .i64 ((zBO (zK q0) kind ss).turn:Int))) { D with v4:=v',gs:=D.gs ++ [⟨gb,db,b1,b2,st,q0,D.proof,kind,ss,[],bs,zBO (zK q0) kind ss,gv,.slice none 0 0,vb,vals0⟩],Z:=fun k=>D.Z k∨GZ gv k }∧Below bw w (w7.setCell ⟨gb,6,none⟩ (.int .i64 ((zBO (zK q0) kind ss).turn:Int)))):=zF (fun w4 v' h1 h2 h3=>zNq hD hF hB2 hGA2 hdb hfr hb3 hgb hvb hgB hvB h1 (by rw [h4f];exact h2) (by rw [h4f];exact h3) hpure)
   have HNX:=zF hnx;have HO4:Hid (wc.ownsRow (bw + 1) 51 1 (.slice a4 D.gs.length c4) D.gs.length (D.gs.map zIi)):=zF (by rw [← h4f];exact ho4);have HWC:=zF hwc;have H4F:=zF h4f;have hbs:bw + 1≤wc.heap.size:=lbw;have h4b:(Value.slice a4 D.gs.length c4).ownBlock≠some bw:=fun e=>by have:=((zA HO4).lt _ e).1;omega
   have H4B:=zF h4b;have hnb:=zDR (zK q0).vars (zCp hPr.nice);have HPRR:=zF hPr;clear hD hF HPR HRQ hP hR hGA hGA2 hB1 hb1 hb2 hb2' hB2 hB3 hw htg hsb hfr hls hPr h4f k1 k3 hw2 hwc ho4 hpure hnx hgB hvB hb3 hgb hvb hdb j1 m2 m3 h4b hmk
   go_wp2_with (at_builtin;refine zp rfl (.tmp 79) (.tmp 81) 44 rfl (bw + 1) i1 (.pointer none) 1 8 Tryz.underlying44 hi1 hz10 hz11 hz12 rfl (by decide) _ _ _ (zA HO4) rfl rfl rfl (by simp [Value.oneCell']) (by unfold maxLen;omega) (by omega) hbs ?_;intro v' w4 hown4 hgrow hat;have hw4:=(hgrow.block bw lbw (fun e=>zA H4B e.symm)).trans (zA HWC);have hq4:w4.cell? ⟨bw,4,none⟩=some (.slice a4 D.gs.length c4):=(by rw [zC hw4];exact congrArg some (zA H4F));have hqz:=zD hw4 4;have lb4:=zB hw4;have HT2:=zF (zA HTL w4 v' hown4 hgrow hat);obtain ⟨a5,c5,rfl⟩:=zN hown4)
   obtain ⟨hgb5,hR5,hfin⟩:=zA HT2;have HFIN:=zF hfin;clear hfin HT2 HTL hown4 hgrow hat hw4 hq4 hqz HO4 HWC H4F H4B;generalize w4.setCell ⟨bw,4,none⟩ (.slice a5 (D.gs.length + 1) c5)=w5 at *;have lg5:=zB hgb5;refine (zLB (k:=0) (zA HPRR) hgb5 rfl rfl hR5 hk12 (Nat.zero_le _)).mono ?_;rintro e w7 ⟨rfl,hb7⟩;have hgb7:=(hb7.block _ lg5).trans hgb5;have c76:w7.cell? ⟨gb,6,none⟩=some (.int .i64 0):=zE hgb7 rfl;have z76:=zD hgb7 6;have lg7:=zB hgb7;rw [zA HNX];obtain ⟨hD8,hB8⟩:=zA HFIN w7 hb7;have HD8:=zF hD8;have HB8:=zF hB8;clear hD8 hB8 HFIN HNX;generalize (zBO (zK q0) kind ss).turn=tn at *
   cases ask with
   | true=>
    go_wp2_with fail;refine (zD8 bw D.gs.length gb _ _ (zA HD8) (by simp) (by simp) hn5).mono ?_;intro e w9 hs;obtain ⟨rfl,hfin⟩:=StepD.fin (D:=D) (D2:={ D with v4:=.slice a5 (D.gs.length + 1) c5,gs:=D.gs ++ [⟨gb,db,b1,b2,st,q0,D.proof,kind,ss,[],bs,zBO (zK q0) kind ss,gv,.slice none 0 0,vb,vals0⟩],Z:=fun k=>D.Z k∨GZ gv k }) (zA HB8) rfl rfl (by simp) rfl rfl hs;clear hs;go_wp2_with fail;go_ret;exact hfin
   | false=>
    go_wp2_with fail;go_ret;exact StepD.quiet (zA HB8) (zA HD8) rfl rfl (by simp) rfl rfl
theorem zPi (bw:Nat) (D:DW) (o:OpV) (w:World) (hD:DInv bw w D) (hk:o.kind=7) (hn4:D.gs.length≤1048576) (hn5:D.h5s.length≤1073741824) :
  Calls Tryz.prog 19 #[.pointer (some ⟨bw,0,none⟩),.agg #[.int .i64 o.kind,.int .i64 o.a,.int .i64 o.b,.int .i64 o.c,S o.s,S o.t]] w fun e w'=>StepD bw D (o.s.length + 1) w e w':=by
 have hbw:=zB hD.wat;obtain ⟨kind,a,b,c,s,t⟩:=o;dsimp only at hk ⊢;subst hk;have h1:w.cell? ⟨bw,1,none⟩=some (.pointer D.px):=zE hD.wat rfl;have hbel:Below w.heap.size w (w.alloc (.cells #[.int .i64 7,.int .i64 a,.int .i64 b,.int .i64 c,S s,S t] 29)):=(Below.refl _ _).alloc (Nat.le_refl _) _;have hDA:=hD.later hbel;have HFIN:Hid (∀ e w2,StepD bw D 0 (w.alloc (.cells #[.int .i64 7,.int .i64 a,.int .i64 b,.int .i64 c,S s,S t] 29)) e w2→e=.returned (.bool true)∧StepD bw D (s.length + 1) w (.returned (.bool true)) w2):=zF (fun e w2 h=>by
  have he:=h.ret;subst he;exact ⟨rfl,(h.after (hbel.mono (Nat.le_of_lt hbw))).more (by omega)⟩)
 rcases hDA.form with ⟨hpx,hpf⟩ | ⟨b1,b2,st,q0,hpx,hpf,hF,hSm,h24,hN,_⟩
 ·rw [hpx] at h1;have HQ:Hid (StepD bw D (s.length + 1) w (.returned (.bool true)) (w.alloc (.cells #[.int .i64 7,.int .i64 a,.int .i64 b,.int .i64 c,S s,S t] 29))):=zF ((StepD.quiet (hbel.mono (Nat.le_of_lt hbw)) hDA rfl rfl (by omega) rfl rfl).more (by omega))
  go_enter Tryz.func19,Tryz.ntmps19
  go_wp2_with fail;go_ret;exact zA HQ
 ·rw [hpx] at h1;have hPr:Pair st q0:=⟨hSm,h24,hN⟩;have HOP:Hid (∀ ask,Calls Tryz.prog 34 #[.pointer (some ⟨bw,0,none⟩),.bool ask] (w.alloc (.cells #[.int .i64 7,.int .i64 a,.int .i64 b,.int .i64 c,S s,S t] 29)) fun e w'=>StepD bw D 0 (w.alloc (.cells #[.int .i64 7,.int .i64 a,.int .i64 b,.int .i64 c,S s,S t] 29)) e w'):=zF (fun ask=>by
   cases hpr:zw (zW st) D.proof with
   | inl xi=>exact zNd bw b1 b2 st q0 D ask xi.1 xi.2 _ hDA hpx hpf hPr hF.now.1 hF.now.2 hpr
   | inr tt=>exact zMg bw b1 b2 st q0 D ask tt.1 tt.2 _ _ hDA hpx hpf hPr hF hpr rfl hn5 (by omega))
  clear hDA hF hSm h24 hN hPr hD hbel
  go_enter Tryz.func19,Tryz.ntmps19
  go_wp2_with fail;refine (zA HOP _).mono ?_;intro e w2 hs;obtain ⟨rfl,hfin⟩:=zA HFIN _ _ hs;clear hs;go_wp2_with fail;go_ret;exact hfin
def zNs (R:World→Prop) (P:Int→Bool):Prop:=∀ (bw:Nat) (D:DW) (o:OpV) (w:World),R w→DInv bw w D→P o.kind=true→o.Ok→D.proof.length≤1048576→D.text.length≤1048576→o.s.length≤1048576→D.gs.length≤1048576→D.h5s.length≤1048576000→D.h6s.length≤1073741823→
 Calls Tryz.prog 19 #[.pointer (some ⟨bw,0,none⟩),.agg #[.int .i64 o.kind,.int .i64 o.a,.int .i64 o.b,.int .i64 o.c,S o.s,S o.t]] w fun e w'=>StepD bw D (o.s.length + 1) w e w'
theorem zMc (w:World):DInv w.heap.size (w.alloc (.cells #[S [],.pointer none,.pointer none,S [],.slice none 0 0,.slice none 0 0,.slice none 0 0] 48)) ⟨[],[],none,none,.slice none 0 0,.slice none 0 0,.slice none 0 0,[],[],[],fun _=>False⟩:=
 ⟨heap_alloc_new _ _,World.ownsRow_nil _ _ _ _,World.ownsRow_nil _ _ _ _,World.ownsRow_nil _ _ _ _,(fun k h=>h.elim),Or.inl ⟨rfl,rfl⟩,(fun _ _ _ _ i hi=>by simp at hi),(fun _ _ _ _ i hi=>by simp at hi),(fun k h=>by cases h),(fun k h=>by cases h),(fun k h=>by cases h),(fun G h=>by simp at h),(fun G h=>by simp at h),(fun i j hi=>by simp at hi)⟩
theorem zSo (R:World→Prop) (P:Int→Bool) (hst:zNs R P) (base:Nat) (ops:List OpV) (v:Value) (w:World) (hown:w.ownsRow base 29 6 v ops.length (zDX ops)) (hall:∀ o∈ops,P o.kind=true∧o.Ok) (hsz:zDP ops ops.length≤524288) (hln:ops.length≤524288) (hR:∀ wx,Below w.heap.size w wx→R wx) :
  Calls Tryz.prog 14 #[v] w fun e w'=>e=.returned (.int .i64 (-1))∧Below w.heap.size w w':=by
 obtain ⟨aS,cS,rfl⟩:=zN hown;have HRX:=zF hR;clear hR;have HALL:=zF hall;clear hall;have HST:=zF hst;clear hst
 go_enter Tryz.func14,Tryz.ntmps14
 go_wp2_with fail
 go_loopg [4] (ops.length) (fun n i wx=>∃ (k:Nat) (D:DW),i=.int .i64 k∧k + n=ops.length∧DInv w.heap.size wx D∧D.text.length≤zDP ops k∧D.proof.length≤262144 + zDP ops k∧Below w.heap.size w wx∧D.gs.length≤k∧D.h5s.length≤8 * k∧D.h6s.length≤k)
 case atStart=>exact ⟨0,_,rfl,by omega,zMc w,by simp,by simp,(Below.refl _ _).alloc (Nat.le_refl _) _,by simp,by simp,by simp⟩
 case round=>
  obtain ⟨k,D,rfl,hk,hD,htl,hpl,hb,hl4,hl5,hl6⟩:=hrel
  by_cases hlt:k < ops.length
  ·obtain ⟨g,cap,hV,hg,hg',_,hcell⟩:=zS hown (by omega);injection hV with hV _ hV2;subst hV hV2;have hc:∀ j (hj:j < 6) u,ops[k].cells[j]?=some u→wr.cell? ⟨g,k * 6 + j,none⟩=some u:=fun j hj u hu=>by
    rw [hb.cell (p:=⟨g,k * 6 + j,none⟩) hg'];exact hcell _ _ (by rw [zMf ops k j hlt hj];exact hu)
   have hc0:wr.cell? ⟨g,k * 6,none⟩=some (.int .i64 ops[k].kind):=hc 0 (by omega) _ rfl;have hc1:wr.cell? ⟨g,k * 6 + 1,none⟩=some (.int .i64 ops[k].a):=hc 1 (by omega) _ rfl;have hc2:wr.cell? ⟨g,k * 6 + 2,none⟩=some (.int .i64 ops[k].b):=hc 2 (by omega) _ rfl;have hc3:wr.cell? ⟨g,k * 6 + 3,none⟩=some (.int .i64 ops[k].c):=hc 3 (by omega) _ rfl;have hc4:wr.cell? ⟨g,k * 6 + 4,none⟩=some (S ops[k].s):=hc 4 (by omega) _ rfl;have hc5:wr.cell? ⟨g,k * 6 + 5,none⟩=some (S ops[k].t):=hc 5 (by omega) _ rfl;obtain ⟨hbase,hok⟩:=zA HALL _ (List.getElem_mem hlt);have hss:=zMM ops k hlt;have hsl:=zPl ops (k + 1) (by omega);have hl1:ops[k].s.length≤1048576:=(by omega);have HSS:=zF hss;have hsk:zDP ops k≤524288:=(by omega);have HB:=zF hbase;have hmx:max D.proof.length 262144≤262144 + zDP ops k:=(by omega);clear hc hcell hss hbase;generalize ops[k]=o at *;go_wp2_with fail;refine (zA HST w.heap.size D o wr (zA HRX wr hb) hD (zA HB) hok (by omega) (by omega) hl1 (by omega) (by omega) (by omega)).mono ?_;intro e w2 hp;obtain ⟨rfl,hbel,D',hD',ht2,hp2,hg2,h52,h62⟩:=hp;have hb2:Below w.heap.size w w2:=hb.trans hbel;go_wp2_with fail;refine (zPf w.heap.size D'.text D'.px D'.pf D'.proof _ D'.v5 D'.v6 D'.h5s D'.h6s (w.heap.size + 1) (w.heap.size + 1) w2 hD'.wat hD'.o5 hD'.o6 hD'.ls.now hD'.lss.now (by omega) (by omega)).mono ?_;rintro e w3 ⟨rfl,hw3⟩;subst hw3;go_wp2_with fail
   go_roundg (gk - 1)
   case measure=>omega
   case rel=>
    have:=zA HSS
    exact ⟨k + 1,D',by go_num,by omega,hD',by omega,by omega,hb2,by omega,by omega,by omega⟩
  ·have hkl:k=ops.length:=(by omega);subst hkl;obtain ⟨wo,rfl⟩:∃ wo,wo=wr:=⟨_,rfl⟩;obtain ⟨n4,hn4⟩:∃ n,D.gs.length=n:=⟨_,rfl⟩;have HN4:=zF hn4;obtain ⟨a4,c4,hf,h4⟩:=hD.v4f;rw [hn4] at h4 hl4;clear hn4;go_wp2_with fail
   go_loopg [6] n4 (fun m i wx=>∃ (j:Nat) (D:DW),i=.int .i64 j∧j + m=n4∧D.gs.length=n4∧DInv w.heap.size wx D∧D.h5s.length≤8 * ops.length + j∧Below w.heap.size w wx)
   case atStart=>exact ⟨0,D,rfl,by omega,zA HN4,hD,by omega,hb⟩
   case round=>
    obtain ⟨j,E,rfl,hj,hEn,hE,hE5,hbe⟩:=hrel;have HEN:=zF hEn;obtain ⟨a5,c5,hf5,h45⟩:=hE.v4f;rw [hEn] at h45;have lbw:=zB hE.wat
    by_cases hjl:j < n4
    ·have hjE:j < E.gs.length:=(by omega);obtain ⟨g,rfl,hg,hcell⟩:=hE.gat hf5 hjE;clear hEn hf5;go_wp2_with fail;refine (zD8 w.heap.size j _ E wr hE hjE rfl (by omega)).mono ?_;intro e w2 hs;obtain ⟨rfl,hb2,D',hD',e1,e2,e3,e4,e5,_⟩:=zOL hs hjE;clear hs;have hB2:=hbe.trans hb2;have HE3:Hid (D'.gs.length=n4):=zF (by rw [e3];exact zA HEN);have h5':D'.h5s.length≤8 * ops.length + (j + 1):=(by omega);clear e1 e2 e3 e4 e5;go_wp2_with fail
     go_roundg (gk - 1)
     case measure=>omega
     case rel=>exact ⟨j + 1,D',by go_num,by omega,zA HE3,hD',h5',hB2⟩
    ·have hje:j=n4:=(by omega);clear hEn hf5;subst hje;go_wp2_with fail;go_ret;exact ⟨rfl,hbe⟩
def zNx (k:Int):Bool:=zGj k || zJj k || k == 7
theorem zJx:zNs (fun _=>True) zNx:=by
 intro bw D o w _ hD hk hok hpl htl hsl hn4 hn5 hn6;unfold zNx at hk;simp only [Bool.or_eq_true] at hk
 rcases hk with (hk | hk) | hk
 ·exact zNP bw D o w hD hk hok hpl htl hsl
 ·by_cases h0:D.gs=[]
  ·exact zLq bw D o w hD hk h0
  ·exact zOU bw D o w hD hk (List.length_pos_iff.2 h0) hok hn4 (by omega)
 ·exact zPi bw D o w hD (by simpa using hk) hn4 (by omega)
end Go.Proofs.YtgipjjhkhfihpaaGreatDoor
