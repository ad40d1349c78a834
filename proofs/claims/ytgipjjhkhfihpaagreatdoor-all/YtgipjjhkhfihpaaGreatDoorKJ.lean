import Derived.Test.YtgipjjhkhfihpaaGreatDoorKG
import Derived.Test.YtgipjjhkhfihpaaGreatDoorKB
import Derived.Test.YtgipjjhkhfihpaaGreatDoorKF
set_option maxRecDepth 100000
set_option maxHeartbeats 6400000
namespace Go.Proofs.YtgipjjhkhfihpaaGreatDoor
open Go.RowKit
def ze (ss:List Stp):List (Nat × Nat):=ss.map (·.lits)
structure PInv (w:World) (b:Nat) (q:QS) (kind:Nat) (ss:List Stp) (vV vC vS:Value):Prop where
 fb:w.heap[b]?=some (.cells #[vV,vC,.int .i64 kind,vS] 105 (0,0))
 oV:w.ownsRow 0 139 2 vV q.vars.length (zd q.vars)
 oC:w.ownsRow 0 74 2 vC q.cl.length (zAK q.cl)
 oS:w.ownsRow (b + 1) 134 6 vS ss.length (zAk ss)
 lV:∀ k,vV.ownBlock=some k→k < b
 lC:∀ k,vC.ownBlock=some k→k < b
theorem PInv.later {w w':World} {b:Nat} {q:QS} {kind:Nat} {ss:List Stp} {vV vC vS:Value} (h:PInv w b q kind ss vV vC vS) (hb:Below w.heap.size w w'):PInv w' b q kind ss vV vC vS:=
 ⟨(hb.block b (zB h.fb)).trans h.fb,zO h.oV hb,zO h.oC hb,zO h.oS hb,h.lV,h.lC⟩
structure SBs (ss:List Stp):Prop where
 len:ss.length≤9000
 bits:∀ s∈ss,s.lits.1 < 512∧s.lits.2 < 512
def zDA (ss:List (Nat × Nat)) (w:List UInt8):Option (Nat × Nat):=(zl w ss.length).bind (fun n=>ss[n - 1]?)
theorem zCN {l:List UInt8} {most n:Nat} (h:zl l most=some n):1≤n∧n≤most:=by
 unfold zl at h
 split at h
 ·cases h
 ·next hc=>
  simp only [not_or] at hc;obtain ⟨h1,h2,h3,h4⟩:=hc;simp at h;subst h;refine ⟨?_,by omega⟩
  match l,h1 with
  | c :: r,_=>
   have h3':(c :: r).all zAU=true:=(by simpa using h3);have hd:zAU c=true:=(by simp at h3';exact h3'.1);have hd':48≤c.toNat∧c.toNat≤57:=of_decide_eq_true hd;have hne:c.toNat≠48:=fun e=>h2 (by simp;apply UInt8.toNat_inj.1;exact e)
   have hm:=zEd (c :: r) 1
   have:dec ((c :: r).take 1)=c.toNat - 48:=by simp [dec]
   omega
theorem zEz (ss:List Stp) (l:List UInt8):zDA (ze ss) l=(zl l ss.length).map (zM ss):=by
 unfold zDA ze;rw [List.length_map]
 cases hn:zl l ss.length with
 | none=>rfl
 | some n=>
  obtain ⟨h1,h2⟩:=zCN hn;obtain ⟨m,rfl⟩:∃ m,n=m + 1:=⟨n - 1,by omega⟩;show (ss.map (·.lits))[m + 1 - 1]?=some (zM ss (m + 1));rw [zBU ss m (by omega),Nat.add_sub_cancel,List.getElem?_map,List.getElem?_eq_getElem (by omega)];rfl
def StPost (G:Stp→Prop) (res:Option (Nat × Nat)) (w:World) (e:Ending) (w':World):Prop:=
 Below w.heap.size w w'∧∃ (s:Stp) (ok:Bool),e=.returned (.tuple #[zCi s,.bool ok])∧(s.lits.1 < 512∧s.lits.2 < 512)∧((ok=true∧res=some s.lits∧G s)∨(ok=false∧res=none))
abbrev S0:Stp:=⟨0,0,0,0,(0,0)⟩
theorem StPost.none_ {G:Stp→Prop} {res:Option (Nat × Nat)} {w w':World} {e:Ending} (hb:Below w.heap.size w w') (h:res=none) (s:Stp) (hc:s.lits.1 < 512∧s.lits.2 < 512) (he:e=.returned (.tuple #[zCi s,.bool false])):StPost G res w e w':=
 ⟨hb,s,false,he,hc,Or.inr ⟨rfl,h⟩⟩
theorem StPost.some_ {G:Stp→Prop} {res:Option (Nat × Nat)} {w w':World} {e:Ending} (hb:Below w.heap.size w w') (s:Stp) (h:res=some s.lits) (hc:s.lits.1 < 512∧s.lits.2 < 512) (he:e=.returned (.tuple #[zCi s,.bool true])) (hg:G s):StPost G res w e w':=
 ⟨hb,s,true,he,hc,Or.inl ⟨rfl,h,hg⟩⟩
def zRA (q:QS) (kind:Nat) (ss:List Stp) (s:Stp):Prop:=s.rule=4∧(1≤s.first∧s.first≤ss.length)∧s.lits=zAR kind q.vars.reverse (zM ss s.first)
def zM8 (s:Stp):Prop:=s.rule≠4
def zC7 (s:Stp):Option Nat:=if s.rule=4 then some s.first else none
def zGC (n:Nat) (ws:List (List UInt8)):Option Nat:=match ws with
 | [h,x]=>if h=[100] then zl x n else none
 | _=>none
theorem zGI {s:Stp} {n:Nat} {hd:List UInt8} {tl:List (List UInt8)} (g:s.rule≠4) (h:hd≠[100]):zC7 s=zGC n (hd :: tl):=by
 unfold zC7 zGC;rw [if_neg g]
 split
 ·next h1=>
  injection h1 with h1 _;subst h1;rw [if_neg h]
 ·rfl
def zKQ (q:QS) (kind:Nat) (ss:List Stp) (ws:List (List UInt8)) (s:Stp):Prop:=zRA q kind ss s∧∃ x,ws=[x]∧zl x ss.length=some s.first
theorem zQW {q:QS} {kind:Nat} {ss:List Stp} {ws:List (List UInt8)} {s:Stp} (h:zKQ q kind ss ws s):zC7 s=zGC ss.length ([100] :: ws):=by
 obtain ⟨⟨h1,_⟩,x,rfl,hx⟩:=h;unfold zC7 zGC;rw [if_pos h1];dsimp only;rw [if_pos rfl,hx]
theorem zBE:((0:Nat),(0:Nat)).1 < 512∧((0:Nat),(0:Nat)).2 < 512:=by decide
theorem zBc {w:World} {b:Nat} {a0 a1 a2 a3 a4 a5:Value} {t:TypeId} (h:w.heap[b]?=some (.cells #[a0,a1,a2,a3,a4,a5] t (0,0))) (v0 v1 v2 v3 v4 v5:Value) :
  ((((((w.setCell ⟨b,0,none⟩ v0).setCell ⟨b,1,none⟩ v1).setCell ⟨b,2,none⟩ v2).setCell ⟨b,3,none⟩ v3).setCell ⟨b,4,none⟩ v4).setCell ⟨b,5,none⟩ v5).heap[b]?=some (.cells #[v0,v1,v2,v3,v4,v5] t (0,0)):=
 zI (zI (zI (zI (zI (zI h 0 v0) 1 v1) 2 v2) 3 v3) 4 v4) 5 v5
theorem zAT {B:Nat} {a w:World} (h:Below B a w) {b:Nat} (hb:B≤b) (v0 v1 v2 v3 v4 v5:Value) :
  Below B a ((((((w.setCell ⟨b,0,none⟩ v0).setCell ⟨b,1,none⟩ v1).setCell ⟨b,2,none⟩ v2).setCell ⟨b,3,none⟩ v3).setCell ⟨b,4,none⟩ v4).setCell ⟨b,5,none⟩ v5):=
 (((((h.setCell (p:=⟨b,0,none⟩) hb v0).setCell (p:=⟨b,1,none⟩) hb v1).setCell (p:=⟨b,2,none⟩) hb v2).setCell (p:=⟨b,3,none⟩) hb v3).setCell (p:=⟨b,4,none⟩) hb v4).setCell (p:=⟨b,5,none⟩) hb v5
theorem zDz (b:Nat) (q:QS) (kind:Nat) (ss:List Stp) (vV vC vS:Value) (l:List UInt8) (w:World) (hP:PInv w b q kind ss vV vC vS) (hS:SBs ss) (hl:l.length≤1048576) :
  Calls Tryz.prog 125 #[.pointer (some ⟨b,0,none⟩),.string ⟨l.toArray⟩] w fun e w'=>e=.returned (.tuple #[.int .i64 ((zl l ss.length).getD 0:Nat),.bool (zl l ss.length).isSome])∧w'=w:=by
 obtain ⟨aS,cS,rfl⟩:=zN hP.oS;have hbw:=zB hP.fb;have hsl:=hS.len;have k3:w.cell? ⟨b,3,none⟩=some (.slice aS ss.length cS):=zE hP.fb rfl
 go_enter Tryz.func125,Tryz.ntmps125
 go_wp2_with fail;refine (zGH l ss.length _ hl (by omega)).mono ?_;rintro e w1 ⟨hw1,rfl⟩;subst hw1;go_wp2_with fail;go_ret2;exact ⟨rfl,rfl⟩
def zDJ (q:QS) (kind:Nat) (ss:List (Nat × Nat)) (ws:List (List UInt8)):Option (Nat × Nat):=
 match ws with
 | [x]=>(zDA ss x).map (zAR kind q.vars.reverse)
 | _=>none
theorem zIN (b:Nat) (q:QS) (kind:Nat) (ss:List Stp) (vV vC vS:Value) (ws:List (List UInt8)) (ao:Option Addr) (cap:Nat) (w:World) (hP:PInv w b q kind ss vV vC vS) (hQ:QB q) (hS:SBs ss)
  (hs:StrsAt w ao ws) (hl:ws.length≤1048576) (hws:∀ x∈ws,x.length≤1048576) :
  Calls Tryz.prog 103 #[.pointer (some ⟨b,0,none⟩),.slice ao ws.length cap] w fun e w'=>StPost (zKQ q kind ss ws) (zDJ q kind (ze ss) ws) w e w':=by
 by_cases h1:ws.length=1
 ·obtain ⟨x,rfl⟩:=List.length_eq_one_iff.1 h1;clear h1;obtain ⟨g,off,cur,rfl,hg,hcur⟩:=hs (by simp);have hxc:w.cell? ⟨g,off,none⟩=some (S x):=(by rw [zC hg];exact hcur 0 (by simp));have hgw:=zB hg;have hxl:=hws x (by simp);clear hcur hws;obtain ⟨aV,cV,hVf⟩:=zN hP.oV;obtain ⟨aC,cC,hCf⟩:=zN hP.oC;have HR:Hid (zDJ q kind (ze ss) [x]=((zl x ss.length).map (zM ss)).map (zAR kind q.vars.reverse)):=zF (by show (zDA (ze ss) x).map _=_;rw [zEz])
  go_enter Tryz.func103,Tryz.ntmps103
  go_wp2_with fail;generalize hw0:(w.alloc (.cells #[.int .i64 0,.int .i64 0,.int .i64 0,.int .i64 0,.int .i64 0,.int .i64 0] 134))=u1;have hB:Below w.heap.size w u1:=(by rw [← hw0];exact (Below.refl _ _).alloc (Nat.le_refl _) _);have hrs:u1.heap[w.heap.size]?=some (.cells #[.int .i64 0,.int .i64 0,.int .i64 0,.int .i64 0,.int .i64 0,.int .i64 0] 134 (0,0)):=(by rw [← hw0];exact zP (by simp));clear hw0;obtain ⟨crs0,crs1,crs2,crs3,crs4,crs5⟩:=zAH hrs;have lrs:=zB hrs;have hP1:=hP.later hB;refine (zDz b q kind ss vV vC vS x _ hP1 hS hxl).mono ?_;rintro e w2 ⟨rfl,hw2⟩;subst hw2;have hnb:(zl x ss.length).getD 0≤9000:=by
   cases hn:zl x ss.length with
   | none=>simp
   | some n=>have:=zCN hn;have:=hS.len;simp;omega
  have HC:Hid ((zl x ss.length).isSome=true→zl x ss.length=some ((zl x ss.length).getD 0)):=zF (by
   cases zl x ss.length with
   | none=>intro h;cases h
   | some c=>intro _;rfl)
  have HN:Hid ((zl x ss.length).isSome=false→zl x ss.length=none):=zF (by
   cases zl x ss.length with
   | none=>intro _;rfl
   | some c=>intro h;cases h)
  generalize (zl x ss.length).getD 0=i at *;generalize (zl x ss.length).isSome=ok at *;have hla:=zAX ss hS.bits i;have c3:w2.cell? ⟨b,3,none⟩=some vS:=zE hP1.fb rfl;have hsl:=hS.len;go_wp2_with fail;refine (zBW (b + 1) b 2 ss vS i _ c3 hP1.oS (by omega)).mono ?_;rintro e u2 ⟨rfl,b2⟩;replace hB:=hB.trans (b2.mono hB.size);replace hrs:=zH b2 hrs;clear crs0 crs1 crs2 crs3 crs4 crs5;obtain ⟨crs0,crs1,crs2,crs3,crs4,crs5⟩:=zAH hrs;replace lrs:=zB hrs;replace hP1:=hP1.later b2;have HL:Hid (∀ ok',ok'=ok→ok'=true→zDJ q kind (ze ss) [x]=some (zAR kind q.vars.reverse (zM ss i))):=zF (fun ok' e h=>by rw [zA HR,zA HC (by rw [← e];exact h)];rfl);have HLN:Hid (∀ ok',ok'=ok→ok'=false→zDJ q kind (ze ss) [x]=none):=zF (fun ok' e h=>by rw [zA HR,zA HN (by rw [← e];exact h)];rfl);have HT:Hid (∀ ok',ok'=ok→ok'=true→zKQ q kind ss [x] ⟨4,i,0,0,zAR kind q.vars.reverse (zM ss i)⟩):=zF (fun ok' e h=>⟨⟨rfl,zCN (zA HC (by rw [← e];exact h)),rfl⟩,x,rfl,zA HC (by rw [← e];exact h)⟩);generalize hea:zM ss i=c at *;clear hea;obtain ⟨p,n⟩:=c;go_wp2_with fail;generalize hw0:u2.alloc (.cells #[.int .i64 (p:Int),.int .i64 (n:Int)] 74)=u3;have b3:Below u2.heap.size u2 u3:=(by rw [← hw0];exact (Below.refl _ _).alloc (Nat.le_refl _) _);have hwh:u3.heap[u2.heap.size]?=some (.cells #[.int .i64 (p:Int),.int .i64 (n:Int)] 74 (0,0)):=(by rw [← hw0];exact heap_alloc_new _ _);clear hw0;replace hB:=hB.trans (b3.mono hB.size);replace hrs:=zH b3 hrs;clear crs0 crs1 crs2 crs3 crs4 crs5;obtain ⟨crs0,crs1,crs2,crs3,crs4,crs5⟩:=zAH hrs;replace lrs:=zB hrs;replace hP1:=hP1.later b3;obtain ⟨cwh0,cwh1⟩:=zJ hwh;have lwh:=zB hwh;have q0:u3.cell? ⟨b,0,none⟩=some (.slice aV q.vars.length cV):=(by rw [zC hP1.fb];exact congrArg some hVf);have q1:u3.cell? ⟨b,1,none⟩=some (.slice aC q.cl.length cC):=(by rw [zC hP1.fb];exact congrArg some hCf);have hoV:u3.ownsRow 0 139 2 (.slice aV q.vars.length cV) q.vars.length (zd q.vars):=(by rw [← hVf];exact hP1.oV);have hb1:=zB hP1.fb;have hu9:Below u3.heap.size u3 u3.drew:=(Below.refl _ u3).drew;have hlr:=zH3 kind q.vars.reverse (p,n) hla
  go_region_with (go_at_call 128;refine (zGQ 0 b 2 q kind _ (.slice aC q.cl.length cC) (p,n) _ (by rw [zC (hP1.later hu9).fb];rfl) (zO hoV hu9) hQ hla ⟨_,_,_,rfl⟩).mono ?_;rintro e w9 ⟨rfl,hb9⟩;have hB9:Below w.heap.size w w9:=hB.drew.trans (hb9.mono hB.size);have hr9:=zH hb9 hrs;have r90:w9.cell? ⟨w.heap.size,0,none⟩=some (.int .i64 0):=(by rw [zC hr9];rfl);have r91:w9.cell? ⟨w.heap.size,1,none⟩=some (.int .i64 0):=(by rw [zC hr9];rfl);have r92:w9.cell? ⟨w.heap.size,2,none⟩=some (.int .i64 0):=(by rw [zC hr9];rfl);have r93:w9.cell? ⟨w.heap.size,3,none⟩=some (.int .i64 0):=(by rw [zC hr9];rfl);have r94:w9.cell? ⟨w.heap.size,4,none⟩=some (.int .i64 0):=(by rw [zC hr9];rfl);have r95:w9.cell? ⟨w.heap.size,5,none⟩=some (.int .i64 0):=(by rw [zC hr9];rfl);have z90:=zD hr9 0;have z91:=zD hr9 1;have z92:=zD hr9 2;have z93:=zD hr9 3;have z94:=zD hr9 4;have z95:=zD hr9 5;have l9:=zB hr9)
  all_goals
   generalize hea:zAR kind q.vars.reverse (p,n)=c at *;clear hea;obtain ⟨d1,d2⟩:=c;have hR:=zBc hr9 (.int .i64 4) (.int .i64 (i:Int)) (.int .i64 0) (.int .i64 0) (.int .i64 (d1:Int)) (.int .i64 (d2:Int));have j0:=zC hR 0;have j1:=zC hR 1;have j2:=zC hR 2;have j3:=zC hR 3;have j4:=zC hR 4;have j5:=zC hR 5
   cases ok with
   | true=>
    have HF:=zF (zA HL true rfl rfl);have HG:=zF (zA HT true rfl rfl);clear HL HLN HC HN HT;go_wp2_with fail;refine bodyPost_ret (v:=.tuple #[zCi ⟨4,i,0,0,(d1,d2)⟩,.bool true]) (by simp [results,Tryz.results103,go_sem,j0,j1,j2,j3,j4,j5]) rfl (StPost.some_ ?_ ⟨4,i,0,0,(d1,d2)⟩ (zA HF) hlr rfl (zA HG));exact zAT hB9 (Nat.le_refl _) _ _ _ _ _ _
   | false=>
    have HF:=zF (zA HLN false rfl rfl);clear HL HLN HC HN HT;go_wp2_with fail;refine bodyPost_ret (v:=.tuple #[zCi ⟨4,i,0,0,(d1,d2)⟩,.bool false]) (by simp [results,Tryz.results103,go_sem,j0,j1,j2,j3,j4,j5]) rfl (StPost.none_ ?_ (zA HF) ⟨4,i,0,0,(d1,d2)⟩ hlr rfl);exact zAT hB9 (Nat.le_refl _) _ _ _ _ _ _
 ·have HR:Hid (zDJ q kind (ze ss) ws=none):=zF (by
   unfold zDJ;split
   ·simp at h1
   ·rfl)
  have hb1:((ws.length:Int) != 1)=true:=(by rw [bne_iff_ne];omega);clear h1
  go_enter Tryz.func103,Tryz.ntmps103
  go_wp2_with fail;refine bodyPost_ret (v:=.tuple #[zCi S0,.bool false]) (by simp [results,Tryz.results103,go_sem]) rfl (StPost.none_ ?_ (zA HR) S0 zBE rfl);exact (Below.refl _ _).alloc (Nat.le_refl _) _
theorem zMN (l:List UInt8) (most:Nat) (w:World) (hl:l.length≤1048576) (hm:most≤1048576) :
  Calls Tryz.prog 123 #[.string ⟨l.toArray⟩,.int .i64 most] w fun e w'=>e=.returned (.tuple #[.int .i64 ((zl l most).getD 0:Nat),.bool (zl l most).isSome])∧w'=w:=
 (zGH l most w hl hm).mono fun _ _ h=>⟨h.2,h.1⟩
def zCb (q:QS) (kind:Nat) (ws:List (List UInt8)):Option (Nat × Nat):=
 if kind=1 then
  match ws with
  | [x]=>(zl x q.cl.length).bind (fun k=>(q.cl[k - 1]?).bind (fun c=>if c.1 &&& c.2 != 0 then none else some c))
  | _=>none
 else none
theorem zJI (b:Nat) (q:QS) (kind:Nat) (ss:List Stp) (vV vC vS:Value) (ws:List (List UInt8)) (ao:Option Addr) (cap:Nat) (w:World) (hP:PInv w b q kind ss vV vC vS) (hQ:QB q)
  (hs:StrsAt w ao ws) (hl:ws.length≤1048576) (hws:∀ x∈ws,x.length≤1048576) :
  Calls Tryz.prog 100 #[.pointer (some ⟨b,0,none⟩),.slice ao ws.length cap] w fun e w'=>StPost zM8 (zCb q kind ws) w e w':=by
 have hbw:=zB hP.fb;have k2:w.cell? ⟨b,2,none⟩=some (.int .i64 kind):=zE hP.fb rfl;have hcl:=hQ.cl
 by_cases hk:kind=1
 ·have hkb:((kind:Int) != 1)=false:=by rw [bne_eq_false_iff_eq];omega
  by_cases h1:ws.length=1
  ·obtain ⟨x,rfl⟩:=List.length_eq_one_iff.1 h1;clear h1;have HR:Hid (zCb q kind [x]=(zl x q.cl.length).bind (fun k=>(q.cl[k - 1]?).bind (fun c=>if c.1 &&& c.2 != 0 then none else some c))):=zF (by unfold zCb;rw [if_pos hk]);clear hk;obtain ⟨g,off,cur,rfl,hg,hcur⟩:=hs (by simp);have hxc:w.cell? ⟨g,off,none⟩=some (S x):=(by rw [zC hg];exact hcur 0 (by simp));have hgw:=zB hg;have hxl:=hws x (by simp);clear hcur hws;obtain ⟨aC,cC,rfl⟩:=zN hP.oC;have k1:w.cell? ⟨b,1,none⟩=some (.slice aC q.cl.length cC):=zE hP.fb rfl;have hrs:=heap_alloc_new w (.cells #[.int .i64 0,.int .i64 0,.int .i64 0,.int .i64 0,.int .i64 0,.int .i64 0] 134);have hA0:Below w.heap.size w (w.alloc (.cells #[.int .i64 0,.int .i64 0,.int .i64 0,.int .i64 0,.int .i64 0,.int .i64 0] 134)):=(Below.refl _ _).alloc (Nat.le_refl _) _
   go_enter Tryz.func100,Tryz.ntmps100
   go_wp2_with fail
   go_quiet ((go_at_call 123;exact Calls.quiet_of_same (zMN x q.cl.length _ hxl (by omega))))
   cases hn:zl x q.cl.length with
   | none=>
    have HF:Hid (zCb q kind [x]=none):=zF (by rw [zA HR,hn];rfl);go_wp2_with fail;refine bodyPost_ret (v:=.tuple #[zCi S0,.bool false]) (by simp [results,Tryz.results100,go_sem]) rfl (StPost.none_ ?_ (zA HF) S0 zBE rfl);exact zAT (below_drewN hA0 nq) (Nat.le_refl _) _ _ _ _ _ _
   | some n=>
    obtain ⟨hn1,hn2⟩:=zCN hn;obtain ⟨m,rfl⟩:∃ m,n=m + 1:=⟨n - 1,by omega⟩;have hm:m < q.cl.length:=(by omega);have HF:Hid (zCb q kind [x]=if q.cl[m].1 &&& q.cl[m].2 != 0 then none else some q.cl[m]):=zF (by rw [zA HR,hn];simp [hm]);obtain ⟨g2,cap2,hVe,hg2,hg2',_,hcell⟩:=zS hP.oC (by omega);injection hVe with hVe _ hV2;subst hVe hV2;obtain ⟨ha,hb'⟩:=zAc q.cl m hm;have hx0:w.cell? ⟨g2,m * 2,none⟩=some (.int .i64 (q.cl[m].1:Int)):=hcell _ _ ha;have hx1:w.cell? ⟨g2,m * 2 + 1,none⟩=some (.int .i64 (q.cl[m].2:Int)):=hcell _ _ hb';have hlt:=hQ.bits _ (List.getElem_mem hm);clear hcell ha hb' hn;generalize q.cl[m]=c at *;obtain ⟨p,n⟩:=c;dsimp only at *;go_wp2_with fail;have hz1:(((w.alloc (.cells #[.int .i64 0,.int .i64 0,.int .i64 0,.int .i64 0,.int .i64 0,.int .i64 0] 134)).drewN nq).alloc (.cells #[.int .i64 (p:Int),.int .i64 (n:Int)] 74)).heap[w.heap.size]?=some (.cells #[.int .i64 0,.int .i64 0,.int .i64 0,.int .i64 0,.int .i64 0,.int .i64 0] 134 (0,0)):=by
     rw [heap_alloc_old _ _ (by rw [World.heap_drewN];simp),World.heap_drewN];exact hrs
    have hz2:(((w.alloc (.cells #[.int .i64 0,.int .i64 0,.int .i64 0,.int .i64 0,.int .i64 0,.int .i64 0] 134)).drewN nq).alloc (.cells #[.int .i64 (p:Int),.int .i64 (n:Int)] 74)).heap[w.heap.size + 1]?=some (.cells #[.int .i64 (p:Int),.int .i64 (n:Int)] 74 (0,0)):=zP (by rw [World.heap_drewN];simp);have hz3:Below w.heap.size w (((w.alloc (.cells #[.int .i64 0,.int .i64 0,.int .i64 0,.int .i64 0,.int .i64 0,.int .i64 0] 134)).drewN nq).alloc (.cells #[.int .i64 (p:Int),.int .i64 (n:Int)] 74)):=(below_drewN hA0 nq).alloc (by rw [World.heap_drewN];simp) _;generalize (((w.alloc (.cells #[.int .i64 0,.int .i64 0,.int .i64 0,.int .i64 0,.int .i64 0,.int .i64 0] 134)).drewN nq).alloc (.cells #[.int .i64 (p:Int),.int .i64 (n:Int)] 74))=wz at *;obtain ⟨i0,i1⟩:=zJ hz2
    go_region_with (go_at_call 124;refine (zEE p n _ hlt.1 hlt.2).mono ?_;rintro e w1 ⟨rfl,hb1⟩;have hy1:=zH hb1 hz1;have hy2:=zH hb1 hz2;have r90:w1.cell? ⟨w.heap.size,0,none⟩=some (.int .i64 0):=(by rw [zC hy1];rfl);have r91:w1.cell? ⟨w.heap.size,1,none⟩=some (.int .i64 0):=(by rw [zC hy1];rfl);have r92:w1.cell? ⟨w.heap.size,2,none⟩=some (.int .i64 0):=(by rw [zC hy1];rfl);have r93:w1.cell? ⟨w.heap.size,3,none⟩=some (.int .i64 0):=(by rw [zC hy1];rfl);have r94:w1.cell? ⟨w.heap.size,4,none⟩=some (.int .i64 0):=(by rw [zC hy1];rfl);have r95:w1.cell? ⟨w.heap.size,5,none⟩=some (.int .i64 0):=(by rw [zC hy1];rfl);have z90:=zD hy1 0;have z91:=zD hy1 1;have z92:=zD hy1 2;have z93:=zD hy1 3;have z94:=zD hy1 4;have z95:=zD hy1 5;have l9:=zB hy1;have l0:w1.cell? ⟨w.heap.size + 1,0,none⟩=some (.int .i64 p):=(by rw [zC hy2];rfl);have l1:w1.cell? ⟨w.heap.size + 1,1,none⟩=some (.int .i64 n):=(by rw [zC hy2];rfl);have hbz:Below w.heap.size w w1:=hz3.drew.trans (hb1.mono hz3.size))
    all_goals go_wp2_with fail
    all_goals
     have hR:=zBc hy1 (.int .i64 1) (.int .i64 ((m:Int) + 1)) (.int .i64 0) (.int .i64 0) (.int .i64 (p:Int)) (.int .i64 (n:Int));have j0:=zC hR 0;have j1:=zC hR 1;have j2:=zC hR 2;have j3:=zC hR 3;have j4:=zC hR 4;have j5:=zC hR 5;refine bodyPost_ret (v:=.tuple #[zCi ⟨1,m + 1,0,0,(p,n)⟩,.bool (!(p &&& n != 0))]) (by simp [results,Tryz.results100,go_sem,j0,j1,j2,j3,j4,j5]) rfl ?_;have hB:=zAT hbz (Nat.le_refl w.heap.size) (.int .i64 1) (.int .i64 ((m:Int) + 1)) (.int .i64 0) (.int .i64 0) (.int .i64 (p:Int)) (.int .i64 (n:Int))
     cases hcl:(p &&& n != 0) with
     | true=>exact StPost.none_ hB (by rw [zA HF,hcl];rfl) ⟨1,m + 1,0,0,(p,n)⟩ hlt rfl
     | false=>exact StPost.some_ hB ⟨1,m + 1,0,0,(p,n)⟩ (by rw [zA HF,hcl];rfl) hlt rfl (show (1:Nat)≠4 by decide)
  ·have HR:Hid (zCb q kind ws=none):=zF (by
    unfold zCb;rw [if_pos hk];split
    ·simp at h1
    ·rfl)
   have hb1:((ws.length:Int) != 1)=true:=(by rw [bne_iff_ne];omega);clear h1 hk
   go_enter Tryz.func100,Tryz.ntmps100
   go_wp2_with fail;refine bodyPost_ret (v:=.tuple #[zCi S0,.bool false]) (by simp [results,Tryz.results100,go_sem]) rfl (StPost.none_ ?_ (zA HR) S0 zBE rfl);exact (Below.refl _ _).alloc (Nat.le_refl _) _
 ·have HR:Hid (zCb q kind ws=none):=zF (by unfold zCb;rw [if_neg hk]);have hb1:((kind:Int) != 1)=true:=(by rw [bne_iff_ne];omega);clear hk
  go_enter Tryz.func100,Tryz.ntmps100
  go_wp2_with fail;refine bodyPost_ret (v:=.tuple #[zCi S0,.bool false]) (by simp [results,Tryz.results100,go_sem]) rfl (StPost.none_ ?_ (zA HR) S0 zBE rfl);exact (Below.refl _ _).alloc (Nat.le_refl _) _
def zGE (q:QS) (kind:Nat) (l:List UInt8):Option Nat:=
 if 0 < dig l then (zBY q.vars (dig l).toNat).bind (fun x=>if zAl kind x.2 then some (dig l).toNat else none) else none
def zR2 (res:Option Nat) (w:World) (e:Ending) (w':World):Prop:=
 Below w.heap.size w w'∧∃ (n:Nat) (ok:Bool),e=.returned (.tuple #[.int .i64 n,.bool ok])∧n≤8∧((ok=true∧res=some n∧1≤n)∨(ok=false∧res=none))
theorem zJJ (b:Nat) (q:QS) (kind:Nat) (ss:List Stp) (vV vC vS:Value) (l:List UInt8) (w:World) (hP:PInv w b q kind ss vV vC vS) (hQ:QB q) (hl:l.length≤1048576) :
  Calls Tryz.prog 126 #[.pointer (some ⟨b,0,none⟩),.string ⟨l.toArray⟩] w fun e w'=>zR2 (zGE q kind l) w e w':=by
 have hbw:=zB hP.fb;have hvl:=hQ.vl;have k0:w.cell? ⟨b,0,none⟩=some vV:=zE hP.fb rfl;obtain ⟨d0,d1⟩:=zB3 l;obtain ⟨dn,hdn⟩:=Int.eq_ofNat_of_zero_le d0;have HR:Hid (zGE q kind l=if 0 < dn then (zBY q.vars dn).bind (fun x=>if zAl kind x.2 then some dn else none) else none):=zF (by
  unfold zGE;rw [hdn];simp)
 go_enter Tryz.func126,Tryz.ntmps126
 go_wp2_with fail;refine (zC4 l w hl).mono ?_;rintro e w1 ⟨hw1,rfl⟩;subst hw1;rw [hdn];have hdn8:dn≤8:=(by omega);clear hdn d0 d1
 by_cases hz:dn=0
 ·have hdz:decide (0 < dn)=false:=(by simp;omega);have HF:Hid (zGE q kind l=none):=zF (by rw [zA HR,if_neg (by omega)]);clear hz;go_wp2_with fail;go_ret2;exact ⟨Below.refl _ _,0,false,rfl,by omega,Or.inr ⟨rfl,zA HF⟩⟩
 ·have hdz:decide (0 < dn)=true:=(by simp;omega);have h1:1≤dn:=(by omega);have HF:Hid (zGE q kind l=(zBY q.vars dn).bind (fun x=>if zAl kind x.2 then some dn else none)):=zF (by rw [zA HR,if_pos (by omega)]);clear hz;go_wp2_with fail;refine (zFQ 0 b q.vars vV dn w1 k0 hP.oV (by omega)).mono ?_;rintro e w2 ⟨hb2,rfl⟩;have x2:w2.cell? ⟨b,2,none⟩=some (.int .i64 kind):=zE (hP.later hb2).fb rfl;have hbw2:=zAm x2
  cases hfd:zBY q.vars dn with
  | none=>
   rw [hfd] at HF;go_wp2_with fail
   go_quiet (fail)
   go_wp2_with fail;go_ret2;exact ⟨below_drewN (hb2.alloc hb2.size _) nq,dn,false,rfl,hdn8,Or.inr ⟨rfl,zA HF⟩⟩
  | some x=>
   rw [hfd] at HF;obtain ⟨xn,xu⟩:=x;dsimp only [Option.getD_some,Option.isSome_some];have hb2a:Below w1.heap.size w1 (w2.alloc (.cells #[.int .i64 (xn:Int),.bool xu] 139)):=hb2.alloc hb2.size _;have hv2:=heap_alloc_new w2 (.cells #[.int .i64 (xn:Int),.bool xu] 139);go_wp2_with fail;generalize w2.alloc (.cells #[.int .i64 (xn:Int),.bool xu] 139)=w5 at *;obtain ⟨v0,v1⟩:=zJ hv2;have lv:=zB hv2;have hb5:=Nat.lt_of_lt_of_le hbw hb2a.size
   go_region_with (go_at_call 138;refine (zHf b 2 kind xn xu _ (by rw [hb2a.drew.cell (p:=⟨b,2,none⟩) hbw];rw [zC hP.fb];rfl)).mono ?_;rintro e w3 ⟨rfl,hb3⟩;have hb3':Below w1.heap.size w1 w3:=hb2a.drew.trans (hb3.mono hb2a.size))
   all_goals
    cases hpv:zAl kind xu with
    | true=>
     have HG:Hid (zGE q kind l=some dn):=zF (by rw [zA HF];simp [hpv]);go_wp2_with fail;go_ret2;exact ⟨hb3',dn,true,rfl,hdn8,Or.inl ⟨rfl,zA HG,h1⟩⟩
    | false=>
     have HG:Hid (zGE q kind l=none):=zF (by rw [zA HF];simp [hpv]);go_wp2_with fail;go_ret2;exact ⟨hb3',dn,false,rfl,hdn8,Or.inr ⟨rfl,zA HG⟩⟩
def zEX (a b:Nat × Nat) (v:Nat):Option (Nat × Nat):=
 if zj a v=true∧zj b (-(v:Int))=true then (if (zi a b v).1 &&& (zi a b v).2 != 0 then none else some (zi a b v)) else none
def zE9 (q:QS) (kind:Nat) (ss:List (Nat × Nat)) (ws:List (List UInt8)):Option (Nat × Nat):=
 match ws with
 | [x,y,z]=>(zDA ss x).bind fun a=>(zDA ss y).bind fun b=>(zGE q kind z).bind fun v=>zEX a b v
 | _=>none
theorem zIM (v:Nat) (h:v≤8):IntKind.i64.wrap (-(v:Int))=-(v:Int):=by
 have:∀ v:Fin 9,IntKind.i64.wrap (-(v.val:Int))=-(v.val:Int):=by decide
 exact this ⟨v,by omega⟩
theorem zEs {α:Type} (o:Option α) (d:α):(o.isSome=true→o=some (o.getD d))∧(o.isSome=false→o=none):=by
 cases o with
 | none=>exact ⟨fun h=>(by cases h),fun _=>rfl⟩
 | some c=>exact ⟨fun _=>rfl,fun h=>(by cases h)⟩
theorem zG8 {α:Type} {l:List α} (h:l.length=3):∃ x y z,l=[x,y,z]:=by
 match l,h with
 | [x,y,z],_=>exact ⟨x,y,z,rfl⟩
theorem zLj (l:List UInt8) (most:Nat):(zl l most).getD 0≤most:=by
 cases hn:zl l most with
 | none=>simp
 | some n=>have:=zCN hn;simp;omega
theorem zGv (b:Nat) (q:QS) (kind:Nat) (ss:List Stp) (vV vC vS:Value) (ws:List (List UInt8)) (ao:Option Addr) (cap:Nat) (w:World) (hP:PInv w b q kind ss vV vC vS) (hQ:QB q) (hS:SBs ss)
  (hs:StrsAt w ao ws) (hl:ws.length≤1048576) (hws:∀ x∈ws,x.length≤1048576) :
  Calls Tryz.prog 102 #[.pointer (some ⟨b,0,none⟩),.slice ao ws.length cap] w fun e w'=>StPost zM8 (zE9 q kind (ze ss) ws) w e w':=by
 by_cases h3:ws.length=3
 ·obtain ⟨x,y,z,rfl⟩:=zG8 h3;clear h3;obtain ⟨g,off,cur,rfl,hg,hcur⟩:=hs (by simp);have hgw:=zB hg;have hx:w.cell? ⟨g,off,none⟩=some (S x):=(by rw [zC hg];exact hcur 0 (by simp));have hy:w.cell? ⟨g,off + 1,none⟩=some (S y):=(by rw [zC hg];exact hcur 1 (by simp));have hz:w.cell? ⟨g,off + 2,none⟩=some (S z):=(by rw [zC hg];exact hcur 2 (by simp));have hxl:=hws x (by simp);have hyl:=hws y (by simp);have hzl:=hws z (by simp);clear hcur hws;have hsl:=hS.len;have HR:Hid (zE9 q kind (ze ss) [x,y,z]=((zl x ss.length).map (zM ss)).bind fun a=>((zl y ss.length).map (zM ss)).bind fun b=>(zGE q kind z).bind fun v=>zEX a b v):=zF (by show (zDA (ze ss) x).bind _=_;rw [zEz,zEz])
  go_enter Tryz.func102,Tryz.ntmps102
  go_wp2_with fail;generalize hw0:(w.alloc (.cells #[.int .i64 0,.int .i64 0,.int .i64 0,.int .i64 0,.int .i64 0,.int .i64 0] 134))=u1;have hB:Below w.heap.size w u1:=(by rw [← hw0];exact (Below.refl _ _).alloc (Nat.le_refl _) _);have hrs:u1.heap[w.heap.size]?=some (.cells #[.int .i64 0,.int .i64 0,.int .i64 0,.int .i64 0,.int .i64 0,.int .i64 0] 134 (0,0)):=(by rw [← hw0];exact zP (by simp));clear hw0;obtain ⟨crs0,crs1,crs2,crs3,crs4,crs5⟩:=zAH hrs;have lrs:=zB hrs;have hP1:=hP.later hB;have hx':u1.cell? ⟨g,off,none⟩=some (S x):=(by rw [hB.cell (p:=⟨g,off,none⟩) hgw];exact hx);have hy':u1.cell? ⟨g,off + 1,none⟩=some (S y):=(by rw [hB.cell (p:=⟨g,off + 1,none⟩) hgw];exact hy);have hz':u1.cell? ⟨g,off + 2,none⟩=some (S z):=(by rw [hB.cell (p:=⟨g,off + 2,none⟩) hgw];exact hz);have hgw':g < u1.heap.size:=Nat.lt_of_lt_of_le hgw hB.size;refine (zDz b q kind ss vV vC vS x _ hP1 hS hxl).mono ?_;rintro e w19 ⟨rfl,hw19⟩;subst hw19;have hnb1:=zLj x ss.length;obtain ⟨HC1,HN1⟩:Hid ((zl x ss.length).isSome=true→zl x ss.length=some ((zl x ss.length).getD 0))∧Hid ((zl x ss.length).isSome=false→zl x ss.length=none):=⟨zF (zEs _ _).1,zF (zEs _ 0).2⟩;generalize (zl x ss.length).getD 0=i at *;generalize (zl x ss.length).isSome=o1 at *;go_wp2_with fail;refine (zDz b q kind ss vV vC vS y _ hP1 hS hyl).mono ?_;rintro e w29 ⟨rfl,hw29⟩;subst hw29;have hnb2:=zLj y ss.length;obtain ⟨HC2,HN2⟩:Hid ((zl y ss.length).isSome=true→zl y ss.length=some ((zl y ss.length).getD 0))∧Hid ((zl y ss.length).isSome=false→zl y ss.length=none):=⟨zF (zEs _ _).1,zF (zEs _ 0).2⟩;generalize (zl y ss.length).getD 0=j at *;generalize (zl y ss.length).isSome=o2 at *;go_wp2_with fail;refine (zJJ b q kind ss vV vC vS z _ hP1 hQ hzl).mono ?_;rintro e u5 ⟨b5,v,o3,rfl,hv8,hpv⟩;clear hx' hy' hz' ;replace hB:=hB.trans (b5.mono hB.size);replace hrs:=zH b5 hrs;clear crs0 crs1 crs2 crs3 crs4 crs5;obtain ⟨crs0,crs1,crs2,crs3,crs4,crs5⟩:=zAH hrs;replace lrs:=zB hrs;replace hP1:=hP1.later b5;have zr0:=zD hrs 0;have zr1:=zD hrs 1;have zr2:=zD hrs 2;have zr3:=zD hrs 3;have zr4:=zD hrs 4;have zr5:=zD hrs 5;have hRn:=zBc hrs (.int .i64 0) (.int .i64 0) (.int .i64 0) (.int .i64 0) (.int .i64 0) (.int .i64 0);have jn0:=zC hRn 0;have jn1:=zC hRn 1;have jn2:=zC hRn 2;have jn3:=zC hRn 3;have jn4:=zC hRn 4;have jn5:=zC hRn 5;have hE5:=zAT hB (Nat.le_refl w.heap.size) (.int .i64 0) (.int .i64 0) (.int .i64 0) (.int .i64 0) (.int .i64 0) (.int .i64 0)
  cases o1 with
  | false=>
   have HF:Hid (zE9 q kind (ze ss) [x,y,z]=none):=zF (by rw [zA HR,zA HN1 rfl];rfl);go_wp2_with fail;refine bodyPost_ret (v:=.tuple #[zCi S0,.bool false]) (by simp [results,Tryz.results102,go_sem,jn0,jn1,jn2,jn3,jn4,jn5]) rfl (StPost.none_ hE5 (zA HF) S0 zBE rfl)
  | true=>
   cases o2 with
   | false=>
    have HF:Hid (zE9 q kind (ze ss) [x,y,z]=none):=zF (by rw [zA HR,zA HN2 rfl,zA HC1 rfl];rfl);go_wp2_with fail;refine bodyPost_ret (v:=.tuple #[zCi S0,.bool false]) (by simp [results,Tryz.results102,go_sem,jn0,jn1,jn2,jn3,jn4,jn5]) rfl (StPost.none_ hE5 (zA HF) S0 zBE rfl)
   | true=>
    rcases hpv with ⟨rfl,hpv,hv1⟩ | ⟨rfl,hpv⟩
    ·have HF:Hid (zE9 q kind (ze ss) [x,y,z]=zEX (zM ss i) (zM ss j) v):=zF (by rw [zA HR,zA HC2 rfl,zA HC1 rfl,hpv];rfl);have hwn:=zIM v hv8;clear hpv HR HC1 HN1 HC2 HN2 jn0 jn1 jn2 jn3 jn4 jn5 hRn hE5;have c3:u5.cell? ⟨b,3,none⟩=some vS:=zE hP1.fb rfl;have hl1:=zAX ss hS.bits i;have hl2:=zAX ss hS.bits j;have lbb:=zB hP1.fb;go_wp2_with fail;refine (zBW (b + 1) b 2 ss vS i _ c3 hP1.oS (by omega)).mono ?_;rintro e u6 ⟨rfl,b6⟩;replace hB:=hB.trans (b6.mono hB.size);replace hrs:=zH b6 hrs;clear crs0 crs1 crs2 crs3 crs4 crs5;obtain ⟨crs0,crs1,crs2,crs3,crs4,crs5⟩:=zAH hrs;replace lrs:=zB hrs;replace hP1:=hP1.later b6;replace c3:u6.cell? ⟨b,3,none⟩=some vS:=zE hP1.fb rfl;replace lbb:=zB hP1.fb;generalize hea:zM ss i=c at *;have HEA:=zF hea;clear hea;obtain ⟨p1,n1⟩:=c;dsimp only at hl1;go_wp2_with fail;generalize hw0:u6.alloc (.cells #[.int .i64 (p1:Int),.int .i64 (n1:Int)] 74)=u7;have b7:Below u6.heap.size u6 u7:=(by rw [← hw0];exact (Below.refl _ _).alloc (Nat.le_refl _) _);have hfi:u7.heap[u6.heap.size]?=some (.cells #[.int .i64 (p1:Int),.int .i64 (n1:Int)] 74 (0,0)):=(by rw [← hw0];exact heap_alloc_new _ _);clear hw0;replace hB:=hB.trans (b7.mono hB.size);replace hrs:=zH b7 hrs;clear crs0 crs1 crs2 crs3 crs4 crs5;obtain ⟨crs0,crs1,crs2,crs3,crs4,crs5⟩:=zAH hrs;replace lrs:=zB hrs;replace hP1:=hP1.later b7;replace c3:u7.cell? ⟨b,3,none⟩=some vS:=zE hP1.fb rfl;replace lbb:=zB hP1.fb;obtain ⟨cfi0,cfi1⟩:=zJ hfi;have lfi:=zB hfi;refine (zBW (b + 1) b 2 ss vS j _ c3 hP1.oS (by omega)).mono ?_;rintro e u8 ⟨rfl,b8⟩;replace hB:=hB.trans (b8.mono hB.size);replace hrs:=zH b8 hrs;clear crs0 crs1 crs2 crs3 crs4 crs5;obtain ⟨crs0,crs1,crs2,crs3,crs4,crs5⟩:=zAH hrs;replace lrs:=zB hrs;replace hfi:=zH b8 hfi;clear cfi0 cfi1;obtain ⟨cfi0,cfi1⟩:=zJ hfi;replace lfi:=zB hfi;replace hP1:=hP1.later b8;replace c3:u8.cell? ⟨b,3,none⟩=some vS:=zE hP1.fb rfl;replace lbb:=zB hP1.fb;generalize hea:zM ss j=c at *;have HEB:=zF hea;clear hea;obtain ⟨p2,n2⟩:=c;dsimp only at hl2;go_wp2_with fail;generalize hw0:u8.alloc (.cells #[.int .i64 (p2:Int),.int .i64 (n2:Int)] 74)=u9;have b9:Below u8.heap.size u8 u9:=(by rw [← hw0];exact (Below.refl _ _).alloc (Nat.le_refl _) _);have hse:u9.heap[u8.heap.size]?=some (.cells #[.int .i64 (p2:Int),.int .i64 (n2:Int)] 74 (0,0)):=(by rw [← hw0];exact heap_alloc_new _ _);clear hw0;replace hB:=hB.trans (b9.mono hB.size);replace hrs:=zH b9 hrs;clear crs0 crs1 crs2 crs3 crs4 crs5;obtain ⟨crs0,crs1,crs2,crs3,crs4,crs5⟩:=zAH hrs;replace lrs:=zB hrs;replace hfi:=zH b9 hfi;clear cfi0 cfi1;obtain ⟨cfi0,cfi1⟩:=zJ hfi;replace lfi:=zB hfi;replace hP1:=hP1.later b9;replace c3:u9.cell? ⟨b,3,none⟩=some vS:=zE hP1.fb rfl;replace lbb:=zB hP1.fb;obtain ⟨cse0,cse1⟩:=zJ hse;have lse:=zB hse;refine (zCw p1 n1 v _ hl1.1 hl1.2 (by omega) (by omega)).mono ?_;rintro e u10 ⟨rfl,b10⟩;replace hB:=hB.trans (b10.mono hB.size);replace hrs:=zH b10 hrs;clear crs0 crs1 crs2 crs3 crs4 crs5;obtain ⟨crs0,crs1,crs2,crs3,crs4,crs5⟩:=zAH hrs;replace lrs:=zB hrs;replace hfi:=zH b10 hfi;clear cfi0 cfi1;obtain ⟨cfi0,cfi1⟩:=zJ hfi;replace lfi:=zB hfi;replace hse:=zH b10 hse;clear cse0 cse1;obtain ⟨cse0,cse1⟩:=zJ hse;replace lse:=zB hse;replace hP1:=hP1.later b10;replace c3:u10.cell? ⟨b,3,none⟩=some vS:=zE hP1.fb rfl;replace lbb:=zB hP1.fb;clear zr0 zr1 zr2 zr3 zr4 zr5
     cases hh1:zj (p1,n1) (v:Int) with
     | false=>
      have zr0:=zD hrs 0;have zr1:=zD hrs 1;have zr2:=zD hrs 2;have zr3:=zD hrs 3;have zr4:=zD hrs 4;have zr5:=zD hrs 5;have hRn:=zBc hrs (.int .i64 0) (.int .i64 0) (.int .i64 0) (.int .i64 0) (.int .i64 0) (.int .i64 0);have jn0:=zC hRn 0;have jn1:=zC hRn 1;have jn2:=zC hRn 2;have jn3:=zC hRn 3;have jn4:=zC hRn 4;have jn5:=zC hRn 5;have hE5:=zAT hB (Nat.le_refl w.heap.size) (.int .i64 0) (.int .i64 0) (.int .i64 0) (.int .i64 0) (.int .i64 0) (.int .i64 0);have HG:Hid (zE9 q kind (ze ss) [x,y,z]=none):=zF (by rw [zA HF];unfold zEX;rw [if_neg (by rw [hh1];simp)]);go_wp2_with fail;refine bodyPost_ret (v:=.tuple #[zCi S0,.bool false]) (by simp [results,Tryz.results102,go_sem,jn0,jn1,jn2,jn3,jn4,jn5]) rfl (StPost.none_ hE5 (zA HG) S0 zBE rfl)
     | true=>
      go_wp2_with fail;refine (zCw p2 n2 (-(v:Int)) _ hl2.1 hl2.2 (by omega) (by omega)).mono ?_;rintro e u11 ⟨rfl,b11⟩;replace hB:=hB.trans (b11.mono hB.size);replace hrs:=zH b11 hrs;clear crs0 crs1 crs2 crs3 crs4 crs5;obtain ⟨crs0,crs1,crs2,crs3,crs4,crs5⟩:=zAH hrs;replace lrs:=zB hrs;replace hfi:=zH b11 hfi;clear cfi0 cfi1;obtain ⟨cfi0,cfi1⟩:=zJ hfi;replace lfi:=zB hfi;replace hse:=zH b11 hse;clear cse0 cse1;obtain ⟨cse0,cse1⟩:=zJ hse;replace lse:=zB hse;replace hP1:=hP1.later b11;replace c3:u11.cell? ⟨b,3,none⟩=some vS:=zE hP1.fb rfl;replace lbb:=zB hP1.fb
      cases hh2:zj (p2,n2) (-(v:Int)) with
      | false=>
       have zr0:=zD hrs 0;have zr1:=zD hrs 1;have zr2:=zD hrs 2;have zr3:=zD hrs 3;have zr4:=zD hrs 4;have zr5:=zD hrs 5;have hRn:=zBc hrs (.int .i64 0) (.int .i64 0) (.int .i64 0) (.int .i64 0) (.int .i64 0) (.int .i64 0);have jn0:=zC hRn 0;have jn1:=zC hRn 1;have jn2:=zC hRn 2;have jn3:=zC hRn 3;have jn4:=zC hRn 4;have jn5:=zC hRn 5;have hE5:=zAT hB (Nat.le_refl w.heap.size) (.int .i64 0) (.int .i64 0) (.int .i64 0) (.int .i64 0) (.int .i64 0) (.int .i64 0);have HG:Hid (zE9 q kind (ze ss) [x,y,z]=none):=zF (by rw [zA HF];unfold zEX;rw [if_neg (by rw [hh2];simp)]);go_wp2_with fail;refine bodyPost_ret (v:=.tuple #[zCi S0,.bool false]) (by simp [results,Tryz.results102,go_sem,jn0,jn1,jn2,jn3,jn4,jn5]) rfl (StPost.none_ hE5 (zA HG) S0 zBE rfl)
      | true=>
       have HG:Hid (zE9 q kind (ze ss) [x,y,z]=if (zi (p1,n1) (p2,n2) v).1 &&& (zi (p1,n1) (p2,n2) v).2 != 0 then none else some (zi (p1,n1) (p2,n2) v)):=zF (by rw [zA HF];unfold zEX;rw [if_pos ⟨hh1,hh2⟩]);clear hh1 hh2 HF;go_wp2_with fail;have hsl1:=lrs;generalize hw0:u11.alloc (.cells #[.int .i64 3,.int .i64 (i:Int),.int .i64 (j:Int),.int .i64 (v:Int),.int .i64 0,.int .i64 0] 134)=u12;have b12:Below u11.heap.size u11 u12:=(by rw [← hw0];exact (Below.refl _ _).alloc (Nat.le_refl _) _);have hst:u12.heap[u11.heap.size]?=some (.cells #[.int .i64 3,.int .i64 (i:Int),.int .i64 (j:Int),.int .i64 (v:Int),.int .i64 0,.int .i64 0] 134 (0,0)):=(by rw [← hw0];exact heap_alloc_new _ _);clear hw0;replace hB:=hB.trans (b12.mono hB.size);replace hrs:=zH b12 hrs;clear crs0 crs1 crs2 crs3 crs4 crs5;obtain ⟨crs0,crs1,crs2,crs3,crs4,crs5⟩:=zAH hrs;replace lrs:=zB hrs;replace hfi:=zH b12 hfi;clear cfi0 cfi1;obtain ⟨cfi0,cfi1⟩:=zJ hfi;replace lfi:=zB hfi;replace hse:=zH b12 hse;clear cse0 cse1;obtain ⟨cse0,cse1⟩:=zJ hse;replace lse:=zB hse;replace hP1:=hP1.later b12;replace c3:u12.cell? ⟨b,3,none⟩=some vS:=zE hP1.fb rfl;replace lbb:=zB hP1.fb;obtain ⟨cst0,cst1,cst2,cst3,cst4,cst5⟩:=zAH hst;have lst:=zB hst;have hsl0:w.heap.size≤u11.heap.size:=(by omega);have hne0:w.heap.size≠u11.heap.size:=by omega
       go_region_with (go_at_call 127;refine (zER (b + 1) b 2 ss vS ⟨3,i,j,v,(0,0)⟩ _ (by rw [zC (hP1.later (Below.refl _ u12).drew).fb];rfl) (hP1.later (Below.refl _ u12).drew).oS (by omega) hS.bits).mono ?_;rintro e w9 ⟨rfl,hb9⟩;have hB9:Below w.heap.size w w9:=hB.drew.trans (hb9.mono hB.size);have hr9:=zH hb9 hrs;have ht9:=zH hb9 hst;have s90:w9.cell? ⟨u11.heap.size,0,none⟩=some (.int .i64 3):=(by rw [zC ht9];rfl);have s91:w9.cell? ⟨u11.heap.size,1,none⟩=some (.int .i64 (i:Int)):=(by rw [zC ht9];rfl);have s92:w9.cell? ⟨u11.heap.size,2,none⟩=some (.int .i64 (j:Int)):=(by rw [zC ht9];rfl);have s93:w9.cell? ⟨u11.heap.size,3,none⟩=some (.int .i64 (v:Int)):=(by rw [zC ht9];rfl);have s94:w9.cell? ⟨u11.heap.size,4,none⟩=some (.int .i64 0):=(by rw [zC ht9];rfl);have s95:w9.cell? ⟨u11.heap.size,5,none⟩=some (.int .i64 0):=(by rw [zC ht9];rfl);have y94:=zD ht9 4;have y95:=zD ht9 5;have ls9:=zB ht9)
       all_goals
        try dsimp only
        rw [zA HEA,zA HEB];have hlt9:=zBh (p1 ||| p2,n1 ||| n2) v ⟨zBD _ _ hl1.1 hl2.1,zBD _ _ hl1.2 hl2.2⟩;rw [show zAV (p1 ||| p2,n1 ||| n2) (v:Int)=zi (p1,n1) (p2,n2) v from rfl] at hlt9;generalize zi (p1,n1) (p2,n2) v=cw at *;obtain ⟨d1,d2⟩:=cw;dsimp only at hlt9;have hx1:=zI (zI ht9 4 (.int .i64 (d1:Int))) 5 (.int .i64 (d2:Int));have hx2:((w9.setCell ⟨u11.heap.size,4,none⟩ (.int .i64 (d1:Int))).setCell ⟨u11.heap.size,5,none⟩ (.int .i64 (d2:Int))).heap[u11.heap.size]?=some (.cells #[.int .i64 3,.int .i64 (i:Int),.int .i64 (j:Int),.int .i64 (v:Int),.int .i64 (d1:Int),.int .i64 (d2:Int)] 134 (0,0)):=hx1;have hxr:((w9.setCell ⟨u11.heap.size,4,none⟩ (.int .i64 (d1:Int))).setCell ⟨u11.heap.size,5,none⟩ (.int .i64 (d2:Int))).heap[w.heap.size]?=some (.cells #[.int .i64 0,.int .i64 0,.int .i64 0,.int .i64 0,.int .i64 0,.int .i64 0] 134 (0,0)):=(by rw [Below.heap_setCell _ _ _ _ (by intro e;exact hne0 (by simpa using e)),Below.heap_setCell _ _ _ _ (by intro e;exact hne0 (by simpa using e))];exact hr9);have hxB:Below w.heap.size w ((w9.setCell ⟨u11.heap.size,4,none⟩ (.int .i64 (d1:Int))).setCell ⟨u11.heap.size,5,none⟩ (.int .i64 (d2:Int))):=(hB9.setCell (p:=⟨u11.heap.size,4,none⟩) hsl0 _).setCell (p:=⟨u11.heap.size,5,none⟩) hsl0 _;clear hx1;generalize hwz:(w9.setCell ⟨u11.heap.size,4,none⟩ (.int .i64 (d1:Int))).setCell ⟨u11.heap.size,5,none⟩ (.int .i64 (d2:Int))=wz at *;obtain ⟨q0,q1,q2,q3,q4,q5⟩:=zAH hx2;have lz:=zB hx2;go_wp2_with fail;clear hP1 hrs hst hfi hse hr9 ht9 hB hB9 hwz
        go_region_with (go_at_call 124;refine (zEE d1 d2 _ hlt9.1 hlt9.2).mono ?_;rintro e w7 ⟨rfl,hb7⟩;have hy1:=zH hb7 hxr;have hy2:=zH hb7 hx2;have m90:w7.cell? ⟨w.heap.size,0,none⟩=some (.int .i64 0):=(by rw [zC hy1];rfl);have m91:w7.cell? ⟨w.heap.size,1,none⟩=some (.int .i64 0):=(by rw [zC hy1];rfl);have m92:w7.cell? ⟨w.heap.size,2,none⟩=some (.int .i64 0):=(by rw [zC hy1];rfl);have m93:w7.cell? ⟨w.heap.size,3,none⟩=some (.int .i64 0):=(by rw [zC hy1];rfl);have m94:w7.cell? ⟨w.heap.size,4,none⟩=some (.int .i64 0):=(by rw [zC hy1];rfl);have m95:w7.cell? ⟨w.heap.size,5,none⟩=some (.int .i64 0):=(by rw [zC hy1];rfl);have o90:=zD hy1 0;have o91:=zD hy1 1;have o92:=zD hy1 2;have o93:=zD hy1 3;have o94:=zD hy1 4;have o95:=zD hy1 5;have lo9:=zB hy1;have n90:w7.cell? ⟨u11.heap.size,0,none⟩=some (.int .i64 3):=(by rw [zC hy2];rfl);have n91:w7.cell? ⟨u11.heap.size,1,none⟩=some (.int .i64 (i:Int)):=(by rw [zC hy2];rfl);have n92:w7.cell? ⟨u11.heap.size,2,none⟩=some (.int .i64 (j:Int)):=(by rw [zC hy2];rfl);have n93:w7.cell? ⟨u11.heap.size,3,none⟩=some (.int .i64 (v:Int)):=(by rw [zC hy2];rfl);have n94:w7.cell? ⟨u11.heap.size,4,none⟩=some (.int .i64 (d1:Int)):=(by rw [zC hy2];rfl);have n95:w7.cell? ⟨u11.heap.size,5,none⟩=some (.int .i64 (d2:Int)):=(by rw [zC hy2];rfl);have ln9:=zB hy2;have hB7:Below w.heap.size w w7:=hxB.drew.trans (hb7.mono hxB.size))
        all_goals go_wp2_with fail
        all_goals
         have hR:=zBc hy1 (.int .i64 3) (.int .i64 (i:Int)) (.int .i64 (j:Int)) (.int .i64 (v:Int)) (.int .i64 (d1:Int)) (.int .i64 (d2:Int));have j0:=zC hR 0;have j1:=zC hR 1;have j2:=zC hR 2;have j3:=zC hR 3;have j4:=zC hR 4;have j5:=zC hR 5;refine bodyPost_ret (v:=.tuple #[zCi ⟨3,i,j,v,(d1,d2)⟩,.bool (!(d1 &&& d2 != 0))]) (by simp [results,Tryz.results102,go_sem,j0,j1,j2,j3,j4,j5]) rfl ?_;have hBz:=zAT hB7 (Nat.le_refl w.heap.size) (.int .i64 3) (.int .i64 (i:Int)) (.int .i64 (j:Int)) (.int .i64 (v:Int)) (.int .i64 (d1:Int)) (.int .i64 (d2:Int))
         cases hcl:(d1 &&& d2 != 0) with
         | true=>exact StPost.none_ hBz (by rw [zA HG,hcl];rfl) ⟨3,i,j,v,(d1,d2)⟩ hlt9 rfl
         | false=>exact StPost.some_ hBz ⟨3,i,j,v,(d1,d2)⟩ (by rw [zA HG,hcl];rfl) hlt9 rfl (show (3:Nat)≠4 by decide)
    ·have HF:Hid (zE9 q kind (ze ss) [x,y,z]=none):=zF (by rw [zA HR,zA HC2 rfl,zA HC1 rfl,hpv];rfl);clear hpv;go_wp2_with fail;refine bodyPost_ret (v:=.tuple #[zCi S0,.bool false]) (by simp [results,Tryz.results102,go_sem,jn0,jn1,jn2,jn3,jn4,jn5]) rfl (StPost.none_ hE5 (zA HF) S0 zBE rfl)
 ·have HR:Hid (zE9 q kind (ze ss) ws=none):=zF (by
   unfold zE9;split
   ·simp at h3
   ·rfl)
  have hb1:((ws.length:Int) != 3)=true:=(by rw [bne_iff_ne];omega);clear h3
  go_enter Tryz.func102,Tryz.ntmps102
  go_wp2_with fail;refine bodyPost_ret (v:=.tuple #[zCi S0,.bool false]) (by simp [results,Tryz.results102,go_sem]) rfl (StPost.none_ ?_ (zA HR) S0 zBE rfl);exact (Below.refl _ _).alloc (Nat.le_refl _) _
def zFJ (vs:List (Nat × Bool)):Nat × Nat→Nat→List (List UInt8)→Option (Nat × Nat)
 | c,_,[]=>some c
 | c,last,w :: ws=>if zBb w then
   match zBY vs (zAn w).natAbs with
   | none=>none
   | some x=>if x.1≤last then none else zFJ vs (zQ c (zAn w)) x.1 ws
  else none
def zAt (q:QS) (kind:Nat) (ws:List (List UInt8)):Option (Nat × Nat):=
 if kind=2 then (zFJ q.vars (0,0) 0 ws).bind (fun c=>if zCD q.cl c then some c else none) else none
theorem zKY (b:Nat) (q:QS) (kind:Nat) (ss:List Stp) (vV vC vS:Value) (ws:List (List UInt8)) (ao:Option Addr) (cap:Nat) (w:World) (hP:PInv w b q kind ss vV vC vS) (hQ:QB q)
  (hs:StrsAt w ao ws) (hl:ws.length≤1048576) (hws:∀ x∈ws,x.length≤1048576) :
  Calls Tryz.prog 101 #[.pointer (some ⟨b,0,none⟩),.slice ao ws.length cap] w fun e w'=>StPost zM8 (zAt q kind ws) w e w':=by
 have hbw:=zB hP.fb;have hvl:=hQ.vl;have k2:w.cell? ⟨b,2,none⟩=some (.int .i64 kind):=zE hP.fb rfl;have k0:w.cell? ⟨b,0,none⟩=some vV:=zE hP.fb rfl
 by_cases hk:kind=2
 ·have hkb:((kind:Int) != 2)=false:=(by rw [bne_eq_false_iff_eq];omega);have HR:Hid (zAt q kind ws=(zFJ q.vars (0,0) 0 ws).bind (fun c=>if zCD q.cl c then some c else none)):=zF (by unfold zAt;rw [if_pos hk]);have HWS:=zF hws;clear hws hk
  go_enter Tryz.func101,Tryz.ntmps101
  go_wp2_with fail
  go_loopg [7,24] (ws.length) (fun m la i wx=>∃ (j p n last:Nat),i=.int .i64 j∧la=.int .i64 last∧j + m=ws.length∧p < 512∧n < 512∧last≤8∧zFJ q.vars (0,0) 0 ws=zFJ q.vars (p,n) last (ws.drop j)∧Below w.heap.size w wx∧
   wx.heap[w.heap.size]?=some (.cells #[.int .i64 0,.int .i64 0,.int .i64 0,.int .i64 0,.int .i64 0,.int .i64 0] 134 (0,0))∧wx.heap[w.heap.size + 1]?=some (.cells #[.int .i64 p,.int .i64 n] 74 (0,0)))
  case atStart=>exact ⟨0,0,0,0,rfl,rfl,by omega,by omega,by omega,by omega,rfl,((Below.refl _ _).alloc (Nat.le_refl _) _).alloc (by simp) _,by rw [heap_alloc_old _ _ (by simp)];exact heap_alloc_new _ _,zP (by simp)⟩
  case round=>
   obtain ⟨j,p,n,last,rfl,rfl,hj,hp,hn,hla,hto,hb,hres,hcub⟩:=hrel;have hbs:=zB hcub;have hbs0:w.heap.size < wr.heap.size:=(by omega);have hbw1:b < wr.heap.size:=(by omega);have r0:wr.cell? ⟨w.heap.size,0,none⟩=some (.int .i64 0):=zE hres rfl;have r1:wr.cell? ⟨w.heap.size,1,none⟩=some (.int .i64 0):=zE hres rfl;have r2:wr.cell? ⟨w.heap.size,2,none⟩=some (.int .i64 0):=zE hres rfl;have r3:wr.cell? ⟨w.heap.size,3,none⟩=some (.int .i64 0):=zE hres rfl;have r4:wr.cell? ⟨w.heap.size,4,none⟩=some (.int .i64 0):=zE hres rfl;have r5:wr.cell? ⟨w.heap.size,5,none⟩=some (.int .i64 0):=zE hres rfl;have z0:=zD hres 0;have z1:=zD hres 1;have z2:=zD hres 2;have z3:=zD hres 3;have z4:=zD hres 4;have z5:=zD hres 5;have c0:wr.cell? ⟨w.heap.size + 1,0,none⟩=some (.int .i64 p):=zE hcub rfl;have c1:wr.cell? ⟨w.heap.size + 1,1,none⟩=some (.int .i64 n):=zE hcub rfl
   by_cases hlt:j < ws.length
   ·obtain ⟨g,off,cur,rfl,hg,hcur⟩:=hs (by intro e;subst e;simp at hlt);have hgw:=zB hg;have hgw1:g < wr.heap.size:=(by omega);have hcj:wr.cell? ⟨g,off + j,none⟩=some (S ws[j]):=by
     rw [hb.cell (p:=⟨g,off + j,none⟩) hgw,zC hg];exact hcur j hlt
    have hwl:=zA HWS _ (List.getElem_mem hlt);rw [List.drop_eq_getElem_cons hlt,zFJ] at hto;have HTO:=zF hto;clear hto hcur;obtain ⟨n0,n1⟩:=zJi ws[j];go_wp2_with fail;refine (zGU ws[j] wr hwl).mono ?_;rintro e w2 ⟨hw2,rfl⟩;subst hw2
    cases hgd:zBb ws[j] with
    | false=>
     have HF:Hid (zAt q kind ws=none):=zF (by rw [zA HR,zA HTO,hgd];rfl);have hRm:=zBc hres (.int .i64 0) (.int .i64 0) (.int .i64 0) (.int .i64 0) (.int .i64 0) (.int .i64 0);have jm0:=zC hRm 0;have jm1:=zC hRm 1;have jm2:=zC hRm 2;have jm3:=zC hRm 3;have jm4:=zC hRm 4;have jm5:=zC hRm 5;go_wp2_with fail;refine bodyPost_ret (v:=.tuple #[zCi S0,.bool false]) (by simp [results,Tryz.results101,go_sem,jm0,jm1,jm2,jm3,jm4,jm5]) rfl (StPost.none_ ?_ (zA HF) S0 zBE rfl);exact zAT hb (Nat.le_refl _) _ _ _ _ _ _
    | true=>
     rw [hgd,if_pos rfl] at HTO;have x0:w2.cell? ⟨b,0,none⟩=some vV:=(by rw [hb.cell (p:=⟨b,0,none⟩) hbw];exact k0);have hoV:w2.ownsRow 0 139 2 vV q.vars.length (zd q.vars):=zEc hP.oV (fun k hk=>Nat.lt_trans (hP.lV k hk) hbw) hb;go_wp2_with fail;refine (zJg (zAn ws[j]) w2 (by omega) (by omega)).mono ?_;rintro e w3 ⟨rfl,hw3⟩;subst hw3;go_wp2_with fail;refine (zFQ 0 b q.vars vV (zAn ws[j]).natAbs w3 x0 hoV (by omega)).mono ?_;rintro e w4 ⟨hb4,rfl⟩;have hbw4:=Nat.lt_of_lt_of_le hbw1 hb4.size;have hbs4:=Nat.lt_of_lt_of_le hbs hb4.size;have hbs04:=Nat.lt_of_lt_of_le hbs0 hb4.size;have hres4:=(hb4.block _ hbs0).trans hres;have hcub4:=(hb4.block _ hbs).trans hcub;have hB4:Below w.heap.size w w4:=hb.trans (hb4.mono hb.size);have r40:w4.cell? ⟨w.heap.size,0,none⟩=some (.int .i64 0):=zE hres4 rfl;have r41:w4.cell? ⟨w.heap.size,1,none⟩=some (.int .i64 0):=zE hres4 rfl;have r42:w4.cell? ⟨w.heap.size,2,none⟩=some (.int .i64 0):=zE hres4 rfl;have r43:w4.cell? ⟨w.heap.size,3,none⟩=some (.int .i64 0):=zE hres4 rfl;have r44:w4.cell? ⟨w.heap.size,4,none⟩=some (.int .i64 0):=zE hres4 rfl;have r45:w4.cell? ⟨w.heap.size,5,none⟩=some (.int .i64 0):=zE hres4 rfl;have z40:=zD hres4 0;have z41:=zD hres4 1;have z42:=zD hres4 2;have z43:=zD hres4 3;have z44:=zD hres4 4;have z45:=zD hres4 5;have c40:w4.cell? ⟨w.heap.size + 1,0,none⟩=some (.int .i64 p):=zE hcub4 rfl;have c41:w4.cell? ⟨w.heap.size + 1,1,none⟩=some (.int .i64 n):=zE hcub4 rfl
     cases hfd:zBY q.vars (zAn ws[j]).natAbs with
     | none=>
      rw [hfd] at HTO;have HF:Hid (zAt q kind ws=none):=zF (by rw [zA HR,zA HTO];rfl);go_wp2_with fail;have hR:=zBc hres4 (.int .i64 0) (.int .i64 0) (.int .i64 0) (.int .i64 0) (.int .i64 0) (.int .i64 0);have hR':=(heap_alloc_old _ (.cells #[.int .i64 0,.bool false] 139) (zB hR)).trans hR;have q0:=zC hR' 0;have q1:=zC hR' 1;have q2:=zC hR' 2;have q3:=zC hR' 3;have q4:=zC hR' 4;have q5:=zC hR' 5;refine bodyPost_ret (v:=.tuple #[zCi S0,.bool false]) (by simp [results,Tryz.results101,go_sem,q0,q1,q2,q3,q4,q5]) rfl (StPost.none_ ?_ (zA HF) S0 zBE rfl);exact (zAT hB4 (Nat.le_refl _) _ _ _ _ _ _).alloc (by simp [World.setCell];omega) _
     | some x=>
      rw [hfd] at HTO;have hxn:=hQ.names x (List.mem_of_find?_eq_some hfd);obtain ⟨xn,xu⟩:=x;dsimp only [Option.getD_some,Option.isSome_some] at HTO hxn ⊢
      by_cases hle:xn≤last
      ·have hdl:decide (xn≤last)=true:=(by simp;omega);have HF:Hid (zAt q kind ws=none):=zF (by rw [zA HR,zA HTO,if_pos hle];rfl);clear hle;go_wp2_with fail;have hR:=zBc hres4 (.int .i64 0) (.int .i64 0) (.int .i64 0) (.int .i64 0) (.int .i64 0) (.int .i64 0);have hR':=(heap_alloc_old _ (.cells #[.int .i64 (xn:Int),.bool xu] 139) (zB hR)).trans hR;have q0:=zC hR' 0;have q1:=zC hR' 1;have q2:=zC hR' 2;have q3:=zC hR' 3;have q4:=zC hR' 4;have q5:=zC hR' 5;refine bodyPost_ret (v:=.tuple #[zCi S0,.bool false]) (by simp [results,Tryz.results101,go_sem,q0,q1,q2,q3,q4,q5]) rfl (StPost.none_ ?_ (zA HF) S0 zBE rfl);exact (zAT hB4 (Nat.le_refl _) _ _ _ _ _ _).alloc (by simp [World.setCell];omega) _
      ·have hdl:decide (xn≤last)=false:=(by simp;omega);have HF:Hid (zFJ q.vars (0,0) 0 ws=zFJ q.vars (zQ (p,n) (zAn ws[j])) xn (ws.drop (j + 1))):=zF (by rw [zA HTO,if_neg hle]);clear hle;have hwl2:=zAZ (p,n) (zAn ws[j]) hp hn;have hA4:Below w4.heap.size w4 (w4.alloc (.cells #[.int .i64 (xn:Int),.bool xu] 139)):=(Below.refl _ _).alloc (Nat.le_refl _) _;have hB4a:=hB4.trans (hA4.mono hB4.size);have hres4a:=zH hA4 hres4;have hcub4a:=zH hA4 hcub4;have hv4a:=heap_alloc_new w4 (.cells #[.int .i64 (xn:Int),.bool xu] 139);go_wp2_with fail;refine (zCH p n (zAn ws[j]) _ hp hn (by omega) (by omega)).mono ?_;rintro e w5 ⟨rfl,hb5⟩;have hres5:=zH hb5 hres4a;have hcub5:=zH hb5 hcub4a;have hv5:=zH hb5 hv4a;have hB5:Below w.heap.size w w5:=hB4a.trans (hb5.mono hB4a.size);have c50:w5.cell? ⟨w.heap.size + 1,0,none⟩=some (.int .i64 p):=zE hcub5 rfl;have c51:w5.cell? ⟨w.heap.size + 1,1,none⟩=some (.int .i64 n):=zE hcub5 rfl;have v50:w5.cell? ⟨w4.heap.size,0,none⟩=some (.int .i64 xn):=zE hv5 rfl;have z50:=zD hcub5 0;have z51:=zD hcub5 1;have hne:w4.heap.size≠w.heap.size + 1:=(by omega);have hne2:w.heap.size + 1≠w4.heap.size:=(by omega);generalize zQ (p,n) (zAn ws[j])=cw at *;obtain ⟨p',n'⟩:=cw;go_wp2_with fail
       go_roundg (gk - 1)
       case measure=>omega
       case rel=>
        refine ⟨j + 1,p',n',xn,by go_num,rfl,by omega,hwl2.1,hwl2.2,hxn.2,zA HF,(hB5.setCell (p:=⟨w.heap.size + 1,0,none⟩) (Nat.le_succ _) _).setCell (p:=⟨w.heap.size + 1,1,none⟩) (Nat.le_succ _) _,?_,zI (zI hcub5 0 _) 1 _⟩;rw [Below.heap_setCell _ _ _ _ (by simp),Below.heap_setCell _ _ _ _ (by simp)];exact hres5
   ·have hjl:j=ws.length:=(by omega);subst hjl;rw [List.drop_length] at hto;have HF:Hid (zAt q kind ws=if zCD q.cl (p,n) then some (p,n) else none):=zF (by rw [zA HR,hto];rfl);clear hto;have hP1:PInv wr b q kind ss vV vC vS:=hP.later hb;go_wp2_with fail;have hb9:Below wr.heap.size wr wr.drew:=(Below.refl _ wr).drew
    go_region_with (go_at_call 117;refine (zGw 0 b q vC p n _ (by rw [zC (hP1.later hb9).fb];rfl) (hP1.later hb9).oC hQ hp hn).mono ?_;rintro e w8 ⟨rfl,hb8⟩;have hy1:=zH hb8 hres;have hy2:=zH hb8 hcub;have f0:w8.cell? ⟨w.heap.size,0,none⟩=some (.int .i64 0):=(by rw [zC hy1];rfl);have f1:w8.cell? ⟨w.heap.size,1,none⟩=some (.int .i64 0):=(by rw [zC hy1];rfl);have f2:w8.cell? ⟨w.heap.size,2,none⟩=some (.int .i64 0):=(by rw [zC hy1];rfl);have f3:w8.cell? ⟨w.heap.size,3,none⟩=some (.int .i64 0):=(by rw [zC hy1];rfl);have f4:w8.cell? ⟨w.heap.size,4,none⟩=some (.int .i64 0):=(by rw [zC hy1];rfl);have f5:w8.cell? ⟨w.heap.size,5,none⟩=some (.int .i64 0):=(by rw [zC hy1];rfl);have t0:=zD hy1 0;have t1:=zD hy1 1;have t2:=zD hy1 2;have t3:=zD hy1 3;have t4:=zD hy1 4;have t5:=zD hy1 5;have l0:w8.cell? ⟨w.heap.size + 1,0,none⟩=some (.int .i64 p):=(by rw [zC hy2];rfl);have l1:w8.cell? ⟨w.heap.size + 1,1,none⟩=some (.int .i64 n):=(by rw [zC hy2];rfl);have hbz:Below w.heap.size w w8:=hb.drew.trans (hb8.mono hb.size))
    all_goals go_wp2_with fail
    all_goals
     have hR:=zBc hy1 (.int .i64 2) (.int .i64 0) (.int .i64 0) (.int .i64 0) (.int .i64 (p:Int)) (.int .i64 (n:Int));have j0:=zC hR 0;have j1:=zC hR 1;have j2:=zC hR 2;have j3:=zC hR 3;have j4:=zC hR 4;have j5:=zC hR 5;refine bodyPost_ret (v:=.tuple #[zCi ⟨2,0,0,0,(p,n)⟩,.bool (zCD q.cl (p,n))]) (by simp [results,Tryz.results101,go_sem,j0,j1,j2,j3,j4,j5]) rfl ?_;have hB:=zAT hbz (Nat.le_refl w.heap.size) (.int .i64 2) (.int .i64 0) (.int .i64 0) (.int .i64 0) (.int .i64 (p:Int)) (.int .i64 (n:Int))
     cases hcl:zCD q.cl (p,n) with
     | false=>exact StPost.none_ hB (by rw [zA HF,hcl];rfl) ⟨2,0,0,0,(p,n)⟩ ⟨hp,hn⟩ rfl
     | true=>exact StPost.some_ hB ⟨2,0,0,0,(p,n)⟩ (by rw [zA HF,hcl];rfl) ⟨hp,hn⟩ rfl (show (2:Nat)≠4 by decide)
 ·have HR:Hid (zAt q kind ws=none):=zF (by unfold zAt;rw [if_neg hk]);have hb1:((kind:Int) != 2)=true:=(by rw [bne_iff_ne];omega);clear hk
  go_enter Tryz.func101,Tryz.ntmps101
  go_wp2_with fail;refine bodyPost_ret (v:=.tuple #[zCi S0,.bool false]) (by simp [results,Tryz.results101,go_sem]) rfl (StPost.none_ ?_ (zA HR) S0 zBE rfl);exact (Below.refl _ _).alloc (Nat.le_refl _) _
def zFX (q:QS) (kind:Nat) (ss:List (Nat × Nat)) (hd:List UInt8) (tl:List (List UInt8)):Option (Nat × Nat):=
 if hd=[97] then zCb q kind tl
 else if hd=[99] then zAt q kind tl
 else if hd=[114] then zE9 q kind ss tl
 else if hd=[100] then zDJ q kind ss tl
 else none
def Tag (q:QS) (kind:Nat) (ss:List Stp) (s:Stp):Prop:=zRA q kind ss s∨(s.rule≠4∧∃ tl,zCb q kind tl=some s.lits∨zAt q kind tl=some s.lits∨zE9 q kind (ze ss) tl=some s.lits)
def Tags (q:QS) (kind:Nat) (ss:List Stp):Prop:=∀ i (h:i < ss.length),Tag q kind (ss.take i) ss[i]
def zSu (q:QS) (kind:Nat) (ss:List Stp) (ws:List (List UInt8)) (s:Stp):Prop:=Tag q kind ss s∧zC7 s=zGC ss.length ws
theorem zIa (q:QS) (kind:Nat):Tags q kind []:=fun i h=>by simp at h
theorem Tags.snoc {q:QS} {kind:Nat} {ss:List Stp} {s:Stp} (h:Tags q kind ss) (hs:Tag q kind ss s):Tags q kind (ss ++ [s]):=by
 intro i hi
 by_cases e:i < ss.length
 ·rw [List.take_append_of_le_length (Nat.le_of_lt e),List.getElem_append_left e];exact h i e
 ·have e2:i=ss.length:=(by simp at hi;omega);subst e2;rw [List.take_append_of_le_length (Nat.le_refl _),List.take_length]
  simpa using hs
theorem zKT {G H:Stp→Prop} {res:Option (Nat × Nat)} {ok:Bool} {s:Stp} (h:(ok=true∧res=some s.lits∧G s)∨(ok=false∧res=none)) (f:res=some s.lits→G s→H s):(ok=true∧res=some s.lits∧H s)∨(ok=false∧res=none):=by
 rcases h with ⟨h1,h2,h3⟩ | h
 ·exact Or.inl ⟨h1,h2,f h2 h3⟩
 ·exact Or.inr h
theorem zKO (b:Nat) (q:QS) (kind:Nat) (ss:List Stp) (vV vC vS:Value) (hd:List UInt8) (tl:List (List UInt8)) (g off cap:Nat) (w:World) (hP:PInv w b q kind ss vV vC vS) (hQ:QB q) (hS:SBs ss)
  (hs:StrsAt w (some ⟨g,off,none⟩) (hd :: tl)) (hl:tl.length≤1048575) (hcap:tl.length + 1≤cap) (hws:∀ x∈tl,x.length≤1048576) :
  Calls Tryz.prog 71 #[.pointer (some ⟨b,0,none⟩),.slice (some ⟨g,off,none⟩) (tl.length + 1) cap] w fun e w'=>StPost (zSu q kind ss (hd :: tl)) (zFX q kind (ze ss) hd tl) w e w':=by
 obtain ⟨g',off',cur,he,hg,hcur⟩:=hs (by simp);injection he with he;injection he with e1 e2 e3;subst e1 e2;clear e3;have hgw:=zB hg;have hc0:w.cell? ⟨g,off,none⟩=some (S hd):=(by rw [zC hg];exact hcur 0 (by simp));have hA0:Below w.heap.size w (w.alloc (.cells #[.int .i64 0,.int .i64 0,.int .i64 0,.int .i64 0,.int .i64 0,.int .i64 0] 134)):=(Below.refl _ _).alloc (Nat.le_refl _) _;have HST:Hid (∀ ao:Option Addr,(tl≠[]→ao=some ⟨g,off + 1,none⟩)→StrsAt (w.alloc (.cells #[.int .i64 0,.int .i64 0,.int .i64 0,.int .i64 0,.int .i64 0,.int .i64 0] 134)) ao tl):=zF (fun ao ho hne=>⟨g,off + 1,cur,ho hne,(hA0.block _ hgw).trans hg,fun j hj=>by
  have h1:=hcur (1 + j) (by simp;omega);rw [← Nat.add_assoc] at h1;rw [h1];simp [show 1 + j=j + 1 from by omega]⟩)
 have HWS:=zF hws;have hP0:=hP.later hA0;have hr0:=heap_alloc_new w (.cells #[.int .i64 0,.int .i64 0,.int .i64 0,.int .i64 0,.int .i64 0,.int .i64 0] 134);have hne0:(((tl.length + 1:Nat):Int) == 0)=false:=(by rw [beq_eq_false_iff_ne];omega);clear hcur hws hs
 by_cases ha:hd=[97]
 ·subst ha;have HR:Hid (zFX q kind (ze ss) [97] tl=zCb q kind tl):=zF rfl
  go_enter Tryz.func71,Tryz.ntmps71
  go_wp2_with fail
  all_goals
   refine (zJI b q kind ss vV vC vS tl _ _ _ hP0 hQ (zA HST _ (fun hne=>by first | rfl | (exfalso;apply hne;exact List.eq_nil_of_length_eq_zero (by omega)))) (by omega) (zA HWS)).mono ?_;rintro e w1 ⟨hb1,c,ok,rfl,hlt,hok⟩;obtain ⟨sr,sf,ss2,sv,sl⟩:=c;obtain ⟨p,n⟩:=sl;have HOK:=zF hok;clear hok;have hr1:=zH hb1 hr0;have hB1:Below w.heap.size w w1:=hA0.trans (hb1.mono hA0.size);have r0:w1.cell? ⟨w.heap.size,0,none⟩=some (.int .i64 0):=zE hr1 rfl;have r1:w1.cell? ⟨w.heap.size,1,none⟩=some (.int .i64 0):=zE hr1 rfl;have r2:w1.cell? ⟨w.heap.size,2,none⟩=some (.int .i64 0):=zE hr1 rfl;have r3:w1.cell? ⟨w.heap.size,3,none⟩=some (.int .i64 0):=zE hr1 rfl;have r4:w1.cell? ⟨w.heap.size,4,none⟩=some (.int .i64 0):=zE hr1 rfl;have r5:w1.cell? ⟨w.heap.size,5,none⟩=some (.int .i64 0):=zE hr1 rfl;have z0:=zD hr1 0;have z1:=zD hr1 1;have z2:=zD hr1 2;have z3:=zD hr1 3;have z4:=zD hr1 4;have z5:=zD hr1 5;have hR:=zBc hr1 (.int .i64 (sr:Int)) (.int .i64 (sf:Int)) (.int .i64 (ss2:Int)) (.int .i64 (sv:Int)) (.int .i64 (p:Int)) (.int .i64 (n:Int));have j0:=zC hR 0;have j1:=zC hR 1;have j2:=zC hR 2;have j3:=zC hR 3;have j4:=zC hR 4;have j5:=zC hR 5;go_wp2_with fail;refine bodyPost_ret (v:=.tuple #[zCi ⟨sr,sf,ss2,sv,(p,n)⟩,.bool ok]) (by simp [results,Tryz.results71,go_sem,j0,j1,j2,j3,j4,j5]) rfl ⟨?_,⟨sr,sf,ss2,sv,(p,n)⟩,ok,rfl,hlt,by rw [zA HR];exact zKT (zA HOK) (fun h g=>⟨Or.inr ⟨g,tl,Or.inl h⟩,zGI g (by decide)⟩)⟩;exact zAT hB1 (Nat.le_refl _) _ _ _ _ _ _
 ·have hab:(hd == [97])=false:=by simp [ha]
  by_cases hc:hd=[99]
  ·subst hc;clear ha hab;have HR:Hid (zFX q kind (ze ss) [99] tl=zAt q kind tl):=zF rfl
   go_enter Tryz.func71,Tryz.ntmps71
   go_wp2_with fail
   all_goals
    refine (zKY b q kind ss vV vC vS tl _ _ _ hP0 hQ (zA HST _ (fun hne=>by first | rfl | (exfalso;apply hne;exact List.eq_nil_of_length_eq_zero (by omega)))) (by omega) (zA HWS)).mono ?_;rintro e w1 ⟨hb1,c,ok,rfl,hlt,hok⟩;obtain ⟨sr,sf,ss2,sv,sl⟩:=c;obtain ⟨p,n⟩:=sl;have HOK:=zF hok;clear hok;have hr1:=zH hb1 hr0;have hB1:Below w.heap.size w w1:=hA0.trans (hb1.mono hA0.size);have r0:w1.cell? ⟨w.heap.size,0,none⟩=some (.int .i64 0):=zE hr1 rfl;have r1:w1.cell? ⟨w.heap.size,1,none⟩=some (.int .i64 0):=zE hr1 rfl;have r2:w1.cell? ⟨w.heap.size,2,none⟩=some (.int .i64 0):=zE hr1 rfl;have r3:w1.cell? ⟨w.heap.size,3,none⟩=some (.int .i64 0):=zE hr1 rfl;have r4:w1.cell? ⟨w.heap.size,4,none⟩=some (.int .i64 0):=zE hr1 rfl;have r5:w1.cell? ⟨w.heap.size,5,none⟩=some (.int .i64 0):=zE hr1 rfl;have z0:=zD hr1 0;have z1:=zD hr1 1;have z2:=zD hr1 2;have z3:=zD hr1 3;have z4:=zD hr1 4;have z5:=zD hr1 5;have hR:=zBc hr1 (.int .i64 (sr:Int)) (.int .i64 (sf:Int)) (.int .i64 (ss2:Int)) (.int .i64 (sv:Int)) (.int .i64 (p:Int)) (.int .i64 (n:Int));have j0:=zC hR 0;have j1:=zC hR 1;have j2:=zC hR 2;have j3:=zC hR 3;have j4:=zC hR 4;have j5:=zC hR 5;go_wp2_with fail;refine bodyPost_ret (v:=.tuple #[zCi ⟨sr,sf,ss2,sv,(p,n)⟩,.bool ok]) (by simp [results,Tryz.results71,go_sem,j0,j1,j2,j3,j4,j5]) rfl ⟨?_,⟨sr,sf,ss2,sv,(p,n)⟩,ok,rfl,hlt,by rw [zA HR];exact zKT (zA HOK) (fun h g=>⟨Or.inr ⟨g,tl,Or.inr (Or.inl h)⟩,zGI g (by decide)⟩)⟩;exact zAT hB1 (Nat.le_refl _) _ _ _ _ _ _
  ·have hcb:(hd == [99])=false:=by simp [hc]
   by_cases hr:hd=[114]
   ·subst hr;clear ha hab hc hcb;have HR:Hid (zFX q kind (ze ss) [114] tl=zE9 q kind (ze ss) tl):=zF rfl
    go_enter Tryz.func71,Tryz.ntmps71
    go_wp2_with fail
    all_goals
     refine (zGv b q kind ss vV vC vS tl _ _ _ hP0 hQ hS (zA HST _ (fun hne=>by first | rfl | (exfalso;apply hne;exact List.eq_nil_of_length_eq_zero (by omega)))) (by omega) (zA HWS)).mono ?_;rintro e w1 ⟨hb1,c,ok,rfl,hlt,hok⟩;obtain ⟨sr,sf,ss2,sv,sl⟩:=c;obtain ⟨p,n⟩:=sl;have HOK:=zF hok;clear hok;have hr1:=zH hb1 hr0;have hB1:Below w.heap.size w w1:=hA0.trans (hb1.mono hA0.size);have r0:w1.cell? ⟨w.heap.size,0,none⟩=some (.int .i64 0):=zE hr1 rfl;have r1:w1.cell? ⟨w.heap.size,1,none⟩=some (.int .i64 0):=zE hr1 rfl;have r2:w1.cell? ⟨w.heap.size,2,none⟩=some (.int .i64 0):=zE hr1 rfl;have r3:w1.cell? ⟨w.heap.size,3,none⟩=some (.int .i64 0):=zE hr1 rfl;have r4:w1.cell? ⟨w.heap.size,4,none⟩=some (.int .i64 0):=zE hr1 rfl;have r5:w1.cell? ⟨w.heap.size,5,none⟩=some (.int .i64 0):=zE hr1 rfl;have z0:=zD hr1 0;have z1:=zD hr1 1;have z2:=zD hr1 2;have z3:=zD hr1 3;have z4:=zD hr1 4;have z5:=zD hr1 5;have hR:=zBc hr1 (.int .i64 (sr:Int)) (.int .i64 (sf:Int)) (.int .i64 (ss2:Int)) (.int .i64 (sv:Int)) (.int .i64 (p:Int)) (.int .i64 (n:Int));have j0:=zC hR 0;have j1:=zC hR 1;have j2:=zC hR 2;have j3:=zC hR 3;have j4:=zC hR 4;have j5:=zC hR 5;go_wp2_with fail;refine bodyPost_ret (v:=.tuple #[zCi ⟨sr,sf,ss2,sv,(p,n)⟩,.bool ok]) (by simp [results,Tryz.results71,go_sem,j0,j1,j2,j3,j4,j5]) rfl ⟨?_,⟨sr,sf,ss2,sv,(p,n)⟩,ok,rfl,hlt,by rw [zA HR];exact zKT (zA HOK) (fun h g=>⟨Or.inr ⟨g,tl,Or.inr (Or.inr h)⟩,zGI g (by decide)⟩)⟩;exact zAT hB1 (Nat.le_refl _) _ _ _ _ _ _
   ·have hrb:(hd == [114])=false:=by simp [hr]
    by_cases hdd:hd=[100]
    ·subst hdd;clear ha hab hc hcb hr hrb;have HR:Hid (zFX q kind (ze ss) [100] tl=zDJ q kind (ze ss) tl):=zF rfl
     go_enter Tryz.func71,Tryz.ntmps71
     go_wp2_with fail
     all_goals
      refine (zIN b q kind ss vV vC vS tl _ _ _ hP0 hQ hS (zA HST _ (fun hne=>by first | rfl | (exfalso;apply hne;exact List.eq_nil_of_length_eq_zero (by omega)))) (by omega) (zA HWS)).mono ?_;rintro e w1 ⟨hb1,c,ok,rfl,hlt,hok⟩;obtain ⟨sr,sf,ss2,sv,sl⟩:=c;obtain ⟨p,n⟩:=sl;have HOK:=zF hok;clear hok;have hr1:=zH hb1 hr0;have hB1:Below w.heap.size w w1:=hA0.trans (hb1.mono hA0.size);have r0:w1.cell? ⟨w.heap.size,0,none⟩=some (.int .i64 0):=zE hr1 rfl;have r1:w1.cell? ⟨w.heap.size,1,none⟩=some (.int .i64 0):=zE hr1 rfl;have r2:w1.cell? ⟨w.heap.size,2,none⟩=some (.int .i64 0):=zE hr1 rfl;have r3:w1.cell? ⟨w.heap.size,3,none⟩=some (.int .i64 0):=zE hr1 rfl;have r4:w1.cell? ⟨w.heap.size,4,none⟩=some (.int .i64 0):=zE hr1 rfl;have r5:w1.cell? ⟨w.heap.size,5,none⟩=some (.int .i64 0):=zE hr1 rfl;have z0:=zD hr1 0;have z1:=zD hr1 1;have z2:=zD hr1 2;have z3:=zD hr1 3;have z4:=zD hr1 4;have z5:=zD hr1 5;have hR:=zBc hr1 (.int .i64 (sr:Int)) (.int .i64 (sf:Int)) (.int .i64 (ss2:Int)) (.int .i64 (sv:Int)) (.int .i64 (p:Int)) (.int .i64 (n:Int));have j0:=zC hR 0;have j1:=zC hR 1;have j2:=zC hR 2;have j3:=zC hR 3;have j4:=zC hR 4;have j5:=zC hR 5;go_wp2_with fail;refine bodyPost_ret (v:=.tuple #[zCi ⟨sr,sf,ss2,sv,(p,n)⟩,.bool ok]) (by simp [results,Tryz.results71,go_sem,j0,j1,j2,j3,j4,j5]) rfl ⟨?_,⟨sr,sf,ss2,sv,(p,n)⟩,ok,rfl,hlt,by rw [zA HR];exact zKT (zA HOK) (fun _ g=>⟨Or.inl g.1,zQW g⟩)⟩;exact zAT hB1 (Nat.le_refl _) _ _ _ _ _ _
    ·have hdb:(hd == [100])=false:=(by simp [hdd]);have HR:Hid (zFX q kind (ze ss) hd tl=none):=zF (by unfold zFX;rw [if_neg ha,if_neg hc,if_neg hr,if_neg hdd]);clear ha hc hr hdd
     go_enter Tryz.func71,Tryz.ntmps71
     go_wp2_with fail
     all_goals
      refine bodyPost_ret (v:=.tuple #[zCi S0,.bool false]) (by simp [results,Tryz.results71,go_sem]) rfl (StPost.none_ hA0 (zA HR) S0 zBE rfl)
def zCs (ss:List (Nat × Nat)):Bool:=match ss.getLast? with
 | none=>false
 | some c=>c.1 ||| c.2 == 0
theorem zHY (ss:List Stp):zCs (ze ss)=(decide (0 < ss.length) && ((zM ss ss.length).1 ||| (zM ss ss.length).2 == 0)):=by
 unfold zCs ze
 by_cases h:ss=[]
 ·subst h;rfl
 ·have hp:0 < ss.length:=List.length_pos_iff.2 h;obtain ⟨m,hm⟩:∃ m,ss.length=m + 1:=⟨ss.length - 1,by omega⟩;have e1:zM ss ss.length=(ss[m]'(by omega)).lits:=(by have h5:=zBU ss m (by omega);rwa [← hm] at h5);rw [List.getLast?_map,List.getLast?_eq_getElem?,show ss.length - 1=m from by omega,List.getElem?_eq_getElem (by omega:m < ss.length),e1];simp [hp]
theorem zMk (b:Nat) (q:QS) (kind:Nat) (ss:List Stp) (vV vC vS:Value) (w:World) (hP:PInv w b q kind ss vV vC vS) (hS:SBs ss) :
  Calls Tryz.prog 47 #[.pointer (some ⟨b,0,none⟩)] w fun e w'=>e=.returned (.bool (zCs (ze ss)))∧Below w.heap.size w w':=by
 obtain ⟨aS,cS,rfl⟩:=zN hP.oS;have hbw:=zB hP.fb;have hsl:=hS.len;have HC:=zF (zHY ss);have k3:w.cell? ⟨b,3,none⟩=some (.slice aS ss.length cS):=zE hP.fb rfl;have hlt:=zAX ss hS.bits ss.length
 go_enter Tryz.func47,Tryz.ntmps47
 go_wp2_with fail;refine (zBW (b + 1) b 2 ss _ ss.length _ k3 hP.oS (by omega)).mono ?_;rintro e w1 ⟨rfl,hb1⟩;generalize hea:zM ss ss.length=c at *;clear hea;obtain ⟨p,n⟩:=c;dsimp only at hlt;have hA:Below w.heap.size w (w1.alloc (.cells #[.int .i64 (p:Int),.int .i64 (n:Int)] 74)):=hb1.alloc hb1.size _;have hv:=heap_alloc_new w1 (.cells #[.int .i64 (p:Int),.int .i64 (n:Int)] 74)
 by_cases h0:0 < ss.length
 ·have hd1:decide (0 < ss.length)=true:=(by simpa using h0);have hd2:decide ((0:Int) < (ss.length:Int))=true:=decide_eq_true (by omega);have HF:Hid (zCs (ze ss)=(p ||| n == 0)):=zF (by rw [zA HC,hd1];rfl);clear h0;go_wp2_with fail;generalize w1.alloc (.cells #[.int .i64 (p:Int),.int .i64 (n:Int)] 74)=w5 at *;obtain ⟨v0,v1⟩:=zJ hv;have lv:=zB hv;refine (zEh p n _ hlt.1 hlt.2).mono ?_;rintro e w3 ⟨rfl,hb3⟩;go_wp2_with fail;go_ret;exact ⟨zAI (zA HF).symm,hA.trans (hb3.mono hA.size)⟩
 ·have hd1:decide (0 < ss.length)=false:=(by simpa using h0);have hd2:decide ((0:Int) < (ss.length:Int))=false:=decide_eq_false (by omega);have HF:Hid (zCs (ze ss)=false):=zF (by rw [zA HC,hd1];rfl);clear h0;go_wp2_with fail;go_ret;exact ⟨zAI (zA HF).symm,hA⟩
def zLN (b:Nat) (l:List UInt8) (w:World) (e:Ending) (w':World):Prop:=
 (l=zCS∧e=.returned (.bool true)∧w'=w.setCell ⟨b,2,none⟩ (.int .i64 1))∨(l=zA4∧e=.returned (.bool true)∧w'=w.setCell ⟨b,2,none⟩ (.int .i64 2))∨(l≠zA4∧l≠zCS∧e=.returned (.bool false)∧w'=w)
theorem zKB (b:Nat) (vV vC vS:Value) (kind:Nat) (l:List UInt8) (w:World) (hfb:w.heap[b]?=some (.cells #[vV,vC,.int .i64 kind,vS] 105 (0,0))) :
  Calls Tryz.prog 70 #[.pointer (some ⟨b,0,none⟩),.string ⟨l.toArray⟩] w fun e w'=>zLN b l w e w':=by
 have hbw:=zB hfb;obtain ⟨-,-,k2,-⟩:=zAi hfb;have z2:=zD hfb 2
 by_cases hf:l=zCS
 ·have HF:=zF hf;unfold zCS at hf;subst hf
  go_enter Tryz.func70,Tryz.ntmps70
  go_wp2_with fail;go_ret;exact Or.inl ⟨zA HF,rfl,rfl⟩
 ·by_cases ht:l=zA4
  ·have HT:=zF ht;clear hf;unfold zA4 at ht;subst ht
   go_enter Tryz.func70,Tryz.ntmps70
   go_wp2_with fail;go_ret;exact Or.inr (Or.inl ⟨zA HT,rfl,rfl⟩)
  ·have hfb1:(l == [112,114,111,111,102,32,102,97,108,115,101])=false:=(by rw [beq_eq_false_iff_ne];exact hf);have htb1:(l == [112,114,111,111,102,32,116,114,117,101])=false:=(by rw [beq_eq_false_iff_ne];exact ht);have HT:=zF ht;have HF:=zF hf;clear hf ht
   go_enter Tryz.func70,Tryz.ntmps70
   go_wp2_with fail;go_ret;exact Or.inr (Or.inr ⟨zA HT,zA HF,rfl,rfl⟩)
end Go.Proofs.YtgipjjhkhfihpaaGreatDoor
