import Derived.Test.YtgipjjhkhfihpaaGreatDoorKP
import Derived.Test.YtgipjjhkhfihpaaGreatDoorKL
import Derived.Test.YtgipjjhkhfihpaaGreatDoorKO
set_option maxRecDepth 100000
set_option maxHeartbeats 6400000
namespace Go.Proofs.YtgipjjhkhfihpaaGreatDoor
open Go.RowKit
def zH4 (ref:List Stp) (vals:Nat × Nat):Option Nat→Int × Nat
 | none=>(0,0)
 | some s=>((zAJ (zAM (zM ref s) vals)).headD 0,s)
theorem zIp (ref:List Stp) (uni:Nat × Nat) (cs:List Nat) (vals:Nat × Nat):zAd ref uni cs vals=zH4 ref vals (cs.find? (fun s=>zBA uni vals (zM ref s))):=by
 unfold zAd
 cases cs.find? (fun s=>zBA uni vals (zM ref s))<;>rfl
def zHe (u:Int × Nat):Value:=.agg #[.int .i64 u.1,.int .i64 (u.2:Int)]
def zKH:Prop:=∀ (b:Nat) (C:SC) (S:SS) (V:SV) (cs:List Nat) (aX:Option Addr) (cX base:Nat) (p:Nat × Nat) (w:World),SAt w b C S V→SBd C S→(p.1 < 512∧p.2 < 512)→w.ownsRow base 3 1 (.slice aX cs.length cX) cs.length (zu cs)→cs.length≤1048576→
  Calls Tryz.prog 111 #[.pointer (some ⟨b,0,none⟩),.slice aX cs.length cX,zAj p] w fun e w'=>e=.returned (zHe (zAd S.ref C.uni cs p))∧Below w.heap.size w w'
theorem zA0 {w:World} {base:Nat} {e:TypeId} {size:Nat} {v:Value} {n:Nat} {xs:List Value} (h:w.ownsRow base e size v n xs) {k:Nat} (hk:v.ownBlock=some k):base≤k:=by
 obtain ⟨h1,h2⟩:=h
 rcases h2 with h2 | ⟨g,cap,cur,rfl,hg,hh,h3⟩
 ·obtain ⟨rfl,_⟩:=h2;simp [Value.ownBlock] at hk
 ·simp [Value.ownBlock] at hk;omega
theorem zf {w:World} {b c:Nat} {o:Obj} (h:w.heap[b]?=some o) (hne:c≠b) (k:Nat) (u:Value):(w.setCell ⟨c,k,none⟩ u).heap[b]?=some o:=by
 simp [World.setCell,Array.getElem?_modify,h,hne]
def zBp (l:List (Int × Nat)):List Value:=l.flatMap (fun u=>[Value.int .i64 u.1,Value.int .i64 (u.2:Int)])
theorem zIE (l:List (Int × Nat)) (u:Int × Nat):zBp (l ++ [u])=zBp l ++ [.int .i64 u.1,.int .i64 (u.2:Int)]:=by simp [zBp]
theorem zJz (l:List (Int × Nat)) (k:Nat) (h:k < l.length):(zBp l)[k * 2]?=some (.int .i64 l[k].1)∧(zBp l)[k * 2 + 1]?=some (.int .i64 (l[k].2:Int)):=by
 induction l generalizing k with
 | nil=>simp at h
 | cons a l ih=>
  cases k with
  | zero=>simp [zBp]
  | succ k=>
   have:=ih k (by simpa using h)
   simp only [zBp,List.flatMap_cons] at this ⊢;rw [show (k + 1) * 2=k * 2 + 2 from by omega,show k * 2 + 2 + 1=(k * 2 + 1) + 2 from by omega,List.getElem?_append_right (by simp),List.getElem?_append_right (by simp)]
   simpa using this
theorem zQ3:(Tryz.prog.info? 177).map (fun i=>(i.zero,i.size,i.bytes))=some (some (.agg #[.int .i64 0,.int .i64 0]),2,16):=by kernel_rfl
theorem SAt.only {w w':World} {b:Nat} {C:SC} {S:SS} {V:SV} (h:SAt w b C S V) {k:Nat} (ho:Only (·=k) w w') (hf:Far b V k):SAt w' b C S V:=
 ⟨(ho.block b (zB h.fb) (fun e=>hf.1 e.symm)).trans h.fb,zY h.oV ho (fun j hj e=>hf.2.1 (by rw [hj,e])),zY h.oC ho (fun j hj e=>hf.2.2.1 (by rw [hj,e])),zY h.oR ho (fun j hj e=>hf.2.2.2.1 (by rw [hj,e])),zY h.oA ho (fun j hj e=>hf.2.2.2.2.1 (by rw [hj,e])),h.oK.keep ho (fun j hj e=>hf.2.2.2.2.2 (by rw [hj,e])),h.ap⟩
theorem zHo (c:Nat × Nat):∀ k v,1≤v→v + k≤9→∀ x∈zAP c k v,-8≤x∧x≤8:=by
 intro k
 induction k with
 | zero=>intro v _ _ x hx;simp [zAP] at hx
 | succ k ih=>
  intro v h1 h9 x hx;rw [zAP,List.mem_append,List.mem_append] at hx
  rcases hx with hx | hx | hx
  ·split at hx
   ·simp at hx;subst hx;omega
   ·simp at hx
  ·split at hx
   ·simp at hx;subst hx;omega
   ·simp at hx
  ·exact ih (v + 1) (by omega) (by omega) x hx
theorem zOr (ref:List Stp) (uni:Nat × Nat) (cs:List Nat) (vals:Nat × Nat):-8≤(zAd ref uni cs vals).1∧(zAd ref uni cs vals).1≤8:=by
 rw [zIp]
 cases cs.find? (fun s=>zBA uni vals (zM ref s)) with
 | none=>exact ⟨show (-8:Int)≤0 by decide,show (0:Int)≤8 by decide⟩
 | some s=>
  show -8≤(zAJ (zAM (zM ref s) vals)).headD 0∧(zAJ (zAM (zM ref s) vals)).headD 0≤8
  cases h:zAJ (zAM (zM ref s) vals) with
  | nil=>exact ⟨by decide,by decide⟩
  | cons x l=>exact zHo (zAM (zM ref s) vals) 8 1 (by decide) (by decide) x (by show x∈zAJ (zAM (zM ref s) vals);rw [h];simp)
theorem zKW (ref:List Stp) (uni:Nat × Nat) (cs:List Nat) (m:Nat) (vals:Nat × Nat) (trail:List (Int × Nat)):zAp ref uni cs (m + 1) vals trail=if zBi ref uni cs vals≠0 then ⟨vals,trail,zBi ref uni cs vals⟩ else
  if (zAd ref uni cs vals).2=0 then ⟨vals,trail,0⟩ else zAp ref uni cs m (zQ vals (zAd ref uni cs vals).1) (trail ++ [zAd ref uni cs vals]):=rfl
def zPF (C:SC) (S:SS) (path:Nat × Nat) (w:World) (e:Ending) (w':World):Prop:=
 ∃ vT,e=.returned (.agg #[.int .i64 ((zX C S path).vals.1:Int),.int .i64 ((zX C S path).vals.2:Int),vT,.int .i64 ((zX C S path).conf:Int)])∧w'.ownsRow w.heap.size 177 2 vT (zX C S path).trail.length (zBp (zX C S path).trail)∧Below w.heap.size w w'
theorem zFx (hFU:zKH) (b:Nat) (C:SC) (S:SS) (V:SV) (path:Nat × Nat) (w:World) (hS:SAt w b C S V) (hB:SBd C S) (hp:path.1 < 512∧path.2 < 512) :
  Calls Tryz.prog 89 #[.pointer (some ⟨b,0,none⟩),zAj path] w fun e w'=>zPF C S path w e w':=by
 obtain ⟨p1,p2⟩:=path;have hbw:=zB hS.fb;have hvl:=hB.qb.vl;obtain ⟨aV,cV,hVf⟩:=zN hS.oV;obtain ⟨i1,hi1,hz10,hz11,hz12⟩:=info_parts zQ3
 go_enter Tryz.func89,Tryz.ntmps89
 go_wp2_with fail;generalize hw0:(((w.alloc (.cells #[.int .i64 (p1:Int),.int .i64 (p2:Int)] 74)).alloc (.cells #[.int .i64 0,.int .i64 0,.slice none 0 0,.int .i64 0] 161)).alloc (.cells #[.int .i64 (p1:Int),.int .i64 (p2:Int),.slice none 0 0,.int .i64 0] 161))=u1;have hBw:Below w.heap.size w u1:=(by rw [← hw0];exact (((Below.refl _ _).alloc (Nat.le_refl _) _).alloc (by simp;try omega) _).alloc (by simp;try omega) _);have hpa:u1.heap[w.heap.size]?=some (.cells #[.int .i64 (p1:Int),.int .i64 (p2:Int)] 74 (0,0)):=(by rw [← hw0,heap_alloc_old _ _ (by simp;try omega),heap_alloc_old _ _ (by simp;try omega)];exact zP (by simp));have hrs:u1.heap[w.heap.size + 1]?=some (.cells #[.int .i64 0,.int .i64 0,.slice none 0 0,.int .i64 0] 161 (0,0)):=(by rw [← hw0,heap_alloc_old _ _ (by simp;try omega)];exact zP (by simp));have huu:u1.heap[w.heap.size + 2]?=some (.cells #[.int .i64 (p1:Int),.int .i64 (p2:Int),.slice none 0 0,.int .i64 0] 161 (0,0)):=(by rw [← hw0];exact zP (by simp));clear hw0;obtain ⟨cpa0,cpa1⟩:=zJ hpa;have lpa:=zB hpa;obtain ⟨crs0,crs1,crs2,crs3⟩:=zAi hrs;have lrs:=zB hrs;obtain ⟨cuu0,cuu1,cuu2,cuu3⟩:=zAi huu;have luu:=zB huu;refine (zKz b C S V _ (hS.later hBw) hB).mono ?_;rintro e u2 ⟨vX,rfl,hX,b2⟩;replace hBw:=hBw.trans (b2.mono hBw.size);replace hpa:=zH b2 hpa;clear cpa0 cpa1;obtain ⟨cpa0,cpa1⟩:=zJ hpa;replace lpa:=zB hpa;replace hrs:=zH b2 hrs;clear crs0 crs1 crs2 crs3;obtain ⟨crs0,crs1,crs2,crs3⟩:=zAi hrs;replace lrs:=zB hrs;replace huu:=zH b2 huu;clear cuu0 cuu1 cuu2 cuu3;obtain ⟨cuu0,cuu1,cuu2,cuu3⟩:=zAi huu;replace luu:=zB huu;have hcl8:(zg C.q S.kept).length≤88:=by
  unfold zg;have h1:=hB.qb.cl;have h2:=hB.kept;have h3:(S.kept.filter (fun f=>f.1 == 1)).length≤S.kept.length:=List.length_filter_le _ _
  simp;omega
 have HU:Hid (zX C S (p1,p2)=zAp S.ref C.uni (zg C.q S.kept) (C.q.vars.length + 1) (p1,p2) []):=zF rfl;generalize zg C.q S.kept=cs at *;obtain ⟨aX,cX,rfl⟩:=zN hX;have hS1:=hS.later hBw;have nuu:Far b V (w.heap.size + 2):=hS.fresh (by omega);clear cpa0 cpa1 lpa hpa cuu0 cuu1 cuu2 cuu3 luu crs0 crs1 crs2 crs3 lrs;have lrs:=zB hrs;have HCUR:Hid (∀ wx,Only (·=w.heap.size + 2) u2 wx→SAt wx b C S V∧wx.ownsRow u1.heap.size 3 1 (.slice aX cs.length cX) cs.length (zu cs)∧wx.heap[w.heap.size + 1]?=some (.cells #[.int .i64 0,.int .i64 0,.slice none 0 0,.int .i64 0] 161 (0,0))∧Below w.heap.size w wx):=zF (fun wx ho=>⟨hS1.only ho nuu,zY hX ho (fun j hj e=>by
   obtain ⟨c,hc⟩:=zr hX j hj;rw [e] at hc;exact absurd (zc hc huu) (by decide)),(ho.block _ lrs (by omega)).trans hrs,hBw.trans (ho.below hBw.size (fun k hk e=>by omega))⟩)
 have huu0:=huu;clear hS hS1 hX hrs hBw huu b2;go_wp2_with fail
 go_loopg [] (C.q.vars.length + 1) (fun m wx=>∃ (vals:Nat × Nat) (trail:List (Int × Nat)) (vT:Value),trail.length + m=C.q.vars.length + 1∧(vals.1 < 512∧vals.2 < 512)∧zX C S (p1,p2)=zAp S.ref C.uni cs m vals trail∧Only (·=w.heap.size + 2) u2 wx∧wx.heap[w.heap.size + 2]?=some (.cells #[.int .i64 (vals.1:Int),.int .i64 (vals.2:Int),vT,.int .i64 0] 161 (0,0))∧wx.ownsRow u2.heap.size 177 2 vT trail.length (zBp trail))
 case atStart=>exact ⟨(p1,p2),[],_,by simp,hp,zA HU,Only.refl _ _,huu0,World.ownsRow_nil _ _ _ _⟩
 case round=>
  obtain ⟨⟨v1,v2⟩,trail,vT,htm,hv9,hun,ho,hub,hoT⟩:=hrel;dsimp only at hv9;have HUN:=zF hun;clear hun huu0;obtain ⟨aT,cT,rfl⟩:=zN hoT;obtain ⟨hSr,hXr,hrsr,hBr⟩:=zA HCUR wr ho;have q0:wr.cell? ⟨b,0,none⟩=some (.slice aV C.q.vars.length cV):=(by rw [zC hSr.fb];exact congrArg some hVf);have cu2:wr.cell? ⟨w.heap.size + 1 + 1,2,none⟩=some (.slice aT trail.length cT):=zE hub rfl;have lbr:=zB hSr.fb;have lub:=zB hub;have hlt9:trail.length≤9:=by omega
  by_cases hlt:trail.length≤C.q.vars.length
  ·obtain ⟨m,rfl⟩:∃ m,gk=m + 1:=⟨gk - 1,by omega⟩;have HGO:=zF (zKW S.ref C.uni cs m (v1,v2) trail);have hd1:decide ((trail.length:Int)≤(C.q.vars.length:Int))=true:=decide_eq_true (by omega);have hd2:decide (trail.length≤C.q.vars.length)=true:=decide_eq_true hlt;go_wp2_with fail
   go_quiet (fail)
   have b0:Below wr.heap.size wr (wr.drewN nq):=below_drewN (Below.refl _ _) nq;have ho3:=ho.trans (Only.of_below (T:=(·=w.heap.size + 2)) b0);have hub3:=(b0.block _ lub).trans hub;have hoT3:=zO hoT b0;clear hSr hXr hrsr hBr q0 cu2 lbr lub ho hub hoT;generalize wr.drewN nq=w3 at *;obtain ⟨hS3,hX3,hrs3,hB3⟩:=zA HCUR w3 ho3;have c30:w3.cell? ⟨w.heap.size + 1 + 1,0,none⟩=some (.int .i64 (v1:Int)):=zE hub3 rfl;have c31:w3.cell? ⟨w.heap.size + 1 + 1,1,none⟩=some (.int .i64 (v2:Int)):=zE hub3 rfl;have c33:w3.cell? ⟨w.heap.size + 1 + 1,3,none⟩=some (.int .i64 0):=zE hub3 rfl;have z33:=zD hub3 3;have lu3:=zB hub3;go_wp2_with fail;refine (zHG b C S V cs aX cX _ (v1,v2) w3 hS3 hB hv9 hX3 (by omega)).mono ?_;rintro e w4 ⟨rfl,hb4⟩;have ho4:=ho3.trans (Only.of_below (T:=(·=w.heap.size + 2)) hb4);have hub4:=(hb4.block _ lu3).trans hub3;have hoT4:=zO hoT3 hb4;clear hS3 hX3 hrs3 hB3 c30 c31 c33 z33 lu3 ho3 hub3 hoT3;have c43:w4.cell? ⟨w.heap.size + 1 + 1,3,none⟩=some (.int .i64 0):=zE hub4 rfl;have z43:=zD hub4 3;have lu4:=zB hub4;have hlo:w.heap.size≤u2.heap.size:=(by omega);have hnT:(Value.slice aT trail.length cT).ownBlock≠some (w.heap.size + 2):=zT hoT4 hub4 (by decide);generalize hcf:zBi S.ref C.uni cs (v1,v2)=cf at *;have HCF:=zF hcf;clear hcf;have ho5:Only (·=w.heap.size + 2) u2 (w4.setCell ⟨w.heap.size + 2,3,none⟩ (.int .i64 (cf:Int))):=ho4.setAt 3 _;have hub5:(w4.setCell ⟨w.heap.size + 2,3,none⟩ (.int .i64 (cf:Int))).heap[w.heap.size + 2]?=some (.cells #[.int .i64 (v1:Int),.int .i64 (v2:Int),.slice aT trail.length cT,.int .i64 (cf:Int)] 161 (0,0)):=zI hub4 3 _;have hoT5:=zR hoT4 (p:=⟨w.heap.size + 2,3,none⟩) hnT (.int .i64 (cf:Int))
   by_cases hc0:cf=0
   ·subst hc0;have HGZ:Hid (zX C S (p1,p2)=if (zAd S.ref C.uni cs (v1,v2)).2=0 then ⟨(v1,v2),trail,0⟩ else zAp S.ref C.uni cs m (zQ (v1,v2) (zAd S.ref C.uni cs (v1,v2)).1) (trail ++ [zAd S.ref C.uni cs (v1,v2)])):=zF (by rw [zA HUN,zA HGO,if_neg (fun h=>h rfl)]);have c40:w4.cell? ⟨w.heap.size + 1 + 1,0,none⟩=some (.int .i64 (v1:Int)):=zE hub4 rfl;have c41:w4.cell? ⟨w.heap.size + 1 + 1,1,none⟩=some (.int .i64 (v2:Int)):=zE hub4 rfl;clear ho5 hub5 hoT5;have ho5:Only (·=w.heap.size + 2) u2 (w4.setCell ⟨w.heap.size + 1 + 1,3,none⟩ (.int .i64 0)):=ho4.setAt 3 _;have hub5:(w4.setCell ⟨w.heap.size + 1 + 1,3,none⟩ (.int .i64 0)).heap[w.heap.size + 2]?=some (.cells #[.int .i64 (v1:Int),.int .i64 (v2:Int),.slice aT trail.length cT,.int .i64 0] 161 (0,0)):=zI hub4 3 _;have hoT5:=zR hoT4 (p:=⟨w.heap.size + 1 + 1,3,none⟩) hnT (.int .i64 0);clear HGO HUN HCF hub4 hoT4 ho4;go_wp2_with fail;clear c40 c41 c43 z43 lu4;obtain ⟨hS5,hX5,hrs5,hB5⟩:=zA HCUR _ ho5;have lu5:=zB hub5;have hbd:=zOr S.ref C.uni cs (v1,v2);have HFU:Hid (∀ w5,SAt w5 b C S V→w5.ownsRow u1.heap.size 3 1 (.slice aX cs.length cX) cs.length (zu cs)→Calls Tryz.prog 111 #[.pointer (some ⟨b,0,none⟩),.slice aX cs.length cX,zAj (v1,v2)] w5 fun e w'=>e=.returned (zHe (zAd S.ref C.uni cs (v1,v2)))∧Below w5.heap.size w5 w'):=zF (fun w5 h1 h2=>hFU b C S V cs aX cX _ (v1,v2) w5 h1 hB hv9 h2 (by omega));generalize zAd S.ref C.uni cs (v1,v2)=un at *;obtain ⟨x,n⟩:=un;dsimp only at hbd HGZ;generalize w4.setCell ⟨w.heap.size + 1 + 1,3,none⟩ (.int .i64 0)=w5 at *;refine (zA HFU w5 hS5 hX5).mono ?_;rintro e w6 ⟨rfl,hb6⟩;have ho6:=ho5.trans (Only.of_below (T:=(·=w.heap.size + 2)) hb6);have hub6:=(hb6.block _ lu5).trans hub5;have hoT6:=zO hoT5 hb6;unfold zHe;dsimp only;clear hS5 hX5 hrs5 hB5 HFU ho5 hub5 hoT5 lu5;have hA:Below w6.heap.size w6 (w6.alloc (.cells #[.int .i64 x,.int .i64 (n:Int)] 177)):=(Below.refl _ _).alloc (Nat.le_refl _) _;have hnx:=heap_alloc_new w6 (.cells #[.int .i64 x,.int .i64 (n:Int)] 177);have ho7:=ho6.trans (Only.of_below (T:=(·=w.heap.size + 2)) hA);have hubz:=zH hA hub6;have hoTz:=zO hoT6 hA;obtain ⟨hSz,hXz,hrsz,hBz⟩:=zA HCUR _ ho7
    by_cases hn0:n=0
    ·have hq0:((n:Int) == 0)=true:=(by rw [beq_iff_eq];omega);have HF:Hid (zX C S (p1,p2)=⟨(v1,v2),trail,0⟩):=zF (by rw [zA HGZ,if_pos hn0]);clear hub6 hoT6 ho6 hn0;have r0:(w6.alloc (.cells #[.int .i64 x,.int .i64 (n:Int)] 177)).cell? ⟨w.heap.size + 1,0,none⟩=some (.int .i64 0):=zE hrsz rfl;have r1:(w6.alloc (.cells #[.int .i64 x,.int .i64 (n:Int)] 177)).cell? ⟨w.heap.size + 1,1,none⟩=some (.int .i64 0):=zE hrsz rfl;have r2:(w6.alloc (.cells #[.int .i64 x,.int .i64 (n:Int)] 177)).cell? ⟨w.heap.size + 1,2,none⟩=some (.slice none 0 0):=zE hrsz rfl;have r3:(w6.alloc (.cells #[.int .i64 x,.int .i64 (n:Int)] 177)).cell? ⟨w.heap.size + 1,3,none⟩=some (.int .i64 0):=zE hrsz rfl;have y0:=zD hrsz 0;have y1:=zD hrsz 1;have y2:=zD hrsz 2;have y3:=zD hrsz 3;have lrz:=zB hrsz;have d0:(w6.alloc (.cells #[.int .i64 x,.int .i64 (n:Int)] 177)).cell? ⟨w.heap.size + 1 + 1,0,none⟩=some (.int .i64 (v1:Int)):=zE hubz rfl;have d1:(w6.alloc (.cells #[.int .i64 x,.int .i64 (n:Int)] 177)).cell? ⟨w.heap.size + 1 + 1,1,none⟩=some (.int .i64 (v2:Int)):=zE hubz rfl;have d2:(w6.alloc (.cells #[.int .i64 x,.int .i64 (n:Int)] 177)).cell? ⟨w.heap.size + 1 + 1,2,none⟩=some (.slice aT trail.length cT):=zE hubz rfl;have d3:(w6.alloc (.cells #[.int .i64 x,.int .i64 (n:Int)] 177)).cell? ⟨w.heap.size + 1 + 1,3,none⟩=some (.int .i64 0):=zE hubz rfl;have luz:=zB hubz;have hR:=zI (zI (zI (zI hrsz 0 (.int .i64 (v1:Int))) 1 (.int .i64 (v2:Int))) 2 (.slice aT trail.length cT)) 3 (.int .i64 0);have j0:=zC hR 0;have j1:=zC hR 1;have j2:=zC hR 2;have j3:=zC hR 3;have HOW:=zF (zR (zR (zR (zR hoTz (p:=⟨w.heap.size + 1,0,none⟩) (zT hoTz hrsz (by decide)) (.int .i64 (v1:Int))) (p:=⟨w.heap.size + 1,1,none⟩) (zT hoTz hrsz (by decide)) (.int .i64 (v2:Int))) (p:=⟨w.heap.size + 1,2,none⟩) (zT hoTz hrsz (by decide)) (.slice aT trail.length cT)) (p:=⟨w.heap.size + 1,3,none⟩) (zT hoTz hrsz (by decide)) (.int .i64 0));have HBZ:=zF ((((hBz.setCell (p:=⟨w.heap.size + 1,0,none⟩) (Nat.le_succ _) (.int .i64 (v1:Int))).setCell (p:=⟨w.heap.size + 1,1,none⟩) (Nat.le_succ _) (.int .i64 (v2:Int))).setCell (p:=⟨w.heap.size + 1,2,none⟩) (Nat.le_succ _) (.slice aT trail.length cT)).setCell (p:=⟨w.heap.size + 1,3,none⟩) (Nat.le_succ _) (.int .i64 0));clear hoTz hSz hXz hBz;go_wp2_with fail;refine bodyPost_ret (v:=.agg #[.int .i64 (v1:Int),.int .i64 (v2:Int),.slice aT trail.length cT,.int .i64 0]) (by simp [results,Tryz.results89,go_sem,j0,j1,j2,j3]) rfl ⟨.slice aT trail.length cT,by rw [zA HF];rfl,by rw [zA HF];exact zAG (zA HOW) hlo,zA HBZ⟩
    ·have HF:Hid (zX C S (p1,p2)=zAp S.ref C.uni cs m (zQ (v1,v2) x) (trail ++ [(x,n)])):=zF (by rw [zA HGZ,if_neg hn0]);have hq0:((n:Int) == 0)=false:=(by rw [beq_eq_false_iff_ne];omega);have c60:w6.cell? ⟨w.heap.size + 1 + 1,0,none⟩=some (.int .i64 (v1:Int)):=zE hub6 rfl;have c61:w6.cell? ⟨w.heap.size + 1 + 1,1,none⟩=some (.int .i64 (v2:Int)):=zE hub6 rfl;have lu6:=zB hub6;go_wp2_with fail;refine (zCH v1 v2 x _ hv9.1 hv9.2 (by omega) (by omega)).mono ?_;rintro e w7 ⟨rfl,hb7⟩;have hlu6:w.heap.size + 1 + 1≠w6.heap.size:=(by omega);have hnB:=zH hb7 hnx;have ho8:=ho7.trans (Only.of_below (T:=(·=w.heap.size + 2)) hb7);have hub7:=zH hb7 hubz;have hoT7:=zO hoTz hb7;clear c60 c61 lu6 hub6 hoT6 ho6 hSz hXz hrsz hBz hnx ho7 hubz hoTz hA;have hw9:(zQ (v1,v2) x).1 < 512∧(zQ (v1,v2) x).2 < 512:=zAZ (v1,v2) x hv9.1 hv9.2;generalize zQ (v1,v2) x=wl at *;obtain ⟨x1,x2⟩:=wl;dsimp only at *;have c70:w7.cell? ⟨w.heap.size + 1 + 1,0,none⟩=some (.int .i64 (v1:Int)):=zE hub7 rfl;have c71:w7.cell? ⟨w.heap.size + 1 + 1,1,none⟩=some (.int .i64 (v2:Int)):=zE hub7 rfl;have c72:w7.cell? ⟨w.heap.size + 1 + 1,2,none⟩=some (.slice aT trail.length cT):=zE hub7 rfl;have z70:=zD hub7 0;have z71:=zD hub7 1;have z72:=zD hub7 2;have lu7:=zB hub7;have hnB8:((w7.setCell ⟨w.heap.size + 1 + 1,0,none⟩ (.int .i64 (x1:Int))).setCell ⟨w.heap.size + 1 + 1,1,none⟩ (.int .i64 (x2:Int))).heap[w6.heap.size]?=some (.cells #[.int .i64 x,.int .i64 (n:Int)] 177 (0,0)):=zf (zf hnB hlu6 0 _) hlu6 1 _;have cn0:=zC hnB8 0;have cn1:=zC hnB8 1;clear hlu6;have hub8:=zI (zI hub7 0 (.int .i64 (x1:Int))) 1 (.int .i64 (x2:Int));have hoT8:=zR (zR hoT7 (p:=⟨w.heap.size + 1 + 1,0,none⟩) hnT (.int .i64 (x1:Int))) (p:=⟨w.heap.size + 1 + 1,1,none⟩) hnT (.int .i64 (x2:Int));have ho8':Only (·=w.heap.size + 2) u2 ((w7.setCell ⟨w.heap.size + 1 + 1,0,none⟩ (.int .i64 (x1:Int))).setCell ⟨w.heap.size + 1 + 1,1,none⟩ (.int .i64 (x2:Int))):=(ho8.setAt 0 _).setAt 1 _;have lu8:=zB hub8;have hbs8:=ho8'.size;have hT8:∀ k,(Value.slice aT trail.length cT).ownBlock=some k→u2.heap.size≤k:=fun k hk=>zA0 hoT8 hk
     have HO8:=zF ho8';have HU8:=zF hub8;have HT8:=zF hoT8;have HNT:=zF hnT;have HK8:=zF hT8;clear ho8' hub8 hoT8 hnT hT8
     go_wp2_with (at_builtin;refine zBL rfl (.tmp 48) (.tmp 50) 159 rfl u2.heap.size i1 (.agg #[.int .i64 0,.int .i64 0]) 2 16 Tryz.underlying159 hi1 hz10 hz11 hz12 rfl (by decide) _ _ _ (zA HT8) rfl _ rfl (by simp [World.setCell]) rfl (by simp [Value.oneCell']) (by unfold maxLen;omega) (by omega) hbs8 ?_;intro v' w9 hown9 hgrow hat;have hub9:=(hgrow.block (w.heap.size + 2) lu8 (fun e=>zA HNT e.symm)).trans (zA HU8);have c92:w9.cell? ⟨w.heap.size + 1 + 1,2,none⟩=some (.slice aT trail.length cT):=(by rw [zC hub9];rfl);have z92:=zD hub9 2;have lu9:=zB hub9;have ho9:=(zA HO8).grown hgrow (fun k hk=>Or.inr (zA HK8 k hk));clear hgrow;obtain ⟨a9,c9,rfl⟩:=zN hown9)
     have hn9:(Value.slice a9 (trail.length + 1) c9).ownBlock≠some (w.heap.size + 2):=zT hown9 hub9 (by decide);have hF9:=zR hown9 (p:=⟨w.heap.size + 1 + 1,2,none⟩) hn9 (.slice a9 (trail.length + 1) c9);have hU9:=zI hub9 2 (.slice a9 (trail.length + 1) c9);have hO9:=ho9.setAt 2 (.slice a9 (trail.length + 1) c9);go_wp2_with fail
     go_roundg m
     case measure=>omega
     case rel=>exact ⟨(x1,x2),trail ++ [(x,n)],.slice a9 (trail.length + 1) c9,by simp;omega,hw9,zA HF,hO9,hU9,by rw [List.length_append,zIE];exact hF9⟩
   ·have HF:Hid (zX C S (p1,p2)=⟨(v1,v2),trail,cf⟩):=zF (by rw [zA HUN,zA HGO,if_pos hc0]);have hd3:decide ((0:Int) < (cf:Int))=true:=decide_eq_true (by omega);have hd4:decide (0 < cf)=true:=decide_eq_true (by omega);obtain ⟨hSz,hXz,hrsz,hBz⟩:=zA HCUR _ ho5;have hubz:=hub5;have hoTz:=hoT5;clear hub4 hoT4 ho4 hub5 hoT5 ho5;have r0:(w4.setCell ⟨w.heap.size + 2,3,none⟩ (.int .i64 (cf:Int))).cell? ⟨w.heap.size + 1,0,none⟩=some (.int .i64 0):=zE hrsz rfl;have r1:(w4.setCell ⟨w.heap.size + 2,3,none⟩ (.int .i64 (cf:Int))).cell? ⟨w.heap.size + 1,1,none⟩=some (.int .i64 0):=zE hrsz rfl;have r2:(w4.setCell ⟨w.heap.size + 2,3,none⟩ (.int .i64 (cf:Int))).cell? ⟨w.heap.size + 1,2,none⟩=some (.slice none 0 0):=zE hrsz rfl;have r3:(w4.setCell ⟨w.heap.size + 2,3,none⟩ (.int .i64 (cf:Int))).cell? ⟨w.heap.size + 1,3,none⟩=some (.int .i64 0):=zE hrsz rfl;have y0:=zD hrsz 0;have y1:=zD hrsz 1;have y2:=zD hrsz 2;have y3:=zD hrsz 3;have lrz:=zB hrsz;have d0:(w4.setCell ⟨w.heap.size + 2,3,none⟩ (.int .i64 (cf:Int))).cell? ⟨w.heap.size + 1 + 1,0,none⟩=some (.int .i64 (v1:Int)):=zE hubz rfl;have d1:(w4.setCell ⟨w.heap.size + 2,3,none⟩ (.int .i64 (cf:Int))).cell? ⟨w.heap.size + 1 + 1,1,none⟩=some (.int .i64 (v2:Int)):=zE hubz rfl;have d2:(w4.setCell ⟨w.heap.size + 2,3,none⟩ (.int .i64 (cf:Int))).cell? ⟨w.heap.size + 1 + 1,2,none⟩=some (.slice aT trail.length cT):=zE hubz rfl;have d3:(w4.setCell ⟨w.heap.size + 2,3,none⟩ (.int .i64 (cf:Int))).cell? ⟨w.heap.size + 1 + 1,3,none⟩=some (.int .i64 (cf:Int)):=zE hubz rfl;have luz:=zB hubz;have hR:=zI (zI (zI (zI hrsz 0 (.int .i64 (v1:Int))) 1 (.int .i64 (v2:Int))) 2 (.slice aT trail.length cT)) 3 (.int .i64 (cf:Int));have j0:=zC hR 0;have j1:=zC hR 1;have j2:=zC hR 2;have j3:=zC hR 3;have HOW:=zF (zR (zR (zR (zR hoTz (p:=⟨w.heap.size + 1,0,none⟩) (zT hoTz hrsz (by decide)) (.int .i64 (v1:Int))) (p:=⟨w.heap.size + 1,1,none⟩) (zT hoTz hrsz (by decide)) (.int .i64 (v2:Int))) (p:=⟨w.heap.size + 1,2,none⟩) (zT hoTz hrsz (by decide)) (.slice aT trail.length cT)) (p:=⟨w.heap.size + 1,3,none⟩) (zT hoTz hrsz (by decide)) (.int .i64 (cf:Int)));have HBZ:=zF ((((hBz.setCell (p:=⟨w.heap.size + 1,0,none⟩) (Nat.le_succ _) (.int .i64 (v1:Int))).setCell (p:=⟨w.heap.size + 1,1,none⟩) (Nat.le_succ _) (.int .i64 (v2:Int))).setCell (p:=⟨w.heap.size + 1,2,none⟩) (Nat.le_succ _) (.slice aT trail.length cT)).setCell (p:=⟨w.heap.size + 1,3,none⟩) (Nat.le_succ _) (.int .i64 (cf:Int)));clear hoTz hSz hXz hBz;go_wp2_with fail;refine bodyPost_ret (v:=.agg #[.int .i64 (v1:Int),.int .i64 (v2:Int),.slice aT trail.length cT,.int .i64 (cf:Int)]) (by simp [results,Tryz.results89,go_sem,j0,j1,j2,j3]) rfl ⟨.slice aT trail.length cT,by rw [zA HF],by rw [zA HF];exact zAG (zA HOW) hlo,zA HBZ⟩
  ·have hm0:gk=0:=(by omega);subst hm0;have hd1:decide ((trail.length:Int)≤(C.q.vars.length:Int))=false:=decide_eq_false (by omega);have hd2:decide (trail.length≤C.q.vars.length)=false:=decide_eq_false hlt;have HF:Hid (zX C S (p1,p2)=⟨(v1,v2),trail,0⟩):=zF (by rw [zA HUN];rfl);go_wp2_with fail
   go_quiet (fail)
   have b0:Below wr.heap.size wr (wr.drewN nq):=below_drewN (Below.refl _ _) nq;have ho3:=ho.trans (Only.of_below (T:=(·=w.heap.size + 2)) b0);have hubz:=(b0.block _ lub).trans hub;have hoTz:=zO hoT b0;clear hSr hXr hrsr hBr q0 cu2 lbr lub ho hub hoT;generalize wr.drewN nq=w3 at *;have hlo:w.heap.size≤u2.heap.size:=(by omega);obtain ⟨hSz,hXz,hrsz,hBz⟩:=zA HCUR w3 ho3;have r0:w3.cell? ⟨w.heap.size + 1,0,none⟩=some (.int .i64 0):=zE hrsz rfl;have r1:w3.cell? ⟨w.heap.size + 1,1,none⟩=some (.int .i64 0):=zE hrsz rfl;have r2:w3.cell? ⟨w.heap.size + 1,2,none⟩=some (.slice none 0 0):=zE hrsz rfl;have r3:w3.cell? ⟨w.heap.size + 1,3,none⟩=some (.int .i64 0):=zE hrsz rfl;have y0:=zD hrsz 0;have y1:=zD hrsz 1;have y2:=zD hrsz 2;have y3:=zD hrsz 3;have lrz:=zB hrsz;have d0:w3.cell? ⟨w.heap.size + 1 + 1,0,none⟩=some (.int .i64 (v1:Int)):=zE hubz rfl;have d1:w3.cell? ⟨w.heap.size + 1 + 1,1,none⟩=some (.int .i64 (v2:Int)):=zE hubz rfl;have d2:w3.cell? ⟨w.heap.size + 1 + 1,2,none⟩=some (.slice aT trail.length cT):=zE hubz rfl;have d3:w3.cell? ⟨w.heap.size + 1 + 1,3,none⟩=some (.int .i64 0):=zE hubz rfl;have luz:=zB hubz;have hR:=zI (zI (zI (zI hrsz 0 (.int .i64 (v1:Int))) 1 (.int .i64 (v2:Int))) 2 (.slice aT trail.length cT)) 3 (.int .i64 0);have j0:=zC hR 0;have j1:=zC hR 1;have j2:=zC hR 2;have j3:=zC hR 3;have HOW:=zF (zR (zR (zR (zR hoTz (p:=⟨w.heap.size + 1,0,none⟩) (zT hoTz hrsz (by decide)) (.int .i64 (v1:Int))) (p:=⟨w.heap.size + 1,1,none⟩) (zT hoTz hrsz (by decide)) (.int .i64 (v2:Int))) (p:=⟨w.heap.size + 1,2,none⟩) (zT hoTz hrsz (by decide)) (.slice aT trail.length cT)) (p:=⟨w.heap.size + 1,3,none⟩) (zT hoTz hrsz (by decide)) (.int .i64 0));have HBZ:=zF ((((hBz.setCell (p:=⟨w.heap.size + 1,0,none⟩) (Nat.le_succ _) (.int .i64 (v1:Int))).setCell (p:=⟨w.heap.size + 1,1,none⟩) (Nat.le_succ _) (.int .i64 (v2:Int))).setCell (p:=⟨w.heap.size + 1,2,none⟩) (Nat.le_succ _) (.slice aT trail.length cT)).setCell (p:=⟨w.heap.size + 1,3,none⟩) (Nat.le_succ _) (.int .i64 0));clear hoTz hSz hXz hBz;go_wp2_with fail;refine bodyPost_ret (v:=.agg #[.int .i64 (v1:Int),.int .i64 (v2:Int),.slice aT trail.length cT,.int .i64 0]) (by simp [results,Tryz.results89,go_sem,j0,j1,j2,j3]) rfl ⟨.slice aT trail.length cT,by rw [zA HF];rfl,by rw [zA HF];exact zAG (zA HOW) hlo,zA HBZ⟩
theorem zHK (b:Nat) (C:SC) (S:SS) (V:SV) (f:Nat × Nat) (w:World) (hS:SAt w b C S V) (hB:SBd C S) :
  Calls Tryz.prog 115 #[.pointer (some ⟨b,0,none⟩),zAv f] w fun e w'=>e=.returned (.tuple #[])∧SPost b C (S.keep C.room f) V w w':=by
 obtain ⟨fk,fs⟩:=f;have hlt:=hB.lits (fk,fs);have HK:Hid (S.keep C.room (fk,fs)=if zCz (S.lits (fk,fs)) then S else S.store C.room (fk,fs)):=zF rfl
 go_enter Tryz.func115,Tryz.ntmps115
 go_wp2_with fail;generalize hw0:(w.alloc (.cells #[.int .i64 (fk:Int),.int .i64 (fs:Int)] 129))=u1;have hb0:Below w.heap.size w u1:=(by rw [← hw0];exact (Below.refl _ _).alloc (Nat.le_refl _) _);have hfa:u1.heap[w.heap.size]?=some (.cells #[.int .i64 (fk:Int),.int .i64 (fs:Int)] 129 (0,0)):=(by rw [← hw0];exact zP (by simp));have nfa:Far b V (w.heap.size):=hS.fresh (by omega);clear hw0;have hM:SMoved b w u1 V V:=SMoved.of_below hb0;replace hS:=hS.later hb0;have lb:=zB hS.fb;obtain ⟨cfa0,cfa1⟩:=zJ hfa;have lfa:=zB hfa;refine (zG1 b C S V (fk,fs) _ hS hB).mono ?_;rintro e u2 ⟨rfl,b2⟩;replace hM:=hM.trans (SMoved.of_below b2);replace hS:=hS.later b2;replace lb:=zB hS.fb;replace hfa:=zH b2 hfa;clear cfa0 cfa1;obtain ⟨cfa0,cfa1⟩:=zJ hfa;replace lfa:=zB hfa;generalize hea:S.lits (fk,fs)=c at *;clear hea;obtain ⟨c1,c2⟩:=c;dsimp only at hlt;go_wp2_with fail;have nse:Far b V u2.heap.size:=hS.fresh (Nat.le_refl _);generalize hw0:u2.alloc (.cells #[.int .i64 (c1:Int),.int .i64 (c2:Int)] 74)=u3;have b3:Below u2.heap.size u2 u3:=(by rw [← hw0];exact (Below.refl _ _).alloc (Nat.le_refl _) _);have hse:u3.heap[u2.heap.size]?=some (.cells #[.int .i64 (c1:Int),.int .i64 (c2:Int)] 74 (0,0)):=(by rw [← hw0];exact heap_alloc_new _ _);clear hw0;replace hM:=hM.trans (SMoved.of_below b3);replace hS:=hS.later b3;replace lb:=zB hS.fb;replace hfa:=zH b3 hfa;clear cfa0 cfa1;obtain ⟨cfa0,cfa1⟩:=zJ hfa;replace lfa:=zB hfa;obtain ⟨cse0,cse1⟩:=zJ hse;have lse:=zB hse;refine (zEh c1 c2 _ hlt.1 hlt.2).mono ?_;rintro e u4 ⟨rfl,b4⟩;replace hM:=hM.trans (SMoved.of_below b4);replace hS:=hS.later b4;replace lb:=zB hS.fb;replace hfa:=zH b4 hfa;clear cfa0 cfa1;obtain ⟨cfa0,cfa1⟩:=zJ hfa;replace lfa:=zB hfa;replace hse:=zH b4 hse;clear cse0 cse1;obtain ⟨cse0,cse1⟩:=zJ hse;replace lse:=zB hse
 cases he:(c1 ||| c2 == 0) with
 | true=>
  have HF:Hid (S.keep C.room (fk,fs)=S):=zF (by rw [zA HK];unfold zCz;rw [he];rfl);go_wp2_with fail
  go_end0
  exact ⟨rfl,by rw [zA HF];exact ⟨V,hS,hM⟩⟩
 | false=>
  have HF:Hid (S.keep C.room (fk,fs)=S.store C.room (fk,fs)):=zF (by rw [zA HK];unfold zCz;rw [he];rfl);go_wp2_with fail;have hu9:Below u4.heap.size u4 u4.drew:=(Below.refl _ u4).drew
  go_region_with (go_at_call 135;refine (zP2 b C S V (fk,fs) _ (hS.later hu9) hB).mono ?_;rintro e w9 ⟨rfl,hp9⟩;have hp:=SPost.before hp9 (hM.trans (SMoved.of_below hu9)))
  all_goals
   go_wp2_with fail
   go_end0
   exact ⟨rfl,by rw [zA HF];exact hp⟩
theorem SBd.put {C:SC} {S:SS} (h:SBd C S) {k:Nat} (hk:k=1∨k=2) {p:List Stp} (hl:p.length≤100000) (hb:∀ s∈p,s.lits.1 < 512∧s.lits.2 < 512):SBd C (S.put k p):=by
 rcases hk with rfl | rfl
 ·exact ⟨h.qb,h.uni,hb,h.aff,hl,h.al,h.kept,h.kind,h.budget,h.room,h.most,h.nodes⟩
 ·exact ⟨h.qb,h.uni,h.ref,hb,h.rl,hl,h.kept,h.kind,h.budget,h.room,h.most,h.nodes⟩
theorem zOD (p:List Stp) (a b v:Nat) (hb:∀ s∈p,s.lits.1 < 512∧s.lits.2 < 512):(∀ s∈(zCC p a b v).1,s.lits.1 < 512∧s.lits.2 < 512)∧(zCC p a b v).1.length=p.length + 1∧(zCC p a b v).2=p.length + 1:=by
 have h1:=zAX p hb a;have h2:=zAX p hb b;unfold zCC
 split
 ·refine ⟨fun s hs=>?_,by simp,rfl⟩
  rcases List.mem_append.1 hs with hs | hs
  ·exact hb s hs
  ·simp at hs;subst hs;exact zBh _ _ ⟨zBD _ _ h1.1 h2.1,zBD _ _ h1.2 h2.2⟩
 ·refine ⟨fun s hs=>?_,by simp,rfl⟩
  rcases List.mem_append.1 hs with hs | hs
  ·exact hb s hs
  ·simp at hs;subst hs;exact zBh _ _ ⟨zBD _ _ h2.1 h1.1,zBD _ _ h2.2 h1.2⟩
theorem zRt (q:QS) (k:Nat) (p:List Stp) (n:Nat) (hb:∀ s∈p,s.lits.1 < 512∧s.lits.2 < 512):(∀ s∈(zBz q k p n).1,s.lits.1 < 512∧s.lits.2 < 512)∧(zBz q k p n).1.length≤p.length + 1∧((zBz q k p n).2=n∨(zBz q k p n).2=p.length + 1):=by
 have h1:=zAX p hb n;unfold zBz
 split
 ·exact ⟨hb,Nat.le_succ _,Or.inl rfl⟩
 ·refine ⟨fun s hs=>?_,by simp,Or.inr rfl⟩
  rcases List.mem_append.1 hs with hs | hs
  ·exact hb s hs
  ·simp at hs;subst hs;exact zH3 _ _ _ h1
theorem zEp (S:SS) (k:Nat) (p:List Stp):(S.put k p).proof k=p:=by
 unfold SS.put SS.proof;split<;>rfl
theorem zOG (S:SS) (k:Nat) (p p':List Stp):(S.put k p).put k p'=S.put k p':=by
 unfold SS.put;split<;>rfl
theorem zSQ (C:SC) (S:SS) (f g:Nat × Nat) (v:Nat):zCP C S f g v=(((S.put f.1 (zCC (S.proof f.1) f.2 g.2 v).1).reduce C.q (f.1,(zCC (S.proof f.1) f.2 g.2 v).2)).1.keep C.room ((S.put f.1 (zCC (S.proof f.1) f.2 g.2 v).1).reduce C.q (f.1,(zCC (S.proof f.1) f.2 g.2 v).2)).2,((S.put f.1 (zCC (S.proof f.1) f.2 g.2 v).1).reduce C.q (f.1,(zCC (S.proof f.1) f.2 g.2 v).2)).2):=by
 unfold zCP SS.reduce;dsimp only;rw [zEp,zOG]
theorem zOV (S:SS) (q:QS) (k n:Nat):S.reduce q (k,n)=(S.put k (zBz q k (S.proof k) n).1,(k,(zBz q k (S.proof k) n).2)):=by unfold SS.reduce;dsimp only
theorem zG5 {C:SC} {S:SS} (h:SBd C S) {k:Nat} (hk:k=1∨k=2) (n:Nat) (hl:(S.proof k).length≤99999):SBd C (S.reduce C.q (k,n)).1:=by
 have hr:=zRt C.q k (S.proof k) n (h.proof k).2;exact h.put hk (p:=(zBz C.q k (S.proof k) n).1) (by have:=hr.2.1;omega) hr.1
theorem zKt (b:Nat) (C:SC) (S:SS) (V:SV) (f g:Nat × Nat) (v:Nat) (w:World) (hS:SAt w b C S V) (hB:SBd C S) (hk:f.1=1∨f.1=2) (hl:(S.proof f.1).length≤99990) (hv:v≤1048576) :
  Calls Tryz.prog 120 #[.pointer (some ⟨b,0,none⟩),zAv f,zAv g,.int .i64 (v:Int)] w fun e w'=>e=.returned (zAv (zCP C S f g v).2)∧SPost b C (zCP C S f g v).1 V w w':=by
 obtain ⟨fk,fs⟩:=f;obtain ⟨gk,gs⟩:=g;dsimp only at hk hl
 go_enter Tryz.func120,Tryz.ntmps120
 go_wp2_with fail;generalize hw0:(((w.alloc (.cells #[.int .i64 (fk:Int),.int .i64 (fs:Int)] 129)).alloc (.cells #[.int .i64 (gk:Int),.int .i64 (gs:Int)] 129)).alloc (.cells #[.int .i64 0,.int .i64 0] 129))=u1;have hb0:Below w.heap.size w u1:=(by rw [← hw0];exact (((Below.refl _ _).alloc (Nat.le_refl _) _).alloc (by simp;try omega) _).alloc (by simp;try omega) _);have hfa:u1.heap[w.heap.size]?=some (.cells #[.int .i64 (fk:Int),.int .i64 (fs:Int)] 129 (0,0)):=(by rw [← hw0,heap_alloc_old _ _ (by simp;try omega),heap_alloc_old _ _ (by simp;try omega)];exact zP (by simp));have nfa:Far b V (w.heap.size):=hS.fresh (by omega);have hga:u1.heap[w.heap.size + 1]?=some (.cells #[.int .i64 (gk:Int),.int .i64 (gs:Int)] 129 (0,0)):=(by rw [← hw0,heap_alloc_old _ _ (by simp;try omega)];exact zP (by simp));have nga:Far b V (w.heap.size + 1):=hS.fresh (by omega);have hrs:u1.heap[w.heap.size + 2]?=some (.cells #[.int .i64 0,.int .i64 0] 129 (0,0)):=(by rw [← hw0];exact zP (by simp));have nrs:Far b V (w.heap.size + 2):=hS.fresh (by omega);clear hw0;have hM:SMoved b w u1 V V:=SMoved.of_below hb0;replace hS:=hS.later hb0;have lb:=zB hS.fb;obtain ⟨cfa0,cfa1⟩:=zJ hfa;have lfa:=zB hfa;obtain ⟨cga0,cga1⟩:=zJ hga;have lga:=zB hga;obtain ⟨crs0,crs1⟩:=zJ hrs;have lrs:=zB hrs;refine (zF3 b fk _ lb).mono ?_;rintro e w2 ⟨rfl,hw2⟩;subst hw2;go_wp2_with fail;have hrb:=zOD (S.proof fk) fs gs v (hB.proof fk).2;refine (zGV b (zI8 fk) _ _ (S.proof fk) _ fk fs gs v w2 (hS.pat hk) (hB.proof fk).1 (hB.proof fk).2 hv).mono ?_;rintro e u3 ⟨rfl,hgo⟩;obtain ⟨V2,hS2,hM2⟩:=hS.put hk hgo;clear hgo;have hB2:=hB.put hk (p:=(zCC (S.proof fk) fs gs v).1) (by have:=hrb.2.1;omega) hrb.1;have h9:=zSQ C S (fk,fs) (gk,gs) v;dsimp only at h9;have HJ:=zF h9;clear h9;have hrn:=hrb.2.2;have hlen2:((S.put fk (zCC (S.proof fk) fs gs v).1).proof fk).length≤99995:=(by rw [zEp];have:=hrb.2.1;omega);clear hrb;obtain ⟨S2,hS2e⟩:∃ X,X=S.put fk (zCC (S.proof fk) fs gs v).1:=⟨_,rfl⟩;obtain ⟨rn,hrne⟩:∃ X,X=(zCC (S.proof fk) fs gs v).2:=⟨_,rfl⟩;rw [← hS2e] at HJ hB2 hlen2 hS2;rw [← hrne] at HJ hrn ⊢;clear hS2e hrne;have hrn6:rn≤1048576:=(by omega);clear hrn;replace hfa:=hM2.blk hfa nfa;replace nfa:=hM2.far lfa nfa;replace hga:=hM2.blk hga nga;replace nga:=hM2.far lga nga;replace hrs:=hM2.blk hrs nrs;replace nrs:=hM2.far lrs nrs;replace hM:=hM.trans hM2;replace hS:=hS2;clear hM2 hS2;replace lb:=zB hS.fb;clear cfa0 cfa1;obtain ⟨cfa0,cfa1⟩:=zJ hfa;replace lfa:=zB hfa;clear cga0 cga1;obtain ⟨cga0,cga1⟩:=zJ hga;replace lga:=zB hga;clear crs0 crs1;obtain ⟨crs0,crs1⟩:=zJ hrs;replace lrs:=zB hrs;go_wp2_with fail;refine (zFI b C S2 V2 (fk,rn) _ hS hB2 hk hrn6).mono ?_;rintro e u2 ⟨rfl,V3,hS2,hM2⟩;replace hfa:=hM2.blk hfa nfa;replace nfa:=hM2.far lfa nfa;replace hga:=hM2.blk hga nga;replace nga:=hM2.far lga nga;replace hrs:=hM2.blk hrs nrs;replace nrs:=hM2.far lrs nrs;replace hM:=hM.trans hM2;replace hS:=hS2;clear hM2;replace lb:=zB hS.fb;clear cfa0 cfa1;obtain ⟨cfa0,cfa1⟩:=zJ hfa;replace lfa:=zB hfa;clear cga0 cga1;obtain ⟨cga0,cga1⟩:=zJ hga;replace lga:=zB hga;clear crs0 crs1;obtain ⟨crs0,crs1⟩:=zJ hrs;replace lrs:=zB hrs;have hB3:=zG5 hB2 hk rn (by omega);have hred0:S2.reduce C.q (fk,rn)=(S2.put fk (zBz C.q fk (S2.proof fk) rn).1,(fk,(zBz C.q fk (S2.proof fk) rn).2)):=zOV S2 C.q fk rn;obtain ⟨S3,hS3e⟩:∃ X,S2.put fk (zBz C.q fk (S2.proof fk) rn).1=X:=⟨_,rfl⟩;obtain ⟨n3,hn3e⟩:∃ X,(zBz C.q fk (S2.proof fk) rn).2=X:=⟨_,rfl⟩;rw [hS3e,hn3e] at hred0;rw [hred0] at hS hB3 HJ ⊢;have HJ2:Hid (zCP C S (fk,fs) (gk,gs) v=(S3.keep C.room (fk,n3),(fk,n3))):=HJ;clear hS3e hn3e hred0 HJ hB2 hlen2;dsimp only at hS hB3 ⊢;go_wp2_with fail;have nfo:Far b V3 u2.heap.size:=hS.fresh (Nat.le_refl _);generalize hw0:u2.alloc (.cells #[.int .i64 (fk:Int),.int .i64 (n3:Int)] 129)=u3;have b3:Below u2.heap.size u2 u3:=(by rw [← hw0];exact (Below.refl _ _).alloc (Nat.le_refl _) _);have hfo:u3.heap[u2.heap.size]?=some (.cells #[.int .i64 (fk:Int),.int .i64 (n3:Int)] 129 (0,0)):=(by rw [← hw0];exact heap_alloc_new _ _);clear hw0;replace hM:=hM.trans (SMoved.of_below b3);replace hS:=hS.later b3;replace lb:=zB hS.fb;replace hfa:=zH b3 hfa;clear cfa0 cfa1;obtain ⟨cfa0,cfa1⟩:=zJ hfa;replace lfa:=zB hfa;replace hga:=zH b3 hga;clear cga0 cga1;obtain ⟨cga0,cga1⟩:=zJ hga;replace lga:=zB hga;replace hrs:=zH b3 hrs;clear crs0 crs1;obtain ⟨crs0,crs1⟩:=zJ hrs;replace lrs:=zB hrs;obtain ⟨cfo0,cfo1⟩:=zJ hfo;have lfo:=zB hfo;refine (zHK b C S3 V3 (fk,n3) _ hS hB3).mono ?_;rintro e u4 ⟨rfl,V4,hS2,hM2⟩;replace hfa:=hM2.blk hfa nfa;replace nfa:=hM2.far lfa nfa;replace hga:=hM2.blk hga nga;replace nga:=hM2.far lga nga;replace hrs:=hM2.blk hrs nrs;replace nrs:=hM2.far lrs nrs;replace hfo:=hM2.blk hfo nfo;replace nfo:=hM2.far lfo nfo;replace hM:=hM.trans hM2;replace hS:=hS2;clear hM2;replace lb:=zB hS.fb;clear cfa0 cfa1;obtain ⟨cfa0,cfa1⟩:=zJ hfa;replace lfa:=zB hfa;clear cga0 cga1;obtain ⟨cga0,cga1⟩:=zJ hga;replace lga:=zB hga;clear crs0 crs1;obtain ⟨crs0,crs1⟩:=zJ hrs;replace lrs:=zB hrs;clear cfo0 cfo1;obtain ⟨cfo0,cfo1⟩:=zJ hfo;replace lfo:=zB hfo;have z0:=zD hrs 0;have z1:=zD hrs 1;have hR:=zI (zI hrs 0 (.int .i64 (fk:Int))) 1 (.int .i64 (n3:Int));have j0:=zC hR 0;have j1:=zC hR 1;go_wp2_with fail;refine bodyPost_ret (v:=zAv (fk,n3)) (by simp [results,Tryz.results120,go_sem,j0,j1]) rfl ⟨by rw [zA HJ2],?_⟩;rw [zA HJ2];exact ⟨V4,(hS.set nrs 0 _).set nrs 1 _,(hM.set (k:=w.heap.size + 2) (by omega) 0 _).set (k:=w.heap.size + 2) (by omega) 1 _⟩
theorem zOc (ms:List (Int × Nat)) (k:Nat) (h:k < ms.length) (p:List Stp) (n:Nat):zDd (ms.take (k + 1)).reverse p n=if zj (zM p n) (-ms[k].1) then zDd (ms.take k).reverse (zCC p ms[k].2 n ms[k].1.natAbs).1 (zCC p ms[k].2 n ms[k].1.natAbs).2 else zDd (ms.take k).reverse p n:=by
 rw [List.take_succ_eq_append_getElem h,List.reverse_append];rfl
structure zOI (ms:List (Int × Nat)):Prop where
 len:ms.length≤1000
 lit:∀ u∈ms,-8≤u.1∧u.1≤8
theorem SBd.setRef {C:SC} {S:SS} (h:SBd C S) {p:List Stp} (hl:p.length≤100000) (hb:∀ s∈p,s.lits.1 < 512∧s.lits.2 < 512):SBd C { S with ref:=p }:=h.put (Or.inl rfl) hl hb
theorem zMZ (C:SC) (S:SS) (u:US) (p:List Stp) (n:Nat) (h:zDd u.trail.reverse S.ref u.conf=(p,n)):zAW C S u=(if n≠u.conf then (({ S with ref:=p }:SS).reduce C.q (1,n)).1.keep C.room (({ S with ref:=p }:SS).reduce C.q (1,n)).2 else (({ S with ref:=p }:SS).reduce C.q (1,n)).1,(({ S with ref:=p }:SS).reduce C.q (1,n)).2):=by
 unfold zAW;rw [h];rfl
theorem zHa (b:Nat) (C:SC) (S:SS) (V:SV) (u:US) (aT:Option Addr) (cT base:Nat) (w:World) (hS:SAt w b C S V) (hB:SBd C S) (hT:w.ownsRow base 177 2 (.slice aT u.trail.length cT) u.trail.length (zBp u.trail)) (hTB:zOI u.trail) (hfar:∀ k,(Value.slice aT u.trail.length cT).ownBlock=some k→Far b V k) (hrl:S.ref.length≤90000) (hcf:u.conf≤100000) :
  Calls Tryz.prog 90 #[.pointer (some ⟨b,0,none⟩),.agg #[.int .i64 (u.vals.1:Int),.int .i64 (u.vals.2:Int),.slice aT u.trail.length cT,.int .i64 (u.conf:Int)]] w fun e w'=>e=.returned (zAv (zAW C S u).2)∧SPost b C (zAW C S u).1 V w w':=by
 obtain ⟨⟨v1,v2⟩,trail,conf⟩:=u;dsimp only at hT hTB hfar hcf ⊢;have htl:=hTB.len;have HTB:=zF hTB.lit;clear hTB
 go_enter Tryz.func90,Tryz.ntmps90
 go_wp2_with fail;generalize hw0:((w.alloc (.cells #[.int .i64 (v1:Int),.int .i64 (v2:Int),.slice aT trail.length cT,.int .i64 (conf:Int)] 161)).alloc (.cells #[.int .i64 0,.int .i64 0] 129))=u1;have hb0:Below w.heap.size w u1:=(by rw [← hw0];exact ((Below.refl _ _).alloc (Nat.le_refl _) _).alloc (by simp;try omega) _);have huu:u1.heap[w.heap.size]?=some (.cells #[.int .i64 (v1:Int),.int .i64 (v2:Int),.slice aT trail.length cT,.int .i64 (conf:Int)] 161 (0,0)):=(by rw [← hw0,heap_alloc_old _ _ (by simp;try omega)];exact zP (by simp));have nuu:Far b V (w.heap.size):=hS.fresh (by omega);have hrs:u1.heap[w.heap.size + 1]?=some (.cells #[.int .i64 0,.int .i64 0] 129 (0,0)):=(by rw [← hw0];exact zP (by simp));have nrs:Far b V (w.heap.size + 1):=hS.fresh (by omega);clear hw0;have hM:SMoved b w u1 V V:=SMoved.of_below hb0;replace hS:=hS.later hb0;have lb:=zB hS.fb;obtain ⟨cuu0,cuu1,cuu2,cuu3⟩:=zAi huu;have luu:=zB huu;obtain ⟨crs0,crs1⟩:=zJ hrs;have lrs:=zB hrs;have hT1:=zO hT hb0;go_wp2_with fail
 go_loopg [5,6] (trail.length + 1) (fun m sv i wx=>∃ (k n:Nat) (p:List Stp) (V':SV),i=.int .i64 ((k:Int) - 1)∧sv=.int .i64 (n:Int)∧k + 1≤m∧m≤k + 1∧k≤trail.length∧n≤100000∧p.length + k≤S.ref.length + trail.length∧(∀ s∈p,s.lits.1 < 512∧s.lits.2 < 512)∧zDd trail.reverse S.ref conf=zDd (trail.take k).reverse p n∧SAt wx b C { S with ref:=p } V'∧SMoved b u1 wx V V')
 case atStart=>exact ⟨trail.length,conf,S.ref,V,by go_num,rfl,by omega,by omega,by omega,hcf,by omega,hB.ref,by rw [List.take_length],hS,SMoved.of_below (Below.refl _ _)⟩
 case round=>
  obtain ⟨k,n,p,V',rfl,rfl,hkm,hkm2,hkl,hn,hpl,hpb,hex,hSr,hMr⟩:=hrel;have HEX:=zF hex;clear hex;have hur:=hMr.blk huu nuu;have hrr:=hMr.blk hrs nrs;have nrr:=hMr.far lrs nrs;have nur:=hMr.far luu nuu;have hBr:=hB.setRef (p:=p) (by omega) hpb;have lur:=zB hur;have lrr:=zB hrr;have lbr:=zB hSr.fb;have cu2:wr.cell? ⟨w.heap.size,2,none⟩=some (.slice aT trail.length cT):=zE hur rfl;have cu3:wr.cell? ⟨w.heap.size,3,none⟩=some (.int .i64 (conf:Int)):=zE hur rfl
  cases k with
  | zero=>
   have HE0:Hid (zDd trail.reverse S.ref conf=(p,n)):=zF (by rw [zA HEX];rfl);replace huu:=hur;replace hrs:=hrr;replace nuu:=nur;replace nrs:=nrr;replace hS:=hSr;replace hM:=hM.trans hMr;replace lb:=lbr;clear hur hrr nur nrr hSr hMr lbr;clear cuu0 cuu1 cuu2 cuu3;obtain ⟨cuu0,cuu1,cuu2,cuu3⟩:=zAi huu;replace luu:=zB huu;clear crs0 crs1;obtain ⟨crs0,crs1⟩:=zJ hrs;replace lrs:=zB hrs;go_wp2_with fail;refine (zFI b C { S with ref:=p } V' (1,n) _ hS hBr (Or.inl rfl) (by omega)).mono ?_;rintro e u2 ⟨rfl,V3,hS2,hM2⟩;replace huu:=hM2.blk huu nuu;replace nuu:=hM2.far luu nuu;replace hrs:=hM2.blk hrs nrs;replace nrs:=hM2.far lrs nrs;replace hM:=hM.trans hM2;replace hS:=hS2;clear hM2;replace lb:=zB hS.fb;clear cuu0 cuu1 cuu2 cuu3;obtain ⟨cuu0,cuu1,cuu2,cuu3⟩:=zAi huu;replace luu:=zB huu;clear crs0 crs1;obtain ⟨crs0,crs1⟩:=zJ hrs;replace lrs:=zB hrs;have hB3:=zG5 hBr (Or.inl rfl) n (show p.length≤99999 by omega);have HX:=zF (zMZ C S ⟨(v1,v2),trail,conf⟩ p n (zA HE0));generalize ({ S with ref:=p }:SS).reduce C.q (1,n)=R at *;obtain ⟨S3,f1,f2⟩:=R;dsimp only at hS hB3 HX ⊢
   by_cases hnc:n=conf
   ·have hq1:((n:Int) == (conf:Int))=true:=(by rw [beq_iff_eq];omega);have hq2:(n == conf)=true:=(by rw [beq_iff_eq];omega);have z0:=zD hrs 0;have z1:=zD hrs 1;have hR:=zI (zI hrs 0 (.int .i64 (f1:Int))) 1 (.int .i64 (f2:Int));have hAl:Below ((u2.setCell ⟨w.heap.size + 1,0,none⟩ (.int .i64 (f1:Int))).setCell ⟨w.heap.size + 1,1,none⟩ (.int .i64 (f2:Int))).heap.size ((u2.setCell ⟨w.heap.size + 1,0,none⟩ (.int .i64 (f1:Int))).setCell ⟨w.heap.size + 1,1,none⟩ (.int .i64 (f2:Int))) (((u2.setCell ⟨w.heap.size + 1,0,none⟩ (.int .i64 (f1:Int))).setCell ⟨w.heap.size + 1,1,none⟩ (.int .i64 (f2:Int))).alloc (.cells #[.int .i64 (f1:Int),.int .i64 (f2:Int)] 129)):=(Below.refl _ _).alloc (Nat.le_refl _) _;have hRA:=zH hAl hR;have j0:=zC hRA 0;have j1:=zC hRA 1;have j2:=zC hR 0;have j3:=zC hR 1;go_wp2_with fail;refine bodyPost_ret (v:=zAv (f1,f2)) (by simp [results,Tryz.results90,go_sem,j0,j1]) rfl ⟨by rw [zA HX],?_⟩;rw [zA HX,if_neg (fun h=>h hnc)];exact ⟨V3,((hS.set nrs 0 _).set nrs 1 _).later hAl,((hM.set (k:=w.heap.size + 1) (by omega) 0 _).set (k:=w.heap.size + 1) (by omega) 1 _).trans (SMoved.of_below hAl)⟩
   ·have hq1:((n:Int) == (conf:Int))=false:=(by rw [beq_eq_false_iff_ne];omega);have hq2:(n == conf)=false:=(by rw [beq_eq_false_iff_ne];omega);go_wp2_with fail;have nfo:Far b V3 u2.heap.size:=hS.fresh (Nat.le_refl _);generalize hw0:u2.alloc (.cells #[.int .i64 (f1:Int),.int .i64 (f2:Int)] 129)=u3;have b3:Below u2.heap.size u2 u3:=(by rw [← hw0];exact (Below.refl _ _).alloc (Nat.le_refl _) _);have hfo:u3.heap[u2.heap.size]?=some (.cells #[.int .i64 (f1:Int),.int .i64 (f2:Int)] 129 (0,0)):=(by rw [← hw0];exact heap_alloc_new _ _);clear hw0;replace hM:=hM.trans (SMoved.of_below b3);replace hS:=hS.later b3;replace lb:=zB hS.fb;replace huu:=zH b3 huu;clear cuu0 cuu1 cuu2 cuu3;obtain ⟨cuu0,cuu1,cuu2,cuu3⟩:=zAi huu;replace luu:=zB huu;replace hrs:=zH b3 hrs;clear crs0 crs1;obtain ⟨crs0,crs1⟩:=zJ hrs;replace lrs:=zB hrs;obtain ⟨cfo0,cfo1⟩:=zJ hfo;have lfo:=zB hfo;refine (zHK b C S3 V3 (f1,f2) _ hS hB3).mono ?_;rintro e u4 ⟨rfl,V4,hS2,hM2⟩;replace huu:=hM2.blk huu nuu;replace nuu:=hM2.far luu nuu;replace hrs:=hM2.blk hrs nrs;replace nrs:=hM2.far lrs nrs;replace hfo:=hM2.blk hfo nfo;replace nfo:=hM2.far lfo nfo;replace hM:=hM.trans hM2;replace hS:=hS2;clear hM2;replace lb:=zB hS.fb;clear cuu0 cuu1 cuu2 cuu3;obtain ⟨cuu0,cuu1,cuu2,cuu3⟩:=zAi huu;replace luu:=zB huu;clear crs0 crs1;obtain ⟨crs0,crs1⟩:=zJ hrs;replace lrs:=zB hrs;clear cfo0 cfo1;obtain ⟨cfo0,cfo1⟩:=zJ hfo;replace lfo:=zB hfo;have z0:=zD hrs 0;have z1:=zD hrs 1;have hR:=zI (zI hrs 0 (.int .i64 (f1:Int))) 1 (.int .i64 (f2:Int));have j0:=zC hR 0;have j1:=zC hR 1;go_wp2_with fail;refine bodyPost_ret (v:=zAv (f1,f2)) (by simp [results,Tryz.results90,go_sem,j0,j1]) rfl ⟨by rw [zA HX],?_⟩;rw [zA HX,if_pos hnc];exact ⟨V4,(hS.set nrs 0 _).set nrs 1 _,(hM.set (k:=w.heap.size + 1) (by omega) 0 _).set (k:=w.heap.size + 1) (by omega) 1 _⟩
  | succ k=>
   have hlt:k < trail.length:=(by omega);have HST:=zF (zOc trail k hlt p n);have hlit:=zA HTB _ (List.getElem_mem hlt);obtain ⟨g,cap,hVe,_,hg',_,hcell⟩:=zS hT1 (by omega);injection hVe with hVe _ hV2;subst hVe hV2;obtain ⟨e0,e1⟩:=zJz trail k hlt;have nT:Far b V g:=hfar g rfl;have hgc:∀ j u,(zBp trail)[j]?=some u→wr.cell? ⟨g,j,none⟩=some u:=fun j u hj=>by
    rw [zPX (w:=u1) (hMr.only.block g hg' nT.ts)];exact hcell j u hj
   have hx0:=hgc _ _ e0;have hx1:=hgc _ _ e1;have hgw:g < wr.heap.size:=Nat.lt_of_lt_of_le hg' hMr.only.size;clear hgc hcell e0 e1;have hlt9:=zAX p hpb n;generalize trail[k]=made at *;obtain ⟨x,ms⟩:=made;dsimp only at *;replace huu:=hur;replace hrs:=hrr;replace nuu:=nur;replace nrs:=nrr;replace hS:=hSr;replace hM:=hMr;replace lb:=lbr;clear hur hrr nur nrr hSr hMr lbr;clear cuu0 cuu1 cuu2 cuu3;obtain ⟨cuu0,cuu1,cuu2,cuu3⟩:=zAi huu;replace luu:=zB huu;clear crs0 crs1;obtain ⟨crs0,crs1⟩:=zJ hrs;replace lrs:=zB hrs;go_wp2_with fail;have nmd:Far b V' wr.heap.size:=hS.fresh (Nat.le_refl _);generalize hw0:wr.alloc (.cells #[.int .i64 x,.int .i64 (ms:Int)] 177)=u2;have b2:Below wr.heap.size wr u2:=(by rw [← hw0];exact (Below.refl _ _).alloc (Nat.le_refl _) _);have hmd:u2.heap[wr.heap.size]?=some (.cells #[.int .i64 x,.int .i64 (ms:Int)] 177 (0,0)):=(by rw [← hw0];exact heap_alloc_new _ _);clear hw0;replace hM:=hM.trans (SMoved.of_below b2);replace hS:=hS.later b2;replace lb:=zB hS.fb;replace huu:=zH b2 huu;clear cuu0 cuu1 cuu2 cuu3;obtain ⟨cuu0,cuu1,cuu2,cuu3⟩:=zAi huu;replace luu:=zB huu;replace hrs:=zH b2 hrs;clear crs0 crs1;obtain ⟨crs0,crs1⟩:=zJ hrs;replace lrs:=zB hrs;obtain ⟨cmd0,cmd1⟩:=zJ hmd;have lmd:=zB hmd;have c7:u2.cell? ⟨b,7,none⟩=some V'.r:=zE hS.fb rfl;refine (zBW _ b 6 p V'.r n _ c7 hS.oR (by omega)).mono ?_;rintro e u3 ⟨rfl,b3⟩;replace hM:=hM.trans (SMoved.of_below b3);replace hS:=hS.later b3;replace lb:=zB hS.fb;replace huu:=zH b3 huu;clear cuu0 cuu1 cuu2 cuu3;obtain ⟨cuu0,cuu1,cuu2,cuu3⟩:=zAi huu;replace luu:=zB huu;replace hrs:=zH b3 hrs;clear crs0 crs1;obtain ⟨crs0,crs1⟩:=zJ hrs;replace lrs:=zB hrs;replace hmd:=zH b3 hmd;clear cmd0 cmd1;obtain ⟨cmd0,cmd1⟩:=zJ hmd;replace lmd:=zB hmd;clear c7;generalize zM p n=cl at *;obtain ⟨l1,l2⟩:=cl;dsimp only at hlt9;go_wp2_with fail;have ncl:Far b V' u3.heap.size:=hS.fresh (Nat.le_refl _);generalize hw0:u3.alloc (.cells #[.int .i64 (l1:Int),.int .i64 (l2:Int)] 74)=u4;have b4:Below u3.heap.size u3 u4:=(by rw [← hw0];exact (Below.refl _ _).alloc (Nat.le_refl _) _);have hcl:u4.heap[u3.heap.size]?=some (.cells #[.int .i64 (l1:Int),.int .i64 (l2:Int)] 74 (0,0)):=(by rw [← hw0];exact heap_alloc_new _ _);clear hw0;replace hM:=hM.trans (SMoved.of_below b4);replace hS:=hS.later b4;replace lb:=zB hS.fb;replace huu:=zH b4 huu;clear cuu0 cuu1 cuu2 cuu3;obtain ⟨cuu0,cuu1,cuu2,cuu3⟩:=zAi huu;replace luu:=zB huu;replace hrs:=zH b4 hrs;clear crs0 crs1;obtain ⟨crs0,crs1⟩:=zJ hrs;replace lrs:=zB hrs;replace hmd:=zH b4 hmd;clear cmd0 cmd1;obtain ⟨cmd0,cmd1⟩:=zJ hmd;replace lmd:=zB hmd;obtain ⟨ccl0,ccl1⟩:=zJ hcl;have lcl:=zB hcl;refine (zCw l1 l2 (-x) _ hlt9.1 hlt9.2 (by omega) (by omega)).mono ?_;rintro e u5 ⟨rfl,b5⟩;replace hM:=hM.trans (SMoved.of_below b5);replace hS:=hS.later b5;replace lb:=zB hS.fb;replace huu:=zH b5 huu;clear cuu0 cuu1 cuu2 cuu3;obtain ⟨cuu0,cuu1,cuu2,cuu3⟩:=zAi huu;replace luu:=zB huu;replace hrs:=zH b5 hrs;clear crs0 crs1;obtain ⟨crs0,crs1⟩:=zJ hrs;replace lrs:=zB hrs;replace hmd:=zH b5 hmd;clear cmd0 cmd1;obtain ⟨cmd0,cmd1⟩:=zJ hmd;replace lmd:=zB hmd;replace hcl:=zH b5 hcl;clear ccl0 ccl1;obtain ⟨ccl0,ccl1⟩:=zJ hcl;replace lcl:=zB hcl
   cases hhl:zj (l1,l2) (-x) with
   | false=>
    have HF:Hid (zDd trail.reverse S.ref conf=zDd (trail.take k).reverse p n):=zF (by rw [zA HEX,zA HST,hhl];rfl);clear hhl;go_wp2_with fail
    go_roundg (gk - 1)
    case measure=>omega
    case rel=>exact ⟨k,n,p,V',by go_num,rfl,by omega,by omega,by omega,hn,by omega,hpb,zA HF,hS,hM⟩
   | true=>
    have HST2:Hid (zDd trail.reverse S.ref conf=zDd (trail.take k).reverse (zCC p ms n x.natAbs).1 (zCC p ms n x.natAbs).2):=zF (by rw [zA HEX,zA HST,hhl];rfl);clear hhl;go_wp2_with fail;refine (zJg x _ (by omega) (by omega)).mono ?_;rintro e w8 ⟨rfl,hw8⟩;rw [hw8];clear hw8 w8;go_wp2_with fail;have hDr:Below u5.heap.size u5 u5.drew:=(Below.refl _ _).drew;have hSd:=hS.later hDr;have hMd:=hM.trans (SMoved.of_below hDr)
    go_region_with (go_at_call 113;refine (zGV b 6 _ _ p _ 1 ms n x.natAbs _ (hSd.pat (Or.inl rfl)) (by omega) hpb (by omega)).mono ?_;rintro e u9 ⟨rfl,hgo⟩;obtain ⟨V2,hS2,hM2⟩:=hSd.put (Or.inl rfl) hgo;clear hgo)
    all_goals
     have hrb:=zOD p ms n x.natAbs hpb;generalize zCC p ms n x.natAbs=R at *;obtain ⟨q,rn⟩:=R;dsimp only at hrb HST2 hS2 ⊢;obtain ⟨hr1,hr2,hr3⟩:=hrb;have HR3:Hid (rn≤100000∧q.length + k≤S.ref.length + trail.length):=zF ⟨by omega,by omega⟩;clear hr2 hr3;go_wp2_with fail
     go_roundg (gk - 1)
     case measure=>omega
     case rel=>exact ⟨k,rn,q,V2,by go_num,rfl,by omega,by omega,by omega,(zA HR3).1,(zA HR3).2,hr1,zA HST2,hS2,hMd.trans hM2⟩
theorem zNz {q:QS} (hq:QGood q) {k:Nat} {p:List Stp} (hp:POk q k p) {a b v:Nat} {s:Bool} (ha:1≤a∧a≤p.length) (hb:1≤b∧b≤p.length) (hx:∃ x∈q.vars,x.1=v∧zAl k x.2=true)
  (hfa:Free (zM p a)) (hfb:Free (zM p b)) (hla:L (zM p a) s v=true) (hlb:L (zM p b) (!s) v=true) (hf:Free (zi (zM p a) (zM p b) v)) :
  POk q k (zCC p a b v).1∧(∃ x,(zCC p a b v).1=p ++ [x])∧(zCC p a b v).2=p.length + 1∧(zCC p a b v).1.length=p.length + 1∧zM (zCC p a b v).1 (zCC p a b v).2=zi (zM p a) (zM p b) v:=by
 have hv:1≤v∧v≤8:=(by obtain ⟨x,hx,rfl,_⟩:=hx;exact hq.qb.names x hx);have hsw:zi (zM p b) (zM p a) v=zi (zM p a) (zM p b) v:=zJe (fun s u=>by rw [zCI _ _ _ hv.1 hv.2,zCI _ _ _ hv.1 hv.2,Bool.or_comm]);have hlok:LOk q (zi (zM p a) (zM p b) v):=by
  have h1:=hp.lok a;have h2:=hp.lok b;refine ⟨zBh _ _ ⟨zBD _ _ h1.bd.1 h2.bd.1,zBD _ _ h1.bd.2 h2.bd.2⟩,fun s u hu=>?_⟩;rw [zCI _ _ _ hv.1 hv.2,Bool.and_eq_true,Bool.or_eq_true] at hu
  rcases hu.1 with hu | hu
  ·exact h1.vars s u hu
  ·exact h2.vars s u hu
 have hh:zj (zM p a) (v:Int)=L (zM p a) true v:=zBm _ v true hv.1 hv.2;unfold zCC;rw [hh]
 cases s with
 | true=>
  rw [hla,if_pos rfl];exact ⟨hp.snoc ⟨hlok,Or.inr (Or.inr (Or.inl ⟨rfl,ha,hb,hx,hla,hlb,hfa,hfb,hf,rfl⟩))⟩,⟨_,rfl⟩,rfl,by simp,zD4 _ _⟩
 | false=>
  have hno:L (zM p a) true v=false:=hfa.not hla;rw [hno,if_neg (by decide),hsw];exact ⟨hp.snoc ⟨hlok,Or.inr (Or.inr (Or.inl ⟨rfl,hb,ha,hx,hlb,hla,hfb,hfa,hf,hsw.symm⟩))⟩,⟨_,rfl⟩,rfl,by simp,zD4 _ _⟩
def zK8 (q:QS) (full:Nat × Nat) (u:Nat):Prop:=(∃ x∈q.vars,x.1=u∧x.2=true)∧L full true u=false∧L full false u=false
theorem zGs {q:QS} (hq:QGood q) {x y:Nat × Bool} (hx:x∈q.vars) (hy:y∈q.vars) (h:x.1=y.1):x=y:=by
 obtain ⟨i,hi,rfl⟩:=List.mem_iff_getElem.1 hx;obtain ⟨j,hj,rfl⟩:=List.mem_iff_getElem.1 hy
 have:=zFh hq hi hj h
 subst this;rfl
theorem zSF {q:QS} (hq:QGood q) {ref:List Stp} {cs:List Nat} (hcs:∀ s∈cs,1≤s∧s≤ref.length) {d:Nat} {path:Nat × Nat} (hpa:PathAt q d path) (full:Nat × Nat) :
  ∀ (ts:List (Int × Nat)) (vals:Nat × Nat),zFE q ref cs path ts vals→(∀ s v,L vals s v=true→L full s v=true)→∀ (p:List Stp) (n:Nat),(∃ x,p=ref ++ x)→POk q 1 p→1≤n→n≤p.length→Free (zM p n)→
   (∀ r u,L (zM p n) r u=true→L vals (!r) u=true∨zK8 q full u)→
   POk q 1 (zDd ts p n).1∧(∃ x,(zDd ts p n).1=p ++ x∧x.length≤ts.length)∧1≤(zDd ts p n).2∧(zDd ts p n).2≤(zDd ts p n).1.length∧Free (zM (zDd ts p n).1 (zDd ts p n).2)∧
   (∀ r u,L (zM (zDd ts p n).1 (zDd ts p n).2) r u=true→L path (!r) u=true∨zK8 q full u):=by
 intro ts
 induction ts with
 | nil=>
  intro vals h _ p n hpx hp h1 hn hf hc;have e:vals=path:=h;subst e;exact ⟨hp,⟨[],by simp [zDd],by simp⟩,h1,hn,hf,hc⟩
 | cons t ts ih=>
  rintro vals ⟨pre,hpre,⟨v,s,ht,⟨x,hx,hxe,hxu⟩,hn1,hn2,hcsm,hfr,hLr,hoth⟩,rfl⟩ hfull p n hpx hp h1 hn hf hc;have hv:=hq.qb.names x hx;rw [hxe] at hv;rw [ht] at hc hfull;have hsub:∀ r u,L pre r u=true→L full r u=true:=fun r u h=>hfull r u (by rw [zBH _ _ _ hv.1 hv.2,h];rfl)
  have hvf:L full s v=true:=hfull s v (by rw [zBH _ _ _ hv.1 hv.2];simp);have hrr:=hcs _ hcsm;obtain ⟨xx,hpe⟩:=hpx;have hlr:zM p t.2=zM ref t.2:=(by rw [hpe,zB9 _ _ _ hrr.2]);have hplen:t.2≤p.length:=(by rw [hpe,List.length_append];omega);have hvfree:=(zEl hq hpa ts pre hpre).1;have hloose:∀ u,zK8 q full u→u≠v:=by
   rintro u ⟨⟨y,hy,hye,hyu⟩,_,_⟩ e
   have:=zGs hq hy hx (by rw [hye,hxe,e])
   rw [this,hxu] at hyu;cases hyu
  have hcp:∀ r u,u≠v→L (zM p n) r u=true→L pre (!r) u=true∨zK8 q full u:=by
   intro r u hne hr
   rcases hc r u hr with h | h
   ·rw [zBH _ _ _ hv.1 hv.2,Bool.or_eq_true,Bool.and_eq_true] at h
    rcases h with h | ⟨_,h⟩
    ·exact Or.inl h
    ·exact absurd (of_decide_eq_true h) hne
   ·exact Or.inr h
  have hcv:∀ r,L (zM p n) r v=true→r=!s:=by
   intro r hr
   rcases hc r v hr with h | h
   ·rw [zBH _ _ _ hv.1 hv.2,Bool.or_eq_true,Bool.and_eq_true] at h
    rcases h with h | ⟨h,_⟩
    ·cases r
     ·simp only [Bool.not_false] at h;rw [hn1] at h;cases h
     ·simp only [Bool.not_true] at h;rw [hn2] at h;cases h
    ·revert h;cases r<;>cases s<;>simp
   ·exact absurd rfl (hloose v h)
  rw [zDd];have hneg:-t.1=zAF v (!s):=(by rw [ht,zI5]);have habs:t.1.natAbs=v:=(by rw [ht,zRF]);rw [hneg,habs,zBm _ _ _ hv.1 hv.2]
  cases hh:L (zM p n) (!s) v with
  | false=>
   simp only [Bool.false_eq_true,if_false]
   have:=ih pre hpre hsub p n ⟨xx,hpe⟩ hp h1 hn hf (fun r u hr=>by
    by_cases e:u=v
    ·subst e;have e2:=hcv r hr;rw [e2] at hr;rw [hr] at hh;cases hh
    ·exact hcp r u e hr)
   obtain ⟨a1,⟨y,a2,a3⟩,a4⟩:=this;exact ⟨a1,⟨y,a2,by simp;omega⟩,a4⟩
  | true=>
   simp only [if_true];have hres:∀ r u,L (zi (zM p t.2) (zM p n) v) r u=true→L pre (!r) u=true∨zK8 q full u:=by
    intro r u hr;rw [zCI _ _ _ hv.1 hv.2,Bool.and_eq_true,Bool.or_eq_true,Bool.not_eq_true'] at hr;have hne:u≠v:=of_decide_eq_false hr.2
    rcases hr.1 with hr | hr
    ·rw [hlr] at hr
     rcases hoth u r hr with h | h
     ·exact absurd h.1 hne
     ·exact Or.inl h
    ·exact hcp r u hne hr
   have hfree2:Free (zi (zM p t.2) (zM p n) v):=by
    intro u a b;have ha:=hres true u a;have hb:=hres false u b
    rcases ha with ha | ha
    ·rcases hb with hb | hb
     ·exact hvfree u hb ha
     ·have h5:L full false u=true:=hsub _ _ ha;rw [hb.2.2] at h5;cases h5
    ·rcases hb with hb | hb
     ·have h5:L full true u=true:=hsub _ _ hb;rw [ha.2.1] at h5;cases h5
     ·rw [zCI _ _ _ hv.1 hv.2,Bool.and_eq_true,Bool.or_eq_true] at a b;have hnr:∀ r,L (zM p t.2) r u=true→False:=by
       intro r hr;rw [hlr] at hr
       rcases hoth u r hr with h | h
       ·exact hloose u ha h.1
       ·have h5:=hsub _ _ h
        cases r
        ·have h6:L full true u=true:=h5;rw [ha.2.1] at h6;cases h6
        ·have h6:L full false u=true:=h5;rw [ha.2.2] at h6;cases h6
      rcases a.1 with a | a
      ·exact hnr _ a
      ·rcases b.1 with b | b
       ·exact hnr _ b
       ·exact hf u a b
   have hr:=zNz hq hp (s:=s) ⟨hrr.1,hplen⟩ ⟨h1,hn⟩ ⟨x,hx,hxe,by rw [hxu];rfl⟩ (by rw [hlr];exact hfr) hf (by rw [hlr];exact hLr) hh hfree2;obtain ⟨b1,⟨y,b2⟩,b3,b4,b5⟩:=hr
   have:=ih pre hpre hsub (zCC p t.2 n v).1 (zCC p t.2 n v).2 ⟨xx ++ [y],by rw [b2,hpe,List.append_assoc]⟩ b1 (by omega) (by omega) (by rw [b5];exact hfree2) (fun r u hu=>hres r u (by rw [← b5];exact hu))
   obtain ⟨a1,⟨z,a2,a3⟩,a4⟩:=this;exact ⟨a1,⟨y :: z,by rw [a2,b2];simp,by simp;omega⟩,a4⟩
structure FactOk (q:QS) (S:SS) (path:Nat × Nat) (f:Nat × Nat):Prop where
 inn:FactIn q S f
 on:zG2 f.1 path (S.lits f)
theorem zOy {uni vals:Nat × Nat} {c:Nat × Nat} (h:zBj uni vals c=true):Free c∧(∀ r u,L c r u=true→L vals r u=false)∧(∀ r u,L c r u=true→L vals (!r) u=true∨L uni r u=true):=by
 unfold zBj zDK at h;rw [Bool.and_eq_true,Bool.and_eq_true,Bool.not_eq_true',Bool.not_eq_true',zDp] at h;obtain ⟨⟨h1,h2⟩,h3⟩:=h;refine ⟨(zGm _).1 h2,fun r u hr=>?_,fun r u hr=>?_⟩
 ·cases hh:L vals r u with
  | false=>rfl
  | true=>rw [(zCB _ _).2 ⟨r,u,hr,hh⟩] at h1;cases h1
 ·have:=h3 r u
  rw [zDm,zES,hr] at this
  cases hh:L vals (!r) u with
  | true=>exact Or.inl rfl
  | false=>
   rw [hh] at this
   right
   simpa using this
theorem zIl {C:SC} (hq:QGood C.q) (hu:zFy C.q C.uni) {S:SS} (hS:SInv C S) (path:Nat × Nat) :
  zFE C.q S.ref (zg C.q S.kept) path (zX C S path).trail.reverse (zX C S path).vals∧(zX C S path).trail.length≤C.q.vars.length + 1∧
  ((zX C S path).conf≠0→(zX C S path).conf∈zg C.q S.kept∧zBj C.uni (zX C S path).vals (zM S.ref (zX C S path).conf)=true):=by
 have:=zMq hq hu hS.ref (cs:=zg C.q S.kept) (path:=path) (C.q.vars.length + 1) path [] rfl
 exact ⟨this.1,by simpa [zX] using this.2.1,this.2.2⟩
def zAw (S:SS):Nat:=S.ref.length + S.aff.length
def twos (p:List Stp):Nat:=(p.filter (fun s=>s.rule == 3)).length
theorem zIR {C:SC} (hq:QGood C.q) (hu:zFy C.q C.uni) {S:SS} (hS:SInv C S) {d:Nat} {path:Nat × Nat} (hpa:PathAt C.q d path) (hc:(zX C S path).conf≠0) :
  SInv C (zAW C S (zX C S path)).1∧Ext S (zAW C S (zX C S path)).1∧FactOk C.q (zAW C S (zX C S path)).1 path (zAW C S (zX C S path)).2∧(zAW C S (zX C S path)).1.nodes=S.nodes∧
  zAw (zAW C S (zX C S path)).1≤zAw S + (C.q.vars.length + 2)∧(zAW C S (zX C S path)).2.1=1∧twos (zAW C S (zX C S path)).1.ref≤twos S.ref + (zX C S path).trail.length:=by
 obtain ⟨ht,hlen,hcf⟩:=zIl hq hu hS path;obtain ⟨hcin,hcf⟩:=hcf hc;generalize zX C S path=U at *;obtain ⟨hv1,hv2,hv3,hv4⟩:=zEl hq hpa _ _ ht;obtain ⟨c1,c2,c3⟩:=zOy hcf;have hcr:=zE1 hS hcin;have hl:=hS.ref.lok U.conf;obtain ⟨e1,⟨x,e2,e3⟩,e4,e5,e6,e7⟩:=zSF hq (fun s hs=>zE1 hS hs) hpa U.vals _ _ ht (fun _ _ h=>h) S.ref U.conf ⟨[],by simp⟩ hS.ref hcr.1 hcr.2 c1 (fun r u hr=>by
  rcases c3 r u hr with h | h
  ·exact Or.inl h
  ·cases hh:L U.vals (!r) u with
   | true=>exact Or.inl rfl
   | false=>
    refine Or.inr ⟨(hu r u).1 h,?_,?_⟩
    ·cases r
     ·simpa using hh
     ·exact c2 true u hr
    ·cases r
     ·exact c2 false u hr
     ·simpa using hh)
 obtain ⟨d1,⟨y,d2,d3,d3'⟩,d4,d5,d6⟩:=zKe hq 1 _ _ e1 e4 e5 e6;unfold zAW;dsimp only;generalize zDd U.trail.reverse S.ref U.conf=r at *;generalize zBz C.q 1 r.1 r.2=dd at *;have hgrow:SInv C { S with ref:=dd.1 }:=hS.grow ⟨x ++ y,by rw [d2,e2,List.append_assoc]⟩ d1;have hext:Ext S { S with ref:=dd.1 }:=⟨⟨x ++ y,by show dd.1=_;rw [d2,e2,List.append_assoc]⟩,⟨[],by simp⟩⟩;have hlits:({ S with ref:=dd.1 }:SS).lits (1,dd.2)=zAR 1 C.q.vars.reverse (zM r.1 r.2):=d6;have hon:zG2 1 path (zAR 1 C.q.vars.reverse (zM r.1 r.2)):=by
  intro s v hv;have hs:=zEo hq 1 _ _ _ hv;show L path (s == false) v=true;rw [show (s == false)=!s from by cases s<;>rfl]
  rcases e7 s v hs with h | h
  ·exact h
  ·exfalso
   obtain ⟨⟨z,hz,hze,hzu⟩,h6,h7⟩:=h;obtain ⟨i,hi,rfl⟩:=List.mem_iff_getElem.1 hz;have hid:d≤i:=by
    rcases Nat.lt_or_ge i d with hlt | hge
    ·obtain ⟨t,ht⟩:=hpa.all i hi hlt;rw [hze] at ht
     have:=hv3 _ _ ht
     cases t
     ·rw [h7] at this;cases this
     ·rw [h6] at this;cases this
    ·exact hge
   have hg:=zJr hq 1 d C.q.vars.length (Nat.le_refl _) (zM r.1 r.2) (fun j hj hdj _ t htj=>by
    rcases e7 t _ htj with h | h
    ·rw [hpa.off hq hj hdj] at h;cases h
    ·obtain ⟨⟨z,hz,hze2,hzu2⟩,_⟩:=h
     have:=zGs hq hz (List.getElem_mem hj) hze2
     rw [this] at hzu2;rw [hzu2];rfl) i hi hid hi s
   rw [List.take_length,hze] at hg;rw [hg] at hv;cases hv
 have hfact:FactIn C.q { S with ref:=dd.1 } (1,dd.2):=⟨Or.inl rfl,d4,d5,by rw [hlits];exact e6.sub (fun s v=>zEo hq 1 _ s v),by rw [hlits];exact zIQ hq 1 _⟩;have hsize:zAw { S with ref:=dd.1 }≤zAw S + (C.q.vars.length + 2):=by
  unfold zAw;show dd.1.length + S.aff.length≤_;rw [d2,e2];simp at e3 ⊢;omega
 have htwo:twos dd.1≤twos S.ref + U.trail.length:=by
  unfold twos;rw [d2,e2,List.filter_append,List.filter_append,List.length_append,List.length_append];have h1:(x.filter (fun s=>s.rule == 3)).length≤x.length:=List.length_filter_le _ _;have h2:y.filter (fun s=>s.rule == 3)=[]:=List.filter_eq_nil_iff.2 (fun s hs=>by simpa using d3' s hs);rw [h2];simp at e3 ⊢;omega
 split
 ·have hk:=zJ1 hgrow hfact;obtain ⟨k1,k2,k3⟩:=zFS C.room { S with ref:=dd.1 } (1,dd.2);have hke:=zGb C.room { S with ref:=dd.1 } (1,dd.2);refine ⟨hk,hext.trans hke,⟨hfact.ext hke,?_⟩,k3,by unfold zAw at hsize ⊢;rw [k1,k2];exact hsize,rfl,by rw [k1];exact htwo⟩;rw [hke.lits hfact.hi,hlits];exact hon
 ·exact ⟨hgrow,hext,⟨hfact,by rw [hlits];exact hon⟩,rfl,hsize,rfl,htwo⟩
end Go.Proofs.YtgipjjhkhfihpaaGreatDoor
