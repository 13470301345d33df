import Derived.Test.YtknnnbpgkfaapaaGreatVRefPaths
import Derived.Test.YtknnnbpgkfaapaaGreatVRefStGoals
import Derived.Test.YtknnnbpgkfaapaaGreatVGridMath
import Derived.Test.YtknnnbpgkfaapaaGreatVInMath
import Derived.Test.YtknnnbpgkfaapaaGreatVCopies0
set_option maxRecDepth 100000
set_option linter.unusedSimpArgs false
set_option linter.unusedVariables false
namespace Go.Proofs.YtknnnbpgkfaapaaGreat.Vm
open Go Go.RowKit
def restL (x:Int):List Int:=List.replicate 7 x
def cellR (s:St)(i:Nat):Int:=(s.rs.getD i zr).a
section
variable (W H:Int) (l:List Nat) (s:St)
noncomputable def oth1 (k:Nat):List (List Int):=((List.range k).filter fun i:Nat=>!(zay W H l s (i:Int)).2).map fun i=>restL (cellR s i)
noncomputable def pthG (oth:List (List Int))(i:Nat):List Int:=(pathG W H l s.bl oth (cellR s i) (zay W H l s (i:Int)).1).getD (restL (cellR s i))
noncomputable def othG (n:Nat):Nat->List (List Int)
 | 0=>oth1 W H l s n
 | k+1=>if (zay W H l s (k:Int)).2=true then othG n k++[pthG W H l s (othG n k) k] else othG n k
noncomputable def planG (n i:Nat):List Int:=if (zay W H l s (i:Int)).2=true then pthG W H l s (othG W H l s n i) i else restL (cellR s i)
noncomputable def plansG (n:Nat):List (List Int):=(List.range n).map (planG W H l s n)
end
section
variable {W H:Int} {l:List Nat} {s:St}
theorem restL_len (x:Int):(restL x).length=7:=by simp [restL]
theorem restL_wf {x:Int}(h:(Lit.int .i64 x).wf=true):WfZ (restL x):=fun z hz=>by
 obtain rfl:=(List.mem_replicate.1 hz).2
 exact h
theorem oth1_no {k:Nat}(h:(zay W H l s (k:Int)).2=false):oth1 W H l s (k+1)=oth1 W H l s k++[restL (cellR s k)]:=by
 unfold oth1
 rw [List.range_succ,List.filter_append,List.map_append]
 simp [h]
theorem oth1_yes {k:Nat}(h:(zay W H l s (k:Int)).2=true):oth1 W H l s (k+1)=oth1 W H l s k:=by
 unfold oth1
 rw [List.range_succ,List.filter_append,List.map_append]
 simp [h]
theorem oth1_len (k:Nat):(oth1 W H l s k).length<=k:=by
 unfold oth1
 rw [List.length_map]
 have:=List.length_filter_le (fun i:Nat=>!(zay W H l s (i:Int)).2) (List.range k)
 rw [List.length_range] at this
 exact this
theorem pathG_len {bl:List Int}{oth:List (List Int)}{fr to:Int}{p:List Int}(h:pathG W H l bl oth fr to=some p):p.length=7/\∀ z∈p,0<=z/\z<(l.length:Int):=by
 unfold pathG at h
 by_cases hc:zac l to=true/\zac l fr=true
 · rw [if_pos hc] at h
   obtain ⟨x,hx,rfl⟩:=Option.map_eq_some_iff.1 h
   have hst:=pathS_steps hx
   have hl:=hst.len
   refine ⟨by rw [List.length_cons,hl],fun z hz=>?_⟩
   rcases List.mem_cons.1 hz with rfl|hz
   · exact zaq hc.2
   · obtain ⟨j,hj,e⟩:=List.getElem_of_mem hz
     obtain ⟨⟨way,_,hg⟩,_⟩:=hst.at j (by omega) (by omega)
     have hb:=goesS_nat hg
     have e':x.1.getD j 0=z:=by simp [List.getD,hj,e]
     rw [e'] at hb
     exact hb
 · rw [if_neg hc] at h;cases h
theorem pthG_len {oth:List (List Int)}{i:Nat}:(pthG W H l s oth i).length=7:=by
 unfold pthG
 cases h:pathG W H l s.bl oth (cellR s i) (zay W H l s (i:Int)).1 with
 | none=>exact restL_len _
 | some p=>exact (pathG_len h).1
theorem pthG_wf {oth:List (List Int)}{i:Nat}(hl:l.length<=65536)(hc:(Lit.int .i64 (cellR s i)).wf=true):WfZ (pthG W H l s oth i):=by
 unfold pthG
 cases h:pathG W H l s.bl oth (cellR s i) (zay W H l s (i:Int)).1 with
 | none=>exact restL_wf hc
 | some p =>
   intro z hz
   have:=(pathG_len h).2 z hz
   exact WalkArith.wf_i64 (by omega)
theorem othG_len (n:Nat):∀ k,(othG W H l s n k).length<=n+k
 | 0=>oth1_len n
 | k+1=>by
   rw [othG]
   have:=othG_len n k
   split
   · rw [List.length_append,List.length_singleton];omega
   · omega
theorem planG_len (n i:Nat):(planG W H l s n i).length=7:=by
 unfold planG
 split
 · exact pthG_len
 · exact restL_len _
theorem plansG_at {n i:Nat}(hi:i<n):(plansG W H l s n).getD i []=planG W H l s n i:=by simp [plansG,List.getD,hi]
theorem ofZ_in {l:List Nat}{x:Int}(h:x∈ofZ l):0<=x/\x<l.length:=by
 unfold ofZ ofS at h
 obtain ⟨i,hi,rfl⟩:=List.mem_map.1 h
 have:=List.mem_range.1 (List.mem_filter.1 hi).1
 omega
theorem goal_bounds (hr:RightP (zac l) s){i:Nat}(hi:i<s.rs.length)(h:(zay W H l s (i:Int)).2=true):0<=(zay W H l s (i:Int)).1/\(zay W H l s (i:Int)).1<l.length:=by
 rw [goal_in hi rfl] at h ⊢
 generalize s.rs.getD i zr=r at h ⊢
 by_cases h1:0<r.e\/r.d=0
 · rw [if_pos h1] at h;cases h
 · rw [if_neg h1] at h ⊢
   by_cases h2:r.b=1\/r.b=2
   · rw [if_pos h2] at h ⊢
     unfold errandS at h ⊢
     by_cases h3:zat s.ts r.c<0
     · rw [if_pos h3] at h;cases h
     · rw [if_neg h3] at h ⊢
       rcases zbn s.ts r.c with ⟨e,_⟩|⟨k,hk,e,_⟩
       · omega
       · rw [e,Int.toNat_natCast] at h ⊢
         obtain ⟨_,_,_,f1,f2⟩:=hr.job k hk
         by_cases h4:r.b=1
         · rw [if_pos h4];exact zaq f1
         · rw [if_neg h4];exact zaq f2
   · rw [if_neg h2] at h ⊢
     by_cases h5:r.b=3
     · rw [if_pos h5] at h ⊢
       by_cases h6:(nearG W H l s.bl (ofZ l) r.a).2<0
       · rw [if_pos h6] at h;cases h
       · rw [if_neg h6]
         rcases nearS_is (fun x=>farG W H l s.bl r.a x) (ofZ l) with ⟨e,_⟩|⟨hm,_⟩
         · unfold nearG at h6
           rw [e] at h6
           exact absurd (by decide) h6
         · exact ofZ_in hm
     · rw [if_neg h5] at h;cases h
theorem right_cell (hr:RightP (zac l) s)(hl:l.length<=65536){i:Nat}(hi:i<s.rs.length):(Lit.int .i64 (cellR s i)).wf=true:=by
 have:=zaq (hr.rest i hi).1
 exact WalkArith.wf_i64 (by unfold cellR;omega)
theorem right_bl (hr:RightP (zac l) s)(hl:l.length<=65536):WfZ s.bl:=fun z hz=>by
 obtain ⟨j,hj,e⟩:=List.getElem_of_mem hz
 have:=zaq (hr.shut j hj).1
 rw [show s.bl.getD j 0=z by simp [List.getD,hj,e]] at this
 exact WalkArith.wf_i64 (by omega)
end
end Go.Proofs.YtknnnbpgkfaapaaGreat.Vm
namespace Go.Proofs.YtknnnbpgkfaapaaGreat.Vm
section
variable (W H:Int) (l:List Nat)
def wayG (c t:Int):Int:=if zak W H l c 0=(t,true) then 0 else if zak W H l c 1=(t,true) then 1 else if zak W H l c 2=(t,true) then 2 else if zak W H l c 3=(t,true) then 3 else 4
def zbw (s:St):List Int:=(List.range s.rs.length).map (cellR s)
noncomputable def zbs (s:St):List Int:=(List.range s.rs.length).map fun i=>(planG W H l s s.rs.length i).getD 1 0
noncomputable def toG (s:St):List Int:=gateG (zbw s) (zbs W H l s) s.bl
noncomputable def waysG (s:St):List Int:=(List.range s.rs.length).map fun i=>wayG W H l (cellR s i) ((toG W H l s).getD i 0)
end
def tk (ts:List Rec)(r:Rec):Rec:=ts.getD (zat ts r.c).toNat zr
def actT (ts:List Rec)(r:Rec)(t:Int):Int:=if r.b=1/\(tk ts r).b=t then 3 else if r.b=2/\(tk ts r).c=t then 4 else 0
def goneR (r:Rec)(t:Int):Rec:=⟨t,r.b,r.c,if t≠r.a then r.d-1 else r.d,if 0<r.e then r.e-1 else r.e⟩
def zcc (l:List Nat)(ts:List Rec)(r:Rec)(t:Int):Rec :=
 if actT ts r t=3 then ⟨(goneR r t).a,2,(goneR r t).c,(goneR r t).d,(goneR r t).e⟩
 else if actT ts r t=4 then ⟨(goneR r t).a,0,0,(goneR r t).d,(goneR r t).e⟩
 else if r.b=3/\l.getD t.toNat 0=67 then ⟨(goneR r t).a,if min ((goneR r t).d+20) 1000=1000 then 0 else 3,(goneR r t).c,min ((goneR r t).d+20) 1000,(goneR r t).e⟩
 else goneR r t
def workT (ts:List Rec)(r:Rec)(t:Int):List Rec:=if actT ts r t=0 then ts else ts.set (zat ts r.c).toNat (setF (tk ts r) 3 (actT ts r t))
def workS (l:List Nat)(s:St)(i:Nat)(t:Int):St:=⟨s.tick,s.rs.set i (zcc l s.ts (s.rs.getD i zr) t),workT s.ts (s.rs.getD i zr) t,s.bl⟩
def workN (l:List Nat)(s:St)(tz:List Int):Nat->St
 | 0=>s
 | i+1=>workS l (workN l s tz i) i (tz.getD i 0)
def tickS (s:St):St:=⟨s.tick+1,s.rs,s.ts,s.bl⟩
noncomputable def moveG (W H:Int)(l:List Nat)(a:St):St:=tickS (workN l a (toG W H l a) a.rs.length)
section
variable {l:List Nat} {a s:St} {tz:List Int} {fl:Int->Bool}
theorem act_cases (ts:List Rec)(r:Rec)(t:Int):(actT ts r t=3/\r.b=1/\(tk ts r).b=t)\/(actT ts r t=4/\r.b=2/\(tk ts r).c=t)\/(actT ts r t=0/\¬ (r.b=1/\(tk ts r).b=t)/\¬ (r.b=2/\(tk ts r).c=t)):=by
 unfold actT
 by_cases h1:r.b=1/\(tk ts r).b=t
 · rw [if_pos h1];exact .inl ⟨rfl,h1⟩
 · rw [if_neg h1]
   by_cases h2:r.b=2/\(tk ts r).c=t
   · rw [if_pos h2];exact .inr (.inl ⟨rfl,h2⟩)
   · rw [if_neg h2];exact .inr (.inr ⟨rfl,h1,h2⟩)
theorem act_own (hr:RightP fl a){k:Nat}(hk:k<a.rs.length){t:Int}(h:actT a.ts (a.rs.getD k zr) t≠0) :
 ∃ m:Nat,m<a.ts.length/\zat a.ts (a.rs.getD k zr).c=m/\(a.ts.getD m zr).e=k /\
   ((a.rs.getD k zr).b=1/\(a.ts.getD m zr).d=2/\actT a.ts (a.rs.getD k zr) t=3\/(a.rs.getD k zr).b=2/\(a.ts.getD m zr).d=3/\actT a.ts (a.rs.getD k zr) t=4):=by
 have hm:=hr.mode k hk
 generalize a.rs.getD k zr=r at h hm
 unfold ModeP at hm
 rcases act_cases a.ts r t with ⟨h1,h2,h3⟩|⟨h1,h2,h3⟩|⟨h1,_⟩
 · rcases hm with ⟨hb,_⟩|⟨hb,m,hm,e,hd,he⟩|⟨hb,_⟩|⟨hb,_⟩
   · omega
   · exact ⟨m,hm,e,he,.inl ⟨h2,hd,h1⟩⟩
   · omega
   · omega
 · rcases hm with ⟨hb,_⟩|⟨hb,_⟩|⟨hb,m,hm,e,hd,he⟩|⟨hb,_⟩
   · omega
   · omega
   · exact ⟨m,hm,e,he,.inr ⟨h2,hd,h1⟩⟩
   · omega
 · exact absurd h1 h
structure WorkI (l:List Nat)(a:St)(tz:List Int)(i:Nat)(s:St):Prop where
 tick:s.tick=a.tick
 bl:s.bl=a.bl
 rl:s.rs.length=a.rs.length
 tl:s.ts.length=a.ts.length
 rs1:∀ k,k<i->s.rs.getD k zr=zcc l a.ts (a.rs.getD k zr) (tz.getD k 0)
 rs2:∀ k,i<=k->s.rs.getD k zr=a.rs.getD k zr
 same:∀ m,(s.ts.getD m zr).a=(a.ts.getD m zr).a/\(s.ts.getD m zr).b=(a.ts.getD m zr).b/\(s.ts.getD m zr).c=(a.ts.getD m zr).c/\(s.ts.getD m zr).e=(a.ts.getD m zr).e
 d1:∀ m,(s.ts.getD m zr).d=(a.ts.getD m zr).d\/∃ k,k<i/\k<a.rs.length/\zat a.ts (a.rs.getD k zr).c=(m:Nat)/\actT a.ts (a.rs.getD k zr) (tz.getD k 0)≠0/\(s.ts.getD m zr).d=actT a.ts (a.rs.getD k zr) (tz.getD k 0)
 d2:∀ k,k<i->k<a.rs.length->actT a.ts (a.rs.getD k zr) (tz.getD k 0)≠0->(s.ts.getD (zat a.ts (a.rs.getD k zr).c).toNat zr).d=actT a.ts (a.rs.getD k zr) (tz.getD k 0)
theorem WorkI.zero:WorkI l a tz 0 a:=⟨rfl,rfl,rfl,rfl,fun k hk=>by omega,fun _ _=>rfl,fun _=>⟨rfl,rfl,rfl,rfl⟩,fun _=>.inl rfl,fun k hk=>by omega⟩
theorem WorkI.find {i:Nat}(h:WorkI l a tz i s)(id:Int):zat s.ts id=zat a.ts id:=findS_ids h.tl (fun n=>(h.same n).1) id
theorem WorkI.act {i:Nat}(h:WorkI l a tz i s)(r:Rec)(t:Int):actT s.ts r t=actT a.ts r t:=by
 unfold actT tk
 rw [h.find,(h.same _).2.1,(h.same _).2.2.1]
theorem WorkI.work {i:Nat}(h:WorkI l a tz i s)(r:Rec)(t:Int):zcc l s.ts r t=zcc l a.ts r t:=by
 unfold zcc
 rw [h.act]
theorem WorkI.succ (hr:RightP fl a){i:Nat}(h:WorkI l a tz i s)(hi:i<a.rs.length):WorkI l a tz (i+1) (workS l s i (tz.getD i 0)):=by
 have hri:=h.rs2 i (Nat.le_refl _)
 have hs:workS l s i (tz.getD i 0)=⟨s.tick,s.rs.set i (zcc l a.ts (a.rs.getD i zr) (tz.getD i 0)),workT s.ts (a.rs.getD i zr) (tz.getD i 0),s.bl⟩:=by
  unfold workS
  rw [hri,h.work]
 have hR:∀ k,k≠i->(workS l s i (tz.getD i 0)).rs.getD k zr=s.rs.getD k zr:=fun k hk=>by rw [hs];exact set_off hk _
 have hRi:(workS l s i (tz.getD i 0)).rs.getD i zr=zcc l a.ts (a.rs.getD i zr) (tz.getD i 0):=by rw [hs];exact zba (by rw [h.rl];exact hi) _
 have hT:(workS l s i (tz.getD i 0)).ts=workT s.ts (a.rs.getD i zr) (tz.getD i 0):=by rw [hs]
 have hrl:(workS l s i (tz.getD i 0)).rs.length=a.rs.length:=by rw [hs];show (s.rs.set _ _).length=_;rw [List.length_set];exact h.rl
 have htick:(workS l s i (tz.getD i 0)).tick=a.tick:=h.tick
 have hbl:(workS l s i (tz.getD i 0)).bl=a.bl:=h.bl
 generalize workS l s i (tz.getD i 0)=s' at hR hRi hT hrl htick hbl
 have hrs1:∀ k,k<i+1->s'.rs.getD k zr=zcc l a.ts (a.rs.getD k zr) (tz.getD k 0):=fun k hk=>by
  by_cases e:k=i
  · subst e;exact hRi
  · rw [hR k e];exact h.rs1 k (by omega)
 have hrs2:∀ k,i+1<=k->s'.rs.getD k zr=a.rs.getD k zr:=fun k hk=>by rw [hR k (by omega)];exact h.rs2 k (by omega)
 unfold workT at hT
 rw [h.act] at hT
 by_cases h0:actT a.ts (a.rs.getD i zr) (tz.getD i 0)=0
 · rw [if_pos h0] at hT
   refine ⟨htick,hbl,hrl,by rw [hT];exact h.tl,hrs1,hrs2,fun m=>by rw [hT];exact h.same m,fun m=>?_,fun k hk hkn hne=>?_⟩
   · rw [hT]
     exact (h.d1 m).imp id fun ⟨k,hk,r⟩=>⟨k,by omega,r⟩
   · rw [hT]
     by_cases e:k=i
     · subst e;exact absurd h0 hne
     · exact h.d2 k (by omega) hkn hne
 · rw [if_neg h0,h.find] at hT
   obtain ⟨m,hm,e,he,_⟩:=act_own hr hi h0
   unfold tk at hT
   rw [h.find,e,Int.toNat_natCast] at hT
   have hms:m<s.ts.length:=by rw [h.tl];exact hm
   have hTm:s'.ts.getD m zr=setF (s.ts.getD m zr) 3 (actT a.ts (a.rs.getD i zr) (tz.getD i 0)):=by rw [hT];exact zba hms _
   have hTo:∀ n,n≠m->s'.ts.getD n zr=s.ts.getD n zr:=fun n hn=>by rw [hT];exact set_off hn _
   refine ⟨htick,hbl,hrl,by rw [hT,List.length_set];exact h.tl,hrs1,hrs2,fun n=>?_,fun n=>?_,fun k hk hkn hne=>?_⟩
   · by_cases en:n=m
     · subst en;rw [hTm];exact h.same n
     · rw [hTo n en];exact h.same n
   · by_cases en:n=m
     · subst en
       exact .inr ⟨i,by omega,hi,e,h0,by rw [hTm];rfl⟩
     · rw [hTo n en]
       exact (h.d1 n).imp id fun ⟨k,hk,r⟩=>⟨k,by omega,r⟩
   · by_cases ek:k=i
     · subst ek
       rw [e,Int.toNat_natCast,hTm];rfl
     · obtain ⟨m',hm',e',he',_⟩:=act_own hr hkn hne
       rw [e',Int.toNat_natCast]
       have hmm:m'≠m:=fun h=>by subst h;rw [he] at he';omega
       rw [hTo m' hmm]
       have:=h.d2 k (by omega) hkn hne
       rw [e',Int.toNat_natCast] at this
       exact this
theorem workN_is (hr:RightP fl a):∀ i,i<=a.rs.length->WorkI l a tz i (workN l a tz i)
 | 0,_=>.zero
 | i+1,hi=>(workN_is hr i (by omega)).succ hr (by omega)
theorem work_a (ts:List Rec)(r:Rec)(t:Int):(zcc l ts r t).a=t:=by
 unfold zcc
 split
 · rfl
 · split
   · rfl
   · split <;> rfl
theorem work_e (ts:List Rec)(r:Rec)(t:Int):(zcc l ts r t).e=if 0<r.e then r.e-1 else r.e:=by
 unfold zcc
 split
 · rfl
 · split
   · rfl
   · split <;> rfl
theorem work_d (ts:List Rec)(r:Rec)(t:Int)(h:0<=r.d/\r.d<=1000)(ht:t≠r.a->0<r.d):0<=(zcc l ts r t).d/\(zcc l ts r t).d<=1000:=by
 have hg:0<=(goneR r t).d/\(goneR r t).d<=1000:=by
  show 0<=(if t≠r.a then r.d-1 else r.d)/\(if t≠r.a then r.d-1 else r.d)<=1000
  by_cases e:t=r.a
  · rw [if_neg (fun h=>h e)];exact h
  · rw [if_pos e];have:=ht e;omega
 unfold zcc
 split
 · exact hg
 · split
   · exact hg
   · split
     · show 0<=min ((goneR r t).d+20) 1000/\min ((goneR r t).d+20) 1000<=1000
       omega
     · exact hg
theorem work_bc (ts:List Rec)(r:Rec)(t:Int):(actT ts r t=3/\(zcc l ts r t).b=2/\(zcc l ts r t).c=r.c)\/(actT ts r t=4/\(zcc l ts r t).b=0/\(zcc l ts r t).c=0) \/
 (actT ts r t=0/\(zcc l ts r t).c=r.c/\((zcc l ts r t).b=r.b\/r.b=3/\(zcc l ts r t).b=0)):=by
 unfold zcc
 rcases act_cases ts r t with ⟨h1,h2,_⟩|⟨h1,h2,_⟩|⟨h1,_⟩
 · rw [if_pos h1];exact .inl ⟨h1,rfl,rfl⟩
 · rw [if_neg (by omega),if_pos h1];exact .inr (.inl ⟨h1,rfl,rfl⟩)
 · rw [if_neg (by omega),if_neg (by omega)]
   refine .inr (.inr ⟨h1,?_⟩)
   by_cases hc:r.b=3/\l.getD t.toNat 0=67
   · rw [if_pos hc]
     refine ⟨rfl,?_⟩
     by_cases hm:min ((goneR r t).d+20) 1000=1000
     · exact .inr ⟨hc.1,if_pos hm⟩
     · exact .inl ((if_neg hm).trans hc.1.symm)
   · rw [if_neg hc]
     exact ⟨rfl,.inl rfl⟩
theorem work_right (hr:RightP fl a)(hw:WorkI l a tz a.rs.length s)(ht:a.tick<2147483647)(h1:∀ k,k<a.rs.length->fl (tz.getD k 0)=true)(h2:∀ i k,k<i->i<a.rs.length->tz.getD k 0≠tz.getD i 0)
 (h3:∀ k,k<a.rs.length->tz.getD k 0≠(a.rs.getD k zr).a->0<(a.rs.getD k zr).d):RightP fl (tickS s):=by
 have hA:∀ k,k<a.rs.length->(s.rs.getD k zr).a=tz.getD k 0:=fun k hk=>by rw [hw.rs1 k hk];exact work_a _ _ _
 have hown:∀ k,k<a.rs.length->∀ st,OwnP a.ts (a.rs.getD k zr).c k st->actT a.ts (a.rs.getD k zr) (tz.getD k 0)=0->OwnP s.ts (a.rs.getD k zr).c k st:=fun k hk st ⟨m,hm,e,hd,he⟩ h0=>by
  refine ⟨m,by rw [hw.tl];exact hm,by rw [hw.find];exact e,?_,by rw [(hw.same m).2.2.2];exact he⟩
  rcases hw.d1 m with h|⟨k',hk',hkn',e',hne,_⟩
  · rw [h];exact hd
  · obtain ⟨m',hm',e2,he',_⟩:=act_own hr hkn' hne
    rw [e'] at e2
    obtain rfl:m=m':=by omega
    rw [he] at he'
    obtain rfl:k=k':=by omega
    exact absurd h0 hne
 have hown2:∀ k,k<a.rs.length->∀ x,x≠0->actT a.ts (a.rs.getD k zr) (tz.getD k 0)=x->OwnP s.ts (a.rs.getD k zr).c k x:=fun k hk x hx h=>by
  obtain ⟨m,hm,e,he,_⟩:=act_own (t:=tz.getD k 0) hr hk (by rw [h];exact hx)
  refine ⟨m,by rw [hw.tl];exact hm,by rw [hw.find];exact e,?_,by rw [(hw.same m).2.2.2];exact he⟩
  have:=hw.d2 k hk hk (by rw [h];exact hx)
  rw [e,Int.toNat_natCast,h] at this
  exact this
 refine ⟨⟨by show 0<=s.tick+1;rw [hw.tick];have:=hr.tick;omega,by show s.tick+1<=2147483647;rw [hw.tick];omega⟩,by show s.rs.length<=1024;rw [hw.rl];exact hr.rn,by show s.ts.length<=1000;rw [hw.tl];exact hr.tn,fun k hk=>?_,fun m hm=>?_,fun i hi=>?_,fun m hm=>?_,fun k hk=>?_⟩
 · have hk:k<a.rs.length:=by rw [<- hw.rl];exact hk
   obtain ⟨q1,q2,q3,q4⟩:=hr.rest k hk
   show RestP fl s.rs k
   unfold RestP
   refine ⟨by rw [hA k hk];exact h1 k hk,fun n hn=>by rw [hA n (by omega),hA k hk];exact h2 k n hn hk,?_,?_⟩
   · rw [hw.rs1 k hk];exact work_d _ _ _ q3 (h3 k hk)
   · rw [hw.rs1 k hk,work_e]
     split <;> omega
 · have hm:m<a.ts.length:=by rw [<- hw.tl];exact hm
   have q:=hr.job m hm
   show JobP fl s.ts m
   unfold JobP at q ⊢
   obtain ⟨f1,f2,f3,_⟩:=hw.same m
   rw [f1,f2,f3]
   exact ⟨q.1,fun n hn=>by rw [(hw.same n).1];exact q.2.1 n hn,q.2.2⟩
 · have e:(tickS s).bl=a.bl:=hw.bl
   rw [e] at hi ⊢
   exact hr.shut i hi
 · have hm:m<a.ts.length:=by rw [<- hw.tl];exact hm
   have q:=hr.role m hm
   show RoleP s.rs (s.ts.getD m zr)
   obtain ⟨f1,_,_,f4⟩:=hw.same m
   unfold RoleP at q ⊢
   rw [hw.rl,f1,f4]
   rcases hw.d1 m with h|⟨k,_,hk,e,hne,hd⟩
   · rw [h]
     rcases q with q|⟨q1,q2,q3⟩|q
     · exact .inl q
     · refine .inr (.inl ⟨q1,q2,?_⟩)
       have hk:(a.ts.getD m zr).e.toNat<a.rs.length:=by omega
       rw [hw.rs1 _ hk]
       generalize hkk:(a.ts.getD m zr).e.toNat=k at hk q3 ⊢
       have hf:zat a.ts (a.rs.getD k zr).c=(m:Nat):=by rw [q3];exact findS_own hm (hr.job m hm).2.1
       have h0:actT a.ts (a.rs.getD k zr) (tz.getD k 0)=0:=by
        by_cases h0:actT a.ts (a.rs.getD k zr) (tz.getD k 0)=0
        · exact h0
        · have hd2:=hw.d2 k hk hk h0
          obtain ⟨m',_,e',_,h5⟩:=act_own hr hk h0
          rw [hf] at e'
          obtain rfl:m=m':=by omega
          rw [hf,Int.toNat_natCast,h] at hd2
          rcases h5 with ⟨_,h6,h7⟩|⟨_,h6,h7⟩ <;> omega
       rcases work_bc (l:=l) a.ts (a.rs.getD k zr) (tz.getD k 0) with ⟨h6,_⟩|⟨h6,_⟩|⟨_,h6,_⟩
       · omega
       · omega
       · rw [h6];exact q3
     · exact .inr (.inr q)
   · obtain ⟨m',hm',e',he',h5⟩:=act_own hr hk hne
     rw [e] at e'
     obtain rfl:m=m':=by omega
     rw [hd]
     rcases h5 with ⟨_,h6,h7⟩|⟨_,h6,h7⟩
     · refine .inr (.inl ⟨.inr h7,⟨by omega,by omega⟩,?_⟩)
       rw [he',Int.toNat_natCast,hw.rs1 k hk]
       have hc:(a.rs.getD k zr).c=(a.ts.getD m zr).a:=by
        rcases q with q|⟨_,_,q3⟩|q
        · omega
        · rw [he',Int.toNat_natCast] at q3;exact q3
        · omega
       rcases work_bc (l:=l) a.ts (a.rs.getD k zr) (tz.getD k 0) with ⟨_,_,h8⟩|⟨h8,_⟩|⟨h8,_⟩
       · rw [h8];exact hc
       · omega
       · omega
     · exact .inr (.inr ⟨h7,by omega,by omega⟩)
 · have hk:k<a.rs.length:=by rw [<- hw.rl];exact hk
   have q:=hr.mode k hk
   show ModeP s.ts (s.rs.getD k zr) k
   rw [hw.rs1 k hk]
   unfold ModeP at q ⊢
   rcases work_bc (l:=l) a.ts (a.rs.getD k zr) (tz.getD k 0) with ⟨h6,h7,h8⟩|⟨h6,h7,h8⟩|⟨h6,h8,h7⟩
   · refine .inr (.inr (.inl ⟨h7,?_⟩))
     rw [h8]
     exact hown2 k hk 3 (by omega) h6
   · exact .inl ⟨.inl h7,h8⟩
   · rw [h8]
     rcases h7 with h7|⟨h7,h9⟩
     · rw [h7]
       rcases q with q|⟨q,q2⟩|⟨q,q2⟩|⟨q,q2⟩
       · exact .inl q
       · exact .inr (.inl ⟨q,hown k hk 2 q2 h6⟩)
       · exact .inr (.inr (.inl ⟨q,hown k hk 3 q2 h6⟩))
       · exact .inr (.inr (.inr ⟨q,q2.imp id fun q2=>hown k hk 3 q2 h6⟩))
     · rcases q with ⟨_,q⟩|⟨q,_⟩|⟨q,_⟩|⟨q,_⟩
       · exact .inl ⟨.inl h9,q⟩
       all_goals omega
end
section
variable {W H:Int} {l:List Nat} {a:St}
theorem stay_goes {c:Int}(h:zac l c=true):zak W H l c ((0:Nat):Int)=(c,true):=by
 have e:((0:Nat):Int)=0:=rfl
 unfold zak
 rw [e,if_neg,if_pos rfl]
 rintro (h1|h1|h1)
 · rw [h] at h1;cases h1
 · exact absurd h1 (by decide)
 · exact absurd h1 (by decide)
theorem wants_way (hr:RightP (zac l) a){i:Nat}(hi:i<a.rs.length):(∃ k:Nat,k<=4/\zak W H l (cellR a i) (k:Nat)=((zbs W H l a).getD i 0,true))/\((zbs W H l a).getD i 0≠cellR a i->0<(a.rs.getD i zr).d):=by
 have hf:=(hr.rest i hi).1
 have hstay:zak W H l (cellR a i) ((0:Nat):Int)=(cellR a i,true):=stay_goes hf
 have hw:(zbs W H l a).getD i 0=(planG W H l a a.rs.length i).getD 1 0:=by simp [zbs,List.getD,hi]
 rw [hw]
 unfold planG
 by_cases hg:(zay W H l a (i:Int)).2=true
 · rw [if_pos hg]
   refine ⟨?_,fun _=>?_⟩
   · unfold pthG
     cases hp:pathG W H l a.bl (othG W H l a a.rs.length i) (cellR a i) (zay W H l a (i:Int)).1 with
     | none=>exact ⟨0,by omega,hstay⟩
     | some p =>
       unfold pathG at hp
       split at hp
       · obtain ⟨x,hx,rfl⟩:=Option.map_eq_some_iff.1 hp
         obtain ⟨⟨way,hway,hgo⟩,_⟩:=(pathS_steps hx).at 0 (by omega) (by omega)
         exact ⟨way,hway,hgo⟩
       · cases hp
   · rw [goal_in hi rfl] at hg
     have:=(hr.rest i hi).2.2.1
     generalize a.rs.getD i zr=r at hg this
     by_cases h0:0<r.e\/r.d=0
     · rw [if_pos h0] at hg;cases hg
     · omega
 · rw [if_neg hg]
   exact ⟨⟨0,by omega,hstay⟩,fun h=>absurd rfl h⟩
theorem zbi:(zbw a).length=a.rs.length:=by simp [zbw]
theorem cellsG_at {i:Nat}(hi:i<a.rs.length):(zbw a).getD i 0=cellR a i:=by simp [zbw,List.getD,hi]
theorem wantsG_len:(zbs W H l a).length=a.rs.length:=by simp [zbs]
theorem toG_len:(toG W H l a).length=a.rs.length:=by
 have:=goesTo_len (gateG_goes (zbw a) (zbs W H l a) a.bl) (by rw [wantsG_len,zbi])
 rw [zbi] at this
 exact this
theorem toG_or {i:Nat}(hi:i<a.rs.length):(toG W H l a).getD i 0=cellR a i\/(toG W H l a).getD i 0=(zbs W H l a).getD i 0:=by
 have:=goesTo_or (gateG_goes (zbw a) (zbs W H l a) a.bl) i (by rw [zbi];exact hi)
 rw [cellsG_at hi] at this
 exact this
theorem cellsG_once (hr:RightP (zac l) a):¬ TwiceP (zbw a):=by
 rintro ⟨i,hi,hm⟩
 rw [zbi] at hi
 rw [cellsG_at hi] at hm
 obtain ⟨k,hk,e⟩:=List.getElem_of_mem hm
 rw [List.length_take] at hk
 have hki:k<i:=by omega
 have e':(zbw a).getD k 0=cellR a i:=by
  rw [List.getElem_take] at e
  rw [<- e]
  simp [List.getD,show k<(zbw a).length by rw [zbi];omega]
 rw [cellsG_at (by omega)] at e'
 exact (hr.rest i hi).2.1 k hki e'
theorem toG_way (hr:RightP (zac l) a){i:Nat}(hi:i<a.rs.length):∃ k:Nat,k<=4/\zak W H l (cellR a i) (k:Nat)=((toG W H l a).getD i 0,true):=by
 rcases toG_or (W:=W) (H:=H) (l:=l) hi with h|h
 · rw [h]
   exact ⟨0,by omega,stay_goes (hr.rest i hi).1⟩
 · rw [h];exact (wants_way hr hi).1
theorem way_floor {c t:Int}{k:Nat}(h:zak W H l c (k:Nat)=(t,true)):zac l t=true:=by
 obtain ⟨h1,_,_,h2⟩:=goesS_some h
 rcases h2 with ⟨_,rfl⟩|⟨_,_,_,_,_,_,h3,_⟩
 · exact h1
 · exact h3
theorem move_right (hr:RightP (zac l) a)(ht:a.tick<2147483647):RightP (zac l) (moveG W H l a):=by
 have hs:=(gateG_goes (zbw a) (zbs W H l a) a.bl).still
 have hd:∀ i k,i<(zbw a).length->k<(zbw a).length->i≠k->(zbw a).getD i 0≠(zbw a).getD k 0:=fun i k hi hk hne=>by
  rw [zbi] at hi hk
  rw [cellsG_at hi,cellsG_at hk]
  rcases Nat.lt_or_gt_of_ne hne with h|h
  · exact (hr.rest k hk).2.1 i h
  · exact fun e=>(hr.rest i hi).2.1 k h e.symm
 refine work_right hr (workN_is hr a.rs.length (Nat.le_refl _)) ht (fun k hk=>?_) (fun i k hki hi=>?_) (fun k hk hne=>?_)
 · obtain ⟨_,_,h⟩:=toG_way (W:=W) (H:=H) hr hk
   exact way_floor h
 · have:=(still_safe hs hd (i:=i) (k:=k) (by rw [zbi];exact hi) (by rw [zbi];omega) hki).1
   exact fun e=>this e.symm
 · rcases toG_or (W:=W) (H:=H) (l:=l) hk with h|h
   · exact absurd h hne
   · exact (wants_way (W:=W) (H:=H) hr hk).2 (by rw [<- h];exact hne)
theorem way_goes {c t:Int}(h:∃ k:Nat,k<=4/\zak W H l c (k:Nat)=(t,true)):zak W H l c (wayG W H l c t)=(t,true):=by
 unfold wayG
 by_cases h0:zak W H l c 0=(t,true)
 · rw [if_pos h0];exact h0
 rw [if_neg h0]
 by_cases h1:zak W H l c 1=(t,true)
 · rw [if_pos h1];exact h1
 rw [if_neg h1]
 by_cases h2:zak W H l c 2=(t,true)
 · rw [if_pos h2];exact h2
 rw [if_neg h2]
 by_cases h3:zak W H l c 3=(t,true)
 · rw [if_pos h3];exact h3
 rw [if_neg h3]
 obtain ⟨k,hk,h⟩:=h
 match k,hk with
 | 0,_=>exact absurd h h0
 | 1,_=>exact absurd h h1
 | 2,_=>exact absurd h h2
 | 3,_=>exact absurd h h3
 | 4,_=>exact h
end
theorem alls_right (fl:Int->Bool):∀ (l:List Inp) (s:St),RightP fl s->RightP fl (allS fl s l)
 | [],_,h=>h
 | y :: l,s,h=>alls_right fl l (zbt fl s y) (apply_right h)
theorem apply_rlt (fl:Int->Bool)(s:St)(x:Inp):(zbt fl s x).rs.length=s.rs.length/\(zbt fl s x).tick=s.tick/\(zbt fl s x).bl.length<=s.bl.length+1:=by
 unfold zbt
 split
 · unfold turnS
   repeat' split
   · exact ⟨rfl,rfl,Nat.le_succ _⟩
   · exact ⟨List.length_set,rfl,Nat.le_succ _⟩
   · exact ⟨List.length_set,rfl,Nat.le_succ _⟩
   · exact ⟨List.length_set,rfl,Nat.le_succ _⟩
   · refine ⟨rfl,rfl,?_⟩
     show (insZ s.bl x.a).length<=_
     unfold insZ
     simp
     omega
   · exact ⟨rfl,rfl,Nat.le_succ_of_le (del_sub s.bl x.a).length_le⟩
 · exact ⟨rfl,rfl,Nat.le_succ _⟩
theorem alls_rlt (fl:Int->Bool):∀ (l:List Inp) (s:St),(allS fl s l).rs.length=s.rs.length/\(allS fl s l).tick=s.tick/\(allS fl s l).bl.length<=s.bl.length+l.length
 | [],_=>⟨rfl,rfl,Nat.le_refl _⟩
 | y :: l,s=>by
   obtain ⟨h1,h2,h3⟩:=alls_rlt fl l (zbt fl s y)
   obtain ⟨q1,q2,q3⟩:=apply_rlt fl s y
   exact ⟨h1.trans q1,h2.trans q2,by show (allS fl (zbt fl s y) l).bl.length<=s.bl.length+(l.length+1);omega⟩
noncomputable def readyG (W H:Int)(l:List Nat)(s:St)(ins:List Inp):St:=(dispG W H l (allS (zac l) s ins)).1
noncomputable def stepG (W H:Int)(l:List Nat)(s:St)(ins:List Inp):St:=moveG W H l (readyG W H l s ins)
noncomputable def runG (W H:Int)(l:List Nat)(s:St):List (List Inp)->St
 | []=>s
 | x :: t=>runG W H l (stepG W H l s x) t
section
variable {W H:Int} {l:List Nat} {s:St} {ins:List Inp}
theorem ready_is (hr:RightP (zac l) s):RightP (zac l) (readyG W H l s ins)/\(readyG W H l s ins).rs.length=s.rs.length/\(readyG W H l s ins).tick=s.tick/\(readyG W H l s ins).bl.length<=s.bl.length+ins.length:=by
 have hr':=alls_right (zac l) ins s hr
 obtain ⟨h1,h2,h3⟩:=alls_rlt (zac l) ins s
 have hd:=dispG_is (W:=W) (H:=H) (l:=l) hr'
 have hn:=(dispN_is (W:=W) (H:=H) (l:=l) hr' _ (Nat.le_refl _)).2
 refine ⟨hd.right,hd.rl.trans h1,?_,by show (dispG W H l _).1.bl.length<=_;rw [hd.bl];exact h3⟩
 show (dispN W H l _ _).1.tick=_
 rw [hn.tick,h2]
theorem step_right (hr:RightP (zac l) s)(ht:s.tick<2147483647):RightP (zac l) (stepG W H l s ins):=by
 obtain ⟨h1,_,h3,_⟩:=ready_is (W:=W) (H:=H) (ins:=ins) hr
 exact move_right h1 (by omega)
theorem step_rlt (hr:RightP (zac l) s):(stepG W H l s ins).rs.length=s.rs.length/\(stepG W H l s ins).tick=s.tick+1/\(stepG W H l s ins).bl.length<=s.bl.length+ins.length:=by
 obtain ⟨h1,h2,h3,h4⟩:=ready_is (W:=W) (H:=H) (ins:=ins) hr
 have hw:=workN_is (l:=l) (tz:=toG W H l (readyG W H l s ins)) h1 _ (Nat.le_refl _)
 refine ⟨hw.rl.trans h2,?_,?_⟩
 · show (workN _ _ _ _).tick+1=_
   rw [hw.tick,h3]
 · show (workN _ _ _ _).bl.length<=_
   rw [hw.bl];exact h4
def wayN (W H:Int)(l:List Nat)(c t:Int):Nat->Int
 | 0=>4
 | m+1=>if zak W H l c (4-(m:Int))=(t,true) then 4-(m:Int) else wayN W H l c t m
theorem wayN_end (c t:Int):wayN W H l c t 5=wayG W H l c t:=by
 simp only [wayN,wayG,show (4:Int)-((4:Nat):Int)=0 from rfl,show (4:Int)-((3:Nat):Int)=1 from rfl,show (4:Int)-((2:Nat):Int)=2 from rfl,show (4:Int)-((1:Nat):Int)=3 from rfl,show (4:Int)-((0:Nat):Int)=4 from rfl]
 split
 · rfl
 · split
   · rfl
   · split
     · rfl
     · split
       · rfl
       · split <;> rfl
end
end Go.Proofs.YtknnnbpgkfaapaaGreat.Vm
