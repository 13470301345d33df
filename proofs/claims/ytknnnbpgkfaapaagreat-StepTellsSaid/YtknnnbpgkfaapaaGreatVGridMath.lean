import Derived.Below
set_option maxRecDepth 100000
set_option linter.unusedSimpArgs false
set_option linter.unusedVariables false
namespace Go.Proofs.YtknnnbpgkfaapaaGreat.Vm
def encF:Nat->Nat->List Nat
 | 0,n=>[n]
 | f+1,n=>if n<128 then [n] else (n % 128+128) :: encF f (n / 128)
def enc (n:Nat):List Nat:=encF n n
def encs (l:List Nat):List Nat:=l.flatMap enc
end Go.Proofs.YtknnnbpgkfaapaaGreat.Vm
namespace Go.Proofs.YtknnnbpgkfaapaaGreat.Vm
def KeptP (cells blocked now:List Int)(i:Nat):Prop :=
 now.getD i 0≠cells.getD i 0/\(now.getD i 0∈blocked\/∃ k,k<cells.length/\k≠i /\
  ((now.getD k 0=cells.getD k 0/\cells.getD k 0=now.getD i 0)\/(now.getD k 0≠cells.getD k 0/\now.getD k 0=now.getD i 0/\k<i)\/(cells.getD k 0=now.getD i 0/\now.getD k 0=cells.getD i 0)))
noncomputable def keptB (cells blocked now:List Int)(i:Nat):Bool:=@decide (KeptP cells blocked now i) (Classical.propDecidable _)
theorem keptB_yes {cells blocked now:List Int}{i:Nat}(h:KeptP cells blocked now i):keptB cells blocked now i=true:=@decide_eq_true _ (Classical.propDecidable _) h
theorem keptB_no {cells blocked now:List Int}{i:Nat}(h:¬ KeptP cells blocked now i):keptB cells blocked now i=false:=@decide_eq_false _ (Classical.propDecidable _) h
theorem keptB_iff {cells blocked now:List Int}{i:Nat}:keptB cells blocked now i=true ↔ KeptP cells blocked now i:=by
 constructor
 · intro h
   by_cases hk:KeptP cells blocked now i
   · exact hk
   · rw [keptB_no hk] at h;cases h
 · exact keptB_yes
noncomputable def nextG (cells blocked now:List Int):List Int:=(List.range cells.length).map fun i=>if keptB cells blocked now i=true then cells.getD i 0 else now.getD i 0
theorem nextG_len (cells blocked now:List Int):(nextG cells blocked now).length=cells.length:=by simp [nextG]
theorem nextG_at {cells blocked now:List Int}{i:Nat}(hi:i<cells.length):(nextG cells blocked now).getD i 0=if keptB cells blocked now i=true then cells.getD i 0 else now.getD i 0:=by
 simp [nextG,List.getD,hi]
inductive GoesTo (cells blocked:List Int):List Int->List Int->Prop
 | done (now:List Int):(∀ i,i<cells.length->¬ KeptP cells blocked now i)->GoesTo cells blocked now now
 | round (now a:List Int):(∃ i,i<cells.length/\KeptP cells blocked now i)->GoesTo cells blocked (nextG cells blocked now) a->GoesTo cells blocked now a
theorem GoesTo.cases_on {cells blocked now b:List Int}(h:GoesTo cells blocked now b):(now=b/\∀ i,i<cells.length->¬ KeptP cells blocked now i)\/((∃ i,i<cells.length/\KeptP cells blocked now i)/\GoesTo cells blocked (nextG cells blocked now) b):=by
 induction h with
 | done now h=>exact .inl ⟨rfl,h⟩
 | round now a hk hg _=>exact .inr ⟨hk,hg⟩
theorem GoesTo.one {cells blocked now a b:List Int}(h:GoesTo cells blocked now a):GoesTo cells blocked now b->a=b:=by
 induction h with
 | done now h =>
   intro h'
   rcases h'.cases_on with ⟨e,_⟩|⟨⟨i,hi,hk⟩,_⟩
   · exact e
   · exact absurd hk (h i hi)
 | round now a hk _ ih =>
   intro h'
   rcases h'.cases_on with ⟨_,h⟩|⟨_,hg⟩
   · obtain ⟨i,hi,hk⟩:=hk;exact absurd hk (h i hi)
   · exact ih hg
theorem GoesTo.still {cells blocked now a:List Int}(h:GoesTo cells blocked now a):∀ i,i<cells.length->¬ KeptP cells blocked a i:=by
 induction h with
 | done now h=>exact h
 | round now a _ _ ih=>exact ih
def movers (cells now:List Int):Nat:=((List.range cells.length).filter fun i=>decide (now.getD i 0≠cells.getD i 0)).length
theorem filter_lt {p q:Nat->Bool}:∀ {l:List Nat},(∀ x∈l,q x=true->p x=true)->(∃ x∈l,p x=true/\q x=false)->(l.filter q).length<(l.filter p).length
 | [],_,h=>by obtain ⟨x,hx,_⟩:=h;simp at hx
 | y :: l,h1,h2=>by
   have hle:∀ {m:List Nat},(∀ x∈m,q x=true->p x=true)->(m.filter q).length<=(m.filter p).length:=by
    intro m
    induction m with
    | nil=>intro _;simp
    | cons z m ih =>
      intro hm
      have h3:=ih (fun x hx=>hm x (by simp [hx]))
      by_cases hq:q z=true
      · rw [List.filter_cons_of_pos hq,List.filter_cons_of_pos (hm z (by simp) hq)]
        simpa using h3
      · rw [List.filter_cons_of_neg hq]
        by_cases hp:p z=true
        · rw [List.filter_cons_of_pos hp];simp;omega
        · rw [List.filter_cons_of_neg hp];exact h3
   obtain ⟨x,hx,hp,hq⟩:=h2
   have h1':∀ x∈l,q x=true->p x=true:=fun x hx=>h1 x (by simp [hx])
   rcases List.mem_cons.1 hx with rfl|hx
   · rw [List.filter_cons_of_pos hp,List.filter_cons_of_neg (by rw [hq];simp)]
     have:=hle h1'
     simp
     omega
   · have ih:=filter_lt h1' ⟨x,hx,hp,hq⟩
     by_cases hqy:q y=true
     · rw [List.filter_cons_of_pos hqy,List.filter_cons_of_pos (h1 y (by simp) hqy)]
       simpa using ih
     · rw [List.filter_cons_of_neg hqy]
       by_cases hpy:p y=true
       · rw [List.filter_cons_of_pos hpy];simp;omega
       · rw [List.filter_cons_of_neg hpy];exact ih
theorem movers_next {cells blocked now:List Int}(h:∃ i,i<cells.length/\KeptP cells blocked now i):movers cells (nextG cells blocked now)<movers cells now:=by
 obtain ⟨i,hi,hk⟩:=h
 refine filter_lt (fun x hx hq=>?_) ⟨i,by simpa using hi,by simpa using hk.1,?_⟩
 · have hx':x<cells.length:=by simpa using hx
   rw [decide_eq_true_eq,nextG_at hx'] at hq
   rw [decide_eq_true_eq]
   by_cases hb:keptB cells blocked now x=true
   · rw [if_pos hb] at hq;exact absurd rfl hq
   · rw [if_neg hb] at hq;exact hq
 · rw [decide_eq_false_iff_not,nextG_at hi,if_pos (keptB_yes hk)]
   simp
theorem goesTo_ex (cells blocked:List Int):∀ (m:Nat) (now:List Int),movers cells now<=m->∃ a,GoesTo cells blocked now a
 | 0,now,h=>by
   refine ⟨now,.done now fun i hi hk=>?_⟩
   have:=movers_next ⟨i,hi,hk⟩
   omega
 | m+1,now,h=>by
   by_cases hk:∃ i,i<cells.length/\KeptP cells blocked now i
   · have:=movers_next hk
     obtain ⟨a,ha⟩:=goesTo_ex cells blocked m (nextG cells blocked now) (by omega)
     exact ⟨a,.round now a hk ha⟩
   · exact ⟨now,.done now fun i hi h=>hk ⟨i,hi,h⟩⟩
noncomputable def gateG (cells wants blocked:List Int):List Int:=Classical.choose (goesTo_ex cells blocked _ wants (Nat.le_refl _))
theorem gateG_goes (cells wants blocked:List Int):GoesTo cells blocked wants (gateG cells wants blocked):=Classical.choose_spec (goesTo_ex cells blocked _ wants (Nat.le_refl _))
theorem gateG_of {cells wants blocked a:List Int}(h:GoesTo cells blocked wants a):gateG cells wants blocked=a:=(gateG_goes cells wants blocked).one h
theorem goesTo_or {cells blocked now a:List Int}(h:GoesTo cells blocked now a):∀ i,i<cells.length->a.getD i 0=cells.getD i 0\/a.getD i 0=now.getD i 0:=by
 induction h with
 | done now h=>exact fun i _=>.inr rfl
 | round now a _ _ ih =>
   intro i hi
   rcases ih i hi with h1|h1
   · exact .inl h1
   · rw [nextG_at hi] at h1
     by_cases hb:keptB cells blocked now i=true
     · rw [if_pos hb] at h1;exact .inl h1
     · rw [if_neg hb] at h1;exact .inr h1
theorem goesTo_len {cells blocked now a:List Int}(h:GoesTo cells blocked now a):now.length=cells.length->a.length=cells.length:=by
 induction h with
 | done now h=>exact id
 | round now a _ _ ih=>exact fun _=>ih (nextG_len _ _ _)
theorem still_safe {cells blocked a:List Int}(hs:∀ i,i<cells.length->¬ KeptP cells blocked a i)(hd:∀ i k,i<cells.length->k<cells.length->i≠k->cells.getD i 0≠cells.getD k 0){i k:Nat}(hi:i<cells.length)(hk:k<cells.length)(hik:k<i) :
 a.getD i 0≠a.getD k 0/\¬ (a.getD i 0=cells.getD k 0/\a.getD k 0=cells.getD i 0):=by
 have hd1:=hd i k hi hk (by omega)
 constructor
 · intro he
   by_cases h1:a.getD i 0=cells.getD i 0
   · by_cases h2:a.getD k 0=cells.getD k 0
     · exact hd1 (by rw [<- h1,he,h2])
     · exact hs k hk ⟨h2,.inr ⟨i,hi,by omega,.inl ⟨h1,by rw [<- h1,he]⟩⟩⟩
   · by_cases h2:a.getD k 0=cells.getD k 0
     · exact hs i hi ⟨h1,.inr ⟨k,hk,by omega,.inl ⟨h2,by rw [<- h2,he]⟩⟩⟩
     · exact hs i hi ⟨h1,.inr ⟨k,hk,by omega,.inr (.inl ⟨h2,he.symm,hik⟩)⟩⟩
 · rintro ⟨h1,h2⟩
   by_cases h3:a.getD i 0=cells.getD i 0
   · exact hd1 (by rw [<- h3,h1])
   · exact hs i hi ⟨h3,.inr ⟨k,hk,by omega,.inr (.inr ⟨h1.symm,h2⟩)⟩⟩
noncomputable def partG (cells blocked now:List Int)(i:Nat):List Int:=(List.range cells.length).map fun j=>if j<i/\keptB cells blocked now j=true then cells.getD j 0 else now.getD j 0
theorem partG_len (cells blocked now:List Int)(i:Nat):(partG cells blocked now i).length=cells.length:=by simp [partG]
theorem partG_zero {cells blocked now:List Int}(h:now.length=cells.length):partG cells blocked now 0=now:=by
 apply List.ext_getElem
 · rw [partG_len,h]
 · intro j h1 h2
   simp [partG,List.getD,h2]
theorem partG_full (cells blocked now:List Int):partG cells blocked now cells.length=nextG cells blocked now:=by
 apply List.ext_getElem
 · rw [partG_len,nextG_len]
 · intro j h1 h2
   have:j<cells.length:=by rwa [partG_len] at h1
   simp [partG,nextG,this]
theorem partG_yes {cells blocked now:List Int}{i:Nat}(hk:keptB cells blocked now i=true):partG cells blocked now (i+1)=(partG cells blocked now i).set i (cells.getD i 0):=by
 apply List.ext_getElem
 · rw [List.length_set,partG_len,partG_len]
 · intro j h1 h2
   rw [List.getElem_set]
   by_cases e:i=j
   · subst e
     simp [partG,hk]
   · rw [if_neg e]
     simp only [partG,List.getElem_map,List.getElem_range,show (j<i+1)=(j<i) from propext ⟨fun _=>by omega,fun _=>by omega⟩]
theorem partG_no {cells blocked now:List Int}{i:Nat}(hk:keptB cells blocked now i=false):partG cells blocked now (i+1)=partG cells blocked now i:=by
 apply List.ext_getElem
 · rw [partG_len,partG_len]
 · intro j h1 h2
   by_cases e:i=j
   · subst e
     simp [partG,hk]
   · simp only [partG,List.getElem_map,List.getElem_range,show (j<i+1)=(j<i) from propext ⟨fun _=>by omega,fun _=>by omega⟩]
noncomputable def anyK (cells blocked now:List Int)(i:Nat):Bool:=(List.range i).any (keptB cells blocked now)
theorem anyK_more (cells blocked now:List Int)(i:Nat):anyK cells blocked now (i+1)=(anyK cells blocked now i || keptB cells blocked now i):=by simp [anyK,List.range_succ]
theorem anyK_no {cells blocked now:List Int}{n:Nat}(h:anyK cells blocked now n=false):∀ i,i<n->¬ KeptP cells blocked now i:=by
 intro i hi hk
 have:anyK cells blocked now n=true:=List.any_eq_true.2 ⟨i,by simpa using hi,keptB_yes hk⟩
 rw [h] at this
 cases this
theorem anyK_yes {cells blocked now:List Int}{n:Nat}(h:anyK cells blocked now n=true):∃ i,i<n/\KeptP cells blocked now i:=by
 obtain ⟨i,hi,hk⟩:=List.any_eq_true.1 h
 exact ⟨i,by simpa using hi,keptB_iff.1 hk⟩
theorem nextG_same {cells blocked now:List Int}(hl:now.length=cells.length)(h:∀ i,i<cells.length->¬ KeptP cells blocked now i):nextG cells blocked now=now:=by
 apply List.ext_getElem
 · rw [nextG_len,hl]
 · intro j h1 h2
   have hj:j<cells.length:=by rwa [nextG_len] at h1
   simp [nextG,keptB_no (h j hj),List.getD,h2]
def OnWay (cells blocked wants now:List Int)(news:Bool):Prop:=now.length=cells.length/\(∀ a,GoesTo cells blocked now a->GoesTo cells blocked wants a)/\(news=false->∀ i,i<cells.length->¬ KeptP cells blocked now i)
theorem OnWay.start {cells blocked wants:List Int}(h:wants.length=cells.length):OnWay cells blocked wants wants true:=⟨h,fun _=>id,fun h=>by cases h⟩
theorem OnWay.next {cells blocked wants now:List Int}{news:Bool}(h:OnWay cells blocked wants now news):OnWay cells blocked wants (nextG cells blocked now) (anyK cells blocked now cells.length):=by
 cases hk:anyK cells blocked now cells.length
 · have hn:=anyK_no hk
   rw [nextG_same h.1 hn]
   exact ⟨h.1,h.2.1,fun _=>hn⟩
 · exact ⟨nextG_len _ _ _,fun a ha=>h.2.1 a (.round now a (anyK_yes hk) ha),fun h=>by cases h⟩
theorem OnWay.less {cells blocked wants now:List Int}(h:OnWay cells blocked wants now true):2*movers cells (nextG cells blocked now)+(if anyK cells blocked now cells.length=true then 1 else 0)<2*movers cells now+1:=by
 cases hk:anyK cells blocked now cells.length
 · rw [nextG_same h.1 (anyK_no hk)];simp
 · have:=movers_next (anyK_yes hk)
   simp
   omega
theorem OnWay.done {cells blocked wants now:List Int}(h:OnWay cells blocked wants now false):gateG cells wants blocked=now:=gateG_of (h.2.1 _ (.done _ (h.2.2 rfl)))
def TwiceP (cells:List Int):Prop:=∃ i,i<cells.length/\cells.getD i 0∈cells.take i
def GateOut (cells wants blocked out:List Int)(x:Int):Prop :=
 (cells.length≠wants.length/\out=[]/\x=1)\/(cells.length=wants.length/\TwiceP cells/\out=[]/\x=6)\/(cells.length=wants.length/\¬ TwiceP cells/\out=gateG cells wants blocked/\x=0)
end Go.Proofs.YtknnnbpgkfaapaaGreat.Vm
namespace Go.Proofs.YtknnnbpgkfaapaaGreat.Vm
def zcf (c:Nat):Bool:=c==46 || c==35 || c==83 || c==67 || c==62 || c==60 || c==94 || c==118
def rightS (W H:Int)(cells:List Nat):Bool:=decide (1<=W/\1<=H/\W<=256/\H<=256/\(cells.length:Int)=W*H) && cells.all zcf
def zac (cells:List Nat)(cell:Int):Bool:=decide (0<=cell/\cell<(cells.length:Int)) && (cells.getD cell.toNat 0 != 35)
def dxS (way:Int):Int:=if way=2 then 1 else if way=4 then -1 else 0
def dyS (way:Int):Int:=if way=1 then -1 else if way=3 then 1 else 0
abbrev Barred (c:Nat)(way:Int):Prop:=(c=94/\way≠1)\/(c=62/\way≠2)\/(c=118/\way≠3)\/(c=60/\way≠4)
def zak (W H:Int)(cells:List Nat)(cell way:Int):Int × Bool :=
 if zac cells cell=false\/way<0\/4<way then (0,false) else
 if way=0 then (cell,true) else
 if Barred (cells.getD cell.toNat 0) way then (0,false) else
 if cell % W+dxS way<0\/cell / W+dyS way<0\/W<=cell % W+dxS way\/H<=cell / W+dyS way\/zac cells ((cell / W+dyS way)*W+(cell % W+dxS way))=false then (0,false) else
  ((cell / W+dyS way)*W+(cell % W+dxS way),true)
def waysS (W H:Int)(cells:List Nat)(cell:Int):List Nat:=(List.range 5).filter fun way=>(zak W H cells cell (way:Nat)).2
def ofS (cells:List Nat)(c:Nat):List Nat:=(List.range cells.length).filter fun i=>cells.getD i 0==c
theorem at_cell {x y W:Int}(h0:0<=x)(h1:x<W):(y*W+x) % W=x/\(y*W+x) / W=y:=by
 have hW:W≠0:=by omega
 rw [Int.add_comm]
 refine ⟨?_,?_⟩
 · rw [Int.add_mul_emod_self_right,Int.emod_eq_of_lt h0 h1]
 · rw [Int.add_mul_ediv_right _ _ hW,Int.ediv_eq_zero_of_lt h0 h1,Int.zero_add]
theorem of_cell (cell W:Int):cell / W*W+cell % W=cell:=by
 have:=Int.mul_ediv_add_emod cell W
 rw [Int.mul_comm] at this
 exact this
theorem goesS_some {W H:Int}{cells:List Nat}{cell way to:Int}(h:zak W H cells cell way=(to,true)) :
 zac cells cell=true/\0<=way/\way<=4/\((way=0/\to=cell)\/(way≠0/\¬ Barred (cells.getD cell.toNat 0) way/\0<=cell % W+dxS way/\cell % W+dxS way<W/\0<=cell / W+dyS way/\cell / W+dyS way<H /\
  zac cells to=true/\to=(cell / W+dyS way)*W+(cell % W+dxS way))):=by
 unfold zak at h
 by_cases h1:zac cells cell=false\/way<0\/4<way
 · rw [if_pos h1] at h;simp at h
 rw [if_neg h1] at h
 have hf:zac cells cell=true:=by
  cases hc:zac cells cell
  · exact absurd (.inl hc) h1
  · rfl
 refine ⟨hf,by omega,by omega,?_⟩
 by_cases h2:way=0
 · rw [if_pos h2] at h
   simp only [Prod.mk.injEq,and_true] at h
   exact .inl ⟨h2,h.symm⟩
 rw [if_neg h2] at h
 by_cases h3:Barred (cells.getD cell.toNat 0) way
 · rw [if_pos h3] at h;simp at h
 rw [if_neg h3] at h
 split at h
 · simp at h
 · next h4 =>
   simp only [Prod.mk.injEq,and_true] at h
   refine .inr ⟨h2,h3,by omega,by omega,by omega,by omega,?_,h.symm⟩
   rw [<- h]
   cases hc:zac cells ((cell / W+dyS way)*W+(cell % W+dxS way))
   · exact absurd (.inr (.inr (.inr (.inr hc)))) h4
   · rfl
theorem goesS_step {W H:Int}{cells:List Nat}{cell way to:Int}(h:zak W H cells cell way=(to,true)) :
 zac cells to=true/\(to % W-cell % W)*(to % W-cell % W)+(to / W-cell / W)*(to / W-cell / W)<=1/\(to=cell ↔ way=0):=by
 obtain ⟨hf,hw0,hw4,hc⟩:=goesS_some h
 rcases hc with ⟨rfl,rfl⟩|⟨hne,_,h1,h2,h3,h4,h5,rfl⟩
 · exact ⟨hf,by simp,by simp⟩
 · obtain ⟨e1,e2⟩:=at_cell (y:=cell / W+dyS way) h1 h2
   refine ⟨h5,?_,?_⟩
   · rw [e1,e2]
     have hd:cell % W+dxS way-cell % W=dxS way:=by omega
     have hd2:cell / W+dyS way-cell / W=dyS way:=by omega
     rw [hd,hd2]
     have hcase:way=1\/way=2\/way=3\/way=4:=by omega
     rcases hcase with rfl|rfl|rfl|rfl <;> decide
   · refine ⟨fun h=>?_,fun h=>absurd h hne⟩
     rw [h] at e1 e2
     have hx:dxS way=0:=by omega
     have hy:dyS way=0:=by omega
     have hcase:way=1\/way=2\/way=3\/way=4:=by omega
     rcases hcase with rfl|rfl|rfl|rfl <;> simp [dxS,dyS] at hx hy
end Go.Proofs.YtknnnbpgkfaapaaGreat.Vm
namespace Go.Proofs.YtknnnbpgkfaapaaGreat.Vm
theorem take_at {l:List Nat}{k:Nat}(hk:k<l.length):l.take (k+1)=l.take k++[l.getD k 0]:=by
 rw [List.take_succ_eq_append_getElem hk];simp [List.getD,hk]
end Go.Proofs.YtknnnbpgkfaapaaGreat.Vm
namespace Go.Proofs.YtknnnbpgkfaapaaGreat.Vm
def Reach (S:Nat->List Nat)(to:Nat):Nat->Nat->Prop
 | 0,c=>c=to
 | n+1,c=>∃ x∈S c,Reach S to n x
def FarS (S:Nat->List Nat)(to c n:Nat):Prop:=Reach S to n c/\∀ m,m<n->¬ Reach S to m c
def NoWay (S:Nat->List Nat)(to c:Nat):Prop:=∀ n,¬ Reach S to n c
section
variable {S S':Nat->List Nat} {to c x n m:Nat}
theorem least_of {P:Nat->Prop}:∀ n,P n->∃ k,k<=n/\P k/\∀ m,m<k->¬ P m:=by
 intro n
 induction n using Nat.strongRecOn with
 | ind n ih =>
   intro hn
   by_cases h:∃ m,m<n/\P m
   · obtain ⟨m,hm,hp⟩:=h
     obtain ⟨k,h1,h2,h3⟩:=ih m hm hp
     exact ⟨k,by omega,h2,h3⟩
   · exact ⟨n,Nat.le_refl _,hn,fun m hm hp=>h ⟨m,hm,hp⟩⟩
theorem Reach.far (h:Reach S to n c):∃ k,k<=n/\FarS S to c k:=by
 obtain ⟨k,h1,h2,h3⟩:=least_of (P:=fun n=>Reach S to n c) n h
 exact ⟨k,h1,h2,h3⟩
theorem FarS.only (h1:FarS S to c n)(h2:FarS S to c m):n=m:=by
 rcases Nat.lt_trichotomy n m with h|h|h
 · exact absurd h1.1 (h2.2 n h)
 · exact h
 · exact absurd h2.1 (h1.2 m h)
theorem FarS.not (h1:FarS S to c n)(h2:NoWay S to c):False:=h2 n h1.1
theorem far_or (S:Nat->List Nat)(to c:Nat):(∃ n,FarS S to c n)\/NoWay S to c:=by
 by_cases h:∃ n,Reach S to n c
 · obtain ⟨n,hn⟩:=h
   obtain ⟨k,_,hk⟩:=hn.far
   exact .inl ⟨k,hk⟩
 · exact .inr fun n hn=>h ⟨n,hn⟩
theorem far_zero:FarS S to c 0 ↔ c=to:=⟨fun h=>h.1,fun h=>⟨h,fun _ hm=>absurd hm (by omega)⟩⟩
theorem FarS.step (h:FarS S to c (n+1)):∃ x∈S c,FarS S to x n:=by
 obtain ⟨x,hx,hr⟩:=h.1
 refine ⟨x,hx,hr,fun m hm hr'=>?_⟩
 exact h.2 (m+1) (by omega) ⟨x,hx,hr'⟩
theorem FarS.near (h:FarS S to x n)(hx:x∈S c):∃ k,k<=n+1/\FarS S to c k:=Reach.far (n:=n+1) ⟨x,hx,h.1⟩
theorem far_next:FarS S to c (n+1) ↔ (∀ m,m<=n->¬ FarS S to c m)/\∃ x∈S c,FarS S to x n:=by
 refine ⟨fun h=>⟨fun m hm h2=>by have:=h.only h2;omega,h.step⟩,fun ⟨h1,x,hx,h2⟩=>?_⟩
 obtain ⟨k,hk,h3⟩:=h2.near hx
 have:k=n+1:=by
  rcases Nat.lt_or_ge k (n+1) with h|h
  · exact absurd h3 (h1 k (by omega))
  · omega
 subst this
 exact h3
theorem far_end (h:∀ c,¬ FarS S to c n):∀ m,n<=m->∀ c,¬ FarS S to c m:=by
 intro m
 induction m with
 | zero =>
   intro hm c
   obtain rfl:n=0:=by omega
   exact h c
 | succ m ih =>
   intro hm c hc
   rcases Nat.lt_or_ge m n with h2|h2
   · obtain rfl:n=m+1:=by omega
     exact h c hc
   · obtain ⟨x,_,hx⟩:=hc.step
     exact ih h2 x hx
end
def IsField (S:Nat->List Nat)(to N:Nat)(l:List Int):Prop:=l.length=N/\∀ c,c<N->(∃ n:Nat,l.getD c 0=n/\FarS S to c n)\/(l.getD c 0=-1/\NoWay S to c)
theorem IsField.only {S:Nat->List Nat}{to N:Nat}{l l':List Int}(h:IsField S to N l)(h':IsField S to N l'):l=l':=by
 apply List.ext_getElem (by rw [h.1,h'.1])
 intro i h1 h2
 have hi:i<N:=by rw [<- h.1];exact h1
 have e1:l.getD i 0=l[i]:=by simp [List.getD,h1]
 have e2:l'.getD i 0=l'[i]:=by simp [List.getD,h2]
 rw [<- e1,<- e2]
 rcases h.2 i hi with ⟨n,g1,g2⟩|⟨g1,g2⟩ <;> rcases h'.2 i hi with ⟨m,k1,k2⟩|⟨k1,k2⟩
 · rw [g1,k1,g2.only k2]
 · exact absurd k2 (fun hn=>g2.not hn)
 · exact absurd g2 (fun hn=>k2.not hn)
 · rw [g1,k1]
def UpTo (S:Nat->List Nat)(to N n:Nat)(l:List Int):Prop:=l.length=N/\∀ c,c<N->(∃ d:Nat,d<=n/\l.getD c 0=d/\FarS S to c d)\/(l.getD c 0=-1/\∀ d,d<=n->¬ FarS S to c d)
theorem UpTo.done {S:Nat->List Nat}{to N n:Nat}{l:List Int}(h:UpTo S to N n l)(hno:∀ c,c<N->¬ FarS S to c (n+1))(hS:∀ c,N<=c->¬ FarS S to c (n+1)):IsField S to N l:=by
 refine ⟨h.1,fun c hc=>?_⟩
 rcases h.2 c hc with ⟨d,_,h1,h2⟩|⟨h1,h2⟩
 · exact .inl ⟨d,h1,h2⟩
 · refine .inr ⟨h1,fun k hk=>?_⟩
   obtain ⟨j,_,hj⟩:=hk.far
   have hall:∀ c,¬ FarS S to c (n+1):=fun c=>by
    rcases Nat.lt_or_ge c N with h|h
    · exact hno c h
    · exact hS c h
   rcases Nat.lt_or_ge n j with h3|h3
   · exact far_end hall j (by omega) c hj
   · exact h2 j h3 hj
def untold (l:List Int):Nat:=l.countP fun x=>x==-1
theorem untold_set:∀ (l:List Int) (c:Nat) (v:Int),c<l.length->l.getD c 0=-1->v≠-1->untold (l.set c v)+1=untold l:=by
 intro l
 induction l with
 | nil=>intro c v h;simp at h
 | cons a l ih =>
   intro c v h h1 h2
   cases c with
   | zero =>
     simp at h1
     subst h1
     simp [untold,h2]
   | succ c =>
     simp only [List.set_cons_succ,untold,List.countP_cons]
     have:=ih c v (by simpa using h) (by simpa using h1) h2
     simp only [untold] at this
     omega
def Mid (S:Nat->List Nat)(to N n c:Nat)(l:List Int):Prop:=l.length=N/\∀ d,d<N ->
 (∃ e:Nat,e<=(if d<c then n+1 else n)/\l.getD d 0=e/\FarS S to d e)\/(l.getD d 0=-1/\∀ e,e<=(if d<c then n+1 else n)->¬ FarS S to d e)
section
variable {S:Nat->List Nat} {to N n c x:Nat} {l:List Int}
theorem Mid.start (h:UpTo S to N n l):Mid S to N n 0 l:=⟨h.1,fun d hd=>by rw [if_neg (by omega)];exact h.2 d hd⟩
theorem Mid.done (h:Mid S to N n N l):UpTo S to N (n+1) l:=⟨h.1,fun d hd=>by have:=h.2 d hd;rwa [if_pos hd] at this⟩
theorem Mid.is (h:Mid S to N n c l)(hx:x<N):l.getD x 0=(n:Int) ↔ FarS S to x n:=by
 rcases h.2 x hx with ⟨e,h1,h2,h3⟩|⟨h1,h2⟩
 · rw [h2]
   refine ⟨fun h=>?_,fun h=>by rw [h3.only h]⟩
   obtain rfl:e=n:=by omega
   exact h3
 · rw [h1]
   refine ⟨fun h=>absurd h (by omega),fun h=>absurd h (h2 n (by split <;> omega))⟩
theorem Mid.told (h:Mid S to N n c l)(hc:c<N)(hl:l.getD c 0≠-1):Mid S to N n (c+1) l:=by
 refine ⟨h.1,fun d hd=>?_⟩
 by_cases hdc:d=c
 · subst hdc
   rw [if_pos (by omega)]
   rcases h.2 d hd with ⟨e,h1,h2,h3⟩|⟨h1,_⟩
   · rw [if_neg (by omega)] at h1
     exact .inl ⟨e,by omega,h2,h3⟩
   · exact absurd h1 hl
 · have:=h.2 d hd
   by_cases h1:d<c
   · rw [if_pos h1] at this;rw [if_pos (by omega)];exact this
   · rw [if_neg h1] at this;rw [if_neg (by omega)];exact this
theorem Mid.none (h:Mid S to N n c l)(hc:c<N)(hl:l.getD c 0=-1)(hS:∀ x∈S c,x<N)(hno:∀ x∈S c,l.getD x 0≠(n:Int)):Mid S to N n (c+1) l/\¬ FarS S to c (n+1):=by
 have hnf:¬ FarS S to c (n+1):=fun hf=>by
  obtain ⟨x,hx,hxf⟩:=hf.step
  exact hno x hx ((h.is (hS x hx)).2 hxf)
 refine ⟨⟨h.1,fun d hd=>?_⟩,hnf⟩
 by_cases hdc:d=c
 · subst hdc
   rw [if_pos (by omega)]
   refine .inr ⟨hl,fun e he=>?_⟩
   rcases h.2 d hd with ⟨e',_,h2,_⟩|⟨_,h2⟩
   · rw [hl] at h2;omega
   · rw [if_neg (by omega)] at h2
     by_cases h3:e=n+1
     · subst h3;exact hnf
     · exact h2 e (by omega)
 · have:=h.2 d hd
   by_cases h1:d<c
   · rw [if_pos h1] at this;rw [if_pos (by omega)];exact this
   · rw [if_neg h1] at this;rw [if_neg (by omega)];exact this
theorem Mid.some (h:Mid S to N n c l)(hc:c<N)(hl:l.getD c 0=-1)(hx:x∈S c)(hxN:x<N)(hn:l.getD x 0=(n:Int)):Mid S to N n (c+1) (l.set c ((n+1:Nat):Int))/\FarS S to c (n+1):=by
 have hf:FarS S to c (n+1):=by
  refine far_next.2 ⟨fun m hm=>?_,x,hx,(h.is hxN).1 hn⟩
  rcases h.2 c hc with ⟨e,_,h2,_⟩|⟨_,h2⟩
  · rw [hl] at h2;omega
  · exact h2 m (by rw [if_neg (by omega)];exact hm)
 refine ⟨⟨by rw [List.length_set];exact h.1,fun d hd=>?_⟩,hf⟩
 by_cases hdc:d=c
 · subst hdc
   rw [if_pos (by omega)]
   refine .inl ⟨n+1,Nat.le_refl _,?_,hf⟩
   simp [List.getD,h.1,hd]
 · have e:(l.set c ((n+1:Nat):Int)).getD d 0=l.getD d 0:=by simp [List.getD,Ne.symm hdc]
   rw [e]
   have:=h.2 d hd
   by_cases h1:d<c
   · rw [if_pos h1] at this;rw [if_pos (by omega)];exact this
   · rw [if_neg h1] at this;rw [if_neg (by omega)];exact this
theorem UpTo.first (hto:to<N):UpTo S to N 0 ((List.replicate N (-1:Int)).set to 0):=by
 refine ⟨by simp,fun c hc=>?_⟩
 by_cases h:c=to
 · subst h
   exact .inl ⟨0,Nat.le_refl _,by simp [List.getD,hc],far_zero.2 rfl⟩
 · refine .inr ⟨by simp [List.getD,Ne.symm h,hc],fun d hd hf=>?_⟩
   obtain rfl:d=0:=by omega
   exact h (far_zero.1 hf)
theorem field_shut (hto:to<N)(hno:∀ c,to ∉ S c):IsField S to N ((List.replicate N (-1:Int)).set to 0):=by
 have h1:∀ c,¬ FarS S to c 1:=fun c hf=>by
  obtain ⟨x,hx,hxf⟩:=hf.step
  have:x=to:=far_zero.1 hxf
  subst this
  exact hno c hx
 exact (UpTo.first hto).done (fun c _=>h1 c) (fun c _=>h1 c)
end
end Go.Proofs.YtknnnbpgkfaapaaGreat.Vm
namespace Go.Proofs.YtknnnbpgkfaapaaGreat.Vm
open Classical in
noncomputable def farI (S:Nat->List Nat)(to c:Nat):Int:=if h:∃ n,FarS S to c n then (h.choose:Int) else -1
section
variable {S S':Nat->List Nat} {to c x n m N:Nat} {l:List Int}
theorem farI_far (h:FarS S to c n):farI S to c=n:=by
 unfold farI
 rw [dif_pos ⟨n,h⟩]
 have hs:=Exists.choose_spec (p:=fun n=>FarS S to c n) ⟨n,h⟩
 rw [hs.only h]
theorem farI_no (h:NoWay S to c):farI S to c=-1:=by
 unfold farI
 rw [dif_neg (fun ⟨n,hn⟩=>hn.not h)]
theorem farI_case (S:Nat->List Nat)(to c:Nat):(∃ n:Nat,farI S to c=n/\FarS S to c n)\/(farI S to c=-1/\NoWay S to c):=by
 rcases far_or S to c with ⟨n,h⟩|h
 · exact .inl ⟨n,farI_far h,h⟩
 · exact .inr ⟨farI_no h,h⟩
theorem farI_ge (S:Nat->List Nat)(to c:Nat):-1<=farI S to c:=by
 rcases farI_case S to c with ⟨n,h,_⟩|⟨h,_⟩ <;> omega
theorem IsField.at (h:IsField S to N l)(hc:c<N):l.getD c 0=farI S to c:=by
 rcases h.2 c hc with ⟨n,h1,h2⟩|⟨h1,h2⟩
 · rw [h1,farI_far h2]
 · rw [h1,farI_no h2]
end
def zav (W H:Int)(l:List Nat)(bl:List Int)(c:Nat):List Nat :=
 [1,2,3,4].filterMap fun way:Nat=>if (zak W H l c way).2=true/\(zak W H l c way).1 ∉ bl then some (zak W H l c way).1.toNat else none
section
variable {W H:Int} {l:List Nat} {bl bl':List Int} {c x:Nat}
theorem goesS_nat {cell way to:Int}(h:zak W H l cell way=(to,true)):0<=to/\to<(l.length:Int):=by
 have:=(goesS_step h).1
 unfold zac at this
 rw [Bool.and_eq_true,decide_eq_true_eq] at this
 exact this.1
theorem steps_mem:x∈zav W H l bl c ↔ ∃ way:Nat,(1<=way/\way<=4)/\zak W H l c way=((x:Int),true)/\(x:Int) ∉ bl:=by
 unfold zav
 rw [List.mem_filterMap]
 refine ⟨fun ⟨way,hw,h⟩=>?_,fun ⟨way,hw,h1,h2⟩=>?_⟩
 · have hw4:1<=way/\way<=4:=by simp at hw;omega
   by_cases hc:(zak W H l c way).2=true/\(zak W H l c way).1 ∉ bl
   · rw [if_pos hc] at h
     have hx:(zak W H l c way).1.toNat=x:=Option.some.inj h
     have hg:zak W H l c way=((zak W H l c way).1,true):=Prod.ext rfl hc.1
     have h0:=(goesS_nat hg).1
     have hx2:(zak W H l c way).1=(x:Int):=by omega
     exact ⟨way,hw4,by rw [hg,hx2],by rw [<- hx2];exact hc.2⟩
   · rw [if_neg hc] at h;cases h
 · refine ⟨way,by simp;omega,?_⟩
   rw [h1,if_pos ⟨rfl,h2⟩]
   simp
theorem steps_in (h:x∈zav W H l bl c):x<l.length:=by
 obtain ⟨way,_,h1,_⟩:=steps_mem.1 h
 have:=goesS_nat h1
 omega
theorem steps_shut (h:(x:Int)∈bl)(c:Nat):x ∉ zav W H l bl c:=fun hx=>by
 obtain ⟨_,_,_,h3⟩:=steps_mem.1 hx
 exact h3 h
end
noncomputable def farG (W H:Int)(l:List Nat)(bl:List Int)(a b:Int):Int:=if zac l a=true/\zac l b=true then farI (zav W H l bl) b.toNat a.toNat else -1
theorem farG_ge (W H:Int)(l:List Nat)(bl:List Int)(a b:Int):-1<=farG W H l bl a b:=by
 unfold farG
 split
 · exact farI_ge _ _ _
 · omega
def nearStep (d:Int->Int)(R:Int × Int)(x:Int):Int × Int:=if 0<=d x/\(R.2<0\/d x<R.2\/(d x=R.2/\x<R.1)) then (x,d x) else R
def nearS (d:Int->Int)(of:List Int):Int × Int:=of.foldl (nearStep d) (-1,-1)
theorem nearS_snoc (d:Int->Int)(l:List Int)(x:Int):nearS d (l++[x])=nearStep d (nearS d l) x:=by
 unfold nearS
 rw [List.foldl_append]
 rfl
end Go.Proofs.YtknnnbpgkfaapaaGreat.Vm
namespace Go.Proofs.YtknnnbpgkfaapaaGreat.Vm
structure Graph (S:Nat->List Nat)(st:Nat->Nat->Int × Bool)(N:Nat):Prop where
 edge:∀ b c:Nat,b<N->(b∈S c ↔ ∃ way:Nat,1<=way/\way<=4/\st b way=((c:Int),true))
 into:∀ b c:Nat,b∈S c->c<N/\b<N
 to:∀ (b way:Nat) (o:Int),b<N->st b way=(o,true)->0<=o/\o<(N:Int)
def Good (S:Nat->List Nat)(s N:Nat)(p:List (Nat × Nat))(x:Nat × Nat):Prop :=
 x.1<N/\x.2<N/\FarS S s x.1 x.2/\∀ c e,FarS S s c e->e<x.2->(c,e)∈p
def Begun (S:Nat->List Nat)(s N:Nat)(l:List (Nat × Nat)):Prop:=∀ p x q,l=p++x :: q->Good S s N p x
def AllCome (S:Nat->List Nat)(s N:Nat)(l:List (Nat × Nat)):Prop:=Begun S s N l/\∀ c e,FarS S s c e->(c,e)∈l
theorem Begun.nil {S:Nat->List Nat}{s N:Nat}:Begun S s N []:=fun p x q h=>by simp at h
theorem Begun.snoc {S:Nat->List Nat}{s N:Nat}{l:List (Nat × Nat)}{x:Nat × Nat}(h:Begun S s N l)(hx:Good S s N l x):Begun S s N (l++[x]):=by
 intro p y q he
 rcases List.eq_nil_or_concat q with rfl|⟨q',z,rfl⟩
 · obtain ⟨rfl,h2⟩:=List.append_inj' he rfl
   have h3:x=y:=by simpa using h2
   subst h3
   exact hx
 · have he':l++[x]=(p++y :: q')++[z]:=by rw [he];simp
   obtain ⟨h1,_⟩:=List.append_inj' he' rfl
   exact h p y q' h1
theorem Begun.last {S:Nat->List Nat}{s N:Nat}{l:List (Nat × Nat)}{x:Nat × Nat}(h:Begun S s N (l++[x])):Good S s N l x:=h l x [] rfl
theorem Begun.at {S:Nat->List Nat}{s N c e:Nat}{l:List (Nat × Nat)}(h:Begun S s N l)(hx:(c,e)∈l):c<N/\e<N/\FarS S s c e:=by
 obtain ⟨p,q,rfl⟩:=List.append_of_mem hx
 have:=h p (c,e) q rfl
 exact ⟨this.1,this.2.1,this.2.2.1⟩
def seenN (l:List Bool):Nat:=l.countP id
theorem seenN_set:∀ (l:List Bool) (c:Nat),c<l.length->l.getD c false=false->seenN (l.set c true)=seenN l+1:=by
 intro l
 induction l with
 | nil=>intro c h;simp at h
 | cons a l ih =>
   intro c h h1
   cases c with
   | zero =>
     simp at h1
     subst h1
     simp [seenN]
   | succ c =>
     simp only [List.set_cons_succ,seenN,List.countP_cons]
     have:=ih c (by simpa using h) (by simpa using h1)
     simp only [seenN] at this
     omega
theorem seenN_le (l:List Bool):seenN l<=l.length:=List.countP_le_length
theorem seenN_none (N:Nat):seenN (List.replicate N false)=0:=by
 rw [seenN,List.countP_eq_zero]
 intro x hx
 rw [(List.mem_replicate.1 hx).2]
 simp
theorem getD_set_ne {l:List Bool}{c o:Nat}(h:c≠o):(l.set o true).getD c false=l.getD c false:=by simp [List.getD,Ne.symm h]
theorem getD_set_eq {l:List Bool}{o:Nat}(h:o<l.length):(l.set o true).getD o false=true:=by simp [List.getD,h]
structure Bfs (S:Nat->List Nat)(s N d i:Nat)(pre:List (Nat × Nat))(rest next:List Nat)(seen:List Bool)(X:Nat->Nat->Prop):Prop where
 len:seen.length=N
 cnt:pre.length+rest.length+next.length=seenN seen
 mem:∀ c,seen.getD c false=true ↔ (∃ e,(c,e)∈pre)\/c∈rest\/c∈next
 beg:Begun S s N pre
 lvl:∀ c e,(c,e)∈pre->e<=d/\(i=0->e<d)
 rst:∀ c,c∈rest->c<N/\FarS S s c d
 nxt:∀ c,c∈next->c<N/\FarS S s c (d+1)
 all:∀ c e,FarS S s c e->e<=d->(c,e)∈pre\/(e=d/\c∈rest)
 dle:d+i<=pre.length
 come:∀ b c,(b,d)∈pre->b∈S c->seen.getD c false=true\/X b c
def Left (st:Nat->Nat->Int × Bool)(b k:Nat)(b' c:Nat):Prop:=b'=b/\∃ way:Nat,k<=way/\way<=4/\st b way=((c:Int),true)
def NoneLeft (_ _:Nat):Prop:=False
section
variable {S:Nat->List Nat} {st:Nat->Nat->Int × Bool} {s N d i b k:Nat} {pre:List (Nat × Nat)} {rest next:List Nat} {seen:List Bool} {X:Nat->Nat->Prop}
theorem Bfs.start (hs:s<N):Bfs S s N 0 0 [] [s] [] ((List.replicate N false).set s true) NoneLeft where
 len:=by simp
 cnt:=by rw [seenN_set _ _ (by simpa using hs) (by simp [List.getD,hs]),seenN_none];simp
 mem:=fun c=>by
  by_cases h:c=s
  · subst h
    rw [getD_set_eq (by simpa using hs)]
    simp
  · rw [getD_set_ne h]
    simp [List.getD,h,List.getElem?_replicate]
    split <;> rfl
 beg:=.nil
 lvl:=fun c e h=>by simp at h
 rst:=fun c h=>by
  obtain rfl:c=s:=by simpa using h
  exact ⟨hs,far_zero.2 rfl⟩
 nxt:=fun c h=>by simp at h
 all:=fun c e h he=>by
  obtain rfl:e=0:=by omega
  exact .inr ⟨rfl,by rw [far_zero.1 h];simp⟩
 dle:=by simp
 come:=fun b c h=>by simp at h
theorem Bfs.few (h:Bfs S s N d i pre rest next seen X):pre.length+rest.length+next.length<=N:=by
 rw [h.cnt,<- h.len];exact seenN_le _
theorem Bfs.good (h:Bfs S s N d i pre (b :: rest) next seen X):Good S s N pre (b,d):=by
 obtain ⟨h1,h2⟩:=h.rst b (by simp)
 have hf:=h.few
 have hd:=h.dle
 refine ⟨h1,?_,h2,fun c e hc he=>?_⟩
 · simp at hf;show d<N;omega
 · rcases h.all c e hc (by simp at he;omega) with h3|⟨h3,_⟩
   · exact h3
   · simp at he;omega
theorem Bfs.pop (G:Graph S st N)(h:Bfs S s N d i pre (b :: rest) next seen NoneLeft):Bfs S s N d (i+1) (pre++[(b,d)]) rest next seen (Left st b 1) where
 len:=h.len
 cnt:=by have:=h.cnt;simp at this ⊢;omega
 mem:=fun c=>by
  rw [h.mem c]
  simp only [List.mem_append,List.mem_cons,List.mem_nil_iff,or_false,Prod.mk.injEq]
  constructor
  · rintro (⟨e,h1⟩|(rfl|h1)|h1)
    · exact .inl ⟨e,.inl h1⟩
    · exact .inl ⟨d,.inr ⟨rfl,rfl⟩⟩
    · exact .inr (.inl h1)
    · exact .inr (.inr h1)
  · rintro (⟨e,h1|⟨h1,_⟩⟩|h1|h1)
    · exact .inl ⟨e,h1⟩
    · exact .inr (.inl (.inl h1))
    · exact .inr (.inl (.inr h1))
    · exact .inr (.inr h1)
 beg:=h.beg.snoc h.good
 lvl:=fun c e he=>by
  rcases List.mem_append.1 he with h1|h1
  · exact ⟨(h.lvl c e h1).1,by omega⟩
  · simp at h1;exact ⟨by omega,by omega⟩
 rst:=fun c hc=>h.rst c (by simp [hc])
 nxt:=h.nxt
 all:=fun c e hc he=>by
  rcases h.all c e hc he with h1|⟨rfl,h1⟩
  · exact .inl (List.mem_append.2 (.inl h1))
  · rcases List.mem_cons.1 h1 with rfl|h2
    · exact .inl (by simp)
    · exact .inr ⟨rfl,h2⟩
 dle:=by have:=h.dle;simp;omega
 come:=fun b' c hb hc=>by
  rcases List.mem_append.1 hb with h1|h1
  · rcases h.come b' c h1 hc with h2|h2
    · exact .inl h2
    · exact h2.elim
  · obtain rfl:b'=b:=by simpa using h1
    exact .inr ⟨rfl,by
     obtain ⟨w,h2,h3,h4⟩:=(G.edge b' c (G.into b' c hc).2).1 hc
     exact ⟨w,h2,h3,h4⟩⟩
theorem Bfs.no (h:Bfs S s N d i pre rest next seen (Left st b k))(hk:(st b k).2=false):Bfs S s N d i pre rest next seen (Left st b (k+1)) :=
 { h with come:=fun b' c hb hc=>(h.come b' c hb hc).imp id fun ⟨e,w,h1,h2,h3⟩=>⟨e,w,by
     by_cases hw:w=k
     · subst hw;rw [h3] at hk;cases hk
     · omega,h2,h3⟩ }
theorem Bfs.old {o:Nat}(h:Bfs S s N d i pre rest next seen (Left st b k))(hk:st b k=((o:Int),true))(ho:seen.getD o false=true):Bfs S s N d i pre rest next seen (Left st b (k+1)) :=
 ⟨h.len,h.cnt,h.mem,h.beg,h.lvl,h.rst,h.nxt,h.all,h.dle,fun b' c hb hc=>by
  rcases h.come b' c hb hc with h1|⟨e,w,h1,h2,h3⟩
  · exact .inl h1
  · by_cases hw:w=k
    · subst hw
      rw [hk] at h3
      have h4:(o:Int)=c:=congrArg Prod.fst h3
      obtain rfl:o=c:=by omega
      exact .inl ho
    · exact .inr ⟨e,w,by omega,h2,h3⟩⟩
theorem Bfs.new {o:Nat}(G:Graph S st N)(h:Bfs S s N d i pre rest next seen (Left st b k))(hb:b<N)(hbp:(b,d)∈pre)(hk1:1<=k)(hk4:k<=4)(hk:st b k=((o:Int),true))(ho:seen.getD o false=false) :
 Bfs S s N d i pre rest (next++[o]) (seen.set o true) (Left st b (k+1)):=by
 have hoN:o<N:=by have:=(G.to b k o hb hk).2;omega
 have hbo:b∈S o:=(G.edge b o hb).2 ⟨k,hk1,hk4,hk⟩
 have hfar:FarS S s o (d+1):=by
  refine far_next.2 ⟨fun m hm hf=>?_,b,hbo,(h.beg.at hbp).2.2⟩
  have:seen.getD o false=true:=(h.mem o).2 (by
   rcases h.all o m hf hm with h1|⟨_,h1⟩
   · exact .inl ⟨m,h1⟩
   · exact .inr (.inl h1))
  rw [ho] at this;cases this
 have hmono:∀ c,seen.getD c false=true->(seen.set o true).getD c false=true:=fun c hc=>by
  by_cases e:c=o
  · subst e;exact getD_set_eq (by rw [h.len];exact hoN)
  · rw [getD_set_ne e];exact hc
 refine ⟨by rw [List.length_set];exact h.len,?_,fun c=>?_,h.beg,h.lvl,h.rst,fun c hc=>?_,h.all,h.dle,fun b' c hb' hc=>?_⟩
 · rw [seenN_set _ _ (by rw [h.len];exact hoN) ho,<- h.cnt];simp;omega
 · by_cases e:c=o
   · subst e
     rw [getD_set_eq (by rw [h.len];exact hoN)]
     simp
   · rw [getD_set_ne e,h.mem c]
     simp [e]
 · rcases List.mem_append.1 hc with h1|h1
   · exact h.nxt c h1
   · obtain rfl:c=o:=by simpa using h1
     exact ⟨hoN,hfar⟩
 · rcases h.come b' c hb' hc with h1|⟨e,w,h1,h2,h3⟩
   · exact .inl (hmono c h1)
   · by_cases hw:w=k
     · subst hw
       rw [hk] at h3
       have h4:(o:Int)=c:=congrArg Prod.fst h3
       obtain rfl:o=c:=by omega
       exact .inl (getD_set_eq (by rw [h.len];exact hoN))
     · exact .inr ⟨e,w,by omega,h2,h3⟩
theorem Bfs.looked (h:Bfs S s N d i pre rest next seen (Left st b 5)):Bfs S s N d i pre rest next seen NoneLeft :=
 { h with come:=fun b' c hb hc=>(h.come b' c hb hc).imp id fun ⟨_,w,h1,h2,_⟩=>by omega }
theorem Bfs.level (h:Bfs S s N d i pre [] next seen NoneLeft)(hi:0<i):Bfs S s N (d+1) 0 pre next [] seen NoneLeft where
 len:=h.len
 cnt:=by have:=h.cnt;simp at this ⊢;omega
 mem:=fun c=>by rw [h.mem c];simp
 beg:=h.beg
 lvl:=fun c e he=>by have:=(h.lvl c e he).1;omega
 rst:=h.nxt
 nxt:=fun c hc=>by simp at hc
 all:=fun c e hc he=>by
  by_cases h1:e<=d
  · rcases h.all c e hc h1 with h2|⟨_,h2⟩
    · exact .inl h2
    · simp at h2
  · obtain rfl:e=d+1:=by omega
    obtain ⟨x,hx,hf⟩:=hc.step
    have hp:(x,d)∈pre:=by
     rcases h.all x d hf (Nat.le_refl _) with h2|⟨_,h2⟩
     · exact h2
     · simp at h2
    rcases h.come x c hp hx with h2|h2
    · rcases (h.mem c).1 h2 with ⟨e,h3⟩|h3|h3
      · have h4:=(h.beg.at h3).2.2.only hc
        have h5:=(h.lvl c e h3).1
        omega
      · simp at h3
      · exact .inr ⟨rfl,h3⟩
    · exact h2.elim
 dle:=by have:=h.dle;omega
 come:=fun b c hb=>by have:=(h.lvl b (d+1) hb).1;omega
theorem Bfs.ended (h:Bfs S s N d 0 pre [] [] seen NoneLeft):AllCome S s N pre:=by
 refine ⟨h.beg,fun c e hc=>?_⟩
 have hno:∀ c,¬ FarS S s c d:=fun c hf=>by
  rcases h.all c d hf (Nat.le_refl _) with h2|⟨_,h2⟩
  · have:=(h.lvl c d h2).2 rfl
    omega
  · simp at h2
 rcases Nat.lt_or_ge e d with h1|h1
 · rcases h.all c e hc (by omega) with h2|⟨h2,_⟩
   · exact h2
   · omega
 · exact absurd hc (far_end hno e h1 c)
end
end Go.Proofs.YtknnnbpgkfaapaaGreat.Vm
namespace Go.Proofs.YtknnnbpgkfaapaaGreat.Vm
def MayP (bl:List Int)(oth:List (List Int))(place:Nat)(f t:Int):Prop :=
 (t∈bl->f=t)/\∀ q∈oth,place+1<q.length->q.getD (place+1) 0≠t/\¬ (q.getD (place+1) 0=f/\q.getD place 0=t)
instance mayDec (bl:List Int) (oth:List (List Int)) (place:Nat) (f t:Int):Decidable (MayP bl oth place f t):=by unfold MayP;infer_instance
def costP (far:List Int)(t:Int):Int:=if far.getD t.toNat 0<0 then 1000000 else far.getD t.toNat 0
def betterP (cur cand:Option (List Int × Int)):Option (List Int × Int) :=
 match cand with
 | none=>cur
 | some y=>match cur with
   | none=>some y
   | some x=>if y.2<x.2 then some y else some x
def bestP (f:Nat->Option (List Int × Int)):Nat->Option (List Int × Int)
 | 0=>none
 | m+1=>betterP (bestP f m) (f m)
def pathS (W H:Int)(cells:List Nat)(far bl:List Int)(oth:List (List Int)):Nat->Int->Option (List Int × Int)
 | 0,_=>some ([],0)
 | k+1,c=>bestP (fun way=>if (zak W H cells c (way:Nat)).2=true/\MayP bl oth (5-k) c (zak W H cells c (way:Nat)).1 then
     (pathS W H cells far bl oth k (zak W H cells c (way:Nat)).1).map fun x=>((zak W H cells c (way:Nat)).1 :: x.1,x.2+costP far (zak W H cells c (way:Nat)).1) else none) 5
def zce (W H:Int)(cells:List Nat)(far bl:List Int)(oth:List (List Int))(k:Nat)(c:Int)(way:Nat):Option (List Int × Int) :=
 if (zak W H cells c (way:Nat)).2=true/\MayP bl oth (5-k) c (zak W H cells c (way:Nat)).1 then
     (pathS W H cells far bl oth k (zak W H cells c (way:Nat)).1).map fun x=>((zak W H cells c (way:Nat)).1 :: x.1,x.2+costP far (zak W H cells c (way:Nat)).1) else none
theorem pathS_succ (W H:Int)(cells:List Nat)(far bl:List Int)(oth:List (List Int))(k:Nat)(c:Int) :
 pathS W H cells far bl oth (k+1) c=bestP (zce W H cells far bl oth k c) 5:=rfl
theorem bestP_none {f:Nat->Option (List Int × Int)}:∀ {m:Nat},bestP f m=none->∀ i,i<m->f i=none
 | 0,_=>fun i hi=>by omega
 | m+1,h=>by
   rw [bestP] at h
   cases hf:f m with
   | some y =>
     rw [hf] at h
     cases hb:bestP f m with
     | none =>
       rw [hb] at h
       have h:some y=none:=h
       cases h
     | some x =>
       rw [hb] at h
       have h:(if y.2<x.2 then some y else some x)=none:=h
       split at h <;> cases h
   | none =>
     rw [hf] at h
     have h':bestP f m=none:=h
     intro i hi
     by_cases e:i=m
     · subst e;exact hf
     · exact bestP_none h' i (by omega)
theorem bestP_some {f:Nat->Option (List Int × Int)}:∀ {m:Nat} {y:List Int × Int},bestP f m=some y->(∃ i,i<m/\f i=some y)/\∀ i,i<m->∀ z,f i=some z->y.2<=z.2
 | 0,_,h=>by cases h
 | m+1,y,h=>by
   rw [bestP] at h
   cases hf:f m with
   | none =>
     rw [hf] at h
     have h':bestP f m=some y:=h
     obtain ⟨⟨i,hi,e⟩,h2⟩:=bestP_some h'
     refine ⟨⟨i,by omega,e⟩,fun j hj z hz=>?_⟩
     by_cases ej:j=m
     · subst ej;rw [hf] at hz;cases hz
     · exact h2 j (by omega) z hz
   | some z =>
     rw [hf] at h
     cases hb:bestP f m with
     | none =>
       rw [hb] at h
       have h':some z=some y:=h
       injection h' with h'
       subst h'
       refine ⟨⟨m,by omega,hf⟩,fun j hj z' hz=>?_⟩
       by_cases ej:j=m
       · subst ej;rw [hf] at hz;injection hz with hz;subst hz;exact Int.le_refl _
       · rw [bestP_none hb j (by omega)] at hz;cases hz
     | some x =>
       rw [hb] at h
       have h':(if z.2<x.2 then some z else some x)=some y:=h
       obtain ⟨⟨i,hi,e⟩,h2⟩:=bestP_some hb
       by_cases hc:z.2<x.2
       · rw [if_pos hc] at h'
         injection h' with h'
         subst h'
         refine ⟨⟨m,by omega,hf⟩,fun j hj z' hz=>?_⟩
         by_cases ej:j=m
         · subst ej;rw [hf] at hz;injection hz with hz;subst hz;exact Int.le_refl _
         · have:=h2 j (by omega) z' hz;omega
       · rw [if_neg hc] at h'
         injection h' with h'
         subst h'
         refine ⟨⟨i,by omega,e⟩,fun j hj z' hz=>?_⟩
         by_cases ej:j=m
         · subst ej;rw [hf] at hz;injection hz with hz;subst hz;omega
         · exact h2 j (by omega) z' hz
theorem candP_some {W H:Int}{cells:List Nat}{far bl:List Int}{oth:List (List Int)}{k way:Nat}{c:Int}{y:List Int × Int}(h:zce W H cells far bl oth k c way=some y) :
 ∃ t x,zak W H cells c (way:Nat)=(t,true)/\MayP bl oth (5-k) c t/\pathS W H cells far bl oth k t=some x/\y=(t :: x.1,x.2+costP far t):=by
 unfold zce at h
 by_cases hc:(zak W H cells c (way:Nat)).2=true/\MayP bl oth (5-k) c (zak W H cells c (way:Nat)).1
 · rw [if_pos hc] at h
   obtain ⟨x,hx,rfl⟩:=Option.map_eq_some_iff.1 h
   exact ⟨_,x,Prod.ext rfl hc.1,hc.2,hx,rfl⟩
 · rw [if_neg hc] at h;cases h
def StepsP (W H:Int)(cells:List Nat)(bl:List Int)(oth:List (List Int)):Nat->Int->List Int->Prop
 | 0,_,l=>l=[]
 | k+1,c,l=>∃ t r,l=t :: r/\(∃ way:Nat,way<=4/\zak W H cells c (way:Nat)=(t,true))/\MayP bl oth (5-k) c t/\StepsP W H cells bl oth k t r
theorem pathS_steps {W H:Int}{cells:List Nat}{far bl:List Int}{oth:List (List Int)}:∀ {k:Nat} {c:Int} {x:List Int × Int},pathS W H cells far bl oth k c=some x->StepsP W H cells bl oth k c x.1
 | 0,_,x,h=>by
   have h:some ([],0)=some x:=h
   injection h with h
   subst h
   rfl
 | k+1,c,y,h=>by
   rw [pathS_succ] at h
   obtain ⟨⟨way,hw,hc⟩,_⟩:=bestP_some h
   obtain ⟨t,x,h1,h2,h3,rfl⟩:=candP_some hc
   exact ⟨t,x.1,rfl,⟨way,by omega,h1⟩,h2,pathS_steps h3⟩
theorem StepsP.len {W H:Int}{cells:List Nat}{bl:List Int}{oth:List (List Int)}:∀ {k:Nat} {c:Int} {l:List Int},StepsP W H cells bl oth k c l->l.length=k
 | 0,_,l,h=>by
   have h:l=[]:=h
   subst h;rfl
 | k+1,c,l,⟨t,r,e,_,_,hr⟩=>by subst e;simp [hr.len]
theorem StepsP.at {W H:Int}{cells:List Nat}{bl:List Int}{oth:List (List Int)}:∀ {k:Nat} {c:Int} {l:List Int},StepsP W H cells bl oth k c l->∀ j,j<k->k<=6 ->
 (∃ way:Nat,way<=4/\zak W H cells ((c :: l).getD j 0) (way:Nat)=(l.getD j 0,true))/\MayP bl oth (6-k+j) ((c :: l).getD j 0) (l.getD j 0)
 | 0,_,_,_=>fun j hj=>by omega
 | k+1,c,l,⟨t,r,e,h1,h2,hr⟩=>by
   subst e
   intro j hj hk
   cases j with
   | zero =>
     refine ⟨h1,?_⟩
     have e:6-(k+1)+0=5-k:=by omega
     rw [e]
     exact h2
   | succ j =>
     have:=hr.at j (by omega) (by omega)
     have e:6-(k+1)+(j+1)=6-k+j:=by omega
     rw [e]
     exact this
theorem pathS_cost {W H:Int}{cells:List Nat}{far bl:List Int}{oth:List (List Int)}(hf:∀ i,far.getD i 0<=1000000):∀ {k:Nat} {c:Int} {x:List Int × Int},pathS W H cells far bl oth k c=some x->0<=x.2/\x.2<=k*1000000
 | 0,_,x,h=>by
   have h:some ([],0)=some x:=h
   injection h with h
   subst h
   simp
 | k+1,c,y,h=>by
   rw [pathS_succ] at h
   obtain ⟨⟨way,hw,hc⟩,_⟩:=bestP_some h
   obtain ⟨t,x,h1,h2,h3,rfl⟩:=candP_some hc
   have:=pathS_cost hf h3
   have h4:0<=costP far t/\costP far t<=1000000:=by
    unfold costP
    have:=hf t.toNat
    split <;> omega
   simp only []
   omega
end Go.Proofs.YtknnnbpgkfaapaaGreat.Vm
namespace Go.Proofs.YtknnnbpgkfaapaaGreat.Vm
def inG (cells:List Int):Nat->Int->Option Int
 | 0,_=>none
 | k+1,y=>if y=cells.getD k 0 then some (k:Int) else inG cells k y
def zbg (cells wants:List Int):Nat->Int->Option Int
 | 0,_=>none
 | k+1,y=>if y=wants.getD k 0/\zbg cells wants k y=none/\wants.getD k 0≠cells.getD k 0 then some (k:Int) else zbg cells wants k y
theorem inG_some {cells:List Int}{y x:Int}:∀ {k:Nat},inG cells k y=some x->∃ j:Nat,x=j/\j<k/\cells.getD j 0=y
 | 0,h=>by cases h
 | k+1,h=>by
   rw [inG] at h
   split at h
   · rename_i e;injection h with h;exact ⟨k,h.symm,by omega,e.symm⟩
   · obtain ⟨j,h1,h2,h3⟩:=inG_some h;exact ⟨j,h1,by omega,h3⟩
theorem inG_no {cells:List Int}{y:Int}{k:Nat}(h:inG cells k y=none):∀ j,j<k->cells.getD j 0≠y:=by
 induction k with
 | zero=>intro j hj;omega
 | succ k ih =>
   rw [inG] at h
   split at h
   · cases h
   · rename_i e
     intro j hj
     by_cases ej:j=k
     · subst ej;exact fun e'=>e e'.symm
     · exact ih h j (by omega)
theorem takeG_at {l:List Int}{j k:Nat}(hj:j<k)(hl:j<l.length):l.getD j 0∈l.take k:=by
 rw [List.mem_take_iff_getElem]
 exact ⟨j,by omega,by simp [List.getD,hl]⟩
theorem takeG_inv {l:List Int}{k:Nat}{y:Int}(h:y∈l.take k):∃ j,j<k/\j<l.length/\l.getD j 0=y:=by
 rw [List.mem_take_iff_getElem] at h
 obtain ⟨j,hj,e⟩:=h
 exact ⟨j,by omega,by omega,by simp [List.getD,show j<l.length by omega,e]⟩
theorem apart_of {cells:List Int}(h:¬ TwiceP cells){i k:Nat}(hi:i<cells.length)(hk:k<cells.length)(hik:i≠k):cells.getD i 0≠cells.getD k 0:=by
 intro e
 rcases Nat.lt_or_ge i k with h1|h1
 · exact h ⟨k,hk,by rw [<- e];exact takeG_at h1 hi⟩
 · exact h ⟨i,hi,by rw [e];exact takeG_at (by omega) hk⟩
theorem inG_at {cells:List Int}(h:¬ TwiceP cells){n j:Nat}(hn:n<=cells.length)(hj:j<n):inG cells n (cells.getD j 0)=some (j:Int):=by
 cases e:inG cells n (cells.getD j 0) with
 | none=>exact absurd rfl (inG_no e j hj)
 | some x =>
   obtain ⟨i,rfl,hi,hc⟩:=inG_some e
   by_cases hij:i=j
   · subst hij;rfl
   · exact absurd hc (apart_of h (by omega) (by omega) hij)
theorem firstG_some {cells wants:List Int}{y x:Int}:∀ {k:Nat},zbg cells wants k y=some x->∃ j:Nat,x=j/\j<k/\wants.getD j 0=y/\wants.getD j 0≠cells.getD j 0/\∀ i,i<j->¬ (wants.getD i 0=y/\wants.getD i 0≠cells.getD i 0)
 | 0,h=>by cases h
 | k+1,h=>by
   rw [zbg] at h
   split at h
   · rename_i e
     injection h with h
     refine ⟨k,h.symm,by omega,e.1.symm,e.2.2,?_⟩
     have hn:∀ m,zbg cells wants m y=none->∀ i,i<m->¬ (wants.getD i 0=y/\wants.getD i 0≠cells.getD i 0):=by
      intro m
      induction m with
      | zero=>intro _ i hi;omega
      | succ m ih =>
        intro hm i hi
        rw [zbg] at hm
        split at hm
        · cases hm
        · rename_i e2
          by_cases ei:i=m
          · subst ei;exact fun hc=>e2 ⟨hc.1.symm,hm,hc.2⟩
          · exact ih hm i (by omega)
     exact hn k e.2.1
   · obtain ⟨j,h1,h2,h3⟩:=firstG_some h;exact ⟨j,h1,by omega,h3⟩
theorem firstG_no {cells wants:List Int}{y:Int}:∀ {k:Nat},zbg cells wants k y=none->∀ i,i<k->¬ (wants.getD i 0=y/\wants.getD i 0≠cells.getD i 0)
 | 0,_=>fun i hi=>by omega
 | k+1,hm=>by
   intro i hi
   rw [zbg] at hm
   split at hm
   · cases hm
   · rename_i e2
     by_cases ei:i=k
     · subst ei;exact fun hc=>e2 ⟨hc.1.symm,hm,hc.2⟩
     · exact firstG_no hm i (by omega)
theorem firstG_is {cells wants:List Int}{n i:Nat}(hi:i<n)(h1:wants.getD i 0≠cells.getD i 0)(h2:∀ j,j<i->¬ (wants.getD j 0=wants.getD i 0/\wants.getD j 0≠cells.getD j 0)):zbg cells wants n (wants.getD i 0)=some (i:Int):=by
 cases e:zbg cells wants n (wants.getD i 0) with
 | none=>exact absurd ⟨rfl,h1⟩ (firstG_no e i hi)
 | some x =>
   obtain ⟨j,rfl,hj,h3,h4,h5⟩:=firstG_some e
   by_cases hij:j=i
   · subst hij;rfl
   · rcases Nat.lt_or_ge j i with hl|hl
     · exact absurd ⟨h3,h4⟩ (h2 j hl)
     · exact absurd ⟨rfl,h1⟩ (h5 i (by omega))
structure Late (cells wants now:List Int):Prop where
 len:now.length=cells.length
 own:∀ i,i<cells.length->now.getD i 0=cells.getD i 0\/now.getD i 0=wants.getD i 0
 late:now=wants\/∀ i,i<cells.length->now.getD i 0≠cells.getD i 0->zbg cells wants cells.length (now.getD i 0)=some (i:Int)
theorem Late.start {cells wants:List Int}(h:wants.length=cells.length):Late cells wants wants:=⟨h,fun _ _=>.inr rfl,.inl rfl⟩
def StopP (cells wants blocked now:List Int)(i:Nat):Prop :=
 now.getD i 0≠cells.getD i 0/\((now.getD i 0∈blocked\/(zbg cells wants cells.length (now.getD i 0)).getD 0≠(i:Int)) \/
  ∃ j:Nat,inG cells cells.length (now.getD i 0)=some (j:Int)/\(now.getD j 0=now.getD i 0\/now.getD j 0=cells.getD i 0))
theorem stop_iff {cells wants blocked now:List Int}(ht:¬ TwiceP cells)(h:Late cells wants now){i:Nat}(hi:i<cells.length):StopP cells wants blocked now i ↔ KeptP cells blocked now i:=by
 constructor
 · rintro ⟨h0,(hb|hf)|⟨j,hj,hc⟩⟩
   · exact ⟨h0,.inl hb⟩
   · rcases h.late with rfl|hl
     · cases e:zbg cells now cells.length (now.getD i 0) with
       | none=>exact absurd ⟨rfl,h0⟩ (firstG_no e i hi)
       | some x =>
         obtain ⟨j,rfl,hj,h3,h4,h5⟩:=firstG_some e
         rw [e] at hf
         have hne:j≠i:=fun e=>hf (by rw [e];rfl)
         have hlt:j<i:=by
          rcases Nat.lt_or_ge j i with hl|hl
          · exact hl
          · exact absurd ⟨rfl,h0⟩ (h5 i (by omega))
         exact ⟨h0,.inr ⟨j,hj,hne,.inr (.inl ⟨h4,h3,hlt⟩)⟩⟩
     · rw [hl i hi h0] at hf;exact absurd rfl hf
   · obtain ⟨j',e,hj,hcj⟩:=inG_some hj
     obtain rfl:j=j':=by omega
     have hne:j≠i:=fun e=>h0 (by rw [<- hcj,e])
     rcases hc with hc|hc
     · exact ⟨h0,.inr ⟨j,hj,hne,.inl ⟨hc.trans hcj.symm,hcj⟩⟩⟩
     · exact ⟨h0,.inr ⟨j,hj,hne,.inr (.inr ⟨hcj,hc⟩)⟩⟩
 · rintro ⟨h0,hb|⟨k,hk,hki,⟨h1,h2⟩|⟨h1,h2,h3⟩|⟨h1,h2⟩⟩⟩
   · exact ⟨h0,.inl (.inl hb)⟩
   · exact ⟨h0,.inr ⟨k,by rw [<- h2];exact inG_at ht (Nat.le_refl _) hk,.inl (h1.trans h2)⟩⟩
   · refine ⟨h0,.inl (.inr ?_)⟩
     rcases h.late with rfl|hl
     · cases e:zbg cells now cells.length (now.getD i 0) with
       | none=>exact absurd ⟨rfl,h0⟩ (firstG_no e i hi)
       | some x =>
         obtain ⟨j,rfl,hj,h5,h6,h7⟩:=firstG_some e
         have:j<=k:=by
          rcases Nat.lt_or_ge k j with hl|hl
          · exact absurd ⟨h2,h1⟩ (h7 k hl)
          · exact hl
         intro he
         have he:(j:Int)=i:=he
         omega
     · have e1:=hl k hk h1
       have e2:=hl i hi h0
       rw [h2] at e1
       rw [e1] at e2
       injection e2 with e2
       exact absurd (by omega) hki
   · exact ⟨h0,.inr ⟨k,by rw [<- h1];exact inG_at ht (Nat.le_refl _) hk,.inr h2⟩⟩
theorem nextG_moves {cells blocked now:List Int}{i:Nat}(hi:i<cells.length)(hne:(nextG cells blocked now).getD i 0≠cells.getD i 0):¬ KeptP cells blocked now i/\(nextG cells blocked now).getD i 0=now.getD i 0:=by
 rw [nextG_at hi] at hne ⊢
 by_cases hb:keptB cells blocked now i=true
 · rw [if_pos hb] at hne;exact absurd rfl hne
 · rw [if_neg hb];exact ⟨fun hk=>hb (keptB_yes hk),rfl⟩
theorem Late.firsts {cells wants blocked now:List Int}(h:Late cells wants now){i:Nat}(hi:i<cells.length)(hne:(nextG cells blocked now).getD i 0≠cells.getD i 0):zbg cells wants cells.length ((nextG cells blocked now).getD i 0)=some (i:Int):=by
 obtain ⟨hk,he⟩:=nextG_moves hi hne
 rw [he] at hne ⊢
 rcases h.late with rfl|hl
 · refine firstG_is hi hne fun j hj hc=>hk ⟨hne,.inr ⟨j,by omega,by omega,.inr (.inl ⟨hc.2,hc.1,hj⟩)⟩⟩
 · exact hl i hi hne
theorem Late.next {cells wants blocked now:List Int}(h:Late cells wants now):Late cells wants (nextG cells blocked now):=by
 refine ⟨nextG_len _ _ _,fun i hi=>?_,.inr fun i hi hne=>h.firsts hi hne⟩
 by_cases hb:keptB cells blocked now i=true
 · exact .inl (by rw [nextG_at hi,if_pos hb])
 · rw [nextG_at hi,if_neg hb];exact h.own i hi
def These (cells blocked now S:List Int):Prop:=(∀ s∈S,∃ i:Nat,s=i/\i<cells.length)/\∀ i:Nat,i<cells.length->((i:Int)∈S ↔ KeptP cells blocked now i)
def haltG (cells now S:List Int):List Int:=(List.range cells.length).map fun (i:Nat)=>if (i:Int)∈S then cells.getD i 0 else now.getD i 0
theorem haltG_len (cells now S:List Int):(haltG cells now S).length=cells.length:=by simp [haltG]
theorem haltG_nil {cells now:List Int}(h:now.length=cells.length):haltG cells now []=now:=by
 apply List.ext_getElem
 · rw [haltG_len,h]
 · intro j h1 h2
   simp [haltG,List.getD,h2]
theorem haltG_snoc {cells now S:List Int}{i:Nat}:haltG cells now (S++[(i:Int)])=(haltG cells now S).set i (cells.getD i 0):=by
 apply List.ext_getElem
 · rw [List.length_set,haltG_len,haltG_len]
 · intro j h1 h2
   rw [List.getElem_set]
   by_cases e:i=j
   · subst e
     simp [haltG]
   · rw [if_neg e]
     have:¬ ((j:Int)=(i:Int)):=by omega
     simp [haltG,this]
theorem haltG_these {cells blocked now S:List Int}(h:These cells blocked now S):haltG cells now S=nextG cells blocked now:=by
 apply List.ext_getElem
 · rw [haltG_len,nextG_len]
 · intro j h1 h2
   have hj:j<cells.length:=by rwa [haltG_len] at h1
   simp only [haltG,nextG,List.getElem_map,List.getElem_range]
   by_cases hk:KeptP cells blocked now j
   · rw [if_pos ((h.2 j hj).2 hk),if_pos (keptB_yes hk)]
   · rw [if_neg (fun e=>hk ((h.2 j hj).1 e)),if_neg (by rw [keptB_no hk];simp)]
def behindG (cells wants S:List Int):List Int:=S.filterMap fun s=>zbg cells wants cells.length (cells.getD s.toNat 0)
theorem behindG_len (cells wants S:List Int):(behindG cells wants S).length<=S.length:=List.length_filterMap_le _ _
theorem behindG_in {cells wants S:List Int}:∀ s∈behindG cells wants S,∃ i:Nat,s=i/\i<cells.length:=by
 intro s hs
 obtain ⟨r,_,hr⟩:=List.mem_filterMap.1 hs
 obtain ⟨j,h1,h2,_⟩:=firstG_some hr
 exact ⟨j,h1,h2⟩
noncomputable def stopB (cells wants blocked now:List Int)(s:Int):Bool:=@decide (StopP cells wants blocked now s.toNat) (Classical.propDecidable _)
theorem stopB_iff {cells wants blocked now:List Int}{s:Int}:stopB cells wants blocked now s=true ↔ StopP cells wants blocked now s.toNat:=@decide_eq_true_iff _ (Classical.propDecidable _)
theorem stopB_yes {cells wants blocked now:List Int}{i:Nat}(h:StopP cells wants blocked now i):stopB cells wants blocked now (i:Int)=true:=stopB_iff.2 h
theorem stopB_no {cells wants blocked now:List Int}{i:Nat}(h:¬ StopP cells wants blocked now i):stopB cells wants blocked now (i:Int)=false:=by
 cases e:stopB cells wants blocked now (i:Int)
 · rfl
 · exact absurd (stopB_iff.1 e) h
def allG (n:Nat):List Int:=(List.range n).map fun (i:Nat)=>(i:Int)
theorem allG_len (n:Nat):(allG n).length=n:=by simp [allG]
theorem these_first {cells wants blocked:List Int}(ht:¬ TwiceP cells)(hl:wants.length=cells.length):These cells blocked wants ((allG cells.length).filter (stopB cells wants blocked wants)):=by
 constructor
 · intro s hs
   obtain ⟨h1,_⟩:=List.mem_filter.1 hs
   obtain ⟨i,hi,rfl⟩:=List.mem_map.1 h1
   exact ⟨i,rfl,by simpa using hi⟩
 · intro i hi
   rw [List.mem_filter,stopB_iff,Int.toNat_natCast,stop_iff ht (Late.start hl) hi]
   exact ⟨fun h=>h.2,fun h=>⟨List.mem_map.2 ⟨i,by simpa using hi,rfl⟩,h⟩⟩
theorem these_next {cells wants blocked now S:List Int}(ht:¬ TwiceP cells)(hw:Late cells wants now)(h:These cells blocked now S) :
 These cells blocked (nextG cells blocked now) ((behindG cells wants S).filter (stopB cells wants blocked (nextG cells blocked now))):=by
 have hw':Late cells wants (nextG cells blocked now):=hw.next
 refine ⟨fun s hs=>behindG_in s (List.mem_filter.1 hs).1,fun i hi=>?_⟩
 rw [List.mem_filter,stopB_iff,Int.toNat_natCast,stop_iff ht hw' hi]
 refine ⟨fun h=>h.2,fun hk=>⟨?_,hk⟩⟩
 have hy:∀ i,i<cells.length->¬ KeptP cells blocked now i->(nextG cells blocked now).getD i 0=now.getD i 0:=by
  intro i hi hne
  rw [nextG_at hi,if_neg (by rw [keptB_no hne];simp)]
 obtain ⟨h0,hr⟩:=hk
 obtain ⟨hnk,he⟩:=nextG_moves hi h0
 have hne:now.getD i 0≠cells.getD i 0:=by rw [<- he];exact h0
 have key:∀ k,k<cells.length->k≠i->cells.getD k 0=now.getD i 0->KeptP cells blocked now k->(i:Int)∈behindG cells wants S:=by
  intro k hk _ hc hkk
  refine List.mem_filterMap.2 ⟨(k:Int),(h.2 k hk).2 hkk,?_⟩
  rw [Int.toNat_natCast,hc,<- he]
  exact hw.firsts hi h0
 rcases hr with hb|⟨k,hk,hki,⟨h1,h2⟩|⟨h1,h2,h3⟩|⟨h1,h2⟩⟩
 · exact absurd ⟨hne,.inl (by rw [<- he];exact hb)⟩ hnk
 · by_cases hkk:KeptP cells blocked now k
   · exact key k hk hki (by rw [h2,he]) hkk
   · rw [hy k hk hkk] at h1
     exact absurd ⟨hne,.inr ⟨k,hk,hki,.inl ⟨h1,by rw [h2,he]⟩⟩⟩ hnk
 · obtain ⟨_,hek⟩:=nextG_moves hk h1
   rw [hek] at h1 h2
   exact absurd ⟨hne,.inr ⟨k,hk,hki,.inr (.inl ⟨h1,by rw [h2,he],h3⟩)⟩⟩ hnk
 · by_cases hkk:KeptP cells blocked now k
   · exact key k hk hki (by rw [h1,he]) hkk
   · rw [hy k hk hkk] at h2
     exact absurd ⟨hne,.inr ⟨k,hk,hki,.inr (.inr ⟨by rw [h1,he],h2⟩)⟩⟩ hnk
structure Going (cells wants blocked now S:List Int):Prop where
 late:Late cells wants now
 these:These cells blocked now S
 goes:∀ a,GoesTo cells blocked now a->GoesTo cells blocked wants a
 few:S.length<=cells.length
theorem Going.start {cells wants blocked:List Int}(ht:¬ TwiceP cells)(hl:wants.length=cells.length):Going cells wants blocked wants ((allG cells.length).filter (stopB cells wants blocked wants)) :=
 ⟨Late.start hl,these_first ht hl,fun _=>id,Nat.le_trans (List.length_filter_le _ _) (Nat.le_of_eq (allG_len _))⟩
theorem Going.has {cells wants blocked now S:List Int}(h:Going cells wants blocked now S)(hS:S≠[]):∃ i,i<cells.length/\KeptP cells blocked now i:=by
 obtain ⟨s,hs⟩:=List.exists_mem_of_ne_nil S hS
 obtain ⟨i,rfl,hi⟩:=h.these.1 s hs
 exact ⟨i,hi,(h.these.2 i hi).1 hs⟩
theorem Going.next {cells wants blocked now S:List Int}(ht:¬ TwiceP cells)(h:Going cells wants blocked now S)(hS:S≠[]) :
 Going cells wants blocked (haltG cells now S) ((behindG cells wants S).filter (stopB cells wants blocked (haltG cells now S))):=by
 rw [haltG_these h.these]
 exact ⟨h.late.next,these_next ht h.late h.these,fun a ha=>h.goes a (.round now a (h.has hS) ha),Nat.le_trans (List.length_filter_le _ _) (Nat.le_trans (behindG_len _ _ _) h.few)⟩
theorem Going.less {cells wants blocked now S:List Int}(h:Going cells wants blocked now S)(hS:S≠[]):movers cells (haltG cells now S)<movers cells now:=by
 rw [haltG_these h.these];exact movers_next (h.has hS)
theorem Going.done {cells wants blocked now:List Int}(h:Going cells wants blocked now []):gateG cells wants blocked=now :=
 gateG_of (h.goes now (.done now fun i hi hk=>by have:=(h.these.2 i hi).2 hk;simp at this))
end Go.Proofs.YtknnnbpgkfaapaaGreat.Vm
