import Derived.Test.YtknnnbpgkfaapaaGreatQ
import Derived.Test.YtknnnbpgkfaapaaGreatVGateMaps
import Derived.Test.YtknnnbpgkfaapaaGreatVIntRows
import Derived.WideKeyPair
import Derived.DeepKeys4
import Derived.ChangeKeys
import Derived.StillTailTactics
set_option maxRecDepth 100000
set_option linter.unusedSimpArgs false
set_option linter.unusedVariables false
namespace Go.Proofs.YtknnnbpgkfaapaaGreat.Vm
open Go Go.RowKit Go.Maps Go.ChangeMaps Go.MapKept
structure MapKind (α β:Type) where
 t:TypeId
 k:TypeId
 e:TypeId
 kv:α->Value
 kl:α->Lit
 okK:α->Prop
 ev:β->Value
 okE:β->Prop
 z:Value
 R:Value->Option (DataW Unit × List MemPlace)
 d:β->DataW Unit
 dz:DataW Unit
structure MapLaw {α β:Type}(M:MapKind α β):Prop where
 keyed:Keyed Tryz.prog M.k
 ht:Tryz.prog.underlying M.t=some (.map M.k M.e)
 hz:∀ w,(zeroValue M.e).run Tryz.prog w=.ok M.z w
 key:∀ a,M.okK a->keyOf Tryz.prog M.k (M.kv a)=some (M.kl a)
 inj:∀ a b,M.okK a->M.okK b->M.kl a=M.kl b->a=b
 isKey:∀ a,WideAt.IsKeyLit (M.kl a)
 reads:∀ b,M.okE b->M.R (M.ev b)=some (M.d b,[])
 inv:∀ v b ps,M.R v=some (M.d b,ps)->v=M.ev b
 readsz:M.R M.z=some (M.dz,[])
 invz:∀ v ps,M.R v=some (M.dz,ps)->v=M.z
def KIn {α β:Type}(M:MapKind α β)(w:World)(mb n:Nat)(f:α->Option β):Prop :=
 ∃ D:DataW Unit,w.ownsMap Tryz.prog M.k M.R mb n D/\IsMap D/\(∀ a,M.okK a->f a=none->Maps.has D (M.kl a)=false) /\
   ∀ a b,M.okK a->f a=some b->Maps.has D (M.kl a)=true/\∀ u,D.atKey (M.kl a) u=M.d b
section
variable {α β:Type} {M:MapKind α β} {w w':World} {mb n:Nat} {f g:α->Option β}
theorem KIn.keep (h:KIn M w mb n f)(hk:w'.heap[mb]?=w.heap[mb]?):KIn M w' mb n f:=by
 obtain ⟨D,⟨es,clock,hb,r⟩,h2⟩:=h
 exact ⟨D,⟨es,clock,hk.trans hb,r⟩,h2⟩
theorem KIn.lt (h:KIn M w mb n f):mb<w.heap.size:=by
 obtain ⟨D,hown,_⟩:=h
 exact World.ownsMap.lt hown
theorem KIn.isMap (h:KIn M w mb n f):∃ es clock,w.heap[mb]?=some (.map es clock):=by
 obtain ⟨D,⟨es,clock,hb,r⟩,h2⟩:=h
 exact ⟨es,clock,hb⟩
theorem KIn.less {m:Nat}(h:KIn M w mb n f)(hm:n<=m):KIn M w mb m f:=by
 obtain ⟨D,⟨es,clock,hb,r1,r2,r3⟩,r⟩:=h
 exact ⟨D,⟨es,clock,hb,r1,Nat.le_trans r2 hm,r3⟩,r⟩
theorem kIn_new (M:MapKind α β)(w:World){f:α->Option β}(hf:∀ z,f z=none):KIn M (w.alloc (.map #[] 0)) w.heap.size 0 f :=
 ⟨.map [],World.ownsMap_made w Tryz.prog M.k M.R,isMap_empty,fun _ _ _=>rfl,fun a x _ hz=>by rw [hf a] at hz;cases hz⟩
theorem KIn.to (h:KIn M w mb n f)(hg:∀ a,M.okK a->g a=f a):KIn M w mb n g:=by
 obtain ⟨D,hown,hm,h0,h1⟩:=h
 exact ⟨D,hown,hm,fun a ha hz=>h0 a ha (by rw [<- hg a ha];exact hz),fun a x ha hz=>h1 a x ha (by rw [<- hg a ha];exact hz)⟩
def MapKind.at {α β:Type}(M:MapKind α β)(o:Option β):Value:=match o with|some b=>M.ev b|none=>M.z
theorem KIn.look (h:KIn M w mb n f)(L:MapLaw M){a:α}(ha:M.okK a) :
 (Instr.lookup M.t (.map (some mb)) (M.kv a) true).run Tryz.prog w=.ok (.tuple #[M.at (f a),.bool (f a).isSome]) w:=by
 obtain ⟨D,hown,hm,h0,h1⟩:=h
 obtain ⟨v,ps,hrun,hv⟩:=hown.look_ok L.keyed L.ht (L.hz w) L.readsz (L.key a ha)
 rw [hrun]
 cases e:f a with
 | none =>
   rw [atKey_of_not_has (h0 a ha e)] at hv
   rw [h0 a ha e,L.invz _ _ hv]
   rfl
 | some x =>
   obtain ⟨e1,e2⟩:=h1 a x ha e
   rw [e2] at hv
   rw [e1,L.inv _ _ _ hv]
   rfl
theorem KIn.put [DecidableEq α](h:KIn M w mb n f)(L:MapLaw M)(hn:n<1000000000){a:α}{b:β}(ha:M.okK a)(hb:M.okE b) :
 ∃ w',(Instr.mapUpdate M.t (.map (some mb)) (M.kv a) (M.ev b)).run Tryz.prog w=.ok () w'/\KIn M w' mb (n+1) (fun y=>if y=a then some b else f y)/\w.grownBy w' (some mb)/\w'.heap.size=w.heap.size:=by
 obtain ⟨D,hown,hm,h0,h1⟩:=h
 obtain ⟨w',hrun,hown',hg⟩:=hown.store L.keyed L.ht (by unfold maxLen;omega) (L.key a ha) (L.reads b hb)
 have hsz:w'.heap.size=w.heap.size:=by
  obtain ⟨es,clock,es',clock',_,rfl⟩:=hg
  simp [setBlock]
 refine ⟨w',hrun,⟨_,hown',hm.put _ _,fun y hy hq=>?_,fun y c hy hq=>?_⟩,hg.grown,hsz⟩
 · by_cases e:y=a
   · simp only [e,if_true] at hq;cases hq
   · simp only [e,if_false] at hq
     rw [has_put_other (fun h=>e (L.inj y a hy ha h))]
     exact h0 y hy hq
 · by_cases e:y=a
   · simp only [e,if_true] at hq
     injection hq with hq
     subst hq e
     exact ⟨has_put_same hm (L.isKey _) _,fun u=>atKey_put_same hm (L.isKey _) _ u⟩
   · simp only [e,if_false] at hq
     refine ⟨?_,fun u=>?_⟩
     · rw [has_put_other (fun h=>e (L.inj y a hy ha h))];exact (h1 y c hy hq).1
     · rw [atKey_put_other (fun h=>e (L.inj y a hy ha h))];exact (h1 y c hy hq).2 u
theorem KIn.drop [DecidableEq α](h:KIn M w mb n f)(L:MapLaw M)(ty:TypeId){a:α}(ha:M.okK a) :
 ∃ w',(Builtin.delete_ #[M.t,M.k] ty #[.map (some mb),M.kv a]).run Tryz.prog w=.ok (.tuple #[]) w'/\KIn M w' mb n (fun y=>if y=a then none else f y)/\w.grownBy w' (some mb)/\w'.heap.size=w.heap.size:=by
 obtain ⟨D,hown,hm,h0,h1⟩:=h
 obtain ⟨w',hrun,hown',hg⟩:=hown.drop L.keyed L.ht (L.key a ha) ty
 have hsz:w'.heap.size=w.heap.size:=by
  obtain ⟨es,clock,es',clock',_,rfl⟩:=hg
  simp [setBlock]
 refine ⟨w',hrun,⟨_,hown',hown'.isMap,fun y hy hq=>?_,fun y c hy hq=>?_⟩,hg.grown,hsz⟩
 · by_cases e:y=a
   · subst e;exact has_del_same
   · simp only [e,if_false] at hq
     rw [has_del_other (fun h=>e (L.inj y a hy ha h))]
     exact h0 y hy hq
 · by_cases e:y=a
   · simp only [e,if_true] at hq;cases hq
   · simp only [e,if_false] at hq
     refine ⟨?_,fun u=>?_⟩
     · rw [has_del_other (fun h=>e (L.inj y a hy ha h))];exact (h1 y c hy hq).1
     · rw [atKey_del_other (fun h=>e (L.inj y a hy ha h))];exact (h1 y c hy hq).2 u
end
abbrev wfI (x:Int):Prop:=(Lit.int .i64 x).wf=true
theorem laidOut9:laidOutB Tryz.prog=true:=by kernel_rfl
def placeK (a:Int × Int):Lit:=.string (keyBytes [.int .i64 a.1,.int .i64 a.2])
def stepK (a:Int × Int × Int):Lit:=.string (keyBytes [.int .i64 a.1,.int .i64 a.2.1,.int .i64 a.2.2])
theorem placeK_inj {a b:Int × Int}(ha:wfI a.1/\wfI a.2)(hb:wfI b.1/\wfI b.2)(h:placeK a=placeK b):a=b:=by
 injection h with h
 have:=Go.keyBytes_inj (l:=[.int .i64 a.1,.int .i64 a.2]) (l':=[.int .i64 b.1,.int .i64 b.2]) ⟨rfl,rfl,trivial⟩ (by simp [Go.Lit.keyWf,ha.1,ha.2]) (by simp [Go.Lit.keyWf,hb.1,hb.2]) h
 simp at this
 exact Prod.ext this.1 this.2
theorem stepK_inj {a b:Int × Int × Int}(ha:wfI a.1/\wfI a.2.1/\wfI a.2.2)(hb:wfI b.1/\wfI b.2.1/\wfI b.2.2)(h:stepK a=stepK b):a=b:=by
 injection h with h
 have:=Go.keyBytes_inj (l:=[.int .i64 a.1,.int .i64 a.2.1,.int .i64 a.2.2]) (l':=[.int .i64 b.1,.int .i64 b.2.1,.int .i64 b.2.2]) ⟨rfl,rfl,rfl,trivial⟩ (by simp [Go.Lit.keyWf,ha.1,ha.2.1,ha.2.2]) (by simp [Go.Lit.keyWf,hb.1,hb.2.1,hb.2.2]) h
 simp at this
 exact Prod.ext this.1 (Prod.ext this.2.1 this.2.2)
theorem place_keyed:Keyed Tryz.prog 144:=Keyed.of_law (deep_law_laid laidOut9 (m:=2) (by omega) (of_decide_eq_true (by kernel_rfl)) (by kernel_rfl) (by rw [Tryz.underlying144]))
theorem step_keyed:Keyed Tryz.prog 146:=Keyed.of_law (deep_law_laid laidOut9 (m:=2) (by omega) (of_decide_eq_true (by kernel_rfl)) (by kernel_rfl) (by rw [Tryz.underlying146]))
theorem keyOf_place {x y:Int}(hx:wfI x)(hy:wfI y):keyOf Tryz.prog 144 (.agg #[.int .i64 x,.int .i64 y])=some (placeK (x,y)):=by
 have hkt:Tryz.prog.keyType 144=true:=by kernel_rfl
 have hcl:Tryz.prog.cellsOf 144=2:=by kernel_rfl
 have hci:Tryz.prog.cellsOf 3=1:=by kernel_rfl
 obtain ⟨m,hm⟩:∃ m,Tryz.prog.types.size=m+1:=⟨Tryz.prog.types.size-1,by kernel_rfl⟩
 unfold keyOf
 simp only [Tryz.underlying144]
 rw [if_pos (by simp [hkt,Value.formed,Tryz.underlying144,hcl]),hm]
 unfold Program.keyLits
 simp only [Tryz.underlying144,Value.cells]
 rw [if_pos (by simp [hcl])]
 have hx':(Lit.int .i64 x).wf=true:=hx
 have hy':(Lit.int .i64 y).wf=true:=hy
 simp [hci,Program.keyLits,Tryz.underlying3,hx',hy',placeK]
theorem keyOf_step {x y z:Int}(hx:wfI x)(hy:wfI y)(hz:wfI z):keyOf Tryz.prog 146 (.agg #[.int .i64 x,.int .i64 y,.int .i64 z])=some (stepK (x,y,z)):=by
 have hkt:Tryz.prog.keyType 146=true:=by kernel_rfl
 have hcl:Tryz.prog.cellsOf 146=3:=by kernel_rfl
 have hci:Tryz.prog.cellsOf 3=1:=by kernel_rfl
 obtain ⟨m,hm⟩:∃ m,Tryz.prog.types.size=m+1:=⟨Tryz.prog.types.size-1,by kernel_rfl⟩
 unfold keyOf
 simp only [Tryz.underlying146]
 rw [if_pos (by simp [hkt,Value.formed,Tryz.underlying146,hcl]),hm]
 unfold Program.keyLits
 simp only [Tryz.underlying146,Value.cells]
 rw [if_pos (by simp [hcl])]
 have hx':(Lit.int .i64 x).wf=true:=hx
 have hy':(Lit.int .i64 y).wf=true:=hy
 have hz':(Lit.int .i64 z).wf=true:=hz
 simp [hci,Program.keyLits,Tryz.underlying3,hx',hy',hz',stepK]
def placeM:MapKind (Int × Int) Unit where
 t:=114
 k:=144
 e:=99
 kv a:=.agg #[.int .i64 a.1,.int .i64 a.2]
 kl:=placeK
 okK a:=wfI a.1/\wfI a.2
 ev _:=.agg #[]
 okE _:=True
 z:=.agg #[]
 R:=unitElem
 d _:=.agg []
 dz:=.agg []
theorem placeL:MapLaw placeM where
 keyed:=place_keyed
 ht:=Tryz.underlying114
 hz:=zero_unit
 key a h:=keyOf_place h.1 h.2
 inj a b ha hb h:=placeK_inj ha hb h
 isKey _:=trivial
 reads _ _:=unitElem_mk
 inv v b ps h:=(unitElem_inv h).1
 readsz:=unitElem_mk
 invz v ps h:=(unitElem_inv h).1
def stepM:MapKind (Int × Int × Int) Unit where
 t:=115
 k:=146
 e:=99
 kv a:=.agg #[.int .i64 a.1,.int .i64 a.2.1,.int .i64 a.2.2]
 kl:=stepK
 okK a:=wfI a.1/\wfI a.2.1/\wfI a.2.2
 ev _:=.agg #[]
 okE _:=True
 z:=.agg #[]
 R:=unitElem
 d _:=.agg []
 dz:=.agg []
theorem stepL:MapLaw stepM where
 keyed:=step_keyed
 ht:=Tryz.underlying115
 hz:=zero_unit
 key a h:=keyOf_step h.1 h.2.1 h.2.2
 inj a b ha hb h:=stepK_inj ha hb h
 isKey _:=trivial
 reads _ _:=unitElem_mk
 inv v b ps h:=(unitElem_inv h).1
 readsz:=unitElem_mk
 invz v ps h:=(unitElem_inv h).1
abbrev rstV (r:Bool × Int × Int):Value:=.agg #[.bool r.1,.int .i64 r.2.1,.int .i64 r.2.2]
def rstR:Value->Option (DataW Unit × List MemPlace)
 | .agg cs=>match cs.toList with
   | [.bool b,.int .i64 x,.int .i64 y]=>some (.agg [.lit (.bool b),.lit (.int .i64 x),.lit (.int .i64 y)],[])
   | _=>none
 | _=>none
theorem rstR_inv {v:Value}{r:Bool × Int × Int}{ps:List MemPlace}(h:rstR v=some (.agg [.lit (.bool r.1),.lit (.int .i64 r.2.1),.lit (.int .i64 r.2.2)],ps)):v=rstV r:=by
 unfold rstR at h
 split at h
 · rename_i cs
   split at h
   · rename_i b x y e
     simp at h
     obtain ⟨⟨h1,h2,h3⟩,_⟩:=h
     subst h1 h2 h3
     obtain ⟨l⟩:=cs
     simp only at e
     rw [e]
   · cases h
 · cases h
def knownM:MapKind (Int × Int) (Bool × Int × Int) where
 t:=148
 k:=144
 e:=152
 kv a:=.agg #[.int .i64 a.1,.int .i64 a.2]
 kl:=placeK
 okK a:=wfI a.1/\wfI a.2
 ev:=rstV
 okE _:=True
 z:=rstV (false,0,0)
 R:=rstR
 d r:=.agg [.lit (.bool r.1),.lit (.int .i64 r.2.1),.lit (.int .i64 r.2.2)]
 dz:=.agg [.lit (.bool false),.lit (.int .i64 0),.lit (.int .i64 0)]
theorem knownL:MapLaw knownM where
 keyed:=place_keyed
 ht:=Tryz.underlying148
 hz w:=by kernel_rfl
 key a h:=keyOf_place h.1 h.2
 inj a b ha hb h:=placeK_inj ha hb h
 isKey _:=trivial
 reads _ _:=rfl
 inv v b ps h:=rstR_inv h
 readsz:=rfl
 invz v ps h:=rstR_inv (r:=(false,0,0)) h
abbrev fldV (r:Nat × Nat):Value:=.slice (some ⟨r.1,0,none⟩) r.2 r.2
def fldR:Value->Option (DataW Unit × List MemPlace)
 | .slice (some ⟨b,0,none⟩) n c=>if n=c then some (.agg [.lit (.int .i64 b),.lit (.int .i64 n)],[]) else none
 | .slice none 0 0=>some (.agg [],[])
 | _=>none
theorem fldR_inv {v:Value}{r:Nat × Nat}{ps:List MemPlace}(h:fldR v=some (.agg [.lit (.int .i64 r.1),.lit (.int .i64 r.2)],ps)):v=fldV r:=by
 unfold fldR at h
 split at h
 · rename_i b n c
   split at h
   · rename_i e
     subst e
     simp at h
     obtain ⟨⟨h1,h2⟩,_⟩:=h
     obtain rfl:b=r.1:=by omega
     obtain rfl:n=r.2:=by omega
     rfl
   · cases h
 · simp at h
 · cases h
theorem fldR_invz {v:Value}{ps:List MemPlace}(h:fldR v=some (.agg [],ps)):v=.slice none 0 0:=by
 unfold fldR at h
 split at h
 · split at h
   · simp at h
   · cases h
 · rfl
 · cases h
def fieldM:MapKind Int (Nat × Nat) where
 t:=109
 k:=3
 e:=26
 kv a:=.int .i64 a
 kl a:=.int .i64 a
 okK a:=wfI a
 ev:=fldV
 okE _:=True
 z:=.slice none 0 0
 R:=fldR
 d r:=.agg [.lit (.int .i64 r.1),.lit (.int .i64 r.2)]
 dz:=.agg []
theorem fieldL:MapLaw fieldM where
 keyed:=key_law
 ht:=Tryz.underlying109
 hz w:=by kernel_rfl
 key a h:=keyOf_int_mk Tryz.underlying3 h
 inj a b ha hb h:=by injection h
 isKey _:=trivial
 reads b _:=by simp [fieldM,fldR]
 inv v b ps h:=fldR_inv h
 readsz:=rfl
 invz v ps h:=fldR_invz h
end Go.Proofs.YtknnnbpgkfaapaaGreat.Vm
namespace Go.Proofs.YtknnnbpgkfaapaaGreat.Vm
open Go Go.RowKit Go.Maps
structure Alt (S:Nat->Prop)(A V:World):Prop where
 os:V.os=A.os
 tape:V.tape=A.tape
 output:V.output=A.output
 size:A.heap.size<=V.heap.size
 block:∀ k,k<A.heap.size->¬ S k->V.heap[k]?=A.heap[k]?
section
variable {S S':Nat->Prop} {A V V':World}
theorem Alt.refl (S:Nat->Prop)(A:World):Alt S A A:=⟨rfl,rfl,rfl,zL _,fun _ _ _=>rfl⟩
theorem Alt.trans (h:Alt S A V)(h':Alt S' V V')(hs:∀ k,S' k->k<A.heap.size->S k):Alt S A V' :=
 ⟨h'.os.trans h.os,h'.tape.trans h.tape,h'.output.trans h.output,Nat.le_trans h.size h'.size,fun k hk hn=>(h'.block k (Nat.lt_of_lt_of_le hk h.size) (fun e=>hn (hs k e hk))).trans (h.block k hk hn)⟩
theorem Alt.mono (h:Alt S A V)(hs:∀ k,S k->k<A.heap.size->S' k):Alt S' A V:=⟨h.os,h.tape,h.output,h.size,fun k hk hn=>h.block k hk (fun e=>hn (hs k e hk))⟩
theorem Alt.ofBelow (h:Below A.heap.size A V):Alt S A V:=⟨h.os,h.tape,h.output,h.size,fun k hk _=>h.block k hk⟩
theorem Alt.calls (h:Alt S A V)(h':Below A.heap.size V V'):Alt S A V' :=
 ⟨h'.os.trans h.os,h'.tape.trans h.tape,h'.output.trans h.output,Nat.le_trans h.size h'.size,fun k hk hn=>(h'.block k hk).trans (h.block k hk hn)⟩
theorem Alt.drew (h:Alt S A V):Alt S A V.drew:=⟨h.os,h.tape,h.output,h.size,h.block⟩
theorem Alt.alloc (h:Alt S A V)(o:Obj):Alt S A (V.alloc o):=h.calls ((zX _ _).alloc h.size o)
theorem Alt.grown {mb:Nat}(h:Alt S A V)(hg:V.grownBy V' (some mb))(hm:mb<A.heap.size->S mb):Alt S A V' :=
 ⟨hg.os.trans h.os,hg.tape.trans h.tape,hg.output.trans h.output,Nat.le_trans h.size hg.size,fun k hk hn=>(hg.block k (Nat.lt_of_lt_of_le hk h.size) (fun e=>by injection e with e;subst e;exact hn (hm hk))).trans (h.block k hk hn)⟩
theorem Alt.cell (h:Alt S A V){p:Addr}(hp:p.block<A.heap.size)(hn:¬ S p.block):V.cell? p=A.cell? p:=World.cell?_of_block (h.block p.block hp hn)
theorem Alt.frozen (h:Alt S A V){p:Addr}(hp:p.block<A.heap.size)(hn:¬ S p.block):V.frozen? p=A.frozen? p:=World.frozen?_of_block (h.block p.block hp hn)
theorem Alt.below {B:Nat}(h:Alt S A V)(hs:∀ k,S k->B<=k)(hA:B<=A.heap.size):Below B A V :=
 ⟨h.os,h.tape,h.output,h.size,fun k hk=>h.block k (by omega) (fun e=>by have:=hs k e;omega)⟩
def MapAt (A:World)(k:Nat):Prop:=∃ es clock,A.heap[k]?=some (.map es clock)
theorem MapAt.cell {k:Nat}(h:MapAt A k)(o:Nat):A.cell? ⟨k,o,none⟩=none:=by
 obtain ⟨es,clock,e⟩:=h
 simp [World.cell?,e]
theorem Alt.keep (h:Alt S A V)(hS:∀ k,S k->MapAt A k){b o:Nat}{v:Value}(hc:A.cell? ⟨b,o,none⟩=some v):V.cell? ⟨b,o,none⟩=some v:=by
 have hlt:=World.block_lt_of_cell? A _ hc
 rw [h.cell (p:=⟨b,o,none⟩) hlt (fun e=>by rw [(hS b e).cell o] at hc;cases hc)]
 exact hc
theorem Alt.rowZ {k:IntKind}{B:Nat}{a:Option Addr}{n c:Nat}{zs:List Int}(h:Alt S A V)(hS:∀ k,S k->MapAt A k)(hr:RowZ k A B a n c zs):RowZ k V B a n c zs :=
 ⟨hr.1,hr.2.1,hr.2.2.1,fun hn=>by
  obtain ⟨b,off,e,hb,hc⟩:=hr.2.2.2 hn
  exact ⟨b,off,e,hb,fun i hi=>h.keep hS (hc i hi)⟩⟩
end
def plF (oth:List (List Int))(a:Int × Int):Option Unit:=if ∃ q∈oth,0<=a.1/\a.1<7/\a.1<q.length/\q.getD a.1.toNat 0=a.2 then some () else none
def mvF (oth:List (List Int))(a:Int × Int × Int):Option Unit:=if ∃ q∈oth,0<=a.1/\a.1<6/\a.1+1<q.length/\q.getD a.1.toNat 0=a.2.1/\q.getD (a.1.toNat+1) 0=a.2.2 then some () else none
section
variable {oth:List (List Int)} {q:List Int}
theorem plF_nil (a:Int × Int):plF [] a=none:=by unfold plF;rw [if_neg];rintro ⟨q,hq,_⟩;cases hq
theorem mvF_nil (a:Int × Int × Int):mvF [] a=none:=by unfold mvF;rw [if_neg];rintro ⟨q,hq,_⟩;cases hq
theorem plF_start (a:Int × Int):plF (oth++[q.take 0]) a=plF oth a:=by
 unfold plF
 congr 1
 refine propext ⟨?_,?_⟩
 · rintro ⟨q',hq,h⟩
   rcases List.mem_append.1 hq with hq|hq
   · exact ⟨q',hq,h⟩
   · obtain rfl:=List.mem_singleton.1 hq
     simp at h
     omega
 · rintro ⟨q',hq,h⟩;exact ⟨q',List.mem_append_left _ hq,h⟩
theorem mvF_start {k:Nat}(hk:k<=1)(a:Int × Int × Int):mvF (oth++[q.take k]) a=mvF oth a:=by
 unfold mvF
 congr 1
 refine propext ⟨?_,?_⟩
 · rintro ⟨q',hq,h⟩
   rcases List.mem_append.1 hq with hq|hq
   · exact ⟨q',hq,h⟩
   · obtain rfl:=List.mem_singleton.1 hq
     have:=h.2.2.1
     rw [List.length_take] at this
     omega
 · rintro ⟨q',hq,h⟩;exact ⟨q',List.mem_append_left _ hq,h⟩
theorem zbd {k i:Nat}(h:i<k):(q.take k).getD i 0=q.getD i 0:=by simp [List.getD,List.getElem?_take,h]
theorem plF_push {k:Nat}(hk:k<q.length)(h7:k<7)(a:Int × Int):plF (oth++[q.take (k+1)]) a=if a=((k:Int),q.getD k 0) then some () else plF (oth++[q.take k]) a:=by
 by_cases e:a=((k:Int),q.getD k 0)
 · subst e
   rw [if_pos rfl]
   unfold plF
   rw [if_pos]
   refine ⟨q.take (k+1),by simp,by omega,by simp;omega,by simp;omega,?_⟩
   simp only [Int.toNat_natCast]
   exact zbd (by omega)
 · rw [if_neg e]
   unfold plF
   congr 1
   refine propext ⟨?_,?_⟩
   · rintro ⟨q',hq,h⟩
     rcases List.mem_append.1 hq with hq|hq
     · exact ⟨q',List.mem_append_left _ hq,h⟩
     · obtain rfl:=List.mem_singleton.1 hq
       obtain ⟨h1,h2,h3,h4⟩:=h
       rw [List.length_take] at h3
       have hne:a.1.toNat≠k:=fun e'=>e (Prod.ext (by simp only [];omega) (by simp only [];rw [<- h4,zbd (by omega),e']))
       refine ⟨q.take k,by simp,h1,h2,by rw [List.length_take];omega,?_⟩
       rw [<- h4,zbd (by omega),zbd (by omega)]
   · rintro ⟨q',hq,h⟩
     rcases List.mem_append.1 hq with hq|hq
     · exact ⟨q',List.mem_append_left _ hq,h⟩
     · obtain rfl:=List.mem_singleton.1 hq
       obtain ⟨h1,h2,h3,h4⟩:=h
       rw [List.length_take] at h3
       refine ⟨q.take (k+1),by simp,h1,h2,by rw [List.length_take];omega,?_⟩
       rw [<- h4,zbd (by omega),zbd (by omega)]
theorem mvF_push {k:Nat}(hk:k+1<q.length)(h7:k<6)(a:Int × Int × Int):mvF (oth++[q.take (k+1+1)]) a=if a=((k:Int),q.getD k 0,q.getD (k+1) 0) then some () else mvF (oth++[q.take (k+1)]) a:=by
 by_cases e:a=((k:Int),q.getD k 0,q.getD (k+1) 0)
 · subst e
   rw [if_pos rfl]
   unfold mvF
   rw [if_pos]
   refine ⟨q.take (k+1+1),by simp,by omega,by simp;omega,by simp;omega,?_⟩
   simp only [Int.toNat_natCast]
   exact ⟨zbd (by omega),zbd (by omega)⟩
 · rw [if_neg e]
   unfold mvF
   congr 1
   refine propext ⟨?_,?_⟩
   · rintro ⟨q',hq,h⟩
     rcases List.mem_append.1 hq with hq|hq
     · exact ⟨q',List.mem_append_left _ hq,h⟩
     · obtain rfl:=List.mem_singleton.1 hq
       obtain ⟨h1,h2,h3,h4,h5⟩:=h
       rw [List.length_take] at h3
       have hne:a.1.toNat≠k:=fun e'=>e (Prod.ext (by simp only [];omega) (Prod.ext (by simp only [];rw [<- h4,zbd (by omega),e']) (by simp only [];rw [<- h5,zbd (by omega),e'])))
       refine ⟨q.take (k+1),by simp,h1,h2,by rw [List.length_take];omega,?_⟩
       rw [<- h4,<- h5,zbd (by omega),zbd (by omega),zbd (by omega),zbd (by omega)]
       exact ⟨rfl,rfl⟩
   · rintro ⟨q',hq,h⟩
     rcases List.mem_append.1 hq with hq|hq
     · exact ⟨q',List.mem_append_left _ hq,h⟩
     · obtain rfl:=List.mem_singleton.1 hq
       obtain ⟨h1,h2,h3,h4,h5⟩:=h
       rw [List.length_take] at h3
       refine ⟨q.take (k+1+1),by simp,h1,h2,by rw [List.length_take];omega,?_⟩
       rw [<- h4,<- h5,zbd (by omega),zbd (by omega),zbd (by omega),zbd (by omega)]
       exact ⟨rfl,rfl⟩
theorem plF_end {m:Nat}(hm:m=q.length\/7<=m)(a:Int × Int):plF (oth++[q]) a=plF (oth++[q.take m]) a:=by
 unfold plF
 congr 1
 refine propext ⟨?_,?_⟩
 · rintro ⟨q',hq,h⟩
   rcases List.mem_append.1 hq with hq|hq
   · exact ⟨q',List.mem_append_left _ hq,h⟩
   · obtain rfl:=List.mem_singleton.1 hq
     obtain ⟨h1,h2,h3,h4⟩:=h
     refine ⟨q'.take m,by simp,h1,h2,by rw [List.length_take];omega,?_⟩
     rw [zbd (by omega)];exact h4
 · rintro ⟨q',hq,h⟩
   rcases List.mem_append.1 hq with hq|hq
   · exact ⟨q',List.mem_append_left _ hq,h⟩
   · obtain rfl:=List.mem_singleton.1 hq
     obtain ⟨h1,h2,h3,h4⟩:=h
     rw [List.length_take] at h3
     refine ⟨q,by simp,h1,h2,by omega,?_⟩
     rw [<- h4,zbd (by omega)]
theorem mvF_end {m:Nat}(hm:m=q.length\/7<=m)(a:Int × Int × Int):mvF (oth++[q]) a=mvF (oth++[q.take m]) a:=by
 unfold mvF
 congr 1
 refine propext ⟨?_,?_⟩
 · rintro ⟨q',hq,h⟩
   rcases List.mem_append.1 hq with hq|hq
   · exact ⟨q',List.mem_append_left _ hq,h⟩
   · obtain rfl:=List.mem_singleton.1 hq
     obtain ⟨h1,h2,h3,h4,h5⟩:=h
     refine ⟨q'.take m,by simp,h1,h2,by rw [List.length_take];omega,?_⟩
     rw [zbd (by omega),zbd (by omega)];exact ⟨h4,h5⟩
 · rintro ⟨q',hq,h⟩
   rcases List.mem_append.1 hq with hq|hq
   · exact ⟨q',List.mem_append_left _ hq,h⟩
   · obtain rfl:=List.mem_singleton.1 hq
     obtain ⟨h1,h2,h3,h4,h5⟩:=h
     rw [List.length_take] at h3
     refine ⟨q,by simp,h1,h2,by omega,?_⟩
     rw [<- h4,<- h5,zbd (by omega),zbd (by omega)]
     exact ⟨rfl,rfl⟩
def letsP (oth:List (List Int))(p:Nat)(f t:Int):Bool:=!(plF oth ((p:Int)+1,t)).isSome && !(mvF oth ((p:Int),t,f)).isSome
theorem lets_may {oth:List (List Int)}{p:Nat}(hp:p<=5)(f t:Int):letsP oth p f t=true ↔ ∀ q∈oth,p+1<q.length->q.getD (p+1) 0≠t/\¬ (q.getD (p+1) 0=f/\q.getD p 0=t):=by
 have e1:((p:Int)+1).toNat=p+1:=by omega
 unfold letsP plF mvF
 simp only [Bool.and_eq_true,Bool.not_eq_true',e1,Int.toNat_natCast]
 constructor
 · rintro ⟨h1,h2⟩ q hq hl
   refine ⟨fun e=>?_,fun ⟨e1,e2⟩=>?_⟩
   · rw [if_pos ⟨q,hq,by omega,by omega,by omega,e⟩] at h1
     cases h1
   · rw [if_pos ⟨q,hq,by omega,by omega,by omega,e2,e1⟩] at h2
     cases h2
 · intro h
   refine ⟨?_,?_⟩
   · rw [if_neg]
     · rfl
     · rintro ⟨q,hq,_,_,hl,e⟩
       exact (h q hq (by omega)).1 e
   · rw [if_neg]
     · rfl
     · rintro ⟨q,hq,_,_,hl,e2,e1⟩
       exact (h q hq (by omega)).2 ⟨e1,e2⟩
end
def TrafIn (w:World)(pb mb n:Nat)(oth:List (List Int)):Prop:=KIn placeM w pb n (plF oth)/\KIn stepM w mb n (mvF oth)/\pb≠mb
abbrev trV (pb mb:Nat):Value:=.agg #[.map (some pb),.map (some mb)]
section
variable {w w':World} {pb mb n:Nat} {oth:List (List Int)}
theorem TrafIn.keep (h:TrafIn w pb mb n oth)(h1:w'.heap[pb]?=w.heap[pb]?)(h2:w'.heap[mb]?=w.heap[mb]?):TrafIn w' pb mb n oth:=⟨h.1.keep h1,h.2.1.keep h2,h.2.2⟩
theorem TrafIn.calls (h:TrafIn w pb mb n oth)(hb:Below w.heap.size w w'):TrafIn w' pb mb n oth:=h.keep (hb.block _ h.1.lt) (hb.block _ h.2.1.lt)
theorem TrafIn.alt {S:Nat->Prop}(h:TrafIn w pb mb n oth)(hb:Alt S w w')(h1:¬ S pb)(h2:¬ S mb):TrafIn w' pb mb n oth:=h.keep (hb.block _ h.1.lt h1) (hb.block _ h.2.1.lt h2)
end
set_option maxHeartbeats 1000000 in
theorem lets_tr (w:World)(pb mb n p:Nat)(oth:List (List Int))(f t:Int)(h:TrafIn w pb mb n oth)(hp:p<=5)(hf:wfI f)(ht:wfI t) :
 Calls Tryz.prog 148 #[trV pb mb,.agg #[.int .i64 (p:Nat),.int .i64 f],.int .i64 t] w fun e w'=>e=.returned (.bool (letsP oth p f t))/\Below w.heap.size w w':=by
 obtain ⟨h1,h2,hne⟩:=h
 have hwp:wfI ((p:Int)+1):=WalkArith.wf_i64 (by omega)
 have hwp0:wfI (p:Int):=WalkArith.wf_i64 (by omega)
 have L1:Hid (∀ V,Below w.heap.size w V->(Instr.lookup 114 (.map (some pb)) (.agg #[.int .i64 ((p:Int)+1),.int .i64 t]) true).run Tryz.prog V=.ok (.tuple #[.agg #[],.bool (plF oth ((p:Int)+1,t)).isSome]) V):=fun V hV=>by
  have:=KIn.look (h1.keep (hV.block _ h1.lt)) placeL (a:=((p:Int)+1,t)) ⟨hwp,ht⟩
  rw [show placeM.at (plF oth ((p:Int)+1,t))=.agg #[] by unfold MapKind.at;split <;> rfl] at this
  exact this
 have L2:Hid (∀ V,Below w.heap.size w V->(Instr.lookup 115 (.map (some mb)) (.agg #[.int .i64 (p:Int),.int .i64 t,.int .i64 f]) true).run Tryz.prog V=.ok (.tuple #[.agg #[],.bool (mvF oth ((p:Int),t,f)).isSome]) V):=fun V hV=>by
  have:=KIn.look (h2.keep (hV.block _ h2.lt)) stepL (a:=((p:Int),t,f)) ⟨hwp0,ht,hf⟩
  rw [show stepM.at (mvF oth ((p:Int),t,f))=.agg #[] by unfold MapKind.at;split <;> rfl] at this
  exact this
 have hb1:Below w.heap.size w ((w.alloc (.cells #[.map (some pb),.map (some mb)] 117)).alloc (.cells #[.int .i64 (p:Int),.int .i64 f] 144)):=((zX _ _).alloc (zL _) _).alloc (by simp) _
 have hb2:=hb1.alloc hb1.size (.cells #[] 99)
 have hb3:=hb2.alloc hb2.size (.cells #[] 99)
 have l1:=L1.out _ hb1
 have l2:=L2.out _ hb2
 have HB:=qz hb3
 have e0:IntKind.i64.wrap ((p:Int)+1)=(p:Int)+1:=by simp only [IntKind.wrap_i64];omega
 obtain ⟨u1,hu1⟩:∃ u1,(plF oth ((p:Int)+1,t)).isSome=u1:=⟨_,rfl⟩
 obtain ⟨u2,hu2⟩:∃ u2,(mvF oth ((p:Int),t,f)).isSome=u2:=⟨_,rfl⟩
 have HE:Hid (letsP oth p f t=(!u1 && !u2)):=by unfold Hid letsP;rw [hu1,hu2]
 rw [hu1] at l1
 rw [hu2] at l2
 clear hu1 hu2 h1 h2 hb1 hb2 hb3 L1 L2 hwp hwp0
 go_enter Tryz.func148,Tryz.ntmps148
 cases u1 <;> cases u2 <;>
 · go_wp2_with fail
   go_ret
   exact ⟨zad HE.out.symm,HB.out⟩
end Go.Proofs.YtknnnbpgkfaapaaGreat.Vm
namespace Go.Proofs.YtknnnbpgkfaapaaGreat.Vm
open Go Go.RowKit Go.Maps
set_option maxHeartbeats 2000000 in
theorem add_le (w:World)(pb mb n B m c:Nat)(a:Option Addr)(oth:List (List Int))(q:List Int)(h:TrafIn w pb mb n oth)(hr:RowZ .i64 w B a m c q)(hw:WfZ q)(hB:B<=w.heap.size)(hn:n<=1000000)(hm:m<=100000)(hlt:m<=7) :
 Calls Tryz.prog 65 #[trV pb mb,.slice a m c] w fun e w'=>e=.returned (.tuple #[])/\TrafIn w' pb mb (n+7) (oth++[q])/\Alt (fun k=>k=pb\/k=mb) w w':=by
 obtain ⟨w0,hw0⟩:∃ w0,w0=w.alloc (.cells #[.map (some pb),.map (some mb)] 117):=⟨_,rfl⟩
 have hb0:Below w.heap.size w w0:=by rw [hw0];exact (zX _ _).alloc (zL _) _
 have hz0:w0.heap.size=w.heap.size+1:=by rw [hw0];simp
 have c0:w0.cell? ⟨w.heap.size,0,none⟩=some (.map (some pb)):=by rw [hw0];simp
 have c1:w0.cell? ⟨w.heap.size,1,none⟩=some (.map (some mb)):=by rw [hw0];simp
 have hpl:=h.1.lt
 have hml:=h.2.1.lt
 have HNE:=qz h.2.2
 have HT0:=qz (h.calls hb0)
 have HR0:=qz (hr.below (hb0.mono hB))
 have HS0:Hid (∀ k,(k=pb\/k=mb)->MapAt w0 k):=fun k hk=>by
  rcases hk with rfl|rfl
  · exact HT0.out.1.isMap
  · exact HT0.out.2.1.isMap
 have HCC:=qz (fun h'=>HR0.out.cells h')
 have hqm:=hr.1
 have hmc:=hr.2.1
 have hcm:=hr.2.2.1
 unfold maxLen at hcm
 have HW:=qz hw
 have HB0:=qz hb0
 have HW0:=qz hw0
 clear h hr hw hb0 hw0
 go_enter Tryz.func65,Tryz.ntmps65
 go_wp2_with fail
 rw [<- HW0.out]
 go_loopw [13] (fun i wr=>∃ k:Nat,k<=m/\i=.int .i64 k/\Hid (TrafIn wr pb mb (n+k) (oth++[q.take k]))/\Hid (Alt (fun k=>k=pb\/k=mb) w0 wr)) (fun i _=>m-(intOf i).toNat)
 case atStart =>
  refine ⟨0,Nat.zero_le _,rfl,?_,Alt.refl _ _⟩
  obtain ⟨t1,t2,t3⟩:=HT0.out
  exact ⟨t1.to fun a _=>plF_start a,t2.to fun a _=>mvF_start (Nat.zero_le _) a,t3⟩
 case round =>
  obtain ⟨k,hk,rfl,HT,HA⟩:=hrel
  have c0:=HA.out.keep HS0.out c0
  have c1:=HA.out.keep HS0.out c1
  by_cases hlt:k<m
  · obtain ⟨b,off,rfl,hb,hcs⟩:=HCC.out (by omega)
    have hck:=HA.out.keep HS0.out (hcs k (by omega))
    have hwz:=HW.out.at k (by omega)
    have hwk:wfI (k:Int):=WalkArith.wf_i64 (by omega)
    obtain ⟨w1,hrun1,hP1,hg1,hz1⟩:=HT.out.1.put placeL (a:=((k:Int),q.getD k 0)) (b:=()) (by omega) ⟨hwk,hwz⟩ trivial
    have hrun1:(Instr.mapUpdate 114 (.map (some pb)) (.agg #[.int .i64 (k:Int),.int .i64 (q.getD k 0)]) (.agg #[])).run Tryz.prog wr=.ok () w1:=hrun1
    have hA1:=HA.out.grown hg1 (fun _=>.inl rfl)
    have hM1:=HT.out.2.1.keep (hg1.block mb HT.out.2.1.lt (by intro e;injection e with e;exact HNE.out e.symm))
    have hP1:=hP1.to (g:=plF (oth++[q.take (k+1)])) fun a _=>plF_push (by omega) (by omega) a
    have d0:=hA1.keep HS0.out (by assumption:w0.cell? ⟨w.heap.size,0,none⟩=some (.map (some pb)))
    have d1:=hA1.keep HS0.out (by assumption:w0.cell? ⟨w.heap.size,1,none⟩=some (.map (some mb)))
    by_cases hk0:k=0
    · subst hk0
      have HP1:=qz hP1
      have HM1:=qz (hM1.to (g:=mvF (oth++[q.take 1])) fun a _=>(mvF_start (zL _) a).trans (mvF_start (Nat.zero_le _) a).symm)
      have HA1:=qz hA1
      rw [Nat.add_zero] at hck
      rw [show ((0:Nat):Int)=0 from rfl] at hrun1
      generalize q.getD 0 0=z at hck hrun1
      clear hcs hP1 hM1 hA1 hg1 hwz hwk
      go_wp2_with fail
      go_roundw
      case rel=>exact ⟨1,by omega,by go_num,⟨HP1.out,HM1.out.less (by omega),HNE.out⟩,HA1.out⟩
      case measure=>first|(simp [intOf];done)|(simp [intOf];omega)
    · obtain ⟨j,hj⟩:∃ j,k=j+1:=⟨k-1,by omega⟩
      have HM1:Hid (∀ V,V.heap[mb]?=wr.heap[mb]?->KIn stepM V mb (n+k) (mvF (oth++[q.take k]))):=fun V hV=>HT.out.2.1.keep hV
      have hckp:=hA1.keep HS0.out (hcs j (by omega))
      have hck1:=hA1.keep HS0.out (hcs k (by omega))
      have hwy:=HW.out.at j (by omega)
      have hwj:wfI (j:Int):=WalkArith.wf_i64 (by omega)
      obtain ⟨w2,hrun2,hM2,hg2,hz2⟩:=KIn.put (w:=w1.drew) (hM1.keep rfl) stepL (a:=((j:Int),q.getD j 0,q.getD k 0)) (b:=()) (by omega) ⟨hwj,hwy,hwz⟩ trivial
      have hrun2:(Instr.mapUpdate 115 (.map (some mb)) (.agg #[.int .i64 (j:Int),.int .i64 (q.getD j 0),.int .i64 (q.getD k 0)]) (.agg #[])).run Tryz.prog w1.drew=.ok () w2:=hrun2
      have HA2:=qz (hA1.drew.grown hg2 (fun _=>.inr rfl))
      have HP2:=qz (KIn.keep (w:=w1.drew) (hP1.keep rfl) (hg2.block pb (show pb<w1.drew.heap.size from hP1.lt) (by intro e;injection e with e;exact HNE.out e)))
      have HM2:=qz (hM2.to (g:=mvF (oth++[q.take (k+1)])) fun a _=>by subst hj;exact mvF_push (by omega) (by omega) a)
      have ew:IntKind.i64.wrap ((k:Int)-1)=(j:Int):=by simp only [IntKind.wrap_i64];omega
      have hj0:0<k:=by omega
      have hj1:j<m:=by omega
      have hj2:j<m:=by omega
      have hj3:(j:Int)<m:=by omega
      have hj4:(0:Int)<=(j:Int):=by omega
      generalize q.getD k 0=z at hck hck1 hrun1 hrun2
      generalize q.getD j 0=y at hckp hrun2
      clear hcs hP1 hM1 hA1 hg1 hwz hwk hwy hwj hM2 hg2 hj hk0 HM1
      go_wp2_with fail
      go_still_tail 12,(by kernel_rfl)
      change wpList _ _ _ _ _ w1.drew
      go_wp2_with fail
      go_roundw
      case rel=>exact ⟨k+1,by omega,by go_num,⟨HP2.out,HM2.out,HNE.out⟩,HA2.out⟩
      case measure=>simp [intOf];omega
  · obtain rfl:k=m:=by omega
    obtain ⟨t1,t2,t3⟩:=HT.out
    have HE:Hid (TrafIn wr pb mb (n+7) (oth++[q])):=⟨(t1.less (by omega)).to fun a _=>plF_end (by omega) a,(t2.less (by omega)).to fun a _=>mvF_end (by omega) a,t3⟩
    have HF:Hid (Alt (fun k=>k=pb\/k=mb) w wr):=(Alt.ofBelow HB0.out).trans HA.out (fun k hk _=>hk)
    clear t1 t2 t3
    go_wp2_with fail
    go_end0
    exact ⟨rfl,HE.out,HF.out⟩
set_option maxHeartbeats 2000000 in
theorem add_gt (w:World)(pb mb n B m c:Nat)(a:Option Addr)(oth:List (List Int))(q:List Int)(h:TrafIn w pb mb n oth)(hr:RowZ .i64 w B a m c q)(hw:WfZ q)(hB:B<=w.heap.size)(hn:n<=1000000)(hm:m<=100000)(hlt:7<m) :
 Calls Tryz.prog 65 #[trV pb mb,.slice a m c] w fun e w'=>e=.returned (.tuple #[])/\TrafIn w' pb mb (n+7) (oth++[q])/\Alt (fun k=>k=pb\/k=mb) w w':=by
 obtain ⟨w0,hw0⟩:∃ w0,w0=w.alloc (.cells #[.map (some pb),.map (some mb)] 117):=⟨_,rfl⟩
 have hb0:Below w.heap.size w w0:=by rw [hw0];exact (zX _ _).alloc (zL _) _
 have hz0:w0.heap.size=w.heap.size+1:=by rw [hw0];simp
 have c0:w0.cell? ⟨w.heap.size,0,none⟩=some (.map (some pb)):=by rw [hw0];simp
 have c1:w0.cell? ⟨w.heap.size,1,none⟩=some (.map (some mb)):=by rw [hw0];simp
 have hpl:=h.1.lt
 have hml:=h.2.1.lt
 have HNE:=qz h.2.2
 have HT0:=qz (h.calls hb0)
 have HR0:=qz (hr.below (hb0.mono hB))
 have HS0:Hid (∀ k,(k=pb\/k=mb)->MapAt w0 k):=fun k hk=>by
  rcases hk with rfl|rfl
  · exact HT0.out.1.isMap
  · exact HT0.out.2.1.isMap
 have HCC:=qz (fun h'=>HR0.out.cells h')
 have hqm:=hr.1
 have hmc:=hr.2.1
 have hcm:=hr.2.2.1
 unfold maxLen at hcm
 have HW:=qz hw
 have HB0:=qz hb0
 have HW0:=qz hw0
 clear h hr hw hb0 hw0
 go_enter Tryz.func65,Tryz.ntmps65
 go_wp2_with fail
 rw [<- HW0.out]
 go_loopw [13] (fun i wr=>∃ k:Nat,k<=7/\i=.int .i64 k/\Hid (TrafIn wr pb mb (n+k) (oth++[q.take k]))/\Hid (Alt (fun k=>k=pb\/k=mb) w0 wr)) (fun i _=>7-(intOf i).toNat)
 case atStart =>
  refine ⟨0,Nat.zero_le _,rfl,?_,Alt.refl _ _⟩
  obtain ⟨t1,t2,t3⟩:=HT0.out
  exact ⟨t1.to fun a _=>plF_start a,t2.to fun a _=>mvF_start (Nat.zero_le _) a,t3⟩
 case round =>
  obtain ⟨k,hk,rfl,HT,HA⟩:=hrel
  have c0:=HA.out.keep HS0.out c0
  have c1:=HA.out.keep HS0.out c1
  by_cases hlt:k<7
  · obtain ⟨b,off,rfl,hb,hcs⟩:=HCC.out (by omega)
    have hck:=HA.out.keep HS0.out (hcs k (by omega))
    have hwz:=HW.out.at k (by omega)
    have hwk:wfI (k:Int):=WalkArith.wf_i64 (by omega)
    obtain ⟨w1,hrun1,hP1,hg1,hz1⟩:=HT.out.1.put placeL (a:=((k:Int),q.getD k 0)) (b:=()) (by omega) ⟨hwk,hwz⟩ trivial
    have hrun1:(Instr.mapUpdate 114 (.map (some pb)) (.agg #[.int .i64 (k:Int),.int .i64 (q.getD k 0)]) (.agg #[])).run Tryz.prog wr=.ok () w1:=hrun1
    have hA1:=HA.out.grown hg1 (fun _=>.inl rfl)
    have hM1:=HT.out.2.1.keep (hg1.block mb HT.out.2.1.lt (by intro e;injection e with e;exact HNE.out e.symm))
    have hP1:=hP1.to (g:=plF (oth++[q.take (k+1)])) fun a _=>plF_push (by omega) (by omega) a
    have d0:=hA1.keep HS0.out (by assumption:w0.cell? ⟨w.heap.size,0,none⟩=some (.map (some pb)))
    have d1:=hA1.keep HS0.out (by assumption:w0.cell? ⟨w.heap.size,1,none⟩=some (.map (some mb)))
    by_cases hk0:k=0
    · subst hk0
      have HP1:=qz hP1
      have HM1:=qz (hM1.to (g:=mvF (oth++[q.take 1])) fun a _=>(mvF_start (zL _) a).trans (mvF_start (Nat.zero_le _) a).symm)
      have HA1:=qz hA1
      rw [Nat.add_zero] at hck
      rw [show ((0:Nat):Int)=0 from rfl] at hrun1
      generalize q.getD 0 0=z at hck hrun1
      clear hcs hP1 hM1 hA1 hg1 hwz hwk
      go_wp2_with fail
      go_roundw
      case rel=>exact ⟨1,by omega,by go_num,⟨HP1.out,HM1.out.less (by omega),HNE.out⟩,HA1.out⟩
      case measure=>first|(simp [intOf];done)|(simp [intOf];omega)
    · obtain ⟨j,hj⟩:∃ j,k=j+1:=⟨k-1,by omega⟩
      have HM1:Hid (∀ V,V.heap[mb]?=wr.heap[mb]?->KIn stepM V mb (n+k) (mvF (oth++[q.take k]))):=fun V hV=>HT.out.2.1.keep hV
      have hckp:=hA1.keep HS0.out (hcs j (by omega))
      have hck1:=hA1.keep HS0.out (hcs k (by omega))
      have hwy:=HW.out.at j (by omega)
      have hwj:wfI (j:Int):=WalkArith.wf_i64 (by omega)
      obtain ⟨w2,hrun2,hM2,hg2,hz2⟩:=KIn.put (w:=w1.drew) (hM1.keep rfl) stepL (a:=((j:Int),q.getD j 0,q.getD k 0)) (b:=()) (by omega) ⟨hwj,hwy,hwz⟩ trivial
      have hrun2:(Instr.mapUpdate 115 (.map (some mb)) (.agg #[.int .i64 (j:Int),.int .i64 (q.getD j 0),.int .i64 (q.getD k 0)]) (.agg #[])).run Tryz.prog w1.drew=.ok () w2:=hrun2
      have HA2:=qz (hA1.drew.grown hg2 (fun _=>.inr rfl))
      have HP2:=qz (KIn.keep (w:=w1.drew) (hP1.keep rfl) (hg2.block pb (show pb<w1.drew.heap.size from hP1.lt) (by intro e;injection e with e;exact HNE.out e)))
      have HM2:=qz (hM2.to (g:=mvF (oth++[q.take (k+1)])) fun a _=>by subst hj;exact mvF_push (by omega) (by omega) a)
      have ew:IntKind.i64.wrap ((k:Int)-1)=(j:Int):=by simp only [IntKind.wrap_i64];omega
      have hj0:0<k:=by omega
      have hj1:j<7:=by omega
      have hj2:j<m:=by omega
      have hj3:(j:Int)<7:=by omega
      have hj4:(0:Int)<=(j:Int):=by omega
      generalize q.getD k 0=z at hck hck1 hrun1 hrun2
      generalize q.getD j 0=y at hckp hrun2
      clear hcs hP1 hM1 hA1 hg1 hwz hwk hwy hwj hM2 hg2 hj hk0 HM1
      go_wp2_with fail
      go_still_tail 12,(by kernel_rfl)
      change wpList _ _ _ _ _ w1.drew
      go_wp2_with fail
      go_roundw
      case rel=>exact ⟨k+1,by omega,by go_num,⟨HP2.out,HM2.out,HNE.out⟩,HA2.out⟩
      case measure=>simp [intOf];omega
  · obtain rfl:k=7:=by omega
    obtain ⟨t1,t2,t3⟩:=HT.out
    have HE:Hid (TrafIn wr pb mb (n+7) (oth++[q])):=⟨(t1.less (by omega)).to fun a _=>plF_end (by omega) a,(t2.less (by omega)).to fun a _=>mvF_end (by omega) a,t3⟩
    have HF:Hid (Alt (fun k=>k=pb\/k=mb) w wr):=(Alt.ofBelow HB0.out).trans HA.out (fun k hk _=>hk)
    clear t1 t2 t3
    go_wp2_with fail
    go_end0
    exact ⟨rfl,HE.out,HF.out⟩
theorem add_any (w:World)(pb mb n B m c:Nat)(a:Option Addr)(oth:List (List Int))(q:List Int)(h:TrafIn w pb mb n oth)(hr:RowZ .i64 w B a m c q)(hw:WfZ q)(hB:B<=w.heap.size)(hn:n<=1000000)(hm:m<=100000) :
 Calls Tryz.prog 65 #[trV pb mb,.slice a m c] w fun e w'=>e=.returned (.tuple #[])/\TrafIn w' pb mb (n+7) (oth++[q])/\Alt (fun k=>k=pb\/k=mb) w w':=by
 by_cases hlt:m<=7
 · exact add_le w pb mb n B m c a oth q h hr hw hB hn hm hlt
 · exact add_gt w pb mb n B m c a oth q h hr hw hB hn hm (by omega)
end Go.Proofs.YtknnnbpgkfaapaaGreat.Vm
