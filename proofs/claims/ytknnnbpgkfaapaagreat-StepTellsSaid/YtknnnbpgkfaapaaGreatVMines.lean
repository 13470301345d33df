import Derived.Test.YtknnnbpgkfaapaaGreatVCopies0
import Derived.Test.YtknnnbpgkfaapaaGreatVLeadMath
import Derived.Test.YtknnnbpgkfaapaaGreatVCellIns
set_option maxRecDepth 100000
set_option linter.unusedSimpArgs false
set_option linter.unusedVariables false
namespace Go.Proofs.YtknnnbpgkfaapaaGreat.Vm
open Go Go.RowKit
structure Mine (w:World)(B b:Nat)(h:Sh)(s:St):Prop where
 o:w.heap[b]?=some (shO h)
 ge:B<=b
 c:CopyIn w B h s
def Spare (w w':World):Prop:=∀ (k:Nat) (cs:Array Value) (t:TypeId) (fr:Nat × Nat),w.heap[k]?=some (Obj.cells cs t fr)->t≠46->t≠48->t≠3->t≠28->w'.heap[k]?=some (Obj.cells cs t fr)
theorem Spare.trans {a b c:World}(h:Spare a b)(h2:Spare b c):Spare a c:=fun k cs t fr hk h3 h4 h5 h6=>h2 k cs t fr (h k cs t fr hk h3 h4 h5 h6) h3 h4 h5 h6
theorem Spare.of_below {w w':World}(h:Below w.heap.size w w'):Spare w w':=fun k cs t fr hk _ _ _ _=>by
 rw [h.block k (Array.getElem?_eq_some_iff.1 hk).1];exact hk
theorem Spare.own {w w':World}(h:Spare w w'){B size n:Nat}{e:TypeId}{v:Value}{xs:List Value}(ho:w.ownsRow B e size v n xs)(h1:e≠46)(h2:e≠48)(h3:e≠3)(h4:e≠28):w'.ownsRow B e size v n xs:=by
 refine ⟨ho.1,?_⟩
 rcases ho.2 with h|⟨g,cap,cur,hv,hb,hg,r⟩
 · exact .inl h
 · exact .inr ⟨g,cap,cur,hv,hb,h g _ _ _ hg h1 h2 h3 h4,r⟩
theorem Spare.grown {w w':World}{B size n m:Nat}{e:TypeId}{v:Value}{xs:List Value}(ho:w.ownsRow B e size v n xs)(hg:w.grownBy w' v.ownBlock)(he:e=46\/e=48\/e=3):Spare w w':=fun k cs t fr hk h1 h2 h3 h4=>by
 rw [hg.block k (Array.getElem?_eq_some_iff.1 hk).1 (fun ek=>?_)]
 · exact hk
 · rcases ho.2 with ⟨rfl,_⟩|⟨g,cap,cur,rfl,hb,hh,_⟩
   · cases ek
   · injection ek with ek
     have ek':k=g:=ek
     subst ek'
     rw [hk] at hh
     injection hh with hh
     injection hh with _ hh
     rcases he with he|he|he
     · exact h1 (hh.trans he)
     · exact h2 (hh.trans he)
     · exact h3 (hh.trans he)
section
variable {w w':World} {B b:Nat} {h:Sh} {s:St}
theorem Mine.lt (m:Mine w B b h s):b<w.heap.size:=(Array.getElem?_eq_some_iff.1 m.o).1
theorem Mine.base (m:Mine w B b h s):B<w.heap.size:=Nat.lt_of_le_of_lt m.ge m.lt
theorem Mine.cell (m:Mine w B b h s)(i:Nat):w.cell? ⟨b,i,none⟩=(#[Value.int .i64 h.t,.slice h.a1 h.n1 h.c1,.slice h.a2 h.n2 h.c2,.slice h.a3 h.n3 h.c3]:Array Value)[i]?:=cell_of_row w b i _ _ (0,0) m.o
theorem Mine.stAt (m:Mine w B b h s):StAt w b h:=⟨m.cell 0,m.cell 1,m.cell 2,m.cell 3⟩
theorem Mine.stIn (m:Mine w B b h s):StIn w w.heap.size h s:=m.c.stIn
theorem Mine.calls (m:Mine w B b h s)(hb:Below w.heap.size w w'):Mine w' B b h s :=
 ⟨(hb.block b m.lt).trans m.o,m.ge,⟨m.c.tick,m.c.rs.calls hb,m.c.ts.calls hb,zbp m.c.bl hb (fun k hk=>(World.ownsRow.lt m.c.bl k hk).2),m.c.n1,m.c.n2,m.c.n3⟩⟩
end
structure Turns (w:World)(B b:Nat)(s:St)(w':World):Prop where
 m:∃ h,Mine w' B b h s
 p:Spare w w'
 k:Below B w w'
theorem Turns.trans {w w1 w2:World}{B b:Nat}{s s':St}(h:Turns w B b s w1)(h2:Turns w1 B b s' w2):Turns w B b s' w2:=⟨h2.m,h.p.trans h2.p,h.k.trans h2.k⟩
structure TurnsH (w:World)(B b:Nat)(h:Sh)(s:St)(w':World):Prop where
 m:Mine w' B b h s
 p:Spare w w'
 k:Below B w w'
theorem TurnsH.t {w w':World}{B b:Nat}{h:Sh}{s:St}(t:TurnsH w B b h s w'):Turns w B b s w':=⟨⟨h,t.m⟩,t.p,t.k⟩
theorem TurnsH.trans {w w1 w2:World}{B b:Nat}{h:Sh}{s s':St}(t:TurnsH w B b h s w1)(t2:TurnsH w1 B b h s' w2):TurnsH w B b h s' w2:=⟨t2.m,t.p.trans t2.p,t.k.trans t2.k⟩
theorem TurnsH.calls {w w':World}{B b:Nat}{h:Sh}{s:St}(m:Mine w B b h s)(hb:Below w.heap.size w w'):TurnsH w B b h s w':=⟨m.calls hb,.of_below hb,hb.mono (Nat.le_of_lt m.base)⟩
theorem TurnsH.drew {w w':World}{B b:Nat}{h:Sh}{s:St}(t:TurnsH w B b h s w'):TurnsH w B b h s w'.drew:=t.trans (.calls t.m (Below.refl _ _).drew)
section
variable {w w1:World} {B b lb i j:Nat} {h:Sh} {s:St}
theorem Mine.setR (m:Mine w B b h s)(ha:h.a1=some ⟨lb,0,none⟩)(hi:i<s.rs.length)(hj:j<5)(x:Int) :
 TurnsH w B b h ⟨s.tick,s.rs.set i (setF (s.rs.getD i zr) j x),s.ts,s.bl⟩ (w.setCell ⟨lb,i*5+j,none⟩ (.int .i64 x)):=by
 obtain ⟨hT,ho1,ho2,ho3,e1,e2,e3⟩:=m.c
 rw [ha] at ho1
 have hg:w.grownBy (w.setCell ⟨lb,i*5+j,none⟩ (.int .i64 x)) (some lb):=zaj w lb _ _
 have hne:=zbb ho1 m.o (by decide)
 have hlb:lb≠b:=fun e=>hne (by rw [e];rfl)
 refine ⟨⟨?_,m.ge,⟨hT,by rw [ha];exact ho1.setF hi hj x,World.ownsRow.kept ho2 hg (zbu ho1 ho2 (by decide)),World.ownsRow.kept ho3 hg (zbu ho1 ho3 (by decide)),by rw [e1];simp,e2,e3⟩⟩,Spare.grown (m:=0) ho1 hg (.inl rfl),?_⟩
 · rw [hg.block b m.lt (fun e=>hlb (by injection e with e;exact e.symm))]
   exact m.o
 · exact (Below.refl _ _).setCell (p:=⟨lb,i*5+j,none⟩) (show B<=lb from (World.ownsRow.lt ho1 lb rfl).1) _
theorem Mine.setT (m:Mine w B b h s)(ha:h.a2=some ⟨lb,0,none⟩)(hi:i<s.ts.length)(hj:j<5)(x:Int) :
 TurnsH w B b h ⟨s.tick,s.rs,s.ts.set i (setF (s.ts.getD i zr) j x),s.bl⟩ (w.setCell ⟨lb,i*5+j,none⟩ (.int .i64 x)):=by
 obtain ⟨hT,ho1,ho2,ho3,e1,e2,e3⟩:=m.c
 rw [ha] at ho2
 have hg:w.grownBy (w.setCell ⟨lb,i*5+j,none⟩ (.int .i64 x)) (some lb):=zaj w lb _ _
 have hne:=zbb ho2 m.o (by decide)
 have hlb:lb≠b:=fun e=>hne (by rw [e];rfl)
 refine ⟨⟨?_,m.ge,⟨hT,World.ownsRow.kept ho1 hg (zbu ho2 ho1 (by decide)),by rw [ha];exact ho2.setF hi hj x,World.ownsRow.kept ho3 hg (zbu ho2 ho3 (by decide)),e1,by rw [e2];simp,e3⟩⟩,Spare.grown (m:=0) ho2 hg (.inr (.inl rfl)),?_⟩
 · rw [hg.block b m.lt (fun e=>hlb (by injection e with e;exact e.symm))]
   exact m.o
 · exact (Below.refl _ _).setCell (p:=⟨lb,i*5+j,none⟩) (show B<=lb from (World.ownsRow.lt ho2 lb rfl).1) _
theorem own_set_b {w:World}{B b i size n:Nat}{e:TypeId}{v u:Value}{xs:List Value}{cs:Array Value}(ho:w.ownsRow B e size v n xs)(hb:w.heap[b]?=some (.cells cs 28 (0,0)))(he:e≠28):(w.setCell ⟨b,i,none⟩ u).ownsRow B e size v n xs :=
 World.ownsRow.kept ho (zaj w b i u) (.inr (zbb ho hb he))
theorem Mine.putT (m:Mine w B b h s)(hg:w.grownBy w1 (Value.slice h.a2 h.n2 h.c2).ownBlock){a:Option Addr}{n c:Nat}{ts:List Rec}(ho:OwnR w1 B 48 (.slice a n c) ts)(hn:n=ts.length) :
 Turns w B b ⟨s.tick,s.rs,ts,s.bl⟩ (w1.setCell ⟨b,2,none⟩ (.slice a n c)):=by
 obtain ⟨hT,ho1,ho2,ho3,e1,e2,e3⟩:=m.c
 have hob:w1.heap[b]?=some (shO h):=(hg.block b m.lt (zbb ho2 m.o (by decide)).symm).trans m.o
 have k1:=World.ownsRow.kept ho1 hg (zbu ho2 ho1 (by decide))
 have k3:=World.ownsRow.kept ho3 hg (zbu ho2 ho3 (by decide))
 refine ⟨⟨⟨h.t,h.a1,h.n1,h.c1,a,n,c,h.a3,h.n3,h.c3⟩,heap_setCell_same w1 b 2 _ _ _ hob,m.ge,⟨hT,own_set_b k1 hob (by decide),own_set_b ho hob (by decide),own_set_b k3 hob (by decide),e1,hn,e3⟩⟩,?_,?_⟩
 · refine (Spare.grown (m:=0) ho2 hg (.inr (.inl rfl))).trans fun k cs t fr hk _ _ _ h4=>?_
   rw [heap_setCell_other _ _ _ _ (fun e=>?_)]
   · exact hk
   · have e:k=b:=e
     subst e
     rw [hob] at hk
     injection hk with hk
     injection hk with _ hk
     exact h4 hk.symm
 · exact ((Below.refl B w).grown hg (Nat.le_of_lt m.base) (fun k hk=>(World.ownsRow.lt ho2 k hk).1)).setCell (p:=⟨b,2,none⟩) m.ge _
theorem Mine.putB (m:Mine w B b h s)(hg:w.grownBy w1 (Value.slice h.a3 h.n3 h.c3).ownBlock){a:Option Addr}{n c:Nat}{bl:List Int}(ho:OwnZ w1 B (.slice a n c) bl)(hn:n=bl.length) :
 Turns w B b ⟨s.tick,s.rs,s.ts,bl⟩ (w1.setCell ⟨b,3,none⟩ (.slice a n c)):=by
 obtain ⟨hT,ho1,ho2,ho3,e1,e2,e3⟩:=m.c
 have hob:w1.heap[b]?=some (shO h):=(hg.block b m.lt (zbb ho3 m.o (by decide)).symm).trans m.o
 have k1:=World.ownsRow.kept ho1 hg (zbu ho3 ho1 (by decide))
 have k2:=World.ownsRow.kept ho2 hg (zbu ho3 ho2 (by decide))
 refine ⟨⟨⟨h.t,h.a1,h.n1,h.c1,h.a2,h.n2,h.c2,a,n,c⟩,heap_setCell_same w1 b 3 _ _ _ hob,m.ge,⟨hT,own_set_b k1 hob (by decide),own_set_b k2 hob (by decide),own_set_b ho hob (by decide),e1,e2,hn⟩⟩,?_,?_⟩
 · refine (Spare.grown (m:=0) ho3 hg (.inr (.inr rfl))).trans fun k cs t fr hk _ _ _ h4=>?_
   rw [heap_setCell_other _ _ _ _ (fun e=>?_)]
   · exact hk
   · have e:k=b:=e
     subst e
     rw [hob] at hk
     injection hk with hk
     injection hk with _ hk
     exact h4 hk.symm
 · exact ((Below.refl B w).grown hg (Nat.le_of_lt m.base) (fun k hk=>(World.ownsRow.lt ho3 k hk).1)).setCell (p:=⟨b,3,none⟩) m.ge _
end
end Go.Proofs.YtknnnbpgkfaapaaGreat.Vm
