import Derived.Test.YtknnnbpgkfaapaaGreatChecked
import Derived.Test.YtknnnbpgkfaapaaGreatVGridMath
import Derived.WalkKit
import Derived.Deep.Draws
import Derived.ProofKit
import Derived.OpenShut
import Derived.Below
import Derived.Lib.Hide
set_option maxRecDepth 100000
set_option linter.unusedSimpArgs false
set_option linter.unusedVariables false
namespace Go.Proofs.YtknnnbpgkfaapaaGreat.Vm
open Go.RowKit
def Row (k:IntKind)(w:World)(B:Nat)(a:Option Addr)(n c:Nat)(zs:List Nat):Prop :=
 zs.length=n/\n<=c/\c<=maxLen /\
 (0<n->∃ b off,a=some ⟨b,off,none⟩/\b<B/\∀ i,i<n->w.cell? ⟨b,off+i,none⟩=some (.int k (zs.getD i 0:Nat)))
section
variable {k:IntKind} {w w':World} {B B':Nat} {a:Option Addr} {n c:Nat} {zs:List Nat}
theorem Row.nil (w:World)(B:Nat):Row k w B none 0 0 []:=⟨rfl,Nat.le_refl _,by simp [maxLen],fun h=>absurd h (by omega)⟩
theorem Row.mono (h:Row k w B a n c zs)(hB:B<=B'):Row k w B' a n c zs :=
 ⟨h.1,h.2.1,h.2.2.1,fun hn=>by
  obtain ⟨b,off,e,hb,hc⟩:=h.2.2.2 hn
  exact ⟨b,off,e,by omega,hc⟩⟩
theorem Row.add (b off i:Nat):(⟨b,off,none⟩:Addr).add i=⟨b,off+i,none⟩:=by simp [Addr.add_lit]
end
def IsRow (k:IntKind)(w:World)(a:Option Addr)(len cap:Nat)(zs:List Int):Prop :=
 (a=none/\len=0/\cap=0/\zs=[]) \/
 ∃ x,a=some x/\len<=cap/\cap<=maxLen/\zs.length=cap/\(∀ i,i<zs.length->w.cell? (x.add i)=some (.int k (zs.getD i 0)))/\∀ n∈zs,(Lit.int k n).wf=true
theorem own_slice {w:World}{base:Nat}{e:TypeId}{v:Value}{n:Nat}{xs:List Value}(hw:w.ownsRow base e 1 v n xs):∃ a c,v=.slice a n c:=by
 rcases hw.2 with ⟨rfl,rfl⟩|⟨g,cap,cur,rfl,_⟩
 · exact ⟨_,_,rfl⟩
 · exact ⟨_,_,rfl⟩
end Go.Proofs.YtknnnbpgkfaapaaGreat.Vm
namespace Go.Proofs.YtknnnbpgkfaapaaGreat.Vm
open Go.RowKit
def RowZ (k:IntKind)(w:World)(B:Nat)(a:Option Addr)(n c:Nat)(zs:List Int):Prop :=
 zs.length=n/\n<=c/\c<=maxLen /\
 (0<n->∃ b off,a=some ⟨b,off,none⟩/\b<B/\∀ i,i<n->w.cell? ⟨b,off+i,none⟩=some (.int k (zs.getD i 0)))
section
variable {k:IntKind} {w w':World} {B B':Nat} {a:Option Addr} {n c:Nat} {zs:List Int}
theorem RowZ.keep (h:RowZ k w B a n c zs)(hk:∀ p:Addr,p.block<B->w'.cell? p=w.cell? p):RowZ k w' B a n c zs :=
 ⟨h.1,h.2.1,h.2.2.1,fun hn=>by
  obtain ⟨b,off,e,hb,hc⟩:=h.2.2.2 hn
  exact ⟨b,off,e,hb,fun i hi=>(hk ⟨b,off+i,none⟩ hb).trans (hc i hi)⟩⟩
theorem RowZ.mono (h:RowZ k w B a n c zs)(hB:B<=B'):RowZ k w B' a n c zs :=
 ⟨h.1,h.2.1,h.2.2.1,fun hn=>by
  obtain ⟨b,off,e,hb,hc⟩:=h.2.2.2 hn
  exact ⟨b,off,e,by omega,hc⟩⟩
theorem RowZ.below (h:RowZ k w B a n c zs)(hb:Below B w w'):RowZ k w' B a n c zs:=h.keep fun _ hp=>hb.cell hp
theorem RowZ.cells (h:RowZ k w B a n c zs)(hn:0<n):∃ b off,a=some ⟨b,off,none⟩/\b<B/\∀ i,i<n->w.cell? ⟨b,off+i,none⟩=some (.int k (zs.getD i 0)):=h.2.2.2 hn
theorem RowZ.of_isRow {len cap:Nat}(h:IsRow k w a len cap zs):RowZ k w w.heap.size a len cap (zs.take len):=by
 rcases h with ⟨rfl,rfl,rfl,rfl⟩|⟨x,rfl,hl,hm,hz,hc,_⟩
 · exact ⟨rfl,Nat.le_refl _,by simp [maxLen],fun h=>absurd h (by omega)⟩
 · refine ⟨by simp;omega,hl,hm,fun hn=>?_⟩
   obtain ⟨b,off,rfl,hc'⟩:=ints_at hc (by omega)
   refine ⟨b,off,rfl,by simpa using World.block_lt_of_cell? w ⟨b,off+0,none⟩ (hc' 0 (by omega)),fun i hi=>?_⟩
   rw [hc' i (by omega)]
   simp [List.getD,hi]
end
end Go.Proofs.YtknnnbpgkfaapaaGreat.Vm
namespace Go.Proofs.YtknnnbpgkfaapaaGreat.Vm
open Go.RowKit
def Kept (a w:World):Prop:=Below a.heap.size a w
theorem Kept.refl (a:World):Kept a a:=Below.refl _ a
theorem Kept.drew {a w:World}(h:Kept a w):Kept a w.drew:=Below.drew h
theorem Kept.alloc {a w:World}(h:Kept a w)(o:Obj):Kept a (w.alloc o):=Below.alloc h (Below.size h) o
end Go.Proofs.YtknnnbpgkfaapaaGreat.Vm
namespace Go.Proofs.YtknnnbpgkfaapaaGreat.Vm
theorem zad {a b:Bool}(h:a=b):Ending.returned (.bool a)=.returned (.bool b):=by rw [h]
end Go.Proofs.YtknnnbpgkfaapaaGreat.Vm
namespace Go.Proofs.YtknnnbpgkfaapaaGreat.Vm
open Go Go.RowKit
def But (lb:Nat)(A V:World):Prop:=A.grownBy V (some lb)
theorem But.refl (lb:Nat)(A:World):But lb A A:=⟨rfl,rfl,rfl,Nat.le_refl _,fun _ _ _=>rfl⟩
theorem But.drew {lb:Nat}{A V:World}(h:But lb A V):But lb A V.drew:=⟨h.os,h.tape,h.output,h.size,h.block⟩
theorem But.set {lb o:Nat}{A V:World}(h:But lb A V)(v:Value):But lb A (V.setCell ⟨lb,o,none⟩ v) :=
 ⟨h.os,h.tape,h.output,by simpa [World.setCell] using h.size,fun k hk hne=>(Below.heap_setCell V _ v k (fun e=>hne (by rw [e]))).trans (h.block k hk hne)⟩
theorem But.cell {lb:Nat}{A V:World}(h:But lb A V){p:Addr}(hp:p.block<A.heap.size)(hne:p.block≠lb):V.cell? p=A.cell? p:=World.cell?_of_block (h.block p.block hp (fun e=>hne (by injection e)))
theorem But.trans {lb:Nat}{A V V':World}(h:But lb A V)(h':But lb V V'):But lb A V' :=
 ⟨h'.os.trans h.os,h'.tape.trans h.tape,h'.output.trans h.output,Nat.le_trans h.size h'.size,fun k hk hne=>(h'.block k (Nat.lt_of_lt_of_le hk h.size) hne).trans (h.block k hk hne)⟩
theorem But.calls {lb:Nat}{A V V':World}(h:But lb A V)(h':Below A.heap.size V V'):But lb A V' :=
 ⟨h'.os.trans h.os,h'.tape.trans h.tape,h'.output.trans h.output,Nat.le_trans h.size h'.size,fun k hk hne=>(h'.block k hk).trans (h.block k hk hne)⟩
theorem But.below {lb B:Nat}{A V:World}(h:But lb A V)(hB:B<=lb)(hA:B<=A.heap.size):Below B A V:=⟨h.os,h.tape,h.output,h.size,fun k hk=>h.block k (by omega) (fun e=>by injection e;omega)⟩
end Go.Proofs.YtknnnbpgkfaapaaGreat.Vm
namespace Go.Proofs.YtknnnbpgkfaapaaGreat.Vm
open Go.RowKit
theorem one_cell (w:World)(u:Value)(t:TypeId):∀ j x,[u][j]?=some x->(w.alloc (.cells #[u] t)).cell? ((⟨w.heap.size,0,none⟩:Addr).add j)=some x:=by
 intro j x hj
 match j,hj with
 | 0,hj=>simp at hj;subst hj;simp [Addr.add]
theorem zaf {B:Nat}{a w:World}(h:Below B a w)(n:Nat):Below B a (w.drewN n):=⟨h.os,h.tape,h.output,h.size,h.block⟩
structure Rec where
 a:Int
 b:Int
 c:Int
 d:Int
 e:Int
def zr:Rec:=⟨0,0,0,0,0⟩
theorem Rec.same {x y:Rec}(ha:x.a=y.a)(hb:x.b=y.b)(hc:x.c=y.c)(hd:x.d=y.d)(he:x.e=y.e):x=y:=by
 obtain ⟨_,_,_,_,_⟩:=x
 obtain ⟨_,_,_,_,_⟩:=y
 simp only at ha hb hc hd he
 subst ha hb hc hd he
 rfl
abbrev recV (r:Rec):Value:=.agg #[.int .i64 r.a,.int .i64 r.b,.int .i64 r.c,.int .i64 r.d,.int .i64 r.e]
def recL (r:Rec):List Value:=[.int .i64 r.a,.int .i64 r.b,.int .i64 r.c,.int .i64 r.d,.int .i64 r.e]
def RecAt (w:World)(b o:Nat)(r:Rec):Prop :=
 w.cell? ⟨b,o,none⟩=some (.int .i64 r.a)/\w.cell? ⟨b,o+1,none⟩=some (.int .i64 r.b)/\w.cell? ⟨b,o+2,none⟩=some (.int .i64 r.c) /\
 w.cell? ⟨b,o+3,none⟩=some (.int .i64 r.d)/\w.cell? ⟨b,o+4,none⟩=some (.int .i64 r.e)
theorem RecAt.keep {w w':World}{b o:Nat}{r:Rec}(h:RecAt w b o r)(hk:∀ p:Addr,p.block=b->w'.cell? p=w.cell? p):RecAt w' b o r :=
 ⟨(hk _ rfl).trans h.1,(hk _ rfl).trans h.2.1,(hk _ rfl).trans h.2.2.1,(hk _ rfl).trans h.2.2.2.1,(hk _ rfl).trans h.2.2.2.2⟩
theorem RecAt.below {w w':World}{b o B:Nat}{r:Rec}(h:RecAt w b o r)(hb:Below B w w')(hB:b<B):RecAt w' b o r :=
 h.keep fun p hp=>hb.cell (p:=p) (by omega)
def RowR (w:World)(B:Nat)(a:Option Addr)(n c:Nat)(rs:List Rec):Prop :=
 rs.length=n/\n<=c/\c<=maxLen /\
 (0<n->∃ b off,a=some ⟨b,off,none⟩/\b<B/\∀ i,i<n->RecAt w b (off+i*5) (rs.getD i zr))
section
variable {w w':World} {B B':Nat} {a:Option Addr} {n c:Nat} {rs:List Rec}
theorem RowR.nil (w:World)(B:Nat):RowR w B none 0 0 []:=⟨rfl,Nat.le_refl _,by simp [maxLen],fun h=>absurd h (by omega)⟩
theorem RowR.keep (h:RowR w B a n c rs)(hk:∀ p:Addr,p.block<B->w'.cell? p=w.cell? p):RowR w' B a n c rs :=
 ⟨h.1,h.2.1,h.2.2.1,fun hn=>by
  obtain ⟨b,off,e,hb,hc⟩:=h.2.2.2 hn
  exact ⟨b,off,e,hb,fun i hi=>(hc i hi).keep fun p hp=>hk p (by omega)⟩⟩
theorem RowR.mono (h:RowR w B a n c rs)(hB:B<=B'):RowR w B' a n c rs :=
 ⟨h.1,h.2.1,h.2.2.1,fun hn=>by
  obtain ⟨b,off,e,hb,hc⟩:=h.2.2.2 hn
  exact ⟨b,off,e,by omega,hc⟩⟩
theorem RowR.below (h:RowR w B a n c rs)(hb:Below B w w'):RowR w' B a n c rs:=h.keep fun _ hp=>hb.cell hp
theorem RowR.cells (h:RowR w B a n c rs)(hn:0<n):∃ b off,a=some ⟨b,off,none⟩/\b<B/\∀ i,i<n->RecAt w b (off+i*5) (rs.getD i zr):=h.2.2.2 hn
theorem RowR.len (h:RowR w B a n c rs):n<=maxLen:=Nat.le_trans h.2.1 h.2.2.1
end
end Go.Proofs.YtknnnbpgkfaapaaGreat.Vm
namespace Go.Proofs.YtknnnbpgkfaapaaGreat.Vm
noncomputable def yes (p:Prop):Bool:=@decide p (Classical.propDecidable p)
theorem zby {p:Prop}(h:p):yes p=true:=@decide_eq_true p (Classical.propDecidable p) h
theorem zal {p:Prop}(h:¬ p):yes p=false:=@decide_eq_false p (Classical.propDecidable p) h
theorem yes_iff {p:Prop}:yes p=true ↔ p:=⟨fun h=>@of_decide_eq_true p (Classical.propDecidable p) h,zby⟩
theorem yes_same {p q:Prop}(h:p ↔ q):yes p=yes q:=by rw [propext h]
theorem upto_more {P:Nat->Prop}{k:Nat}(h:∀ j,j<k->P j)(hk:P k):∀ j,j<k+1->P j:=fun j hj=>by
 by_cases e:j=k
 · exact e ▸ hk
 · exact h j (by omega)
structure St where
 tick:Int
 rs:List Rec
 ts:List Rec
 bl:List Int
def zat (ts:List Rec)(id:Int):Int:=if ts.findIdx (fun t=>t.a==id)<ts.length then (ts.findIdx (fun t=>t.a==id):Nat) else -1
theorem findS_at {ts:List Rec}{id:Int}{k:Nat}(hk:k<ts.length)(hb:∀ j,j<k->(ts.getD j zr).a≠id)(h:(ts.getD k zr).a=id):zat ts id=k:=by
 have e:ts.findIdx (fun t=>t.a==id)=k:=by
  refine (List.findIdx_eq hk).2 ⟨?_,fun j hj=>?_⟩
  · simpa [List.getD,hk] using h
  · have:=hb j hj
    simpa [List.getD,show j<ts.length by omega] using this
 unfold zat
 rw [e,if_pos hk]
theorem findS_no {ts:List Rec}{id:Int}(hb:∀ j,j<ts.length->(ts.getD j zr).a≠id):zat ts id=-1:=by
 unfold zat
 rw [if_neg]
 intro h
 have h2:=List.findIdx_getElem (p:=fun t:Rec=>t.a==id) (w:=h)
 have h3:=hb _ h
 simp [List.getD,h] at h3
 simp at h2
 exact h3 h2
theorem zbn (ts:List Rec)(id:Int):(zat ts id=-1/\∀ j,j<ts.length->(ts.getD j zr).a≠id) \/
 ∃ k:Nat,k<ts.length/\zat ts id=k/\(ts.getD k zr).a=id/\∀ j,j<k->(ts.getD j zr).a≠id:=by
 by_cases h:ts.findIdx (fun t=>t.a==id)<ts.length
 · refine .inr ⟨_,h,by unfold zat;rw [if_pos h],?_,fun j hj=>?_⟩
   · have h2:=List.findIdx_getElem (p:=fun t:Rec=>t.a==id) (w:=h)
     simp at h2
     simp [List.getD,h,h2]
   · have h2:=List.not_of_lt_findIdx (p:=fun t:Rec=>t.a==id) hj
     simp at h2
     simp [List.getD,show j<ts.length by omega,h2]
 · refine .inl ⟨by unfold zat;rw [if_neg h],fun j hj e=>?_⟩
   apply h
   exact List.findIdx_lt_length_of_exists ⟨ts[j]'hj,List.getElem_mem _,by simpa [List.getD,hj] using e⟩
def RestP (fl:Int->Bool)(rs:List Rec)(i:Nat):Prop :=
 fl (rs.getD i zr).a=true/\(∀ k,k<i->(rs.getD k zr).a≠(rs.getD i zr).a)/\(0<=(rs.getD i zr).d/\(rs.getD i zr).d<=1000)/\(0<=(rs.getD i zr).e/\(rs.getD i zr).e<=1000)
def OwnP (ts:List Rec)(id:Int)(i:Nat)(st:Int):Prop:=∃ k:Nat,k<ts.length/\zat ts id=k/\(ts.getD k zr).d=st/\(ts.getD k zr).e=i
def ModeP (ts:List Rec)(r:Rec)(i:Nat):Prop :=
 (r.b=0\/r.b=3)/\r.c=0\/r.b=1/\OwnP ts r.c i 2\/r.b=2/\OwnP ts r.c i 3\/r.b=4/\(r.c=0\/OwnP ts r.c i 3)
def JobP (fl:Int->Bool)(ts:List Rec)(i:Nat):Prop :=
 (1<=(ts.getD i zr).a/\(ts.getD i zr).a<=2147483647)/\(∀ k,k<i->(ts.getD k zr).a≠(ts.getD i zr).a)/\(ts.getD i zr).b≠(ts.getD i zr).c/\fl (ts.getD i zr).b=true/\fl (ts.getD i zr).c=true
def RoleP (rs:List Rec)(t:Rec):Prop :=
 t.d=1/\t.e=-1\/(t.d=2\/t.d=3)/\(0<=t.e/\t.e<rs.length)/\(rs.getD t.e.toNat zr).c=t.a\/t.d=4/\(0<=t.e/\t.e<rs.length)
def ShutP (fl:Int->Bool)(bl:List Int)(i:Nat):Prop:=fl (bl.getD i 0)=true/\(0<i->bl.getD (i-1) 0<bl.getD i 0)
structure RightP (fl:Int->Bool)(s:St):Prop where
 tick:0<=s.tick/\s.tick<=2147483647
 rn:s.rs.length<=1024
 tn:s.ts.length<=1000
 rest:∀ i,i<s.rs.length->RestP fl s.rs i
 job:∀ i,i<s.ts.length->JobP fl s.ts i
 shut:∀ i,i<s.bl.length->ShutP fl s.bl i
 role:∀ i,i<s.ts.length->RoleP s.rs (s.ts.getD i zr)
 mode:∀ i,i<s.rs.length->ModeP s.ts (s.rs.getD i zr) i
def RobP (fl:Int->Bool)(s:St)(i:Nat):Prop:=RestP fl s.rs i/\ModeP s.ts (s.rs.getD i zr) i
def TaskP (fl:Int->Bool)(s:St)(i:Nat):Prop:=JobP fl s.ts i/\RoleP s.rs (s.ts.getD i zr)
theorem rightP_ref {fl:Int->Bool}{s:St}:RightP fl s ↔ (((0<=s.tick/\s.tick<=2147483647)/\s.rs.length<=1024/\s.ts.length<=1000)/\(∀ i,i<s.rs.length->RobP fl s i)/\(∀ i,i<s.ts.length->TaskP fl s i)/\∀ i,i<s.bl.length->ShutP fl s.bl i) :=
 ⟨fun h=>⟨⟨h.tick,h.rn,h.tn⟩,fun i hi=>⟨h.rest i hi,h.mode i hi⟩,fun i hi=>⟨h.job i hi,h.role i hi⟩,h.shut⟩,
  fun ⟨⟨h1,h2,h3⟩,h4,h5,h6⟩=>⟨h1,h2,h3,fun i hi=>(h4 i hi).1,fun i hi=>(h5 i hi).1,h6,fun i hi=>(h5 i hi).2,fun i hi=>(h4 i hi).2⟩⟩
theorem findS_own {ts:List Rec}{i:Nat}(hi:i<ts.length)(h:∀ k,k<i->(ts.getD k zr).a≠(ts.getD i zr).a):zat ts (ts.getD i zr).a=i:=findS_at hi h rfl
theorem findS_own_iff {ts:List Rec}{i:Nat}(hi:i<ts.length):zat ts (ts.getD i zr).a=i ↔ ∀ k,k<i->(ts.getD k zr).a≠(ts.getD i zr).a:=by
 refine ⟨fun h=>?_,findS_own hi⟩
 rcases zbn ts (ts.getD i zr).a with ⟨e,_⟩|⟨k,hk,e,_,hb⟩
 · omega
 · obtain rfl:k=i:=by omega
   exact hb
def scanNew (fl:Int->Bool)(pre:List Int):List Int->Int
 | []=>0
 | c :: r=>if fl c=true then (if c∈pre then 6 else scanNew fl (pre++[c]) r) else 5
def newE (fl:Int->Bool)(cells:List Int):Int:=if 1024<cells.length then 4 else scanNew fl [] cells
def newR (cells:List Int):List Rec:=cells.map fun c=>⟨c,0,0,1000,0⟩
def newS (fl:Int->Bool)(cells:List Int):St:=if newE fl cells=0 then ⟨0,newR cells,[],[]⟩ else ⟨0,[],[],[]⟩
theorem drop_getD {cells:List Int}{k:Nat}(hk:k<cells.length):cells.drop k=cells.getD k 0 :: cells.drop (k+1):=by
 rw [List.drop_eq_getElem_cons hk]
 simp [List.getD,hk]
theorem take_getD {cells:List Int}{k:Nat}(hk:k<cells.length):cells.take (k+1)=cells.take k++[cells.getD k 0]:=by
 rw [List.take_add_one]
 simp [List.getD,hk]
theorem scan_step {fl:Int->Bool}{cells:List Int}{k:Nat}(hk:k<cells.length)(hf:fl (cells.getD k 0)=true)(hn:cells.getD k 0 ∉ cells.take k) :
 scanNew fl (cells.take k) (cells.drop k)=scanNew fl (cells.take (k+1)) (cells.drop (k+1)):=by
 rw [drop_getD hk,scanNew,if_pos hf,if_neg hn,take_getD hk]
theorem scan_5 {fl:Int->Bool}{cells:List Int}{k:Nat}(hk:k<cells.length)(hf:fl (cells.getD k 0)=false):scanNew fl (cells.take k) (cells.drop k)=5:=by
 rw [drop_getD hk,scanNew,if_neg (by rw [hf];simp)]
theorem scan_6 {fl:Int->Bool}{cells:List Int}{k:Nat}(hk:k<cells.length)(hf:fl (cells.getD k 0)=true)(hn:cells.getD k 0∈cells.take k):scanNew fl (cells.take k) (cells.drop k)=6:=by
 rw [drop_getD hk,scanNew,if_pos hf,if_pos hn]
end Go.Proofs.YtknnnbpgkfaapaaGreat.Vm
namespace Go.Proofs.YtknnnbpgkfaapaaGreat.Vm
open Go Go.RowKit
structure Inp where
 k:Int
 a:Int
 b:Int
 c:Int
abbrev inpV (x:Inp):Value:=.agg #[.int .i64 x.k,.int .i64 x.a,.int .i64 x.b,.int .i64 x.c]
abbrev inpO (x:Inp)(t:TypeId):Obj:=.cells #[.int .i64 x.k,.int .i64 x.a,.int .i64 x.b,.int .i64 x.c] t
noncomputable def codeO (fl:Int->Bool)(s:St)(x:Inp):Int :=
 if ¬ (1<=x.a/\x.a<=2147483647)\/x.b=x.c then 1 else if fl x.b=false\/fl x.c=false then 5 else if 0<=zat s.ts x.a then 6 else if 1000<=s.ts.length then 4 else 0
def IsR (s:St)(a:Int):Prop:=0<=a/\a<s.rs.length
noncomputable def codeF (s:St)(x:Inp):Int:=@ite _ (¬ IsR s x.a) (Classical.propDecidable _) 5 (if (s.rs.getD x.a.toNat zr).b=4 then 10 else 0)
noncomputable def codeR (s:St)(x:Inp):Int:=@ite _ (¬ IsR s x.a) (Classical.propDecidable _) 5 (if (s.rs.getD x.a.toNat zr).b=4 then 0 else 10)
noncomputable def codeH (s:St)(x:Inp):Int:=@ite _ (¬ IsR s x.a) (Classical.propDecidable _) 5 (if 1<=x.b/\x.b<=1000 then 0 else 1)
noncomputable def codeB (fl:Int->Bool)(s:St)(x:Inp):Int:=if fl x.a=false then 5 else if x.a∈s.bl then 6 else 0
noncomputable def codeC (fl:Int->Bool)(s:St)(x:Inp):Int:=if fl x.a=false then 5 else if x.a∈s.bl then 0 else 10
noncomputable def zbx (fl:Int->Bool)(s:St)(x:Inp):Int :=
 if x.k=1 then codeO fl s x else if x.k=2 then codeF s x else if x.k=3 then codeR s x else if x.k=4 then codeH s x else if x.k=5 then codeB fl s x else if x.k=6 then codeC fl s x else 3
def waitT (t:Rec):Rec:=⟨t.a,t.b,t.c,1,-1⟩
def freeT (ts:List Rec)(id:Int):List Rec:=if zat ts id<0 then ts else ts.set (zat ts id).toNat (waitT (ts.getD (zat ts id).toNat zr))
def turnO (s:St)(x:Inp):St:=⟨s.tick,s.rs,s.ts++[⟨x.a,x.b,x.c,1,-1⟩],s.bl⟩
def faultR (r:Rec):Rec:=⟨r.a,4,if r.b=1 then 0 else r.c,r.d,r.e⟩
def turnF (s:St)(x:Inp):St :=
 ⟨s.tick,s.rs.set x.a.toNat (faultR (s.rs.getD x.a.toNat zr)),if (s.rs.getD x.a.toNat zr).b=1 then freeT s.ts (s.rs.getD x.a.toNat zr).c else s.ts,s.bl⟩
def repairR (r:Rec):Rec:=⟨r.a,if r.c=0 then 0 else 2,r.c,r.d,r.e⟩
def turnR (s:St)(x:Inp):St:=⟨s.tick,s.rs.set x.a.toNat (repairR (s.rs.getD x.a.toNat zr)),s.ts,s.bl⟩
def holdR (r:Rec)(n:Int):Rec:=⟨r.a,r.b,r.c,r.d,n⟩
def turnH (s:St)(x:Inp):St:=⟨s.tick,s.rs.set x.a.toNat (holdR (s.rs.getD x.a.toNat zr) x.b),s.ts,s.bl⟩
def lowZ (bl:List Int)(a:Int):Nat:=bl.countP (·<a)
def insZ (bl:List Int)(a:Int):List Int:=bl.take (lowZ bl a)++a :: bl.drop (lowZ bl a)
def delZ (bl:List Int)(a:Int):List Int:=bl.take (lowZ bl a)++bl.drop (lowZ bl a+1)
def turnB (s:St)(x:Inp):St:=⟨s.tick,s.rs,s.ts,insZ s.bl x.a⟩
def turnC (s:St)(x:Inp):St:=⟨s.tick,s.rs,s.ts,delZ s.bl x.a⟩
def turnS (s:St)(x:Inp):St :=
 if x.k=1 then turnO s x else if x.k=2 then turnF s x else if x.k=3 then turnR s x else if x.k=4 then turnH s x else if x.k=5 then turnB s x else turnC s x
noncomputable def zbt (fl:Int->Bool)(s:St)(x:Inp):St:=if zbx fl s x=0 then turnS s x else s
noncomputable def allS (fl:Int->Bool)(s:St):List Inp->St
 | []=>s
 | x :: l=>allS fl (zbt fl s x) l
noncomputable def zbr (fl:Int->Bool)(s:St):List Inp->List Int
 | []=>[]
 | x :: l=>zbx fl s x :: zbr fl (zbt fl s x) l
theorem codeF_no {s:St}{x:Inp}(h:¬ IsR s x.a):codeF s x=5:=by unfold codeF;rw [if_pos h]
theorem codeR_no {s:St}{x:Inp}(h:¬ IsR s x.a):codeR s x=5:=by unfold codeR;rw [if_pos h]
theorem codeH_no {s:St}{x:Inp}(h:¬ IsR s x.a):codeH s x=5:=by unfold codeH;rw [if_pos h]
theorem codeF_yes {s:St}{x:Inp}(h:IsR s x.a):codeF s x=if (s.rs.getD x.a.toNat zr).b=4 then 10 else 0:=by unfold codeF;rw [if_neg (fun n=>n h)]
theorem codeR_yes {s:St}{x:Inp}(h:IsR s x.a):codeR s x=if (s.rs.getD x.a.toNat zr).b=4 then 0 else 10:=by unfold codeR;rw [if_neg (fun n=>n h)]
theorem codeH_yes {s:St}{x:Inp}(h:IsR s x.a):codeH s x=if 1<=x.b/\x.b<=1000 then 0 else 1:=by unfold codeH;rw [if_neg (fun n=>n h)]
def Up (bl:List Int):Prop:=∀ i,i<bl.length->0<i->bl.getD (i-1) 0<bl.getD i 0
theorem Up.lt {bl:List Int}(h:Up bl):∀ (j i:Nat),i<j->j<bl.length->bl.getD i 0<bl.getD j 0:=by
 intro j
 induction j with
 | zero=>intro i hi _;omega
 | succ j ih =>
   intro i hi hj
   have h1:=h (j+1) hj (by omega)
   simp only [Nat.add_sub_cancel] at h1
   by_cases e:i=j
   · subst e;exact h1
   · have:=ih i (by omega) (by omega);omega
theorem up_right {fl:Int->Bool}{s:St}(h:RightP fl s):Up s.bl:=fun i hi h0=>(h.shut i hi).2 h0
theorem Up.pairs {bl:List Int}(h:Up bl):bl.Pairwise (·<·):=by
 rw [List.pairwise_iff_getElem]
 intro i j hi hj hij
 have:=h.lt j i hij hj
 simpa [List.getD,hi,hj] using this
theorem up_of {bl:List Int}(h:bl.Pairwise (·<·)):Up bl:=fun i hi h0=>by
 rw [List.pairwise_iff_getElem] at h
 have:=h (i-1) i (by omega) hi (by omega)
 simpa [List.getD,hi,show i-1<bl.length by omega] using this
theorem low_cons (c:Int)(l:List Int)(a:Int):lowZ (c :: l) a=if c<a then lowZ l a+1 else lowZ l a:=by
 unfold lowZ
 rw [List.countP_cons]
 by_cases h:c<a <;> simp [h]
theorem low_le (bl:List Int)(a:Int):lowZ bl a<=bl.length:=List.countP_le_length
theorem low_none {l:List Int}{a:Int}(h:∀ y∈l,a<=y):lowZ l a=0:=by
 unfold lowZ
 rw [List.countP_eq_zero]
 intro y hy
 have:=h y hy
 simp
 omega
theorem ins_cons_lt {c a:Int}{l:List Int}(h:c<a):insZ (c :: l) a=c :: insZ l a:=by
 unfold insZ
 rw [low_cons,if_pos h]
 rfl
theorem del_cons_lt {c a:Int}{l:List Int}(h:c<a):delZ (c :: l) a=c :: delZ l a:=by
 unfold delZ
 rw [low_cons,if_pos h]
 rfl
theorem ins_cons_ge {c a:Int}{l:List Int}(h:a<c)(hp:∀ y∈l,c<y):insZ (c :: l) a=a :: c :: l:=by
 have h0:lowZ (c :: l) a=0:=low_none fun y hy=>by
  rcases List.mem_cons.1 hy with e|e
  · omega
  · have:=hp y e;omega
 unfold insZ
 rw [h0]
 rfl
theorem del_cons_eq {a:Int}{l:List Int}(hp:∀ y∈l,a<y):delZ (a :: l) a=l:=by
 have h0:lowZ (a :: l) a=0:=low_none fun y hy=>by
  rcases List.mem_cons.1 hy with e|e
  · omega
  · have:=hp y e;omega
 unfold delZ
 rw [h0]
 rfl
theorem mem_ins {a y:Int}(bl:List Int):y∈insZ bl a ↔ y=a\/y∈bl:=by
 have h:=List.take_append_drop (lowZ bl a) bl
 have hm:y∈bl ↔ y∈bl.take (lowZ bl a)\/y∈bl.drop (lowZ bl a):=by rw [<- List.mem_append,h]
 unfold insZ
 rw [List.mem_append,List.mem_cons,hm]
 constructor
 · rintro (h|h|h)
   · exact .inr (.inl h)
   · exact .inl h
   · exact .inr (.inr h)
 · rintro (h|h|h)
   · exact .inr (.inl h)
   · exact .inl h
   · exact .inr (.inr h)
theorem ins_up:∀ {bl:List Int} {a:Int},bl.Pairwise (·<·)->a ∉ bl->(insZ bl a).Pairwise (·<·)
 | [],a,_,_=>by simp [insZ,lowZ]
 | c :: l,a,hp,hn=>by
   obtain ⟨h1,h2⟩:=List.pairwise_cons.1 hp
   have hca:a≠c:=fun e=>hn (by rw [e];exact List.mem_cons_self ..)
   by_cases h:c<a
   · rw [ins_cons_lt h,List.pairwise_cons]
     refine ⟨fun y hy=>?_,ins_up h2 (fun e=>hn (List.mem_cons_of_mem _ e))⟩
     rcases (mem_ins l).1 hy with e|e
     · omega
     · exact h1 y e
   · rw [ins_cons_ge (by omega) h1,List.pairwise_cons]
     refine ⟨fun y hy=>?_,hp⟩
     rcases List.mem_cons.1 hy with e|e
     · omega
     · have:=h1 y e;omega
theorem del_sub (bl:List Int)(a:Int):(delZ bl a).Sublist bl:=by
 unfold delZ
 conv=>rhs;rw [<- List.take_append_drop (lowZ bl a) bl]
 refine List.Sublist.append (List.Sublist.refl _) ?_
 rw [<- List.drop_drop]
 exact List.drop_sublist _ _
theorem del_filter:∀ {bl:List Int} {a:Int},bl.Pairwise (·<·)->a∈bl->delZ bl a=bl.filter (fun y=>decide (y≠a))
 | [],a,_,h=>by simp at h
 | c :: l,a,hp,hm=>by
   obtain ⟨h1,h2⟩:=List.pairwise_cons.1 hp
   by_cases e:c=a
   · subst e
     rw [del_cons_eq h1,List.filter_cons_of_neg (by simp)]
     refine (List.filter_eq_self.2 fun y hy=>?_).symm
     have:=h1 y hy
     simp
     omega
   · have hl:a∈l:=by
      rcases List.mem_cons.1 hm with h|h
      · exact absurd h.symm e
      · exact h
     rw [del_cons_lt (h1 a hl),List.filter_cons_of_pos (by simpa using e),del_filter h2 hl]
theorem low_place {bl:List Int}{a:Int}(hp:bl.Pairwise (·<·))(hm:a∈bl):lowZ bl a<bl.length/\bl.getD (lowZ bl a) 0=a:=by
 induction bl with
 | nil=>simp at hm
 | cons c l ih =>
   obtain ⟨h1,h2⟩:=List.pairwise_cons.1 hp
   by_cases e:c=a
   · subst e
     have h0:lowZ (c :: l) c=0:=low_none fun y hy=>by
      rcases List.mem_cons.1 hy with e|e
      · omega
      · have:=h1 y e;omega
     rw [h0]
     exact ⟨by simp,rfl⟩
   · have hl:a∈l:=by
      rcases List.mem_cons.1 hm with h|h
      · exact absurd h.symm e
      · exact h
     rw [low_cons,if_pos (h1 a hl)]
     obtain ⟨p1,p2⟩:=ih h2 hl
     exact ⟨by simp;omega,by simpa using p2⟩
theorem zba {rs:List Rec}{i:Nat}(hi:i<rs.length)(r:Rec):(rs.set i r).getD i zr=r:=by simp [List.getD,hi]
theorem set_off {rs:List Rec}{i k:Nat}(h:k≠i)(r:Rec):(rs.set i r).getD k zr=rs.getD k zr:=by
 simp [List.getD,List.getElem?_set_ne (Ne.symm h)]
theorem zci {rs:List Rec}{k:Nat}(h:k<rs.length)(r:Rec):(rs++[r]).getD k zr=rs.getD k zr:=by
 simp [List.getD,List.getElem?_append_left h]
theorem getD_app_eq (rs:List Rec)(r:Rec):(rs++[r]).getD rs.length zr=r:=by
 simp [List.getD]
theorem findS_ids {ts ts':List Rec}(hl:ts'.length=ts.length)(h:∀ k,(ts'.getD k zr).a=(ts.getD k zr).a)(id:Int):zat ts' id=zat ts id:=by
 rcases zbn ts id with ⟨e,hn⟩|⟨k,hk,e,ha,hb⟩
 · rw [e]
   exact findS_no fun j hj=>by rw [h];exact hn j (by omega)
 · rw [e]
   exact findS_at (by omega) (fun j hj=>by rw [h];exact hb j hj) (by rw [h];exact ha)
theorem findS_more {ts:List Rec}{t:Rec}{id:Int}(h:0<=zat ts id):zat (ts++[t]) id=zat ts id:=by
 rcases zbn ts id with ⟨e,hn⟩|⟨k,hk,e,ha,hb⟩
 · omega
 · rw [e]
   exact findS_at (by simp;omega) (fun j hj=>by rw [zci (by omega)];exact hb j hj) (by rw [zci hk];exact ha)
theorem turnO_right {fl:Int->Bool}{s:St}{x:Inp}(h:RightP fl s)(hc:codeO fl s x=0):RightP fl (turnO s x):=by
 unfold codeO at hc
 by_cases h1:¬ (1<=x.a/\x.a<=2147483647)\/x.b=x.c
 · rw [if_pos h1] at hc;omega
 rw [if_neg h1] at hc
 by_cases h2:fl x.b=false\/fl x.c=false
 · rw [if_pos h2] at hc;omega
 rw [if_neg h2] at hc
 by_cases h3:0<=zat s.ts x.a
 · rw [if_pos h3] at hc;omega
 rw [if_neg h3] at hc
 by_cases h4:1000<=s.ts.length
 · rw [if_pos h4] at hc;omega
 have hno:∀ j,j<s.ts.length->(s.ts.getD j zr).a≠x.a:=by
  rcases zbn s.ts x.a with ⟨_,hn⟩|⟨k,_,e,_⟩
  · exact hn
  · omega
 have hown:∀ id i st,OwnP s.ts id i st->OwnP (s.ts++[⟨x.a,x.b,x.c,1,-1⟩]) id i st:=fun id i st ⟨k,hk,e,hd,he⟩ =>
  ⟨k,by simp;omega,by rw [findS_more (by omega)];exact e,by rw [zci hk];exact hd,by rw [zci hk];exact he⟩
 refine ⟨h.tick,h.rn,by show (s.ts++[_]).length<=1000;simp;omega,h.rest,fun i hi=>?_,h.shut,fun i hi=>?_,fun i hi=>?_⟩
 · have hi':i<(s.ts++[(⟨x.a,x.b,x.c,1,-1⟩:Rec)]).length:=hi
   rw [List.length_append,List.length_singleton] at hi'
   show JobP fl (s.ts++[⟨x.a,x.b,x.c,1,-1⟩]) i
   by_cases e:i=s.ts.length
   · subst e
     unfold JobP
     rw [getD_app_eq]
     refine ⟨⟨?_,?_⟩,fun k hk=>?_,?_,?_,?_⟩
     · show 1<=x.a;omega
     · show x.a<=2147483647;omega
     · rw [zci hk];exact hno k hk
     · show x.b≠x.c;omega
     · show fl x.b=true
       cases hb:fl x.b
       · exact absurd (.inl hb) h2
       · rfl
     · show fl x.c=true
       cases hb:fl x.c
       · exact absurd (.inr hb) h2
       · rfl
   · have h5:=h.job i (by omega)
     unfold JobP at h5 ⊢
     rw [zci (show i<s.ts.length by omega)]
     exact ⟨h5.1,fun k hk=>by rw [zci (by omega)];exact h5.2.1 k hk,h5.2.2⟩
 · have hi':i<(s.ts++[(⟨x.a,x.b,x.c,1,-1⟩:Rec)]).length:=hi
   rw [List.length_append,List.length_singleton] at hi'
   show RoleP s.rs ((s.ts++[(⟨x.a,x.b,x.c,1,-1⟩:Rec)]).getD i zr)
   by_cases e:i=s.ts.length
   · subst e
     rw [getD_app_eq]
     exact .inl ⟨rfl,rfl⟩
   · rw [zci (show i<s.ts.length by omega)]
     exact h.role i (by omega)
 · show ModeP (s.ts++[⟨x.a,x.b,x.c,1,-1⟩]) (s.rs.getD i zr) i
   have h5:=h.mode i hi
   unfold ModeP at h5 ⊢
   rcases h5 with h5|⟨h5,h6⟩|⟨h5,h6⟩|⟨h5,h6⟩
   · exact .inl h5
   · exact .inr (.inl ⟨h5,hown _ _ _ h6⟩)
   · exact .inr (.inr (.inl ⟨h5,hown _ _ _ h6⟩))
   · exact .inr (.inr (.inr ⟨h5,h6.imp id (hown _ _ _)⟩))
theorem set_right {fl:Int->Bool}{s:St}{i:Nat}{r:Rec}(h:RightP fl s)(hi:i<s.rs.length)(ha:r.a=(s.rs.getD i zr).a)(hc:r.c=(s.rs.getD i zr).c)(hd:r.d=(s.rs.getD i zr).d)(he:0<=r.e/\r.e<=1000)(hm:ModeP s.ts r i) :
 RightP fl ⟨s.tick,s.rs.set i r,s.ts,s.bl⟩:=by
 have hA:∀ k,((s.rs.set i r).getD k zr).a=(s.rs.getD k zr).a:=fun k=>by
  by_cases e:k=i
  · subst e;rw [zba hi,ha]
  · rw [set_off e]
 have hC:∀ k,((s.rs.set i r).getD k zr).c=(s.rs.getD k zr).c:=fun k=>by
  by_cases e:k=i
  · subst e;rw [zba hi,hc]
  · rw [set_off e]
 have hl:(s.rs.set i r).length=s.rs.length:=List.length_set
 refine ⟨h.tick,by show (s.rs.set i r).length<=1024;rw [hl];exact h.rn,h.tn,fun k hk=>?_,h.job,h.shut,fun k hk=>?_,fun k hk=>?_⟩
 · have hk':k<s.rs.length:=by have:k<(s.rs.set i r).length:=hk;omega
   obtain ⟨h1,h2,h3,h4⟩:=h.rest k hk'
   show RestP fl (s.rs.set i r) k
   unfold RestP
   refine ⟨by rw [hA];exact h1,fun m hm=>by rw [hA,hA];exact h2 m hm,?_,?_⟩
   · by_cases e:k=i
     · subst e;rw [zba hi,hd];exact h3
     · rw [set_off e];exact h3
   · by_cases e:k=i
     · subst e;rw [zba hi];exact he
     · rw [set_off e];exact h4
 · have h1:=h.role k hk
   show RoleP (s.rs.set i r) (s.ts.getD k zr)
   unfold RoleP at h1 ⊢
   rw [hl,hC]
   exact h1
 · have hk':k<s.rs.length:=by have:k<(s.rs.set i r).length:=hk;omega
   show ModeP s.ts ((s.rs.set i r).getD k zr) k
   by_cases e:k=i
   · subst e;rw [zba hi];exact hm
   · rw [set_off e];exact h.mode k hk'
theorem isR_nat {s:St}{a:Int}(h:IsR s a):a.toNat<s.rs.length:=by unfold IsR at h;omega
theorem turnR_right {fl:Int->Bool}{s:St}{x:Inp}(h:RightP fl s)(hr:IsR s x.a)(hb:(s.rs.getD x.a.toNat zr).b=4):RightP fl (turnR s x):=by
 have hi:=isR_nat hr
 unfold turnR
 have h4:=(h.rest _ hi).2.2.2
 have hm:=h.mode _ hi
 generalize hrr:s.rs.getD x.a.toNat zr=r at hb h4 hm ⊢
 refine set_right h hi (by rw [hrr];rfl) (by rw [hrr];rfl) (by rw [hrr];rfl) h4 ?_
 unfold ModeP at hm ⊢
 have hm4:r.c=0\/OwnP s.ts r.c x.a.toNat 3:=by
  rcases hm with ⟨h1,_⟩|⟨h1,_⟩|⟨h1,_⟩|⟨_,h1⟩
  · omega
  · omega
  · omega
  · exact h1
 by_cases hc:r.c=0
 · exact .inl ⟨.inl (by show (if r.c=0 then (0:Int) else 2)=0;rw [if_pos hc]),hc⟩
 · refine .inr (.inr (.inl ⟨by show (if r.c=0 then (0:Int) else 2)=2;rw [if_neg hc],?_⟩))
   rcases hm4 with h1|h1
   · exact absurd h1 hc
   · exact h1
theorem turnH_right {fl:Int->Bool}{s:St}{x:Inp}(h:RightP fl s)(hr:IsR s x.a)(hb:1<=x.b/\x.b<=1000):RightP fl (turnH s x):=by
 have hi:=isR_nat hr
 exact set_right h hi rfl rfl rfl ⟨by show 0<=x.b;omega,hb.2⟩ (h.mode _ hi)
theorem OwnP.id_pos {fl:Int->Bool}{s:St}(h:RightP fl s){id:Int}{i:Nat}{st:Int}(ho:OwnP s.ts id i st):1<=id:=by
 obtain ⟨k,hk,e,_⟩:=ho
 rcases zbn s.ts id with ⟨e2,_⟩|⟨m,hm,e2,ha,_⟩
 · omega
 · obtain rfl:k=m:=by omega
   have:=(h.job k hk).1.1
   omega
theorem freeT_len (ts:List Rec)(id:Int):(freeT ts id).length=ts.length:=by
 unfold freeT
 split
 · rfl
 · simp
theorem freeT_at (ts:List Rec)(id:Int)(k:Nat):((freeT ts id).getD k zr).a=(ts.getD k zr).a/\((freeT ts id).getD k zr).b=(ts.getD k zr).b/\((freeT ts id).getD k zr).c=(ts.getD k zr).c:=by
 unfold freeT
 split
 · exact ⟨rfl,rfl,rfl⟩
 · next h =>
   rcases zbn ts id with ⟨e,_⟩|⟨m,hm,e,_,_⟩
   · omega
   · rw [e]
     simp only [Int.toNat_natCast]
     by_cases e2:k=m
     · subst e2;rw [zba hm];exact ⟨rfl,rfl,rfl⟩
     · rw [set_off e2];exact ⟨rfl,rfl,rfl⟩
theorem turnF_right {fl:Int->Bool}{s:St}{x:Inp}(h:RightP fl s)(hr:IsR s x.a)(hb:(s.rs.getD x.a.toNat zr).b≠4):RightP fl (turnF s x):=by
 have hi:=isR_nat hr
 unfold turnF
 have h4:=(h.rest _ hi).2.2.2
 have hm:=h.mode _ hi
 generalize hii:x.a.toNat=i at hi hb h4 hm ⊢
 generalize hrr:s.rs.getD i zr=r at hb h4 hm ⊢
 by_cases h1:r.b=1
 · rw [if_pos h1]
   have hown:OwnP s.ts r.c i 2:=by
    unfold ModeP at hm
    rcases hm with ⟨h2,_⟩|⟨_,h2⟩|⟨h2,_⟩|⟨h2,_⟩
    · omega
    · exact h2
    · omega
    · omega
   have hpos:=hown.id_pos h
   obtain ⟨k,hk,hf,hkd,hke⟩:=hown
   have hka:(s.ts.getD k zr).a=r.c:=by
    rcases zbn s.ts r.c with ⟨e2,_⟩|⟨m,hm2,e2,ha,_⟩
    · omega
    · obtain rfl:k=m:=by omega
      exact ha
   have hfr:freeT s.ts r.c=s.ts.set k (waitT (s.ts.getD k zr)):=by
    unfold freeT
    rw [hf,if_neg (by omega),Int.toNat_natCast]
   have hfa:∀ m,((freeT s.ts r.c).getD m zr).a=(s.ts.getD m zr).a:=fun m=>(freeT_at s.ts r.c m).1
   have hfl:=freeT_len s.ts r.c
   have hfoff:∀ m,m≠k->(freeT s.ts r.c).getD m zr=s.ts.getD m zr:=fun m hm2=>by rw [hfr,set_off hm2]
   have hfat:(freeT s.ts r.c).getD k zr=waitT (s.ts.getD k zr):=by rw [hfr,zba hk]
   have hA:∀ m,((s.rs.set i (faultR r)).getD m zr).a=(s.rs.getD m zr).a:=fun m=>by
    by_cases e:m=i
    · subst e;rw [zba hi,hrr];rfl
    · rw [set_off e]
   have hl:(s.rs.set i (faultR r)).length=s.rs.length:=List.length_set
   have hother:∀ m,m<s.ts.length->m≠k->(s.ts.getD m zr).a≠r.c:=fun m hm2 hne e=>by
    have e1:=findS_own hm2 (h.job m hm2).2.1
    rw [e,hf] at e1
    omega
   refine ⟨h.tick,by show (s.rs.set i (faultR r)).length<=1024;rw [hl];exact h.rn,by show (freeT s.ts r.c).length<=1000;rw [hfl];exact h.tn,fun m hm2=>?_,fun m hm2=>?_,h.shut,fun m hm2=>?_,fun m hm2=>?_⟩
   · have hm':m<s.rs.length:=by have:m<(s.rs.set i (faultR r)).length:=hm2;omega
     obtain ⟨q1,q2,q3,q4⟩:=h.rest m hm'
     show RestP fl (s.rs.set i (faultR r)) m
     unfold RestP
     refine ⟨by rw [hA];exact q1,fun n hn=>by rw [hA,hA];exact q2 n hn,?_,?_⟩
     · by_cases e:m=i
       · subst e;rw [zba hi];rw [hrr] at q3;exact q3
       · rw [set_off e];exact q3
     · by_cases e:m=i
       · subst e;rw [zba hi];exact h4
       · rw [set_off e];exact q4
   · have hm':m<s.ts.length:=by have:m<(freeT s.ts r.c).length:=hm2;omega
     have q:=h.job m hm'
     show JobP fl (freeT s.ts r.c) m
     unfold JobP at q ⊢
     obtain ⟨f1,f2,f3⟩:=freeT_at s.ts r.c m
     rw [f1,f2,f3]
     exact ⟨q.1,fun n hn=>by rw [hfa];exact q.2.1 n hn,q.2.2⟩
   · have hm':m<s.ts.length:=by have:m<(freeT s.ts r.c).length:=hm2;omega
     show RoleP (s.rs.set i (faultR r)) ((freeT s.ts r.c).getD m zr)
     by_cases e:m=k
     · subst e
       rw [hfat]
       exact .inl ⟨rfl,rfl⟩
     · rw [hfoff m e]
       have q:=h.role m hm'
       unfold RoleP at q ⊢
       rw [hl]
       rcases q with q|⟨q1,q2,q3⟩|q
       · exact .inl q
       · refine .inr (.inl ⟨q1,q2,?_⟩)
         by_cases e2:(s.ts.getD m zr).e.toNat=i
         · rw [e2,hrr] at q3
           exact absurd q3.symm (hother m hm' e)
         · rw [set_off e2];exact q3
       · exact .inr (.inr q)
   · have hm':m<s.rs.length:=by have:m<(s.rs.set i (faultR r)).length:=hm2;omega
     show ModeP (freeT s.ts r.c) ((s.rs.set i (faultR r)).getD m zr) m
     by_cases e:m=i
     · subst e
       rw [zba hi]
       exact .inr (.inr (.inr ⟨rfl,.inl (by show (if r.b=1 then (0:Int) else r.c)=0;rw [if_pos h1])⟩))
     · rw [set_off e]
       have q:=h.mode m hm'
       have hown2:∀ id st,OwnP s.ts id m st->OwnP (freeT s.ts r.c) id m st:=fun id st ⟨n,hn,e3,hd3,he3⟩=>by
        have hnk:n≠k:=fun e4=>by subst e4;rw [hke] at he3;omega
        exact ⟨n,by omega,by rw [findS_ids hfl hfa];exact e3,by rw [hfoff n hnk];exact hd3,by rw [hfoff n hnk];exact he3⟩
       unfold ModeP at q ⊢
       rcases q with q|⟨q,q2⟩|⟨q,q2⟩|⟨q,q2⟩
       · exact .inl q
       · exact .inr (.inl ⟨q,hown2 _ _ q2⟩)
       · exact .inr (.inr (.inl ⟨q,hown2 _ _ q2⟩))
       · exact .inr (.inr (.inr ⟨q,q2.imp id (hown2 _ _)⟩))
 · rw [if_neg h1]
   refine set_right h hi (by rw [hrr];rfl) (by rw [hrr];show (if r.b=1 then (0:Int) else r.c)=r.c;rw [if_neg h1]) (by rw [hrr];rfl) h4 ?_
   unfold ModeP at hm ⊢
   refine .inr (.inr (.inr ⟨rfl,?_⟩))
   show (if r.b=1 then (0:Int) else r.c)=0\/OwnP s.ts (if r.b=1 then (0:Int) else r.c) i 3
   rw [if_neg h1]
   rcases hm with ⟨_,h2⟩|⟨h2,_⟩|⟨_,h2⟩|⟨h2,_⟩
   · exact .inl h2
   · omega
   · exact .inr h2
   · omega
theorem mem_getD {bl:List Int}{i:Nat}(hi:i<bl.length):bl.getD i 0∈bl:=by
 simp [List.getD,hi]
theorem bl_right {fl:Int->Bool}{s:St}{bl:List Int}(h:RightP fl s)(hf:∀ y∈bl,fl y=true)(hu:bl.Pairwise (·<·)):RightP fl ⟨s.tick,s.rs,s.ts,bl⟩ :=
 ⟨h.tick,h.rn,h.tn,h.rest,h.job,fun i hi=>⟨hf _ (mem_getD hi),fun h0=>up_of hu i hi h0⟩,h.role,h.mode⟩
theorem floor_bl {fl:Int->Bool}{s:St}(h:RightP fl s){y:Int}(hy:y∈s.bl):fl y=true:=by
 obtain ⟨i,hi,e⟩:=List.mem_iff_getElem.1 hy
 have:=(h.shut i hi).1
 simp [List.getD,hi,e] at this
 exact this
theorem turnB_right {fl:Int->Bool}{s:St}{x:Inp}(h:RightP fl s)(hf:fl x.a=true)(hn:x.a ∉ s.bl):RightP fl (turnB s x) :=
 bl_right h (fun y hy=>by
  rcases (mem_ins s.bl).1 hy with e|e
  · rw [e];exact hf
  · exact floor_bl h e) (ins_up (up_right h).pairs hn)
theorem turnC_right {fl:Int->Bool}{s:St}{x:Inp}(h:RightP fl s):RightP fl (turnC s x) :=
 bl_right h (fun y hy=>floor_bl h ((del_sub s.bl x.a).subset hy)) ((up_right h).pairs.sublist (del_sub s.bl x.a))
theorem codeF_zero {s:St}{x:Inp}(h:codeF s x=0):IsR s x.a/\(s.rs.getD x.a.toNat zr).b≠4:=by
 by_cases hr:IsR s x.a
 · refine ⟨hr,fun e=>?_⟩
   rw [codeF_yes hr,if_pos e] at h
   omega
 · rw [codeF_no hr] at h;omega
theorem codeR_zero {s:St}{x:Inp}(h:codeR s x=0):IsR s x.a/\(s.rs.getD x.a.toNat zr).b=4:=by
 by_cases hr:IsR s x.a
 · refine ⟨hr,?_⟩
   by_cases e:(s.rs.getD x.a.toNat zr).b=4
   · exact e
   · rw [codeR_yes hr,if_neg e] at h;omega
 · rw [codeR_no hr] at h;omega
theorem codeH_zero {s:St}{x:Inp}(h:codeH s x=0):IsR s x.a/\(1<=x.b/\x.b<=1000):=by
 by_cases hr:IsR s x.a
 · refine ⟨hr,?_⟩
   by_cases e:1<=x.b/\x.b<=1000
   · exact e
   · rw [codeH_yes hr,if_neg e] at h;omega
 · rw [codeH_no hr] at h;omega
theorem codeB_zero {fl:Int->Bool}{s:St}{x:Inp}(h:codeB fl s x=0):fl x.a=true/\x.a ∉ s.bl:=by
 unfold codeB at h
 cases hf:fl x.a
 · rw [if_pos hf] at h;omega
 · rw [if_neg (by rw [hf];simp)] at h
   by_cases e:x.a∈s.bl
   · rw [if_pos e] at h;omega
   · exact ⟨rfl,e⟩
theorem codeC_zero {fl:Int->Bool}{s:St}{x:Inp}(h:codeC fl s x=0):x.a∈s.bl:=by
 unfold codeC at h
 cases hf:fl x.a
 · rw [if_pos hf] at h;omega
 · rw [if_neg (by rw [hf];simp)] at h
   by_cases e:x.a∈s.bl
   · exact e
   · rw [if_neg e] at h;omega
theorem turn_right {fl:Int->Bool}{s:St}{x:Inp}(h:RightP fl s)(hc:zbx fl s x=0):RightP fl (turnS s x):=by
 unfold zbx at hc
 unfold turnS
 by_cases h1:x.k=1
 · rw [if_pos h1] at hc ⊢;exact turnO_right h hc
 rw [if_neg h1] at hc ⊢
 by_cases h2:x.k=2
 · rw [if_pos h2] at hc ⊢;exact turnF_right h (codeF_zero hc).1 (codeF_zero hc).2
 rw [if_neg h2] at hc ⊢
 by_cases h3:x.k=3
 · rw [if_pos h3] at hc ⊢;exact turnR_right h (codeR_zero hc).1 (codeR_zero hc).2
 rw [if_neg h3] at hc ⊢
 by_cases h4:x.k=4
 · rw [if_pos h4] at hc ⊢;exact turnH_right h (codeH_zero hc).1 (codeH_zero hc).2
 rw [if_neg h4] at hc ⊢
 by_cases h5:x.k=5
 · rw [if_pos h5] at hc ⊢;exact turnB_right h (codeB_zero hc).1 (codeB_zero hc).2
 rw [if_neg h5] at hc ⊢
 exact turnC_right h
theorem apply_right {fl:Int->Bool}{s:St}{x:Inp}(h:RightP fl s):RightP fl (zbt fl s x):=by
 unfold zbt
 split
 · next hc=>exact turn_right h hc
 · exact h
end Go.Proofs.YtknnnbpgkfaapaaGreat.Vm
namespace Go.Proofs.YtknnnbpgkfaapaaGreat.Vm
open Go Go.RowKit
def zx:Inp:=⟨0,0,0,0⟩
theorem take_x {l:List Inp}{k:Nat}(h:k<l.length):l.take (k+1)=l.take k++[l.getD k zx]:=by
 rw [List.take_succ_eq_append_getElem h]
 simp [List.getD,h]
def RowI (w:World)(B:Nat)(a:Option Addr)(n c:Nat)(l:List Inp):Prop :=
 l.length=n/\n<=c/\c<=maxLen /\
 (0<n->∃ b off,a=some ⟨b,off,none⟩/\b<B/\∀ i,i<n->w.cell? ⟨b,off+i*4,none⟩=some (.int .i64 (l.getD i zx).k)/\w.cell? ⟨b,off+i*4+1,none⟩=some (.int .i64 (l.getD i zx).a)/\w.cell? ⟨b,off+i*4+2,none⟩=some (.int .i64 (l.getD i zx).b)/\w.cell? ⟨b,off+i*4+3,none⟩=some (.int .i64 (l.getD i zx).c))
theorem RowI.below {w w':World}{B n c:Nat}{a:Option Addr}{l:List Inp}(h:RowI w B a n c l)(hb:Below B w w'):RowI w' B a n c l :=
 ⟨h.1,h.2.1,h.2.2.1,fun hn=>by
  obtain ⟨b,off,e,hB,hc⟩:=h.2.2.2 hn
  refine ⟨b,off,e,hB,fun i hi=>?_⟩
  obtain ⟨p1,p2,p3,p4⟩:=hc i hi
  exact ⟨(hb.cell (p:=⟨b,off+i*4,none⟩) hB).trans p1,(hb.cell (p:=⟨b,off+i*4+1,none⟩) hB).trans p2,(hb.cell (p:=⟨b,off+i*4+2,none⟩) hB).trans p3,(hb.cell (p:=⟨b,off+i*4+3,none⟩) hB).trans p4⟩⟩
theorem RowI.mono {w:World}{B B' n c:Nat}{a:Option Addr}{l:List Inp}(h:RowI w B a n c l)(hB:B<=B'):RowI w B' a n c l :=
 ⟨h.1,h.2.1,h.2.2.1,fun hn=>by
  obtain ⟨b,off,e,hb,hc⟩:=h.2.2.2 hn
  exact ⟨b,off,e,by omega,hc⟩⟩
end Go.Proofs.YtknnnbpgkfaapaaGreat.Vm
namespace Go.Proofs.YtknnnbpgkfaapaaGreat.Vm
section
variable (W H:Int) (l:List Nat)
noncomputable def farD (s:St)(j i:Nat):Int:=farG W H l s.bl (s.rs.getD i zr).a (s.ts.getD j zr).b
def FitD (s:St)(j i:Nat):Prop:=(s.rs.getD i zr).b=0/\100<=(s.rs.getD i zr).d/\0<=farD W H l s j i
noncomputable def bestN (s:St)(j:Nat):Nat->Int × Int
 | 0=>(-1,0)
 | i+1=>@ite _ (FitD W H l s j i/\((bestN s j i).1<0\/farD W H l s j i<(bestN s j i).2)) (Classical.propDecidable _) ((i:Int),farD W H l s j i) (bestN s j i)
noncomputable def bestG (s:St)(x:Int):Int:=if 0<=x/\x<(s.ts.length:Int)/\(s.ts.getD x.toNat zr).d=1 then (bestN W H l s x.toNat s.rs.length).1 else -1
end
def giveT (t:Rec)(k:Int):Rec:=⟨t.a,t.b,t.c,2,k⟩
def giveR (r:Rec)(id:Int):Rec:=⟨r.a,1,id,r.d,r.e⟩
def giveS (s:St)(i k:Nat):St:=⟨s.tick,s.rs.set k (giveR (s.rs.getD k zr) (s.ts.getD i zr).a),s.ts.set i (giveT (s.ts.getD i zr) k),s.bl⟩
noncomputable def dispN (W H:Int)(l:List Nat)(s:St):Nat->St × List (Nat × Nat)
 | 0=>(s,[])
 | i+1=>if bestG W H l (dispN W H l s i).1 (i:Int)<0 then dispN W H l s i else
     (giveS (dispN W H l s i).1 i (bestG W H l (dispN W H l s i).1 (i:Int)).toNat,(dispN W H l s i).2++[(i,(bestG W H l (dispN W H l s i).1 (i:Int)).toNat)])
def zbe (r:Rec):Rec:=if r.b=0/\r.d<100 then ⟨r.a,3,r.c,r.d,r.e⟩ else r
def chargeS (s:St):St:=⟨s.tick,s.rs.map zbe,s.ts,s.bl⟩
noncomputable def dispG (W H:Int)(l:List Nat)(s:St):St × List (Nat × Nat):=(chargeS (dispN W H l s s.ts.length).1,(dispN W H l s s.ts.length).2)
section
variable {W H:Int} {l:List Nat} {s s':St}
theorem bestN_yes {j i:Nat}(h:FitD W H l s j i)(h2:(bestN W H l s j i).1<0\/farD W H l s j i<(bestN W H l s j i).2):bestN W H l s j (i+1)=((i:Int),farD W H l s j i):=by
 rw [bestN]
 exact if_pos ⟨h,h2⟩
theorem bestN_no {j i:Nat}(h:¬ (FitD W H l s j i/\((bestN W H l s j i).1<0\/farD W H l s j i<(bestN W H l s j i).2))):bestN W H l s j (i+1)=bestN W H l s j i:=by
 rw [bestN]
 exact if_neg h
theorem bestN_is (j:Nat):∀ m,((bestN W H l s j m).1=-1/\∀ k,k<m->¬ FitD W H l s j k) \/
 ∃ k:Nat,k<m/\bestN W H l s j m=((k:Int),farD W H l s j k)/\FitD W H l s j k/\∀ i,i<m->FitD W H l s j i->farD W H l s j k<farD W H l s j i\/farD W H l s j k=farD W H l s j i/\k<=i
 | 0=>.inl ⟨rfl,fun k hk=>by omega⟩
 | m+1=>by
   rcases bestN_is j m with ⟨h1,h2⟩|⟨k,hk,h1,h2,h3⟩
   · by_cases hf:FitD W H l s j m
     · rw [bestN_yes hf (.inl (by omega))]
       exact .inr ⟨m,by omega,rfl,hf,fun i hi hfi=>by
        by_cases e:i=m
        · subst e;exact .inr ⟨rfl,Nat.le_refl _⟩
        · exact absurd hfi (h2 i (by omega))⟩
     · rw [bestN_no (fun h=>hf h.1)]
       exact .inl ⟨h1,fun k hk=>by
        by_cases e:k=m
        · subst e;exact hf
        · exact h2 k (by omega)⟩
   · by_cases hf:FitD W H l s j m/\farD W H l s j m<farD W H l s j k
     · rw [bestN_yes hf.1 (.inr (by rw [h1];exact hf.2))]
       exact .inr ⟨m,by omega,rfl,hf.1,fun i hi hfi=>by
        by_cases e:i=m
        · subst e;exact .inr ⟨rfl,Nat.le_refl _⟩
        · have:=h3 i (by omega) hfi
          have:=hf.2
          omega⟩
     · rw [bestN_no (fun h=>by
        rw [h1] at h
        rcases h.2 with h4|h4
        · have h4:(k:Int)<0:=h4
          omega
        · exact hf ⟨h.1,h4⟩)]
       exact .inr ⟨k,by omega,h1,h2,fun i hi hfi=>by
        by_cases e:i=m
        · subst e
          have:¬ farD W H l s j i<farD W H l s j k:=fun h=>hf ⟨hfi,h⟩
          omega
        · exact h3 i (by omega) hfi⟩
theorem bestG_is (x:Int):(bestG W H l s x=-1/\(0<=x->x<(s.ts.length:Int)->(s.ts.getD x.toNat zr).d=1->∀ k,k<s.rs.length->¬ FitD W H l s x.toNat k)) \/
 (0<=x/\x<(s.ts.length:Int)/\(s.ts.getD x.toNat zr).d=1/\∃ k:Nat,k<s.rs.length/\bestG W H l s x=k/\FitD W H l s x.toNat k):=by
 unfold bestG
 by_cases h:0<=x/\x<(s.ts.length:Int)/\(s.ts.getD x.toNat zr).d=1
 · rw [if_pos h]
   rcases bestN_is (W:=W) (H:=H) (l:=l) (s:=s) x.toNat s.rs.length with ⟨h1,h2⟩|⟨k,hk,h1,h2,_⟩
   · exact .inl ⟨h1,fun _ _ _=>h2⟩
   · exact .inr ⟨h.1,h.2.1,h.2.2,k,hk,by rw [h1],h2⟩
 · rw [if_neg h]
   exact .inl ⟨rfl,fun h1 h2 h3=>absurd ⟨h1,h2,h3⟩ h⟩
theorem bestG_none {x:Int}(h:(s.ts.getD x.toNat zr).d=1->∀ k,k<s.rs.length->¬ FitD W H l s x.toNat k):bestG W H l s x=-1:=by
 rcases bestG_is (W:=W) (H:=H) (l:=l) (s:=s) x with ⟨h1,_⟩|⟨_,_,h3,k,hk,_,hf⟩
 · exact h1
 · exact absurd hf (h h3 k hk)
theorem give_right {fl:Int->Bool}{i k:Nat}(h:RightP fl s)(hi:i<s.ts.length)(hd:(s.ts.getD i zr).d=1)(hk:k<s.rs.length)(hb:(s.rs.getD k zr).b=0):RightP fl (giveS s i k):=by
 unfold giveS
 have hm:=h.mode k hk
 have hkr:=h.rest k hk
 generalize hr:s.rs.getD k zr=r at hb hm hkr ⊢
 generalize ht:s.ts.getD i zr=t at hd ⊢
 have hA:∀ m,((s.rs.set k (giveR r t.a)).getD m zr).a=(s.rs.getD m zr).a:=fun m=>by
  by_cases e:m=k
  · subst e;rw [zba hk,hr];rfl
  · rw [set_off e]
 have hl:(s.rs.set k (giveR r t.a)).length=s.rs.length:=List.length_set
 have hlt:(s.ts.set i (giveT t k)).length=s.ts.length:=List.length_set
 have hT:∀ m,((s.ts.set i (giveT t k)).getD m zr).a=(s.ts.getD m zr).a/\((s.ts.set i (giveT t k)).getD m zr).b=(s.ts.getD m zr).b/\((s.ts.set i (giveT t k)).getD m zr).c=(s.ts.getD m zr).c:=fun m=>by
  by_cases e:m=i
  · subst e;rw [zba hi,ht];exact ⟨rfl,rfl,rfl⟩
  · rw [set_off e];exact ⟨rfl,rfl,rfl⟩
 have hc:r.c=0:=by
  unfold ModeP at hm
  rcases hm with ⟨_,h2⟩|⟨h2,_⟩|⟨h2,_⟩|⟨h2,_⟩
  · exact h2
  all_goals omega
 have hff:=findS_own hi (h.job i hi).2.1
 rw [ht] at hff
 refine ⟨h.tick,by show (s.rs.set k (giveR r t.a)).length<=1024;rw [hl];exact h.rn,by show (s.ts.set i (giveT t k)).length<=1000;rw [hlt];exact h.tn,fun m hm2=>?_,fun m hm2=>?_,h.shut,fun m hm2=>?_,fun m hm2=>?_⟩
 · have hm':m<s.rs.length:=by have:m<(s.rs.set k (giveR r t.a)).length:=hm2;omega
   obtain ⟨q1,q2,q3,q4⟩:=h.rest m hm'
   show RestP fl (s.rs.set k (giveR r t.a)) m
   unfold RestP
   refine ⟨by rw [hA];exact q1,fun n hn=>by rw [hA,hA];exact q2 n hn,?_,?_⟩
   · by_cases e:m=k
     · subst e;rw [zba hk];rw [hr] at q3;exact q3
     · rw [set_off e];exact q3
   · by_cases e:m=k
     · subst e;rw [zba hk];rw [hr] at q4;exact q4
     · rw [set_off e];exact q4
 · have hm':m<s.ts.length:=by have:m<(s.ts.set i (giveT t k)).length:=hm2;omega
   have q:=h.job m hm'
   show JobP fl (s.ts.set i (giveT t k)) m
   unfold JobP at q ⊢
   obtain ⟨f1,f2,f3⟩:=hT m
   rw [f1,f2,f3]
   exact ⟨q.1,fun n hn=>by rw [(hT n).1];exact q.2.1 n hn,q.2.2⟩
 · have hm':m<s.ts.length:=by have:m<(s.ts.set i (giveT t k)).length:=hm2;omega
   show RoleP (s.rs.set k (giveR r t.a)) ((s.ts.set i (giveT t k)).getD m zr)
   by_cases e:m=i
   · subst e
     rw [zba hi]
     refine .inr (.inl ⟨.inl rfl,⟨by show 0<=(k:Int);omega,by show (k:Int)<((s.rs.set k (giveR r t.a)).length:Int);rw [hl];omega⟩,?_⟩)
     show ((s.rs.set k (giveR r t.a)).getD (k:Int).toNat zr).c=t.a
     rw [Int.toNat_natCast,zba hk]
     rfl
   · rw [set_off e]
     have q:=h.role m hm'
     have hj:=(h.job m hm').1.1
     unfold RoleP at q ⊢
     rw [hl]
     rcases q with q|⟨q1,q2,q3⟩|q
     · exact .inl q
     · refine .inr (.inl ⟨q1,q2,?_⟩)
       by_cases e2:(s.ts.getD m zr).e.toNat=k
       · rw [e2,hr,hc] at q3
         omega
       · rw [set_off e2];exact q3
     · exact .inr (.inr q)
 · have hm':m<s.rs.length:=by have:m<(s.rs.set k (giveR r t.a)).length:=hm2;omega
   show ModeP (s.ts.set i (giveT t k)) ((s.rs.set k (giveR r t.a)).getD m zr) m
   by_cases e:m=k
   · subst e
     rw [zba hk]
     refine .inr (.inl ⟨rfl,i,by rw [hlt];exact hi,?_,by rw [zba hi];rfl,by rw [zba hi];rfl⟩)
     rw [findS_ids hlt (fun n=>(hT n).1)]
     exact hff
   · rw [set_off e]
     have q:=h.mode m hm'
     have hown2:∀ id st,2<=st->OwnP s.ts id m st->OwnP (s.ts.set i (giveT t k)) id m st:=fun id st hst ⟨n,hn,e3,hd3,he3⟩=>by
      have hnk:n≠i:=fun e4=>by subst e4;rw [ht] at hd3;omega
      exact ⟨n,by omega,by rw [findS_ids hlt (fun n=>(hT n).1)];exact e3,by rw [set_off hnk];exact hd3,by rw [set_off hnk];exact he3⟩
     unfold ModeP at q ⊢
     rcases q with q|⟨q,q2⟩|⟨q,q2⟩|⟨q,q2⟩
     · exact .inl q
     · exact .inr (.inl ⟨q,hown2 _ _ (by omega) q2⟩)
     · exact .inr (.inr (.inl ⟨q,hown2 _ _ (by omega) q2⟩))
     · exact .inr (.inr (.inr ⟨q,q2.imp id (hown2 _ _ (by omega))⟩))
theorem chargeR_a (r:Rec):(zbe r).a=r.a/\(zbe r).c=r.c/\(zbe r).d=r.d/\(zbe r).e=r.e:=by
 unfold zbe
 split <;> exact ⟨rfl,rfl,rfl,rfl⟩
theorem charge_at {rs:List Rec}{m:Nat}(h:m<rs.length):(rs.map zbe).getD m zr=zbe (rs.getD m zr):=by simp [List.getD,h]
theorem charge_right {fl:Int->Bool}(h:RightP fl s):RightP fl (chargeS s):=by
 have hl:(s.rs.map zbe).length=s.rs.length:=List.length_map _
 have hA:∀ m,m<s.rs.length->((s.rs.map zbe).getD m zr).a=(s.rs.getD m zr).a:=fun m hm=>by rw [charge_at hm];exact (chargeR_a _).1
 refine ⟨h.tick,by show (s.rs.map zbe).length<=1024;rw [hl];exact h.rn,h.tn,fun m hm2=>?_,h.job,h.shut,fun m hm2=>?_,fun m hm2=>?_⟩
 · have hm':m<s.rs.length:=by have:m<(s.rs.map zbe).length:=hm2;omega
   obtain ⟨q1,q2,q3,q4⟩:=h.rest m hm'
   show RestP fl (s.rs.map zbe) m
   unfold RestP
   obtain ⟨c1,c2,c3,c4⟩:=chargeR_a (s.rs.getD m zr)
   refine ⟨by rw [hA m hm'];exact q1,fun n hn=>by rw [hA m hm',hA n (by omega)];exact q2 n hn,by rw [charge_at hm',c3];exact q3,by rw [charge_at hm',c4];exact q4⟩
 · have q:=h.role m hm2
   show RoleP (s.rs.map zbe) (s.ts.getD m zr)
   unfold RoleP at q ⊢
   rw [hl]
   rcases q with q|⟨q1,q2,q3⟩|q
   · exact .inl q
   · exact .inr (.inl ⟨q1,q2,by rw [charge_at (by omega),(chargeR_a _).2.1];exact q3⟩)
   · exact .inr (.inr q)
 · have hm':m<s.rs.length:=by have:m<(s.rs.map zbe).length:=hm2;omega
   have q:=h.mode m hm'
   show ModeP s.ts ((s.rs.map zbe).getD m zr) m
   rw [charge_at hm']
   unfold zbe
   split
   · next hc =>
     unfold ModeP at q ⊢
     rcases q with ⟨_,q⟩|⟨q,_⟩|⟨q,_⟩|⟨q,_⟩
     · exact .inl ⟨.inr rfl,q⟩
     all_goals omega
   · exact q
structure Disp (W H:Int)(l:List Nat)(s:St)(i:Nat)(s':St)(ps:List (Nat × Nat)):Prop where
 tick:s'.tick=s.tick
 bl:s'.bl=s.bl
 rl:s'.rs.length=s.rs.length
 tl:s'.ts.length=s.ts.length
 same:∀ k,(s'.rs.getD k zr).a=(s.rs.getD k zr).a/\(s'.rs.getD k zr).d=(s.rs.getD k zr).d/\(s'.rs.getD k zr).e=(s.rs.getD k zr).e
 idle:∀ k,(s'.rs.getD k zr).b=0->s'.rs.getD k zr=s.rs.getD k zr
 off:∀ k,k ∉ ps.map Prod.snd->s'.rs.getD k zr=s.rs.getD k zr
 on:∀ p∈ps,p.1<i/\p.2<s.rs.length/\(s.rs.getD p.2 zr).b=0/\100<=(s.rs.getD p.2 zr).d/\(s'.rs.getD p.2 zr).b=1
 one:(ps.map Prod.snd).Nodup
 from_:∀ j,(s'.ts.getD j zr).b=(s.ts.getD j zr).b
 later:∀ j,i<=j->s'.ts.getD j zr=s.ts.getD j zr
 done:∀ j,j<i->(s'.ts.getD j zr).d=1->∀ k,k<s.rs.length->¬ FitD W H l s' j k
theorem Disp.zero:Disp W H l s 0 s []:=⟨rfl,rfl,rfl,rfl,fun _=>⟨rfl,rfl,rfl⟩,fun _ _=>rfl,fun _ _=>rfl,fun p hp=>(by cases hp),by simp,fun _=>rfl,fun _ _=>rfl,fun j hj=>by omega⟩
theorem Disp.skip {i:Nat}{ps:List (Nat × Nat)}(h:Disp W H l s i s' ps)(hi:i<s.ts.length)(hb:bestG W H l s' (i:Int)<0):Disp W H l s (i+1) s' ps :=
 { h with
   on:=fun p hp=>by obtain ⟨h1,h2⟩:=h.on p hp;exact ⟨by omega,h2⟩
   later:=fun j hj=>h.later j (by omega)
   done:=fun j hj hd k hk=>by
    by_cases e:j=i
    · subst e
      rcases bestG_is (W:=W) (H:=H) (l:=l) (s:=s') (j:Int) with ⟨_,h2⟩|⟨_,_,_,k',_,h3,_⟩
      · have:=h2 (by omega) (by rw [h.tl];omega) (by rw [Int.toNat_natCast];exact hd) k (by rw [h.rl];exact hk)
        rwa [Int.toNat_natCast] at this
      · omega
    · exact h.done j (by omega) hd k hk }
theorem Disp.give {i k:Nat}{ps:List (Nat × Nat)}(h:Disp W H l s i s' ps)(hi:i<s.ts.length)(hk:k<s.rs.length)(hf:FitD W H l s' i k):Disp W H l s (i+1) (giveS s' i k) (ps++[(i,k)]):=by
 have hk':k<s'.rs.length:=by rw [h.rl];exact hk
 have hi':i<s'.ts.length:=by rw [h.tl];exact hi
 have hid:=h.idle k hf.1
 have hkn:k ∉ ps.map Prod.snd:=fun hm=>by
  obtain ⟨p,hp,e⟩:=List.mem_map.1 hm
  have:=(h.on p hp).2.2.2.2
  rw [e,hf.1] at this
  omega
 have hR:∀ m,m≠k->(giveS s' i k).rs.getD m zr=s'.rs.getD m zr:=fun m hm=>set_off hm _
 have hRk:(giveS s' i k).rs.getD k zr=giveR (s'.rs.getD k zr) (s'.ts.getD i zr).a:=zba hk' _
 have hT:∀ m,m≠i->(giveS s' i k).ts.getD m zr=s'.ts.getD m zr:=fun m hm=>set_off hm _
 have hTi:(giveS s' i k).ts.getD i zr=giveT (s'.ts.getD i zr) k:=zba hi' _
 refine ⟨h.tick,h.bl,by show (s'.rs.set _ _).length=_;rw [List.length_set];exact h.rl,by show (s'.ts.set _ _).length=_;rw [List.length_set];exact h.tl,fun m=>?_,fun m hm=>?_,fun m hm=>?_,fun p hp=>?_,?_,fun m=>?_,fun m hm=>?_,fun j hj hd m hm hfm=>?_⟩
 · by_cases e:m=k
   · subst e;rw [hRk];exact h.same m
   · rw [hR m e];exact h.same m
 · by_cases e:m=k
   · subst e
     rw [hRk] at hm
     exact absurd (show (1:Int)=0 from hm) (by omega)
   · rw [hR m e] at hm ⊢
     exact h.idle m hm
 · rw [List.map_append,List.mem_append] at hm
   have h1:m≠k:=fun e=>hm (.inr (by simp [e]))
   rw [hR m h1]
   exact h.off m (fun h2=>hm (.inl h2))
 · rcases List.mem_append.1 hp with hp|hp
   · obtain ⟨h1,h2,h3,h4,h5⟩:=h.on p hp
     refine ⟨by omega,h2,h3,h4,?_⟩
     have e:p.2≠k:=fun e=>hkn (List.mem_map.2 ⟨p,hp,e⟩)
     rw [hR _ e]
     exact h5
   · obtain rfl:=List.mem_singleton.1 hp
     refine ⟨by show i<i+1;omega,hk,?_,?_,?_⟩
     · show (s.rs.getD k zr).b=0
       rw [<- hid];exact hf.1
     · show 100<=(s.rs.getD k zr).d
       rw [<- hid];exact hf.2.1
     · show ((giveS s' i k).rs.getD k zr).b=1
       rw [hRk];rfl
 · rw [List.map_append]
   refine List.nodup_append.2 ⟨h.one,by simp,fun a ha b hb e=>?_⟩
   have:b=k:=by simpa using hb
   exact hkn (by rw [<- this,<- e];exact ha)
 · by_cases e:m=i
   · subst e;rw [hTi];exact h.from_ m
   · rw [hT m e];exact h.from_ m
 · rw [hT m (by omega)]
   exact h.later m (by omega)
 · have hji:j≠i:=fun e=>by
    subst e
    rw [hTi] at hd
    exact absurd (show (2:Int)=1 from hd) (by omega)
   rw [hT j hji] at hd
   obtain ⟨f1,f2,f3⟩:=hfm
   by_cases e:m=k
   · subst e
     rw [hRk] at f1
     exact absurd (show (1:Int)=0 from f1) (by omega)
   · rw [hR m e] at f1 f2
     unfold farD at f3
     rw [hR m e,hT j hji] at f3
     exact h.done j (by omega) hd m hm ⟨f1,f2,f3⟩
theorem dispN_is {fl:Int->Bool}(hr:RightP fl s):∀ i,i<=s.ts.length->RightP fl (dispN W H l s i).1/\Disp W H l s i (dispN W H l s i).1 (dispN W H l s i).2
 | 0,_=>⟨hr,.zero⟩
 | i+1,hi=>by
   obtain ⟨h1,h2⟩:=dispN_is hr i (by omega)
   rw [dispN]
   by_cases hb:bestG W H l (dispN W H l s i).1 (i:Int)<0
   · rw [if_pos hb]
     exact ⟨h1,h2.skip (by omega) hb⟩
   · rw [if_neg hb]
     rcases bestG_is (W:=W) (H:=H) (l:=l) (s:=(dispN W H l s i).1) (i:Int) with ⟨h3,_⟩|⟨_,_,h3,k,hk,h4,hf⟩
     · omega
     · rw [h4]
       rw [Int.toNat_natCast] at h3 hf
       rw [Int.toNat_natCast]
       exact ⟨give_right h1 (by rw [h2.tl];omega) h3 hk hf.1,h2.give (by omega) (by rw [<- h2.rl];exact hk) hf⟩
structure Dispd (W H:Int)(l:List Nat)(fl:Int->Bool)(s a:St)(ps:List (Nat × Nat)):Prop where
 right:RightP fl a
 rl:a.rs.length=s.rs.length
 tl:a.ts.length=s.ts.length
 bl:a.bl=s.bl
 cell:∀ k,k<s.rs.length->(a.rs.getD k zr).a=(s.rs.getD k zr).a
 off:∀ k,k<s.rs.length->k ∉ ps.map Prod.snd->a.rs.getD k zr=s.rs.getD k zr\/(s.rs.getD k zr).b=0/\(a.rs.getD k zr).b=3
 on:∀ p∈ps,p.2<s.rs.length/\(s.rs.getD p.2 zr).b=0/\100<=(s.rs.getD p.2 zr).d/\(a.rs.getD p.2 zr).b=1
 one:(ps.map Prod.snd).Nodup
 low:∀ k,k<s.rs.length->(a.rs.getD k zr).b=0->100<=(a.rs.getD k zr).d
 best:∀ x,bestG W H l a x=-1
theorem dispG_is {fl:Int->Bool}(hr:RightP fl s):Dispd W H l fl s (dispG W H l s).1 (dispG W H l s).2:=by
 obtain ⟨h1,h2⟩:=dispN_is (W:=W) (H:=H) (l:=l) hr s.ts.length (Nat.le_refl _)
 unfold dispG
 generalize dispN W H l s s.ts.length=D at h1 h2 ⊢
 obtain ⟨s',ps⟩:=D
 simp only [] at h1 h2 ⊢
 have hat:∀ k,k<s.rs.length->(chargeS s').rs.getD k zr=zbe (s'.rs.getD k zr):=fun k hk=>charge_at (by rw [h2.rl];exact hk)
 refine ⟨charge_right h1,by show (s'.rs.map zbe).length=_;rw [List.length_map];exact h2.rl,h2.tl,h2.bl,fun k hk=>?_,fun k hk hn=>?_,fun p hp=>?_,h2.one,fun k hk hb=>?_,fun x=>?_⟩
 · rw [hat k hk,(chargeR_a _).1];exact (h2.same k).1
 · rw [hat k hk,h2.off k hn]
   unfold zbe
   split
   · next hc=>exact .inr ⟨hc.1,rfl⟩
   · exact .inl rfl
 · obtain ⟨_,q2,q3,q4,q5⟩:=h2.on p hp
   refine ⟨q2,q3,q4,?_⟩
   rw [hat _ q2]
   unfold zbe
   rw [if_neg (by omega)]
   exact q5
 · rw [hat k hk] at hb ⊢
   unfold zbe at hb ⊢
   split at hb
   · exact absurd (show (3:Int)=0 from hb) (by omega)
   · next hc=>rw [if_neg hc];omega
 · refine bestG_none fun hd k hk hf=>?_
   have hk':k<s.rs.length:=by have:k<(s'.rs.map zbe).length:=hk;rw [List.length_map,h2.rl] at this;exact this
   obtain ⟨f1,f2,f3⟩:=hf
   have hck:(chargeS s').rs.getD k zr=s'.rs.getD k zr:=by
    rw [hat k hk'] at f1 ⊢
    unfold zbe at f1 ⊢
    split at f1
    · exact absurd (show (3:Int)=0 from f1) (by omega)
    · next hc=>rw [if_neg hc]
   unfold farD at f3
   rw [hck] at f1 f2 f3
   by_cases hx:x.toNat<s.ts.length
   · exact h2.done _ hx hd k hk' ⟨f1,f2,f3⟩
   · have hz:s'.ts.getD x.toNat zr=zr:=by simp [List.getD,show ¬ x.toNat<s'.ts.length by rw [h2.tl];exact hx]
     have hd:(s'.ts.getD x.toNat zr).d=1:=hd
     rw [hz] at hd
     exact absurd (show (0:Int)=1 from hd) (by omega)
end
end Go.Proofs.YtknnnbpgkfaapaaGreat.Vm
