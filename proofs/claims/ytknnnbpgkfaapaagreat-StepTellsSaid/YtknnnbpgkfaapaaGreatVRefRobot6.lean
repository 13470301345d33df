import Derived.Test.YtknnnbpgkfaapaaGreatQ
import Derived.Test.YtknnnbpgkfaapaaGreatVInTurns
import Derived.Deep.Cut
set_option maxRecDepth 100000
set_option linter.unusedSimpArgs false
set_option linter.unusedVariables false
namespace Go.Proofs.YtknnnbpgkfaapaaGreat.Vm
open Go Go.RowKit
section
variable {w:World} {B b lb rb i:Nat} {h:Sh} {s:St} {u:Value}
def StB (w:World)(b:Nat):Prop:=∃ cs,w.heap[b]?=some (Obj.cells cs 28 (0,0))
def RoB (w:World)(b:Nat):Prop:=∃ cs,w.heap[b]?=some (Obj.cells cs 46 (0,0))
theorem OwnR0.apart {ty t:TypeId}{v:Value}{rs:List Rec}{cs:Array Value}(h:OwnR0 w B ty v rs)(hk:w.heap[b]?=some (Obj.cells cs t (0,0)))(hne:ty≠t):OwnR0 (w.setCell ⟨b,i,none⟩ u) B ty v rs :=
 h.imp (fun h=>World.ownsRow.kept h (zaj w b i u) (.inr (zbb h hk hne))) id
theorem OwnZ0.apart {t:TypeId}{v:Value}{l:List Int}{cs:Array Value}(h:OwnZ0 w B v l)(hk:w.heap[b]?=some (Obj.cells cs t (0,0)))(hne:3≠t):OwnZ0 (w.setCell ⟨b,i,none⟩ u) B v l :=
 h.imp (fun h=>World.ownsRow.kept h (zaj w b i u) (.inr (zbb h hk hne))) id
theorem Copy0.setB (m:Copy0 w B h s)(hb:StB w b):Copy0 (w.setCell ⟨b,i,none⟩ u) B h s/\StB (w.setCell ⟨b,i,none⟩ u) b:=by
 obtain ⟨cs,hb⟩:=hb
 exact ⟨⟨m.tick,m.rs.apart hb (by decide),m.ts.apart hb (by decide),m.bl.apart hb (by decide),m.n1,m.n2,m.n3⟩,_,heap_setCell_same w b i cs _ u hb⟩
theorem Copy0.setB4 (m:Copy0 w B h s)(hb:StB w b)(v0 v1 v2 v3:Value):Copy0 ((((w.setCell ⟨b,0,none⟩ v0).setCell ⟨b,1,none⟩ v1).setCell ⟨b,2,none⟩ v2).setCell ⟨b,3,none⟩ v3) B h s:=by
 obtain ⟨m1,h1⟩:=m.setB (i:=0) (u:=v0) hb
 obtain ⟨m2,h2⟩:=m1.setB (i:=1) (u:=v1) h1
 obtain ⟨m3,h3⟩:=m2.setB (i:=2) (u:=v2) h2
 exact (m3.setB (i:=3) (u:=v3) h3).1
theorem Copy0.setQ (m:Copy0 w B h s)(ha:h.a1=some ⟨lb,0,none⟩)(hne:lb≠rb)(hb:RoB w rb):Copy0 (w.setCell ⟨rb,i,none⟩ u) B h s/\RoB (w.setCell ⟨rb,i,none⟩ u) rb:=by
 obtain ⟨cs,hb⟩:=hb
 refine ⟨⟨m.tick,m.rs.imp (fun h1=>World.ownsRow.kept h1 (zaj w rb i u) (.inr ?_)) id,m.ts.apart hb (by decide),m.bl.apart hb (by decide),m.n1,m.n2,m.n3⟩,_,heap_setCell_same w rb i cs _ u hb⟩
 rw [ha]
 intro e
 injection e with e
 exact hne e
theorem StB.set (hb:StB w b)(hne:b≠lb):StB (w.setCell ⟨lb,i,none⟩ u) b:=by
 obtain ⟨cs,hb⟩:=hb
 exact ⟨cs,(heap_setCell_other w ⟨lb,i,none⟩ b u hne).trans hb⟩
theorem RoB.set (hb:RoB w b)(hne:b≠lb):RoB (w.setCell ⟨lb,i,none⟩ u) b:=by
 obtain ⟨cs,hb⟩:=hb
 exact ⟨cs,(heap_setCell_other w ⟨lb,i,none⟩ b u hne).trans hb⟩
theorem StB.calls {w':World}(hb:StB w b)(h:Below w.heap.size w w'):StB w' b:=by
 obtain ⟨cs,hb⟩:=hb
 exact ⟨cs,(h.block b (Array.getElem?_eq_some_iff.1 hb).1).trans hb⟩
theorem RoB.calls {w':World}(hb:RoB w b)(h:Below w.heap.size w w'):RoB w' b:=by
 obtain ⟨cs,hb⟩:=hb
 exact ⟨cs,(h.block b (Array.getElem?_eq_some_iff.1 hb).1).trans hb⟩
theorem StB.set5 (hb:StB w b)(hne:b≠lb)(v0 v1 v2 v3 v4:Value):StB (((((w.setCell ⟨lb,i*5,none⟩ v0).setCell ⟨lb,i*5+1,none⟩ v1).setCell ⟨lb,i*5+2,none⟩ v2).setCell ⟨lb,i*5+3,none⟩ v3).setCell ⟨lb,i*5+4,none⟩ v4) b :=
 ((((hb.set hne).set hne).set hne).set hne).set hne
end
theorem ssxz_head (w:World)(h h':Sh)(x:Inp) :
 ∃ w4,w4=(((w.alloc (shO h)).alloc (shO h')).alloc (inpO x 44)).alloc (shO ⟨0,none,0,0,none,0,0,none,0,0⟩)/\Below w.heap.size w w4/\w4.heap.size=w.heap.size+4/\StAt w4 w.heap.size h/\StAt w4 (w.heap.size+1) h'/\InpAt w4 (w.heap.size+1+1) x /\
   StAt w4 (w.heap.size+1+1+1) ⟨0,none,0,0,none,0,0,none,0,0⟩/\(∀ i,w4.frozen? ⟨w.heap.size+1+1+1,i,none⟩=false)/\StB w4 (w.heap.size+1+1+1):=by
 obtain ⟨u,hu,h1,z1,g1,s1⟩:=ss_head w h h'
 have h2:Below u.heap.size u (u.alloc (inpO x 44)):=(zX _ _).alloc (zL _) _
 have x2:=inpAt_new u x 44
 have z2:(u.alloc (inpO x 44)).heap.size=w.heap.size+3:=by simp [z1]
 obtain ⟨u2,hu2⟩:∃ u2,u2=u.alloc (inpO x 44):=⟨_,rfl⟩
 rw [<- hu2] at h2 x2 z2
 have h3:Below u2.heap.size u2 (u2.alloc (shO ⟨0,none,0,0,none,0,0,none,0,0⟩)):=(zX _ _).alloc (zL _) _
 have x3:=zbo u2 ⟨0,none,0,0,none,0,0,none,0,0⟩
 have f3:∀ i,(u2.alloc (shO ⟨0,none,0,0,none,0,0,none,0,0⟩)).frozen? ⟨u2.heap.size,i,none⟩=false:=fun i=>by simp
 have b3:StB (u2.alloc (shO ⟨0,none,0,0,none,0,0,none,0,0⟩)) u2.heap.size:=⟨_,heap_alloc_new u2 _⟩
 rw [z1] at x2
 rw [z2] at x3 f3 b3
 have hb2:Below u.heap.size u (u2.alloc (shO ⟨0,none,0,0,none,0,0,none,0,0⟩)):=h2.trans (h3.mono (by omega))
 exact ⟨_,by rw [hu2,hu],h1.trans (hb2.mono (by omega)),by simp [z2],g1.below hb2 (by omega),s1.below hb2 (by omega),x2.below h3 (by omega),x3,f3,b3⟩
def Fine (w:World)(h0:Sh)(s0:St)(B:Nat)(h:Sh)(s:St):Prop:=(h=h0/\s=s0)\/Copy0 w B h s
theorem Fine.set4 {w:World}{B b:Nat}{h0 h:Sh}{s0 s:St}(f:Fine w h0 s0 B h s)(hb:StB w b)(v0 v1 v2 v3:Value):Fine ((((w.setCell ⟨b,0,none⟩ v0).setCell ⟨b,1,none⟩ v1).setCell ⟨b,2,none⟩ v2).setCell ⟨b,3,none⟩ v3) h0 s0 B h s :=
 f.imp id (fun h=>h.setB4 hb v0 v1 v2 v3)
theorem Copy0.mono {w:World}{B B':Nat}{h:Sh}{s:St}(c:Copy0 w B h s)(hB:B'<=B):Copy0 w B' h s:=⟨c.tick,c.rs.mono hB,c.ts.mono hB,c.bl.mono hB,c.n1,c.n2,c.n3⟩
theorem Fine.mono {w:World}{B B':Nat}{h0 h:Sh}{s0 s:St}(f:Fine w h0 s0 B h s)(hB:B'<=B):Fine w h0 s0 B' h s:=f.imp id (fun h=>h.mono hB)
theorem rob_fin {w:World}{h0:Sh}{s0:St}{B b lb i:Nat}{h:Sh}{s:St}(m:Copy0 w B h s)(hb:StB w b)(ha:h.a1=some ⟨lb,0,none⟩)(hi:i<s.rs.length)(hne:b≠lb)(hB:B<=b)(r:Rec)(v0 v1 v2 v3:Value) :
 Fine ((((((((((w.setCell ⟨lb,i*5,none⟩ (.int .i64 r.a)).setCell ⟨lb,i*5+1,none⟩ (.int .i64 r.b)).setCell ⟨lb,i*5+2,none⟩ (.int .i64 r.c)).setCell ⟨lb,i*5+3,none⟩ (.int .i64 r.d)).setCell ⟨lb,i*5+4,none⟩ (.int .i64 r.e)).setCell ⟨b,0,none⟩ v0).setCell ⟨b,1,none⟩ v1).setCell ⟨b,2,none⟩ v2).setCell ⟨b,3,none⟩ v3)) h0 s0 B h ⟨s.tick,s.rs.set i r,s.ts,s.bl⟩ /\
 Below B w ((((((((((w.setCell ⟨lb,i*5,none⟩ (.int .i64 r.a)).setCell ⟨lb,i*5+1,none⟩ (.int .i64 r.b)).setCell ⟨lb,i*5+2,none⟩ (.int .i64 r.c)).setCell ⟨lb,i*5+3,none⟩ (.int .i64 r.d)).setCell ⟨lb,i*5+4,none⟩ (.int .i64 r.e)).setCell ⟨b,0,none⟩ v0).setCell ⟨b,1,none⟩ v1).setCell ⟨b,2,none⟩ v2).setCell ⟨b,3,none⟩ v3)):=by
 obtain ⟨m1,b1⟩:=m.setRec ha hi r
 have h1:=hb.set5 (i:=i) hne (.int .i64 r.a) (.int .i64 r.b) (.int .i64 r.c) (.int .i64 r.d) (.int .i64 r.e)
 exact ⟨.inr (m1.setB4 h1 v0 v1 v2 v3),zah b1 hB v0 v1 v2 v3⟩
theorem fin_alloc {w V:World}{B:Nat}{h0 h:Sh}{s0 s:St}(f:Fine V h0 s0 B h s/\Below B w V)(hB:B<=w.heap.size)(o:Obj):Fine (V.alloc o) h0 s0 B h s/\Below B w (V.alloc o) :=
 ⟨f.1.imp id (fun h=>h.calls ((zX _ _).alloc (zL _) o)),f.2.alloc (Nat.le_trans hB f.2.size) o⟩
set_option maxHeartbeats 4000000 in
theorem rrobot4_any (ho hs:Sh)(s:St)(x:Inp)(B:Nat)(w:World)(hin:StIn w w.heap.size hs s)(hc:Copy0 w B ho s)(hB:B<=w.heap.size)(hk:x.k=4)(hr:IsR s x.a) :
 Calls Tryz.prog 76 #[shV ho,shV hs,inpV x] w fun e w'=>∃ h',e=.returned (.tuple #[shV h',.int .i64 (codeH s x)])/\Fine w' hs s B h' (if codeH s x=0 then turnH s x else s)/\Below B w w':=by
 obtain ⟨w4,hw4,hB4,hz4,ho4,hs4,hx4,hq4,hf4,hb4⟩:=ssxz_head w ho hs x
 obtain ⟨i,hxa,hi⟩:=isR_int hr
 obtain ⟨rb,off,ha,hrb,hcs⟩:=hin.rs.cells (by have:=hin.rs.1;omega)
 have hil:i<hs.n1:=by have:=hin.rs.1;omega
 have hrc:=(hcs i hil).below hB4 hrb
 have hc4:=hc.calls hB4
 obtain ⟨lb,hla,hlB,hlt,hlc,hlf⟩:=(hc.rs.full (by omega)).at (by omega)
 have hlc4:=(hlc i hi).below hB4 hlt
 have hlf4:∀ j,w4.frozen? ⟨lb,j,none⟩=false:=fun j=>(hB4.frozen (p:=⟨lb,j,none⟩) hlt).trans (hlf j)
 have HC4:=qz hc4
 have HW:=qz hw4
 have HB4:=qz hB4
 have HB:=qz hb4
 have HBw:=qz (Nat.le_trans hB hB4.size)
 have HB0:=qz hB
 have HER:∀ v0 v1 v2 v3,Hid (Fine ((((w4.setCell ⟨w.heap.size+1+1+1,0,none⟩ v0).setCell ⟨w.heap.size+1+1+1,1,none⟩ v1).setCell ⟨w.heap.size+1+1+1,2,none⟩ v2).setCell ⟨w.heap.size+1+1+1,3,none⟩ v3) hs s B hs s/\Below B w4 ((((w4.setCell ⟨w.heap.size+1+1+1,0,none⟩ v0).setCell ⟨w.heap.size+1+1+1,1,none⟩ v1).setCell ⟨w.heap.size+1+1+1,2,none⟩ v2).setCell ⟨w.heap.size+1+1+1,3,none⟩ v3)):=fun v0 v1 v2 v3=>⟨.inl ⟨rfl,rfl⟩,zah (zX B w4) (by omega) v0 v1 v2 v3⟩
 have HERR:=HER (.int .i64 hs.t) (.slice hs.a1 hs.n1 hs.c1) (.slice hs.a2 hs.n2 hs.c2) (.slice hs.a3 hs.n3 hs.c3)
 clear HER
 have HBq:Hid (B<=w.heap.size+1+1+1):=by unfold Hid;omega
 have HE:Hid (codeH s x=_):=codeH_yes hr
 have HT:=qz ((show turnH s x=⟨s.tick,s.rs.set i (holdR (s.rs.getD i zr) x.b),s.ts,s.bl⟩ by unfold turnH;rw [hxa,Int.toNat_natCast]))
 have hnm:=hin.rs.len
 unfold maxLen at hnm
 have ho1:i<ho.n1:=by have:=hc.n1;omega
 have hnm2:=hc.rs.row.len
 unfold maxLen at hnm2
 try rw [hxa,Int.toNat_natCast] at HE
 obtain ⟨code,hcode⟩:∃ code,codeH s x=code:=⟨_,rfl⟩
 obtain ⟨aft,haft⟩:∃ aft,turnH s x=aft:=⟨_,rfl⟩
 rw [hcode,haft]
 rw [hcode] at HE
 rw [haft] at HT
 obtain ⟨res,hres⟩:∃ res,(if code=0 then aft else s)=res:=⟨_,rfl⟩
 rw [hres]
 have HR0:Hid (code=0->res=aft):=fun h=>by rw [<- hres,if_pos h]
 have HR1:Hid (code≠0->res=s):=fun h=>by rw [<- hres,if_neg h]
 clear hcode haft hres
 obtain ⟨xk,xa,xb,xc⟩:=x
 obtain ⟨x0,x1,x2,x3⟩:=hx4
 simp only [] at x0 x1 x2 x3 hk hxa HE
 subst hk hxa
 obtain ⟨t,a1,n1,c1,a2,n2,c2,a3,n3,c3⟩:=hs
 obtain ⟨t',b1,m1,d1,b2,m2,d2,b3,m3,d3⟩:=ho
 obtain ⟨s0,s1,s2,s3⟩:=hs4
 obtain ⟨o0,o1,o2,o3⟩:=ho4
 obtain ⟨q0,q1,q2,q3⟩:=hq4
 have f0:=hf4 0
 have f1:=hf4 1
 have f2:=hf4 2
 have f3:=hf4 3
 simp only [] at HERR
 simp only [] at s0 s1 s2 s3 o0 o1 o2 o3 q0 q1 q2 q3 ha hla hil hnm ho1 hnm2
 subst ha hla
 obtain ⟨p0,p1,p2,p3,p4⟩:=hrc
 obtain ⟨l0,l1,l2,l3,l4⟩:=hlc4
 have HI:=qz hi
 obtain ⟨r,hrr⟩:∃ r,s.rs.getD i zr=r:=⟨_,rfl⟩
 have HRR:=qz hrr
 rw [hrr] at p0 p1 p2 p3 p4 l0 l1 l2 l3 l4
 try rw [hrr] at HE
 have e0:=hlf4 (i*5)
 have e1:=hlf4 (i*5+1)
 have e2:=hlf4 (i*5+2)
 have e3:=hlf4 (i*5+3)
 have e4:=hlf4 (i*5+4)
 have hi0:(0:Int)<=(i:Int):=by omega
 have hi1:(i:Int)<(n1:Int):=by omega
 have hi2:(i:Int)<(m1:Int):=by omega
 have hlt4:lb<w4.heap.size:=by omega
 have hrb4:rb<w4.heap.size:=by omega
 have hz0:w.heap.size<w4.heap.size:=by omega
 have hz1:w.heap.size+1<w4.heap.size:=by omega
 have hz2:w.heap.size+1+1<w4.heap.size:=by omega
 have hz3:w.heap.size+1+1+1<w4.heap.size:=by omega
 have hn0:lb≠w.heap.size:=by omega
 have hn1:lb≠w.heap.size+1:=by omega
 have hn3:lb≠w.heap.size+1+1+1:=by omega
 have hn0':w.heap.size≠lb:=by omega
 have hn3':w.heap.size+1+1+1≠lb:=by omega
 have HZ4:=qz hz4
 have HLT:=qz hlt
 clear hz4
 obtain ⟨ra,rb',rc,rd,re⟩:=r
 simp only [] at p0 p1 p2 p3 p4 l0 l1 l2 l3 l4 HE
 clear hin hc hcs hlc hlf hlf4 hc4 hw4 hB4 hb4 hf4 hrr hi hlt hB
 by_cases hb:1<=xb/\xb<=1000
 · have hc0:code=0:=by have:=HE.out;rw [if_pos hb] at this;exact this
   have HRES:Hid (res=⟨s.tick,s.rs.set i ⟨ra,rb',rc,rd,xb⟩,s.ts,s.bl⟩):=by
    unfold Hid
    rw [HR0.out hc0,HT.out,HRR.out]
    rfl
   subst hc0
   obtain ⟨hb1,hb2⟩:=hb
   have hb1':¬ xb<1:=by omega
   have hb2':¬ 1000<xb:=by omega
   clear HE HT HR0 HR1 HRR
   have hF:=rob_fin (h0:=⟨t,some ⟨rb,off,none⟩,n1,c1,a2,n2,c2,a3,n3,c3⟩) (s0:=s) HC4.out HB.out rfl HI.out hn3' HBq.out ⟨ra,rb',rc,rd,xb⟩ (.int .i64 t') (.slice (some ⟨lb,0,none⟩) m1 d1) (.slice b2 m2 d2) (.slice b3 m3 d3)
   try simp only [] at hF
   have HF:=qz hF
   clear hF
   go_enter Tryz.func76,Tryz.ntmps76
   go_upto_region 1 with fail
   rw [<- HW.out]
   go_wp2_with fail
   refine bodyPost_ret (v:=.tuple #[shV ⟨t',some ⟨lb,0,none⟩,m1,d1,b2,m2,d2,b3,m3,d3⟩,.int .i64 0]) (by simp [results,Tryz.results76,go_sem,q0,q1,q2,q3,hz3,hn3,hn3',o0,o1,o2,o3]) rfl ⟨⟨t',some ⟨lb,0,none⟩,m1,d1,b2,m2,d2,b3,m3,d3⟩,by first|rfl|trivial,?_⟩
   rw [HRES.out]
   obtain ⟨z1,z2⟩:=fin_alloc HF.out HBw.out (.cells #[.int .i64 ra,.int .i64 rb',.int .i64 rc,.int .i64 rd,.int .i64 xb] 46)
   exact ⟨z1,(HB4.out.mono HB0.out).trans z2⟩
 · have hc0:code=1:=by have:=HE.out;rw [if_neg hb] at this;exact this
   have HRES:Hid (res=s):=HR1.out (by omega)
   subst hc0
   have hbb:xb<1\/1<=xb/\1000<xb:=by omega
   clear HE HT HR0 HR1 HRR hb
   rcases hbb with hb1|⟨hb1,hb2⟩
   · have hb1':¬ 1<=xb:=by omega
     go_enter Tryz.func76,Tryz.ntmps76
     go_upto_region 1 with fail
     rw [<- HW.out]
     go_wp2_with fail
     refine bodyPost_ret (v:=.tuple #[shV ⟨t,some ⟨rb,off,none⟩,n1,c1,a2,n2,c2,a3,n3,c3⟩,.int .i64 1]) (by simp [results,Tryz.results76,go_sem,q0,q1,q2,q3,hz3,s0,s1,s2,s3]) rfl ⟨⟨t,some ⟨rb,off,none⟩,n1,c1,a2,n2,c2,a3,n3,c3⟩,by first|rfl|trivial,?_⟩
     rw [HRES.out]
     obtain ⟨z1,z2⟩:=fin_alloc HERR.out HBw.out (.cells #[.int .i64 ra,.int .i64 rb',.int .i64 rc,.int .i64 rd,.int .i64 re] 46)
     exact ⟨z1,(HB4.out.mono HB0.out).trans z2⟩
   · have hb1':¬ xb<1:=by omega
     go_enter Tryz.func76,Tryz.ntmps76
     go_upto_region 1 with fail
     rw [<- HW.out]
     go_wp2_with fail
     refine bodyPost_ret (v:=.tuple #[shV ⟨t,some ⟨rb,off,none⟩,n1,c1,a2,n2,c2,a3,n3,c3⟩,.int .i64 1]) (by simp [results,Tryz.results76,go_sem,q0,q1,q2,q3,hz3,s0,s1,s2,s3]) rfl ⟨⟨t,some ⟨rb,off,none⟩,n1,c1,a2,n2,c2,a3,n3,c3⟩,by first|rfl|trivial,?_⟩
     rw [HRES.out]
     obtain ⟨z1,z2⟩:=fin_alloc HERR.out HBw.out (.cells #[.int .i64 ra,.int .i64 rb',.int .i64 rc,.int .i64 rd,.int .i64 re] 46)
     exact ⟨z1,(HB4.out.mono HB0.out).trans z2⟩
set_option maxHeartbeats 4000000 in
theorem rrobot3_any (ho hs:Sh)(s:St)(x:Inp)(B:Nat)(w:World)(hin:StIn w w.heap.size hs s)(hc:Copy0 w B ho s)(hB:B<=w.heap.size)(hk:x.k=3)(hr:IsR s x.a) :
 Calls Tryz.prog 76 #[shV ho,shV hs,inpV x] w fun e w'=>∃ h',e=.returned (.tuple #[shV h',.int .i64 (codeR s x)])/\Fine w' hs s B h' (if codeR s x=0 then turnR s x else s)/\Below B w w':=by
 obtain ⟨w4,hw4,hB4,hz4,ho4,hs4,hx4,hq4,hf4,hb4⟩:=ssxz_head w ho hs x
 obtain ⟨i,hxa,hi⟩:=isR_int hr
 obtain ⟨rb,off,ha,hrb,hcs⟩:=hin.rs.cells (by have:=hin.rs.1;omega)
 have hil:i<hs.n1:=by have:=hin.rs.1;omega
 have hrc:=(hcs i hil).below hB4 hrb
 have hc4:=hc.calls hB4
 obtain ⟨lb,hla,hlB,hlt,hlc,hlf⟩:=(hc.rs.full (by omega)).at (by omega)
 have hlc4:=(hlc i hi).below hB4 hlt
 have hlf4:∀ j,w4.frozen? ⟨lb,j,none⟩=false:=fun j=>(hB4.frozen (p:=⟨lb,j,none⟩) hlt).trans (hlf j)
 have HC4:=qz hc4
 have HW:=qz hw4
 have HB4:=qz hB4
 have HB:=qz hb4
 have HBw:=qz (Nat.le_trans hB hB4.size)
 have HB0:=qz hB
 have HER:∀ v0 v1 v2 v3,Hid (Fine ((((w4.setCell ⟨w.heap.size+1+1+1,0,none⟩ v0).setCell ⟨w.heap.size+1+1+1,1,none⟩ v1).setCell ⟨w.heap.size+1+1+1,2,none⟩ v2).setCell ⟨w.heap.size+1+1+1,3,none⟩ v3) hs s B hs s/\Below B w4 ((((w4.setCell ⟨w.heap.size+1+1+1,0,none⟩ v0).setCell ⟨w.heap.size+1+1+1,1,none⟩ v1).setCell ⟨w.heap.size+1+1+1,2,none⟩ v2).setCell ⟨w.heap.size+1+1+1,3,none⟩ v3)):=fun v0 v1 v2 v3=>⟨.inl ⟨rfl,rfl⟩,zah (zX B w4) (by omega) v0 v1 v2 v3⟩
 have HERR:=HER (.int .i64 hs.t) (.slice hs.a1 hs.n1 hs.c1) (.slice hs.a2 hs.n2 hs.c2) (.slice hs.a3 hs.n3 hs.c3)
 clear HER
 have HBq:Hid (B<=w.heap.size+1+1+1):=by unfold Hid;omega
 have HE:Hid (codeR s x=_):=codeR_yes hr
 have HT:=qz ((show turnR s x=⟨s.tick,s.rs.set i (repairR (s.rs.getD i zr)),s.ts,s.bl⟩ by unfold turnR;rw [hxa,Int.toNat_natCast]))
 have hnm:=hin.rs.len
 unfold maxLen at hnm
 have ho1:i<ho.n1:=by have:=hc.n1;omega
 have hnm2:=hc.rs.row.len
 unfold maxLen at hnm2
 try rw [hxa,Int.toNat_natCast] at HE
 obtain ⟨code,hcode⟩:∃ code,codeR s x=code:=⟨_,rfl⟩
 obtain ⟨aft,haft⟩:∃ aft,turnR s x=aft:=⟨_,rfl⟩
 rw [hcode,haft]
 rw [hcode] at HE
 rw [haft] at HT
 obtain ⟨res,hres⟩:∃ res,(if code=0 then aft else s)=res:=⟨_,rfl⟩
 rw [hres]
 have HR0:Hid (code=0->res=aft):=fun h=>by rw [<- hres,if_pos h]
 have HR1:Hid (code≠0->res=s):=fun h=>by rw [<- hres,if_neg h]
 clear hcode haft hres
 obtain ⟨xk,xa,xb,xc⟩:=x
 obtain ⟨x0,x1,x2,x3⟩:=hx4
 simp only [] at x0 x1 x2 x3 hk hxa HE
 subst hk hxa
 obtain ⟨t,a1,n1,c1,a2,n2,c2,a3,n3,c3⟩:=hs
 obtain ⟨t',b1,m1,d1,b2,m2,d2,b3,m3,d3⟩:=ho
 obtain ⟨s0,s1,s2,s3⟩:=hs4
 obtain ⟨o0,o1,o2,o3⟩:=ho4
 obtain ⟨q0,q1,q2,q3⟩:=hq4
 have f0:=hf4 0
 have f1:=hf4 1
 have f2:=hf4 2
 have f3:=hf4 3
 simp only [] at HERR
 simp only [] at s0 s1 s2 s3 o0 o1 o2 o3 q0 q1 q2 q3 ha hla hil hnm ho1 hnm2
 subst ha hla
 obtain ⟨p0,p1,p2,p3,p4⟩:=hrc
 obtain ⟨l0,l1,l2,l3,l4⟩:=hlc4
 have HI:=qz hi
 obtain ⟨r,hrr⟩:∃ r,s.rs.getD i zr=r:=⟨_,rfl⟩
 have HRR:=qz hrr
 rw [hrr] at p0 p1 p2 p3 p4 l0 l1 l2 l3 l4
 try rw [hrr] at HE
 have e0:=hlf4 (i*5)
 have e1:=hlf4 (i*5+1)
 have e2:=hlf4 (i*5+2)
 have e3:=hlf4 (i*5+3)
 have e4:=hlf4 (i*5+4)
 have hi0:(0:Int)<=(i:Int):=by omega
 have hi1:(i:Int)<(n1:Int):=by omega
 have hi2:(i:Int)<(m1:Int):=by omega
 have hlt4:lb<w4.heap.size:=by omega
 have hrb4:rb<w4.heap.size:=by omega
 have hz0:w.heap.size<w4.heap.size:=by omega
 have hz1:w.heap.size+1<w4.heap.size:=by omega
 have hz2:w.heap.size+1+1<w4.heap.size:=by omega
 have hz3:w.heap.size+1+1+1<w4.heap.size:=by omega
 have hn0:lb≠w.heap.size:=by omega
 have hn1:lb≠w.heap.size+1:=by omega
 have hn3:lb≠w.heap.size+1+1+1:=by omega
 have hn0':w.heap.size≠lb:=by omega
 have hn3':w.heap.size+1+1+1≠lb:=by omega
 have HZ4:=qz hz4
 have HLT:=qz hlt
 clear hz4
 obtain ⟨ra,rb',rc,rd,re⟩:=r
 simp only [] at p0 p1 p2 p3 p4 l0 l1 l2 l3 l4 HE
 clear hin hc hcs hlc hlf hlf4 hc4 hw4 hB4 hb4 hf4 hrr hi hlt hB
 by_cases hb:rb'=4
 · have hc0:code=0:=by have:=HE.out;rw [if_pos hb] at this;exact this
   subst hc0 hb
   by_cases hj:rc=0
   · have HRES:Hid (res=⟨s.tick,s.rs.set i ⟨ra,0,rc,rd,re⟩,s.ts,s.bl⟩):=by
      unfold Hid
      rw [HR0.out rfl,HT.out,HRR.out]
      unfold repairR
      simp only []
      rw [if_pos hj]
     have e9:(rc != 0)=false:=by simpa using hj
     clear HE HT HR0 HR1 HRR hj
     have hF:=rob_fin (h0:=⟨t,some ⟨rb,off,none⟩,n1,c1,a2,n2,c2,a3,n3,c3⟩) (s0:=s) HC4.out HB.out rfl HI.out hn3' HBq.out ⟨ra,0,rc,rd,re⟩ (.int .i64 t') (.slice (some ⟨lb,0,none⟩) m1 d1) (.slice b2 m2 d2) (.slice b3 m3 d3)
     try simp only [] at hF
     have HF:=qz hF
     clear hF
     go_enter Tryz.func76,Tryz.ntmps76
     go_upto_region 1 with fail
     rw [<- HW.out]
     go_wp2_with fail
     refine bodyPost_ret (v:=.tuple #[shV ⟨t',some ⟨lb,0,none⟩,m1,d1,b2,m2,d2,b3,m3,d3⟩,.int .i64 0]) (by simp [results,Tryz.results76,go_sem,q0,q1,q2,q3,hz3,hn3,hn3',o0,o1,o2,o3]) rfl ⟨⟨t',some ⟨lb,0,none⟩,m1,d1,b2,m2,d2,b3,m3,d3⟩,by first|rfl|trivial,?_⟩
     rw [HRES.out]
     obtain ⟨z1,z2⟩:=fin_alloc HF.out HBw.out (.cells #[.int .i64 ra,.int .i64 0,.int .i64 rc,.int .i64 rd,.int .i64 re] 46)
     exact ⟨z1,(HB4.out.mono HB0.out).trans z2⟩
   · have HRES:Hid (res=⟨s.tick,s.rs.set i ⟨ra,2,rc,rd,re⟩,s.ts,s.bl⟩):=by
      unfold Hid
      rw [HR0.out rfl,HT.out,HRR.out]
      unfold repairR
      simp only []
      rw [if_neg hj]
     have e9:(rc != 0)=true:=by simpa using hj
     clear HE HT HR0 HR1 HRR hj
     have hF:=rob_fin (h0:=⟨t,some ⟨rb,off,none⟩,n1,c1,a2,n2,c2,a3,n3,c3⟩) (s0:=s) HC4.out HB.out rfl HI.out hn3' HBq.out ⟨ra,2,rc,rd,re⟩ (.int .i64 t') (.slice (some ⟨lb,0,none⟩) m1 d1) (.slice b2 m2 d2) (.slice b3 m3 d3)
     try simp only [] at hF
     have HF:=qz hF
     clear hF
     go_enter Tryz.func76,Tryz.ntmps76
     go_upto_region 1 with fail
     rw [<- HW.out]
     go_wp2_with fail
     refine bodyPost_ret (v:=.tuple #[shV ⟨t',some ⟨lb,0,none⟩,m1,d1,b2,m2,d2,b3,m3,d3⟩,.int .i64 0]) (by simp [results,Tryz.results76,go_sem,q0,q1,q2,q3,hz3,hn3,hn3',o0,o1,o2,o3]) rfl ⟨⟨t',some ⟨lb,0,none⟩,m1,d1,b2,m2,d2,b3,m3,d3⟩,by first|rfl|trivial,?_⟩
     rw [HRES.out]
     obtain ⟨z1,z2⟩:=fin_alloc HF.out HBw.out (.cells #[.int .i64 ra,.int .i64 2,.int .i64 rc,.int .i64 rd,.int .i64 re] 46)
     exact ⟨z1,(HB4.out.mono HB0.out).trans z2⟩
 · have hc0:code=10:=by have:=HE.out;rw [if_neg hb] at this;exact this
   have HRES:Hid (res=s):=HR1.out (by omega)
   subst hc0
   have e9:(rb' != 4)=true:=by simpa using hb
   clear HE HT HR0 HR1 HRR hb
   go_enter Tryz.func76,Tryz.ntmps76
   go_upto_region 1 with fail
   rw [<- HW.out]
   go_wp2_with fail
   refine bodyPost_ret (v:=.tuple #[shV ⟨t,some ⟨rb,off,none⟩,n1,c1,a2,n2,c2,a3,n3,c3⟩,.int .i64 10]) (by simp [results,Tryz.results76,go_sem,q0,q1,q2,q3,hz3,s0,s1,s2,s3]) rfl ⟨⟨t,some ⟨rb,off,none⟩,n1,c1,a2,n2,c2,a3,n3,c3⟩,by first|rfl|trivial,?_⟩
   rw [HRES.out]
   obtain ⟨z1,z2⟩:=fin_alloc HERR.out HBw.out (.cells #[.int .i64 ra,.int .i64 rb',.int .i64 rc,.int .i64 rd,.int .i64 re] 46)
   exact ⟨z1,(HB4.out.mono HB0.out).trans z2⟩
end Go.Proofs.YtknnnbpgkfaapaaGreat.Vm
namespace Go.Proofs.YtknnnbpgkfaapaaGreat.Vm
open Go Go.RowKit
set_option maxHeartbeats 4000000 in
theorem rrobot2_any (ho hs:Sh)(s:St)(x:Inp)(B:Nat)(w:World)(hin:StIn w w.heap.size hs s)(hc:Copy0 w B ho s)(hB:B<=w.heap.size)(hk:x.k=2)(hr:IsR s x.a)(hfd:(s.rs.getD x.a.toNat zr).b=1->0<=zat s.ts (s.rs.getD x.a.toNat zr).c) :
 Calls Tryz.prog 76 #[shV ho,shV hs,inpV x] w fun e w'=>∃ h',e=.returned (.tuple #[shV h',.int .i64 (codeF s x)])/\Fine w' hs s B h' (if codeF s x=0 then turnF s x else s)/\Below B w w':=by
 obtain ⟨w4,hw4,hB4,hz4,ho4,hs4,hx4,hq4,hf4,hb4⟩:=ssxz_head w ho hs x
 obtain ⟨i,hxa,hi⟩:=isR_int hr
 obtain ⟨rb,off,ha,hrb,hcs⟩:=hin.rs.cells (by have:=hin.rs.1;omega)
 have hil:i<hs.n1:=by have:=hin.rs.1;omega
 have hrc:=(hcs i hil).below hB4 hrb
 have hc4:=hc.calls hB4
 obtain ⟨lb,hla,hlB,hlt,hlc,hlf⟩:=(hc.rs.full (by omega)).at (by omega)
 have hlc4:=(hlc i hi).below hB4 hlt
 have hlf4:∀ j,w4.frozen? ⟨lb,j,none⟩=false:=fun j=>(hB4.frozen (p:=⟨lb,j,none⟩) hlt).trans (hlf j)
 have HC4:=qz hc4
 have HW:=qz hw4
 have HB4:=qz hB4
 have HB:=qz hb4
 have HBw:=qz (Nat.le_trans hB hB4.size)
 have HB0:=qz hB
 have HER:∀ v0 v1 v2 v3,Hid (Fine ((((w4.setCell ⟨w.heap.size+1+1+1,0,none⟩ v0).setCell ⟨w.heap.size+1+1+1,1,none⟩ v1).setCell ⟨w.heap.size+1+1+1,2,none⟩ v2).setCell ⟨w.heap.size+1+1+1,3,none⟩ v3) hs s B hs s/\Below B w4 ((((w4.setCell ⟨w.heap.size+1+1+1,0,none⟩ v0).setCell ⟨w.heap.size+1+1+1,1,none⟩ v1).setCell ⟨w.heap.size+1+1+1,2,none⟩ v2).setCell ⟨w.heap.size+1+1+1,3,none⟩ v3)):=fun v0 v1 v2 v3=>⟨.inl ⟨rfl,rfl⟩,zah (zX B w4) (by omega) v0 v1 v2 v3⟩
 have HERR:=HER (.int .i64 hs.t) (.slice hs.a1 hs.n1 hs.c1) (.slice hs.a2 hs.n2 hs.c2) (.slice hs.a3 hs.n3 hs.c3)
 clear HER
 have HBq:Hid (B<=w.heap.size+1+1+1):=by unfold Hid;omega
 have HE:Hid (codeF s x=_):=codeF_yes hr
 rw [hxa,Int.toNat_natCast] at hfd
 have HT1:=qz fun h1=>turnF_yes (s:=s) hi hxa h1
 have HT0:=qz fun h1=>turnF_no (s:=s) hxa h1
 have HFD:=qz fun (V:World) (hV:Below w.heap.size w V)=>rfind_any hs s.ts (s.rs.getD i zr).c w.heap.size V (hin.ts.below hV) hV.size
 have HOT:=qz fun (hn:0<s.ts.length)=>(hc.ts.full hn).at hn
 have HN2:=qz hc.n2
 have hnm3:=hc.ts.row.len
 unfold maxLen at hnm3
 have hnm:=hin.rs.len
 unfold maxLen at hnm
 have ho1:i<ho.n1:=by have:=hc.n1;omega
 have hnm2:=hc.rs.row.len
 unfold maxLen at hnm2
 try rw [hxa,Int.toNat_natCast] at HE
 obtain ⟨code,hcode⟩:∃ code,codeF s x=code:=⟨_,rfl⟩
 obtain ⟨aft,haft⟩:∃ aft,turnF s x=aft:=⟨_,rfl⟩
 rw [hcode,haft]
 rw [hcode] at HE
 rw [haft] at HT1 HT0
 obtain ⟨res,hres⟩:∃ res,(if code=0 then aft else s)=res:=⟨_,rfl⟩
 rw [hres]
 have HR0:Hid (code=0->res=aft):=fun h=>by rw [<- hres,if_pos h]
 have HR1:Hid (code≠0->res=s):=fun h=>by rw [<- hres,if_neg h]
 clear hcode haft hres
 obtain ⟨xk,xa,xb,xc⟩:=x
 obtain ⟨x0,x1,x2,x3⟩:=hx4
 simp only [] at x0 x1 x2 x3 hk hxa HE
 subst hk hxa
 obtain ⟨t,a1,n1,c1,a2,n2,c2,a3,n3,c3⟩:=hs
 obtain ⟨t',b1,m1,d1,b2,m2,d2,b3,m3,d3⟩:=ho
 obtain ⟨s0,s1,s2,s3⟩:=hs4
 obtain ⟨o0,o1,o2,o3⟩:=ho4
 obtain ⟨q0,q1,q2,q3⟩:=hq4
 have f0:=hf4 0
 have f1:=hf4 1
 have f2:=hf4 2
 have f3:=hf4 3
 simp only [] at HERR HFD HOT HN2 hnm3
 simp only [] at s0 s1 s2 s3 o0 o1 o2 o3 q0 q1 q2 q3 ha hla hil hnm ho1 hnm2
 subst ha hla
 obtain ⟨p0,p1,p2,p3,p4⟩:=hrc
 obtain ⟨l0,l1,l2,l3,l4⟩:=hlc4
 have HI:=qz hi
 obtain ⟨r,hrr⟩:∃ r,s.rs.getD i zr=r:=⟨_,rfl⟩
 have HRR:=qz hrr
 rw [hrr] at p0 p1 p2 p3 p4 l0 l1 l2 l3 l4 HE HT1 HT0 HFD hfd
 have e0:=hlf4 (i*5)
 have e1:=hlf4 (i*5+1)
 have e2:=hlf4 (i*5+2)
 have e3:=hlf4 (i*5+3)
 have e4:=hlf4 (i*5+4)
 have hi0:(0:Int)<=(i:Int):=by omega
 have hi1:(i:Int)<(n1:Int):=by omega
 have hi2:(i:Int)<(m1:Int):=by omega
 have hlt4:lb<w4.heap.size:=by omega
 have hrb4:rb<w4.heap.size:=by omega
 have hz0:w.heap.size<w4.heap.size:=by omega
 have hz1:w.heap.size+1<w4.heap.size:=by omega
 have hz2:w.heap.size+1+1<w4.heap.size:=by omega
 have hz3:w.heap.size+1+1+1<w4.heap.size:=by omega
 have hn0:lb≠w.heap.size:=by omega
 have hn1:lb≠w.heap.size+1:=by omega
 have hn3:lb≠w.heap.size+1+1+1:=by omega
 have hn0':w.heap.size≠lb:=by omega
 have hn3':w.heap.size+1+1+1≠lb:=by omega
 have HZ4:=qz hz4
 have HLT:=qz hlt
 clear hz4
 obtain ⟨ra,rb',rc,rd,re⟩:=r
 simp only [] at p0 p1 p2 p3 p4 l0 l1 l2 l3 l4 HE HT1 HT0 HFD hfd
 clear hin hc hcs hlc hlf hlf4 hc4 hw4 hB4 hb4 hf4 hrr hi hlt hB
 by_cases hb4:rb'=4
 · have hc0:code=10:=by have:=HE.out;rw [if_pos hb4] at this;exact this
   have HRES:Hid (res=s):=HR1.out (by omega)
   subst hc0 hb4
   clear HE HT1 HT0 HR0 HR1 HRR HFD HOT hfd
   go_enter Tryz.func76,Tryz.ntmps76
   go_upto_region 1 with fail
   rw [<- HW.out]
   go_wp2_with fail
   refine bodyPost_ret (v:=.tuple #[shV ⟨t,some ⟨rb,off,none⟩,n1,c1,a2,n2,c2,a3,n3,c3⟩,.int .i64 10]) (by simp [results,Tryz.results76,go_sem,q0,q1,q2,q3,hz3,s0,s1,s2,s3]) rfl ⟨⟨t,some ⟨rb,off,none⟩,n1,c1,a2,n2,c2,a3,n3,c3⟩,by first|rfl|trivial,?_⟩
   rw [HRES.out]
   obtain ⟨z1,z2⟩:=fin_alloc HERR.out HBw.out (.cells #[.int .i64 ra,.int .i64 4,.int .i64 rc,.int .i64 rd,.int .i64 re] 46)
   exact ⟨z1,(HB4.out.mono HB0.out).trans z2⟩
 have hc0:code=0:=by have:=HE.out;rw [if_neg hb4] at this;exact this
 have e8:(rb'==4)=false:=by simpa using hb4
 by_cases hb1:rb'=1
 · have HRES:Hid (res=aft):=HR0.out hc0
   have HTT:=qz (HT1.out hb1)
   have hf0:=hfd hb1
   subst hc0 hb1
   obtain ⟨k,hk,hfk⟩:∃ k:Nat,k<s.ts.length/\zat s.ts rc=k:=by
    rcases zbn s.ts rc with ⟨e,_⟩|⟨k,hk,e,_⟩
    · omega
    · exact ⟨k,hk,e⟩
   obtain ⟨lt2,hta,_,hlt2,htc,htf⟩:=HOT.out (by omega)
   subst hta
   have htk:=htc k hk
   have htf3:=htf (k*5+3)
   have htf4:=htf (k*5+4)
   obtain ⟨w5,hw5⟩:∃ w5,w5=w4.alloc (.cells #[.int .i64 ra,.int .i64 1,.int .i64 rc,.int .i64 rd,.int .i64 re] 46):=⟨_,rfl⟩
   have hb45:Below w4.heap.size w4 w5:=by rw [hw5];exact (zX _ _).alloc (zL _) _
   have hz5:w5.heap.size=w4.heap.size+1:=by rw [hw5];simp
   have hro5:RoB w5 w4.heap.size:=⟨_,by rw [hw5];exact heap_alloc_new w4 _⟩
   have hr5:RecAt w5 w4.heap.size 0 ⟨ra,1,rc,rd,re⟩:=by rw [hw5];exact recAt_new w4 ⟨ra,1,rc,rd,re⟩ _
   have hrf5:∀ j,w5.frozen? ⟨w4.heap.size,j,none⟩=false:=fun j=>by rw [hw5];simp
   have HW5:=qz hw5
   have hbw5:=HB4.out.trans (hb45.mono HB4.out.size)
   have HFD5:=qz (HFD.out w5 hbw5)
   rw [hfk] at HFD5
   have HFK:=qz hfk
   clear hw5 HFD HOT HT1 HT0 HR0 HR1 HE hfd hf0 hfk htc htf HERR
   have hs0:=s0
   have hs1:=s1
   go_enter Tryz.func76,Tryz.ntmps76
   go_upto_region 1 with fail
   rw [<- HW.out]
   go_wp2_with fail
   rw [<- HW5.out]
   refine HFD5.out.mono ?_
   rintro e w6 ⟨rfl,hb6⟩
   have hb46:=hb45.trans (hb6.mono (by omega))
   have hbw6:=hbw5.trans (hb6.mono (by have:=hbw5.size;omega))
   have hz6:w4.heap.size<w6.heap.size:=by have:=hb6.size;omega
   have HC6:=qz (HC4.out.calls hb46)
   have HS6:=qz (HB.out.calls hb46)
   have HQ6:=qz (hro5.calls hb6)
   obtain ⟨y0,y1,y2,y3,y4⟩:=hr5.below hb6 (by omega)
   have g0:=(hb6.frozen (p:=⟨w4.heap.size,0,none⟩) (show w4.heap.size<w5.heap.size by omega)).trans (hrf5 0)
   have g1:=(hb6.frozen (p:=⟨w4.heap.size,1,none⟩) (show w4.heap.size<w5.heap.size by omega)).trans (hrf5 1)
   have g2:=(hb6.frozen (p:=⟨w4.heap.size,2,none⟩) (show w4.heap.size<w5.heap.size by omega)).trans (hrf5 2)
   have hc:∀ b i v,b<w4.heap.size->w4.cell? ⟨b,i,none⟩=some v->w6.cell? ⟨b,i,none⟩=some v:=fun b i v hb h=>(hb46.cell (p:=⟨b,i,none⟩) hb).trans h
   have hf:∀ b i,b<w4.heap.size->w4.frozen? ⟨b,i,none⟩=false->w6.frozen? ⟨b,i,none⟩=false:=fun b i hb h=>(hb46.frozen (p:=⟨b,i,none⟩) hb).trans h
   replace o0:=hc _ _ _ hz0 o0
   replace o1:=hc _ _ _ hz0 o1
   replace o2:=hc _ _ _ hz0 o2
   replace o3:=hc _ _ _ hz0 o3
   replace x0:=hc _ _ _ hz2 x0
   replace x1:=hc _ _ _ hz2 x1
   replace x2:=hc _ _ _ hz2 x2
   replace x3:=hc _ _ _ hz2 x3
   replace q0:=hc _ _ _ hz3 q0
   replace q1:=hc _ _ _ hz3 q1
   replace q2:=hc _ _ _ hz3 q2
   replace q3:=hc _ _ _ hz3 q3
   replace l0:=hc _ _ _ hlt4 l0
   replace l1:=hc _ _ _ hlt4 l1
   replace l2:=hc _ _ _ hlt4 l2
   replace l3:=hc _ _ _ hlt4 l3
   replace l4:=hc _ _ _ hlt4 l4
   replace f0:=hf _ _ hz3 f0
   replace f1:=hf _ _ hz3 f1
   replace f2:=hf _ _ hz3 f2
   replace f3:=hf _ _ hz3 f3
   replace e0:=hf _ _ hlt4 e0
   replace e1:=hf _ _ hlt4 e1
   replace e2:=hf _ _ hlt4 e2
   replace e3:=hf _ _ hlt4 e3
   replace e4:=hf _ _ hlt4 e4
   have t3:=(htk.below hbw6 hlt2).2.2.2.1
   have t4:=(htk.below hbw6 hlt2).2.2.2.2
   have u3:=(hbw6.frozen (p:=⟨lt2,k*5+3,none⟩) hlt2).trans htf3
   have u4:=(hbw6.frozen (p:=⟨lt2,k*5+4,none⟩) hlt2).trans htf4
   have hkm:k<m2:=by have:=HN2.out;omega
   have hk0:(0:Int)<=(k:Int):=by omega
   have hk1:(k:Int)<(m2:Int):=by omega
   have hlt24:lt2<w4.heap.size:=by have:=HB4.out.size;omega
   have a0:lt2≠w.heap.size:=by omega
   have a33:lt2≠w.heap.size+1+1+1:=by omega
   have a3':w.heap.size+1+1+1≠lt2:=by omega
   have a0':w.heap.size≠lt2:=by omega
   have a4:lt2≠w4.heap.size:=by omega
   have a4':w4.heap.size≠lt2:=by omega
   have a5:lb≠w4.heap.size:=by omega
   have a5':w4.heap.size≠lb:=by omega
   have a6:w.heap.size+1+1+1≠w4.heap.size:=by omega
   have a6':w4.heap.size≠w.heap.size+1+1+1:=by omega
   have a7:w.heap.size≠w4.heap.size:=by omega
   have a7':w4.heap.size≠w.heap.size:=by omega
   have a8:w.heap.size+1+1≠w4.heap.size:=by omega
   have a9:w.heap.size+1+1≠lt2:=by omega
   have a10:w.heap.size+1+1≠lb:=by have:=HLT.out;omega
   have a11:lb≠lt2:=by
    intro e
    have h1:=HC6.out.rs.full (by have:=HI.out;omega)
    have h2:=HC6.out.ts.full (by omega)
    rcases zbu h2 h1 (by decide) with h|h
    · cases h
    · exact h (by rw [e];rfl)
   have a11':lt2≠lb:=fun e=>a11 e.symm
   obtain ⟨M1,B1⟩:=HC6.out.setT rfl hk (show 3<5 by omega) 1
   obtain ⟨M2,B2⟩:=M1.setT rfl (i:=k) (by simpa using hk) (show 4<5 by omega) (-1)
   have S2:=((HS6.out.set (i:=k*5+3) (u:=.int .i64 1) a3').set (i:=k*5+4) (u:=.int .i64 (-1)) a3')
   have Q2:=((HQ6.out.set (i:=k*5+3) (u:=.int .i64 1) a4').set (i:=k*5+4) (u:=.int .i64 (-1)) a4')
   obtain ⟨M3,Q3⟩:=M2.setQ (i:=2) (u:=.int .i64 0) rfl a5 Q2
   obtain ⟨M4,Q4⟩:=M3.setQ (i:=1) (u:=.int .i64 4) rfl a5 Q3
   have S4:=((S2.set (i:=2) (u:=.int .i64 0) a6).set (i:=1) (u:=.int .i64 4) a6)
   have B4:=(((B1.trans B2).setCell (p:=⟨w4.heap.size,2,none⟩) HBw.out (.int .i64 0)).setCell (p:=⟨w4.heap.size,1,none⟩) HBw.out (.int .i64 4))
   have hF:=rob_fin (h0:=⟨t,some ⟨rb,off,none⟩,n1,c1,a2,n2,c2,a3,n3,c3⟩) (s0:=s) M4 S4 rfl HI.out hn3' HBq.out ⟨ra,4,0,rd,re⟩ (.int .i64 t') (.slice (some ⟨lb,0,none⟩) m1 d1) (.slice (some ⟨lt2,0,none⟩) m2 d2) (.slice b3 m3 d3)
   simp only [] at hF
   have HF:=qz (And.intro hF.1 ((hbw6.mono HB0.out).trans (B4.trans hF.2)))
   have HFIN:Hid (res=⟨s.tick,s.rs.set i ⟨ra,4,0,rd,re⟩,(s.ts.set k (setF (s.ts.getD k zr) 3 1)).set k (setF ((s.ts.set k (setF (s.ts.getD k zr) 3 1)).getD k zr) 4 (-1)),s.bl⟩):=by
    unfold Hid
    rw [HRES.out,HTT.out,freeT_at_place hk HFK.out,zba HI.out,List.set_set]
    rfl
   generalize (s.ts.getD k zr).d=o8 at t3
   generalize (s.ts.getD k zr).e=o9 at t4
   clear M1 B1 M2 B2 S2 Q2 M3 Q3 M4 Q4 S4 B4 hF hb6 hb46 hbw6 hc hf htk hb45 hbw5 hro5 hr5 hrf5 hs0 hs1 p0 p1 p2 p3 p4 s0 s1 s2 s3
   go_wp2_with fail
   refine bodyPost_ret (v:=.tuple #[shV ⟨t',some ⟨lb,0,none⟩,m1,d1,some ⟨lt2,0,none⟩,m2,d2,b3,m3,d3⟩,.int .i64 0]) (by simp [results,Tryz.results76,go_sem,q0,q1,q2,q3]) rfl ⟨⟨t',some ⟨lb,0,none⟩,m1,d1,some ⟨lt2,0,none⟩,m2,d2,b3,m3,d3⟩,by first|rfl|trivial,?_⟩
   rw [HFIN.out]
   exact HF.out
 · have HRES:Hid (res=⟨s.tick,s.rs.set i ⟨ra,4,rc,rd,re⟩,s.ts,s.bl⟩):=by
    unfold Hid
    rw [HR0.out hc0,HT0.out hb1]
    rfl
   have e9:(rb'==1)=false:=by simpa using hb1
   subst hc0
   clear HE HT1 HT0 HR0 HR1 HRR HFD HOT hfd hb1 hb4
   have hF:=rob_fin (h0:=⟨t,some ⟨rb,off,none⟩,n1,c1,a2,n2,c2,a3,n3,c3⟩) (s0:=s) HC4.out HB.out rfl HI.out hn3' HBq.out ⟨ra,4,rc,rd,re⟩ (.int .i64 t') (.slice (some ⟨lb,0,none⟩) m1 d1) (.slice b2 m2 d2) (.slice b3 m3 d3)
   try simp only [] at hF
   have HF:=qz hF
   clear hF
   go_enter Tryz.func76,Tryz.ntmps76
   go_upto_region 1 with fail
   rw [<- HW.out]
   go_wp2_with fail
   refine bodyPost_ret (v:=.tuple #[shV ⟨t',some ⟨lb,0,none⟩,m1,d1,b2,m2,d2,b3,m3,d3⟩,.int .i64 0]) (by simp [results,Tryz.results76,go_sem,q0,q1,q2,q3,hz3,hn3,hn3',o0,o1,o2,o3]) rfl ⟨⟨t',some ⟨lb,0,none⟩,m1,d1,b2,m2,d2,b3,m3,d3⟩,by first|rfl|trivial,?_⟩
   rw [HRES.out]
   obtain ⟨z1,z2⟩:=fin_alloc HF.out HBw.out (.cells #[.int .i64 ra,.int .i64 4,.int .i64 rc,.int .i64 rd,.int .i64 re] 46)
   exact ⟨z1,(HB4.out.mono HB0.out).trans z2⟩
end Go.Proofs.YtknnnbpgkfaapaaGreat.Vm
