import Derived.Test.YtknnnbpgkfaapaaGreatQ
import Derived.Test.YtknnnbpgkfaapaaGreatVLeadMath
import Derived.Laws.EntriesVeiled
import Derived.WalkLawsBesides
set_option maxRecDepth 100000
set_option linter.unusedSimpArgs false
set_option linter.unusedVariables false
namespace Go.Proofs.YtknnnbpgkfaapaaGreat.Vm
open Go Go.RowKit
abbrev fnV (k:Nat):Value:=.func (.func k) #[] #[]
set_option maxHeartbeats 400000 in
theorem effects_any (w:World):Calls Tryz.prog 83 #[] w fun e w'=>e=.returned (.agg #[.nilFunc,.nilFunc,fnV 103,fnV 104,fnV 105,fnV 106,fnV 107,fnV 108,fnV 109,fnV 110,fnV 111,fnV 112,fnV 113,fnV 114])/\Below w.heap.size w w':=by
 go_enter Tryz.func83,Tryz.ntmps83
 go_wp2_with fail
 exact bodyPost_ret (v:=.agg #[.nilFunc,.nilFunc,fnV 103,fnV 104,fnV 105,fnV 106,fnV 107,fnV 108,fnV 109,fnV 110,fnV 111,fnV 112,fnV 113,fnV 114]) (by simp [results,Tryz.results83,go_sem]) rfl ⟨rfl,(zX _ _).alloc (zL _) _⟩
def chkN (k:Int):Nat:=if k=1 then 103 else if k=2 then 105 else if k=3 then 107 else if k=4 then 109 else if k=5 then 111 else 113
def chgN (k:Int):Nat:=if k=1 then 104 else if k=2 then 106 else if k=3 then 108 else if k=4 then 110 else if k=5 then 112 else 114
set_option maxHeartbeats 1000000 in
theorem effectOf_yes (k:Int)(h:1<=k/\k<=6)(w:World):Calls Tryz.prog 57 #[.int .i64 k] w fun e w'=>e=.returned (.tuple #[.agg #[fnV (chkN k),fnV (chgN k)],.bool true])/\Below w.heap.size w w':=by
 have hb1:Below w.heap.size w (w.alloc (.cells #[.nilFunc,.nilFunc] 104)):=(zX _ _).alloc (zL _) _
 obtain ⟨w1,hw1⟩:∃ w1,w1=w.alloc (.cells #[.nilFunc,.nilFunc] 104):=⟨_,rfl⟩
 have f0:w1.cell? ⟨w.heap.size,0,none⟩=some .nilFunc:=by rw [hw1];simp
 have f1:w1.cell? ⟨w.heap.size,1,none⟩=some .nilFunc:=by rw [hw1];simp
 have g0:w1.frozen? ⟨w.heap.size,0,none⟩=false:=by rw [hw1];simp
 have g1:w1.frozen? ⟨w.heap.size,1,none⟩=false:=by rw [hw1];simp
 have hlt:w.heap.size<w1.heap.size:=by rw [hw1];simp
 rw [<- hw1] at hb1
 have HW:=qz hw1
 have HB1:=qz hb1
 have HEF:=qz (effects_any w1)
 clear hw1 hb1
 have hk:k=1\/k=2\/k=3\/k=4\/k=5\/k=6:=by omega
 clear h
 rcases hk with rfl|rfl|rfl|rfl|rfl|rfl
 all_goals
  go_enter Tryz.func57,Tryz.ntmps57
  go_wp2_with fail
  rw [<- HW.out]
  refine HEF.out.mono ?_
  rintro e w2 ⟨rfl,hb2⟩
  have e0:=(hb2.cell (p:=⟨w.heap.size,0,none⟩) hlt).trans f0
  have e1:=(hb2.cell (p:=⟨w.heap.size,1,none⟩) hlt).trans f1
  have d0:=(hb2.frozen (p:=⟨w.heap.size,0,none⟩) hlt).trans g0
  have d1:=(hb2.frozen (p:=⟨w.heap.size,1,none⟩) hlt).trans g1
  have hlt2:w.heap.size<w2.heap.size:=Nat.lt_of_lt_of_le hlt hb2.size
  have HB2:=qz (HB1.out.trans (hb2.mono HB1.out.size))
  clear hb2 f0 f1 g0 g1 hlt
  go_wp2_with fail
  refine bodyPost_ret (v:=.tuple #[.agg #[fnV (chkN _),fnV (chgN _)],.bool true]) (by simp [results,Tryz.results57,go_sem,chkN,chgN,e0,e1,hlt2]) rfl ⟨rfl,?_⟩
  exact ((HB2.out.setCell (p:=⟨w.heap.size,0,none⟩) (zL _) _).setCell (p:=⟨w.heap.size,1,none⟩) (zL _) _).alloc (by simp [World.setCell];omega) _
set_option maxHeartbeats 1000000 in
theorem effectOf_no (k:Int)(h:¬ (1<=k/\k<=6))(w:World):Calls Tryz.prog 57 #[.int .i64 k] w fun e w'=>e=.returned (.tuple #[.agg #[.nilFunc,.nilFunc],.bool false])/\Below w.heap.size w w':=by
 have hb1:Below w.heap.size w (w.alloc (.cells #[.nilFunc,.nilFunc] 104)):=(zX _ _).alloc (zL _) _
 obtain ⟨w1,hw1⟩:∃ w1,w1=w.alloc (.cells #[.nilFunc,.nilFunc] 104):=⟨_,rfl⟩
 have f0:w1.cell? ⟨w.heap.size,0,none⟩=some .nilFunc:=by rw [hw1];simp
 have f1:w1.cell? ⟨w.heap.size,1,none⟩=some .nilFunc:=by rw [hw1];simp
 have g0:w1.frozen? ⟨w.heap.size,0,none⟩=false:=by rw [hw1];simp
 have g1:w1.frozen? ⟨w.heap.size,1,none⟩=false:=by rw [hw1];simp
 have hlt:w.heap.size<w1.heap.size:=by rw [hw1];simp
 rw [<- hw1] at hb1
 have HW:=qz hw1
 have HB1:=qz hb1
 have HEF:=qz (effects_any w1)
 clear hw1 hb1
 have hk:k<1\/1<=k/\7<=k:=by omega
 clear h
 rcases hk with hk|⟨hk1,hk⟩
 all_goals
  go_enter Tryz.func57,Tryz.ntmps57
  go_wp2_with fail
  rw [<- HW.out]
  refine HEF.out.mono ?_
  rintro e w2 ⟨rfl,hb2⟩
  have e0:=(hb2.cell (p:=⟨w.heap.size,0,none⟩) hlt).trans f0
  have e1:=(hb2.cell (p:=⟨w.heap.size,1,none⟩) hlt).trans f1
  have d0:=(hb2.frozen (p:=⟨w.heap.size,0,none⟩) hlt).trans g0
  have d1:=(hb2.frozen (p:=⟨w.heap.size,1,none⟩) hlt).trans g1
  have hlt2:w.heap.size<w2.heap.size:=Nat.lt_of_lt_of_le hlt hb2.size
  have HB2:=qz (HB1.out.trans (hb2.mono HB1.out.size))
  clear hb2 f0 f1 g0 g1 hlt
  go_wp2_with fail
  refine bodyPost_ret (v:=.tuple #[.agg #[.nilFunc,.nilFunc],.bool false]) (by simp [results,Tryz.results57,go_sem,e0,e1,hlt2]) rfl ⟨rfl,?_⟩
  exact ((HB2.out.setCell (p:=⟨w.heap.size,0,none⟩) (zL _) _).setCell (p:=⟨w.heap.size,1,none⟩) (zL _) _).alloc (by simp [World.setCell];omega) _
end Go.Proofs.YtknnnbpgkfaapaaGreat.Vm
