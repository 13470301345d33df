import Derived.Test.YtknnnbpgkfaapaaGreatQ
import Derived.Test.YtknnnbpgkfaapaaGreatVGridMath
import Derived.Test.YtknnnbpgkfaapaaGreatVOwnIs
import Derived.Test.YtknnnbpgkfaapaaGreatVInMath
import Derived.Deep.LoopGhost
set_option maxRecDepth 100000
set_option linter.unusedSimpArgs false
set_option linter.unusedVariables false
namespace Go.Proofs.YtknnnbpgkfaapaaGreat.Vm
open Go Go.RowKit
theorem mem_more8 {bl:List Int}{x z:Int}{k:Nat}(hk:k<bl.length)(hz:bl.getD k 0=z)(hx:x≠z)(h:x ∉ bl.take k):x ∉ bl.take (k+1):=by
 rw [List.take_succ_eq_append_getElem hk]
 simp only [List.getD,List.getElem?_eq_getElem hk,Option.getD_some] at hz
 rw [hz]
 simp [h,hx]
theorem mem_at8 {bl:List Int}{z:Int}{k:Nat}(hk:k<bl.length)(hz:bl.getD k 0=z):z∈bl:=by
 simp only [List.getD,List.getElem?_eq_getElem hk,Option.getD_some] at hz
 rw [<- hz]
 exact List.getElem_mem _
set_option maxHeartbeats 400000 in
theorem in8_any (a:Option Addr)(n c B:Nat)(bl:List Int)(x:Int)(w:World)(h:RowZ .i64 w B a n c bl)(hn:n<=1000000) :
 Calls Tryz.prog 52 #[.slice a n c,.int .i64 x] w fun e w'=>e=.returned (.bool (decide (x∈bl)))/\w'=w:=by
 have HL:=qz h.1
 go_enter Tryz.func52,Tryz.ntmps52
 go_wp2
 go_loopw [5] (fun i wr=>∃ k:Nat,k<=n/\i=.int .i64 k/\wr=w/\Hid (x ∉ bl.take k)) (fun i _=>n-(intOf i).toNat)
 case atStart=>exact ⟨0,Nat.zero_le _,rfl,rfl,by show x ∉ bl.take 0;simp⟩
 case round =>
  obtain ⟨k,hk,rfl,rfl,HN⟩:=hrel
  by_cases hlt:k<n
  · obtain ⟨b,off,rfl,hb,hcs⟩:=h.cells (by omega)
    have hcell:=hcs k hlt
    clear hcs
    generalize hz:bl.getD k 0=z at hcell
    have HZ:=qz hz
    clear hz
    by_cases hx:z=x
    · have e1:(z==x)=true:=by simpa using hx
      have HIN:=qz (mem_at8 (by rw [HL.out];exact hlt) HZ.out)
      have HX:=qz hx
      clear hx
      go_wp2
      go_ret
      exact ⟨zad (Eq.symm (decide_eq_true (by rw [<- HX.out];exact HIN.out))),rfl⟩
    · have e1:(z==x)=false:=by simpa using hx
      have HM:=qz (mem_more8 (by rw [HL.out];exact hlt) HZ.out (fun e=>hx e.symm) HN.out)
      clear hx
      go_wp2
      go_roundw
      case rel=>exact ⟨k+1,by omega,by go_num,(by first|rfl|trivial),HM.out⟩
      case measure=>simp [intOf];omega
  · obtain rfl:k=n:=by omega
    go_wp2
    go_ret
    exact ⟨zad (Eq.symm (decide_eq_false (by have:=HN.out;rwa [List.take_of_length_le (by rw [HL.out];omega)] at this))),rfl⟩
def StopsBy (cells now:List Int)(i k:Nat):Prop:=k≠i/\((now.getD k 0=cells.getD k 0/\cells.getD k 0=now.getD i 0)\/(now.getD k 0≠cells.getD k 0/\now.getD k 0=now.getD i 0/\k<i)\/(cells.getD k 0=now.getD i 0/\now.getD k 0=cells.getD i 0))
theorem keptP_by {cells blocked now:List Int}{i k:Nat}(h:now.getD i 0≠cells.getD i 0)(hk:k<cells.length)(hs:StopsBy cells now i k):KeptP cells blocked now i:=⟨h,.inr ⟨k,hk,hs.1,hs.2⟩⟩
theorem keptP_not {cells blocked now:List Int}{i:Nat}(hb:now.getD i 0 ∉ blocked)(hs:∀ k,k<cells.length->¬ StopsBy cells now i k):¬ KeptP cells blocked now i:=by
 rintro ⟨_,h|⟨k,hk,h1,h2⟩⟩
 · exact hb h
 · exact hs k hk ⟨h1,h2⟩
theorem stops_more {cells now:List Int}{i k:Nat}(h:∀ j,j<k->¬ StopsBy cells now i j)(hs:¬ StopsBy cells now i k):∀ j,j<k+1->¬ StopsBy cells now i j:=fun j hj=>by
 by_cases e:j=k
 · subst e;exact hs
 · exact h j (by omega)
set_option maxHeartbeats 4000000 in
theorem kept8_any (a1 a2 a3:Option Addr)(n c1 c2 m c3 B i:Nat)(cells now bl:List Int)(w:World)(h1:RowZ .i64 w B a1 n c1 cells)(h2:RowZ .i64 w B a2 n c2 now)(h3:RowZ .i64 w B a3 m c3 bl)(hi:i<n)(hn:n<=1000000)(hm:m<=1000000) :
 Calls Tryz.prog 53 #[.slice a1 n c1,.slice a2 n c2,.slice a3 m c3,.int .i64 i] w fun e w'=>e=.returned (.bool (keptB cells bl now i))/\∃ d,w'=w.drewN d:=by
 have HC:=qz h1.1
 have HIN:=fun (x:Int) (w':World) (h:RowZ .i64 w' B a3 m c3 bl)=>in8_any a3 m c3 B bl x w' h hm
 have H3:=qz h3
 have hm1:=h1.2.2.1
 have hm2:=h2.2.2.1
 have hc1:=h1.2.1
 have hc2:=h2.2.1
 unfold maxLen at hm1 hm2
 obtain ⟨b,off,rfl,hb,hcs⟩:=h1.cells (by omega)
 obtain ⟨b',off',rfl,hb',hcs'⟩:=h2.cells (by omega)
 have hci:=hcs i hi
 have hwi:=hcs' i hi
 have HCS:=qz hcs
 have HWS:=qz hcs'
 clear hcs hcs' h1 h2 h3
 generalize ec:cells.getD i 0=ci at hci
 generalize en:now.getD i 0=wi at hwi
 have EC:=qz ec
 have EN:=qz en
 clear ec en
 by_cases hw:wi=ci
 · have e1:(wi==ci)=true:=by simpa using hw
   have HW:=qz hw
   clear hw
   go_enter Tryz.func53,Tryz.ntmps53
   go_wp2
   go_quiet (fail)
   go_wp2
   go_ret
   exact ⟨zad (Eq.symm (keptB_no fun hk=>hk.1 (by rw [EC.out,EN.out];exact HW.out))),_,rfl⟩
 · have e1:(wi==ci)=false:=by simpa using hw
   have HW:=qz hw
   clear hw
   go_enter Tryz.func53,Tryz.ntmps53
   go_wp2
   go_quiet (fail)
   go_wp2_with fail
   refine (HIN wi _ (H3.out.below (zaf (zX _ _) _))).mono ?_
   rintro e w1 ⟨rfl,rfl⟩
   have hmn:(wi∈bl)\/(wi ∉ bl):=Classical.em _
   rcases hmn with hmn|hmn
   · have HM:=qz hmn
     rw [decide_eq_true hmn]
     clear hmn
     go_wp2
     go_ret
     exact ⟨zad (Eq.symm (keptB_yes ⟨by rw [EC.out,EN.out];exact HW.out,.inl (by rw [EN.out];exact HM.out)⟩)),_,rfl⟩
   · have HM:=qz hmn
     rw [decide_eq_false hmn]
     clear hmn
     go_wp2
     go_loopw [9] (fun v wr=>∃ k d:Nat,k<=n/\v=.int .i64 k/\wr=w.drewN d/\Hid (∀ j,j<k->¬ StopsBy cells now i j)) (fun v _=>n-(intOf v).toNat)
     case atStart=>exact ⟨0,_,Nat.zero_le _,rfl,rfl,fun j hj=>absurd hj (Nat.not_lt_zero _)⟩
     case round =>
      obtain ⟨k,d,hk,rfl,rfl,HN⟩:=hrel
      by_cases hlt:k<n
      · have hck:=HCS.out k hlt
        have hwk:=HWS.out k hlt
        generalize eck:cells.getD k 0=ck at hck
        generalize ewk:now.getD k 0=wk at hwk
        have ECK:=qz eck
        have EWK:=qz ewk
        clear eck ewk
        by_cases hki:k=i
        · have g0:((k:Int)==(i:Int))=true:=by rw [beq_iff_eq];omega
          have HS:Hid (¬ StopsBy cells now i k):=fun hs=>hs.1 hki
          clear hki
          go_wp2
          go_roundw
          case rel=>exact ⟨k+1,_,by omega,by go_num,rfl,stops_more HN.out HS.out⟩
          case measure=>simp [intOf];omega
        · have g0:((k:Int)==(i:Int))=false:=by rw [beq_eq_false_iff_ne];omega
          have HNE:=qz hki
          clear hki
          by_cases f1:wk=ck
          · by_cases f2:ck=wi
            · have g1:(wk==ck)=true:=by simpa using f1
              have g1n:(wk != ck)=false:=by simpa using f1
              have g2:(ck==wi)=true:=by simpa using f2
              have F1:=qz f1
              clear f1
              have F2:=qz f2
              clear f2
              go_wp2
              go_quiet (fail)
              go_wp2
              go_ret
              exact ⟨zad (Eq.symm (keptB_yes (keptP_by (k:=k) (by rw [EC.out,EN.out];exact HW.out) (by rw [HC.out];exact hlt) ⟨HNE.out,by rw [ECK.out,EWK.out,EC.out,EN.out];exact .inl ⟨F1.out,F2.out⟩⟩))),_,by simp only [World.drewN_drewN];rfl⟩
            · have g1:(wk==ck)=true:=by simpa using f1
              have g1n:(wk != ck)=false:=by simpa using f1
              have g2:(ck==wi)=false:=by simpa using f2
              have F1:=qz f1
              clear f1
              have F2:=qz f2
              clear f2
              have HS:Hid (¬ StopsBy cells now i k):=by
               rintro ⟨_,hs⟩
               rw [ECK.out,EWK.out,EC.out,EN.out] at hs
               have y1:=HW.out
               have yx1:=F1.out
               have yx2:=F2.out
               rcases hs with ⟨z1,z2⟩|⟨z1,z2,z3⟩|⟨z1,z2⟩ <;> first|contradiction|omega
              go_wp2
              go_quiet (fail)
              go_wp2
              go_quiet (fail)
              go_wp2
              go_quiet (fail)
              go_wp2
              go_roundw
              case rel=>exact ⟨k+1,_,by omega,by go_num,rfl,stops_more HN.out HS.out⟩
              case measure=>simp [intOf];omega
          · by_cases f3:wk=wi
            · by_cases f4:k<i
              · have g1:(wk==ck)=false:=by simpa using f1
                have g1n:(wk != ck)=true:=by simpa using f1
                have g3:(wk==wi)=true:=by simpa using f3
                have g4:decide ((k:Int)<(i:Int))=true:=by rw [decide_eq_true_iff];omega
                have F1:=qz f1
                clear f1
                have F3:=qz f3
                clear f3
                have F4:=qz f4
                clear f4
                go_wp2
                go_quiet (fail)
                go_wp2
                go_quiet (fail)
                go_wp2
                go_ret
                exact ⟨zad (Eq.symm (keptB_yes (keptP_by (k:=k) (by rw [EC.out,EN.out];exact HW.out) (by rw [HC.out];exact hlt) ⟨HNE.out,by rw [ECK.out,EWK.out,EC.out,EN.out];exact .inr (.inl ⟨F1.out,F3.out,F4.out⟩)⟩))),_,by simp only [World.drewN_drewN];rfl⟩
              · by_cases f2:ck=wi
                · by_cases f5:wk=ci
                  · have g1:(wk==ck)=false:=by simpa using f1
                    have g1n:(wk != ck)=true:=by simpa using f1
                    have g3:(wk==wi)=true:=by simpa using f3
                    have g4:decide ((k:Int)<(i:Int))=false:=by rw [decide_eq_false_iff_not];omega
                    have g2:(ck==wi)=true:=by simpa using f2
                    have g5:(wk==ci)=true:=by simpa using f5
                    have F1:=qz f1
                    clear f1
                    have F3:=qz f3
                    clear f3
                    have F4:=qz f4
                    clear f4
                    have F2:=qz f2
                    clear f2
                    have F5:=qz f5
                    clear f5
                    go_wp2
                    go_quiet (fail)
                    go_wp2
                    go_quiet (fail)
                    go_wp2
                    go_quiet (fail)
                    go_wp2
                    go_ret
                    exact ⟨zad (Eq.symm (keptB_yes (keptP_by (k:=k) (by rw [EC.out,EN.out];exact HW.out) (by rw [HC.out];exact hlt) ⟨HNE.out,by rw [ECK.out,EWK.out,EC.out,EN.out];exact .inr (.inr ⟨F2.out,F5.out⟩)⟩))),_,by simp only [World.drewN_drewN];rfl⟩
                  · have g1:(wk==ck)=false:=by simpa using f1
                    have g1n:(wk != ck)=true:=by simpa using f1
                    have g3:(wk==wi)=true:=by simpa using f3
                    have g4:decide ((k:Int)<(i:Int))=false:=by rw [decide_eq_false_iff_not];omega
                    have g2:(ck==wi)=true:=by simpa using f2
                    have g5:(wk==ci)=false:=by simpa using f5
                    have F1:=qz f1
                    clear f1
                    have F3:=qz f3
                    clear f3
                    have F4:=qz f4
                    clear f4
                    have F2:=qz f2
                    clear f2
                    have F5:=qz f5
                    clear f5
                    have HS:Hid (¬ StopsBy cells now i k):=by
                     rintro ⟨_,hs⟩
                     rw [ECK.out,EWK.out,EC.out,EN.out] at hs
                     have y1:=HW.out
                     have yx1:=F1.out
                     have yx3:=F3.out
                     have yx4:=F4.out
                     have yx2:=F2.out
                     have yx5:=F5.out
                     rcases hs with ⟨z1,z2⟩|⟨z1,z2,z3⟩|⟨z1,z2⟩ <;> first|contradiction|omega
                    go_wp2
                    go_quiet (fail)
                    go_wp2
                    go_quiet (fail)
                    go_wp2
                    go_quiet (fail)
                    go_wp2
                    go_roundw
                    case rel=>exact ⟨k+1,_,by omega,by go_num,rfl,stops_more HN.out HS.out⟩
                    case measure=>simp [intOf];omega
                · have g1:(wk==ck)=false:=by simpa using f1
                  have g1n:(wk != ck)=true:=by simpa using f1
                  have g3:(wk==wi)=true:=by simpa using f3
                  have g4:decide ((k:Int)<(i:Int))=false:=by rw [decide_eq_false_iff_not];omega
                  have g2:(ck==wi)=false:=by simpa using f2
                  have F1:=qz f1
                  clear f1
                  have F3:=qz f3
                  clear f3
                  have F4:=qz f4
                  clear f4
                  have F2:=qz f2
                  clear f2
                  have HS:Hid (¬ StopsBy cells now i k):=by
                   rintro ⟨_,hs⟩
                   rw [ECK.out,EWK.out,EC.out,EN.out] at hs
                   have y1:=HW.out
                   have yx1:=F1.out
                   have yx3:=F3.out
                   have yx4:=F4.out
                   have yx2:=F2.out
                   rcases hs with ⟨z1,z2⟩|⟨z1,z2,z3⟩|⟨z1,z2⟩ <;> first|contradiction|omega
                  go_wp2
                  go_quiet (fail)
                  go_wp2
                  go_quiet (fail)
                  go_wp2
                  go_quiet (fail)
                  go_wp2
                  go_roundw
                  case rel=>exact ⟨k+1,_,by omega,by go_num,rfl,stops_more HN.out HS.out⟩
                  case measure=>simp [intOf];omega
            · by_cases f2:ck=wi
              · by_cases f5:wk=ci
                · have g1:(wk==ck)=false:=by simpa using f1
                  have g1n:(wk != ck)=true:=by simpa using f1
                  have g3:(wk==wi)=false:=by simpa using f3
                  have g2:(ck==wi)=true:=by simpa using f2
                  have g5:(wk==ci)=true:=by simpa using f5
                  have F1:=qz f1
                  clear f1
                  have F3:=qz f3
                  clear f3
                  have F2:=qz f2
                  clear f2
                  have F5:=qz f5
                  clear f5
                  go_wp2
                  go_quiet (fail)
                  go_wp2
                  go_quiet (fail)
                  go_wp2
                  go_quiet (fail)
                  go_wp2
                  go_ret
                  exact ⟨zad (Eq.symm (keptB_yes (keptP_by (k:=k) (by rw [EC.out,EN.out];exact HW.out) (by rw [HC.out];exact hlt) ⟨HNE.out,by rw [ECK.out,EWK.out,EC.out,EN.out];exact .inr (.inr ⟨F2.out,F5.out⟩)⟩))),_,by simp only [World.drewN_drewN];rfl⟩
                · have g1:(wk==ck)=false:=by simpa using f1
                  have g1n:(wk != ck)=true:=by simpa using f1
                  have g3:(wk==wi)=false:=by simpa using f3
                  have g2:(ck==wi)=true:=by simpa using f2
                  have g5:(wk==ci)=false:=by simpa using f5
                  have F1:=qz f1
                  clear f1
                  have F3:=qz f3
                  clear f3
                  have F2:=qz f2
                  clear f2
                  have F5:=qz f5
                  clear f5
                  have HS:Hid (¬ StopsBy cells now i k):=by
                   rintro ⟨_,hs⟩
                   rw [ECK.out,EWK.out,EC.out,EN.out] at hs
                   have y1:=HW.out
                   have yx1:=F1.out
                   have yx3:=F3.out
                   have yx2:=F2.out
                   have yx5:=F5.out
                   rcases hs with ⟨z1,z2⟩|⟨z1,z2,z3⟩|⟨z1,z2⟩ <;> first|contradiction|omega
                  go_wp2
                  go_quiet (fail)
                  go_wp2
                  go_quiet (fail)
                  go_wp2
                  go_quiet (fail)
                  go_wp2
                  go_roundw
                  case rel=>exact ⟨k+1,_,by omega,by go_num,rfl,stops_more HN.out HS.out⟩
                  case measure=>simp [intOf];omega
              · have g1:(wk==ck)=false:=by simpa using f1
                have g1n:(wk != ck)=true:=by simpa using f1
                have g3:(wk==wi)=false:=by simpa using f3
                have g2:(ck==wi)=false:=by simpa using f2
                have F1:=qz f1
                clear f1
                have F3:=qz f3
                clear f3
                have F2:=qz f2
                clear f2
                have HS:Hid (¬ StopsBy cells now i k):=by
                 rintro ⟨_,hs⟩
                 rw [ECK.out,EWK.out,EC.out,EN.out] at hs
                 have y1:=HW.out
                 have yx1:=F1.out
                 have yx3:=F3.out
                 have yx2:=F2.out
                 rcases hs with ⟨z1,z2⟩|⟨z1,z2,z3⟩|⟨z1,z2⟩ <;> first|contradiction|omega
                go_wp2
                go_quiet (fail)
                go_wp2
                go_quiet (fail)
                go_wp2
                go_quiet (fail)
                go_wp2
                go_roundw
                case rel=>exact ⟨k+1,_,by omega,by go_num,rfl,stops_more HN.out HS.out⟩
                case measure=>simp [intOf];omega
      · obtain rfl:k=n:=by omega
        go_wp2
        go_ret
        exact ⟨zad (Eq.symm (keptB_no (keptP_not (by rw [EN.out];exact HM.out) (by rw [HC.out];exact HN.out)))),_,rfl⟩
end Go.Proofs.YtknnnbpgkfaapaaGreat.Vm
