/- The program's segment does what it should: its seven functions, gathered. The switch of layer 14 is on, of a program whose segment does what it should. -/
import Derived.Test.YtplnaaokapilpaaDoorSegDoes
import Derived.Test.YtplnaaokapilpaaDoorSegTk
import Derived.Test.YtplnaaokapilpaaDoorSegPr
import Derived.Test.YtplnaaokapilpaaDoorSegPu
import Derived.Test.YtplnaaokapilpaaDoorSegLs
import Derived.Test.YtplnaaokapilpaaDoorCodSts
import Derived.Test.YtplnaaokapilpaaDoorRefScans
import Derived.Deep.DeepCutAuto
namespace Go.Proofs.YtplnaaokapilpaaDoor.Vm
open Go Go.RowKit
theorem segDoes : SegDoes where
  seg := fun n w hn hL => seg_any n w hn hL
  snap := fun n w hn hL => snap_any n w hn hL
  tick := fun s w hs hL => tick_any s w hs hL
  head := fun n w hn => head_any n w hn
  parse := fun a n c zs w h hz hn hl => parse_any a n c zs w h hz hn hl
  put := fun a n c l a' n' c' l' w h h' hn hn' => mput_any a n c l a' n' c' l' w h h' (by omega) (by omega)
  read := fun a n c zs w h hz hn => mread_any a n c zs w h hz (by omega)
end Go.Proofs.YtplnaaokapilpaaDoor.Vm

namespace Go.Proofs.YtplnaaokapilpaaDoor.Vm
open Go Go.RowKit
set_option maxRecDepth 100000

def xB : Rcd := ⟨5, [], [], [1], 0⟩
theorem canXB : CanR xB := ⟨⟨by decide, by decide⟩, rfl, fun c hc => by simp [xB] at hc, by decide⟩
theorem wfXB : WfR xB := ⟨fun p hp => by simp [xB] at hp, by decide⟩
theorem lenXB : (encR xB).length = 6 := by decide +kernel
theorem lenFB : (fr (encR xB)).length = 11 := by decide +kernel
theorem lenHB : (headF 5).length = 7 := by decide +kernel
theorem isB : IsRec (encR xB) xB := ⟨canXB, wfXB, by decide, rfl⟩
theorem parseB : parseG (headF 5 ++ fr (encR xB)) = ⟨0, 5, [xB], 18, 0⟩ := by
  have e : headF 5 ++ fr (encR xB) = frs (segF 5 [xB]) := by simp [frs, segF, headF]
  have hl : (frs (segF 5 [xB])).length = 18 := by rw [← e, List.length_append, lenHB, lenFB]
  rw [e, parseG_all (n := 5) (l := [xB]) (by omega) ⟨rfl, trivial⟩ (fun x hx => by
    obtain rfl : x = xB := by simpa using hx
    exact ⟨isB, by rw [lenXB]; omega⟩), hl]
  rfl
theorem readMG_enc {l l' : List Int} (h : CanM l l') (hl : (encM l l').length ≤ 1000000) : readMG (encM l l') = (0, l, l') := by
  have hex : ∃ p : List Int × List Int, CanM p.1 p.2 ∧ encM p.1 p.2 = encM l l' := ⟨(l, l'), h, rfl⟩
  obtain ⟨g1, g2⟩ := encM_one h rfl hex.choose_spec.1 hex.choose_spec.2 hl
  unfold readMG
  rw [dif_pos hex, ← g1, ← g2]
theorem canMB : CanM [0, 5] [0] := ⟨by decide, by decide⟩
theorem lenMB : (encM [0, 5] [0]).length = 10 := by decide +kernel
theorem putB_can {l l' : List Int} (h : CanM l l') : putB l l' = encM l l' ∧ putE l l' = 0 := by
  unfold putB putE
  exact ⟨if_pos h, if_pos h⟩
theorem name12 : bytesOf ({ data := #[115, 110, 97, 112, 45, 48, 48, 48, 48, 48, 48, 48, 48, 49, 50] } : ByteArray) = snapS 12 := by decide +kernel
theorem name7 : strOf (segS 7) = ({ data := #[115, 101, 103, 45, 48, 48, 48, 48, 48, 48, 48, 48, 48, 55] } : ByteArray) := by
  apply bytesOf_inj
  rw [bytesOf_strOf (segS_lt 7)]
  decide +kernel
theorem encMB_lt : ∀ x ∈ encM [0, 5] [0], x < 256 := by decide +kernel
theorem frB_lt : ∀ x ∈ headF 5 ++ fr (encR xB), x < 256 := by decide +kernel
theorem scanB_le : ∀ z ∈ (scanS (headF 5 ++ fr (encR xB))).1, z.length ≤ 90000 := fun z hz => by
  have := (scan_sub _ _ (Nat.le_refl _) z hz).1
  rw [List.length_append, lenHB, lenFB] at this
  omega
set_option maxHeartbeats 4000000 in
theorem awake14_of (D : SegDoes) (w : World) (hL : Laid14 w) : Calls Tryd.prog 5 #[] w fun e w' => e = .returned (.bool true) ∧ Below w.heap.size w w' := by
  have HD := Lib.hid D
  have HLD := Lib.hid (fun V (hV : Below w.heap.size w V) => hL.below hV)
  clear hL
  -- the record
  obtain ⟨w1, hw1⟩ : ∃ w1, w1 = w.alloc (.cells #[.int .i64 1] 3) := ⟨_, rfl⟩
  have hb1 : Below w.heap.size w w1 := by rw [hw1]; exact (Below.refl _ _).alloc (Nat.le_refl _) _
  have hin1 : RhIn w1 w1.heap.size ⟨5, none, 0, 0, none, 0, 0, some ⟨w.heap.size, 0, none⟩, 1, 1, 0⟩ xB := by
    refine ⟨rfl, ⟨rfl, Nat.le_refl _, by simp [maxLen], fun h => absurd h (Nat.lt_irrefl 0)⟩, ⟨rfl, Nat.le_refl _, by simp [maxLen], fun h => absurd h (Nat.lt_irrefl 0)⟩, ⟨rfl, Nat.le_refl _, by simp [maxLen], fun _ => ⟨_, 0, rfl, by rw [hw1]; simp, fun j hj => ?_⟩⟩, rfl⟩
    have hj : j < 1 := hj
    obtain rfl : j = 0 := by omega
    rw [hw1]
    simp [xB]
  have HC := Lib.hid ((codP_any ⟨5, none, 0, 0, none, 0, 0, some ⟨w.heap.size, 0, none⟩, 1, 1, 0⟩ xB w1 hin1 wfXB ⟨by decide, by decide, by decide⟩).mono (fun e w' ⟨v, er, he, h1, _, hb⟩ => by
    obtain ⟨rfl, ho⟩ := h1 canXB
    obtain ⟨va, vc, rfl, _⟩ := ho.slice
    rw [lenXB] at he ho
    exact (⟨va, vc, he, ho, hb⟩ : ∃ va vc, e = .returned (.tuple #[.slice va 6 vc, .int .i64 0]) ∧ Own w' w1.heap.size (.slice va 6 vc) (encR xB) ∧ Below w1.heap.size w1 w')))
  have HB1 := Lib.hid hb1
  have HW1 : Hid (w.alloc (.cells #[.int .i64 1] 3) = w1) := hw1.symm
  clear D hin1 hw1 hb1
  go_enter Tryd.func5, Tryd.ntmps5
  go_wp2_with fail
  rw [HW1.out]
  refine HC.out.mono ?_
  rintro e w2 ⟨a2, c2, rfl, ho2, hb2⟩
  have HB2 := Lib.hid (HB1.out.trans (hb2.mono HB1.out.size))
  have HFP := Lib.hid (fput_any a2 6 c2 (encR xB) w2 ho2.row (encR_byte xB) (by omega))
  clear ho2 hb2 HC
  go_wp2_with fail
  refine HFP.out.mono ?_
  rintro e w3 ⟨v3, rfl, ho3, hb3⟩
  obtain ⟨a3, c3, rfl, _⟩ := ho3.slice
  rw [lenFB] at ho3 ⊢
  have HB3 := Lib.hid (HB2.out.trans (hb3.mono HB2.out.size))
  have HO3 := Lib.hid ho3
  have HH := Lib.hid (HD.out.head 5 w3 (by omega))
  clear ho3 hb3 HFP
  go_wp2_with fail
  refine HH.out.mono ?_
  rintro e w4 ⟨v4, rfl, ho4, hb4⟩
  obtain ⟨a4, c4, rfl, _⟩ := ho4.slice
  rw [lenHB] at ho4 ⊢
  have HB4 := Lib.hid (HB3.out.trans (hb4.mono HB3.out.size))
  have HO4 := Lib.hid ho4
  have HR3 := Lib.hid ((HO3.out.calls hb4).row)
  have HZ4 := Lib.hid hb4.size
  clear ho4 hb4 HH
  go_wp2_with (at_builtin; refine wpList_append_row rfl (.tmp 28) (.tmp 29) rfl rfl HO4.out rfl HR3.out (by rw [lenHB]; omega) HZ4.out ?_; intro v5 w5 hown5 hgrow5 _)
  have HB5 := Lib.hid (Below.grows HB4.out HB4.out.size (HO4.out.mono HB3.out.size) hgrow5)
  obtain ⟨a5, c5, rfl, hr5⟩ := hown5.slice
  rw [List.length_append, lenHB, lenFB] at hr5 ⊢
  have HPA := Lib.hid (HD.out.parse a5 18 c5 (headF 5 ++ fr (encR xB)) w5 hr5 frB_lt (by omega) scanB_le)
  rw [parseB] at HPA
  clear hown5 hgrow5 hr5 HO4 HR3 HZ4 HO3
  refine HPA.out.mono ?_
  rintro e w6 ⟨a6, c6, hs6, rfl, ho6, hb6⟩
  have HB6 := Lib.hid (HB5.out.trans (hb6.mono HB5.out.size))
  obtain ⟨b6, o6, rfl, hlb6, hin6, hcell6, _⟩ := (ho6.rowAt (n := 1) rfl).at (i := 0) (by omega)
  have ht6 : (hs6.getD 0 zrh).t = 5 := hin6.tick
  rw [ht6] at hcell6
  have HT6 := Lib.hid (fun V (hV : Below w6.heap.size w6 V) => (hV.cell (p := ⟨b6, o6 + 0 * 5, none⟩) hlb6).trans hcell6)
  clear ho6 hin6 hcell6 ht6 hlb6 HPA
  obtain ⟨w8, hw8⟩ : ∃ w8, w8 = (w6.alloc (.cells #[.int .i64 0, .int .i64 5] 3)).alloc (.cells #[.int .i64 0] 3) := ⟨_, rfl⟩
  have hb8 : Below w6.heap.size w6 w8 := by rw [hw8]; exact ((Below.refl _ _).alloc (Nat.le_refl _) _).alloc (by simp) _
  have hs8 : w8.heap.size = w6.heap.size + 2 := by rw [hw8]; simp
  have hr1 : RowZ .i64 w8 w8.heap.size (some ⟨w6.heap.size, 0, none⟩) 2 2 [0, 5] := ⟨rfl, Nat.le_refl _, by simp [maxLen], fun _ => ⟨_, 0, rfl, by omega, fun j hj => by
    rw [hw8]
    rcases (show j = 0 ∨ j = 1 by omega) with rfl | rfl
    · simp
    · simp⟩⟩
  have hr2 : RowZ .i64 w8 w8.heap.size (some ⟨w6.heap.size + 1, 0, none⟩) 1 1 [0] := ⟨rfl, Nat.le_refl _, by simp [maxLen], fun _ => ⟨_, 0, rfl, by omega, fun j hj => by
    obtain rfl : j = 0 := by omega
    rw [hw8]
    simp⟩⟩
  have HPU := Lib.hid ((HD.out.put _ 2 2 _ _ 1 1 _ w8 hr1 hr2 (by omega) (by omega)).mono fun e w' h => saysM_put h)
  rw [(putB_can canMB).1, (putB_can canMB).2] at HPU
  have HB8 := Lib.hid (HB6.out.trans (hb8.mono HB6.out.size))
  have HC8 := Lib.hid hb8
  have HW8 : Hid ((w6.alloc (.cells #[.int .i64 0, .int .i64 5] 3)).alloc (.cells #[.int .i64 0] 3) = w8) := hw8.symm
  clear hb8 hs8 hr1 hr2 hw8 hb6
  go_wp2_with fail
  rw [HW8.out]
  refine HPU.out.mono ?_
  rintro e w9 ⟨v9, rfl, ho9, hb9⟩
  obtain ⟨a9, c9, rfl, hr9⟩ := ho9.slice
  rw [lenMB] at hr9 ⊢
  have HB9 := Lib.hid (HB8.out.trans (hb9.mono HB8.out.size))
  have HC9 := Lib.hid (HC8.out.trans (hb9.mono HC8.out.size))
  have HRE := Lib.hid ((HD.out.read a9 10 c9 _ w9 hr9 encMB_lt (by omega)).mono fun e w' h => saysRM_read h (by rw [lenMB]; omega))
  rw [readMG_enc canMB (by rw [lenMB]; omega)] at HRE
  clear ho9 hr9 hb9 HPU
  go_wp2_with fail
  refine HRE.out.mono ?_
  rintro e w10 ⟨a10, n10, d10, b10, m10, e10, rfl, hx10, hy10, hb10⟩
  have HB10 := Lib.hid (HB9.out.trans (hb10.mono HB9.out.size))
  have HC10 := Lib.hid (HC9.out.trans (hb10.mono HC9.out.size))
  obtain rfl : 2 = n10 := hx10.1
  obtain ⟨bx, ox, rfl, hbx, hcx⟩ := hx10.2.2.2 (by omega)
  have hcx1 : w10.cell? ⟨bx, ox + 1, none⟩ = some (.int .i64 5) := hcx 1 (by omega)
  have hdx := hx10.2.1
  have hdm := hx10.2.2.1
  unfold maxLen at hdm
  obtain ⟨w11, hw11⟩ : ∃ w11, w11 = w10.alloc (.cells #[.slice (some ⟨bx, ox, none⟩) 2 d10, .slice b10 m10 e10] 32) := ⟨_, rfl⟩
  have hb11 : Below w10.heap.size w10 w11 := by rw [hw11]; exact (Below.refl _ _).alloc (Nat.le_refl _) _
  have hm11 : ManB w11 w10.heap.size 32 (some ⟨bx, ox, none⟩) 2 d10 b10 m10 e10 := by rw [hw11]; exact ManB.new w10
  have hs11 : w10.heap.size < w11.heap.size := by rw [hw11]; simp
  have HB11 := Lib.hid (HB10.out.trans (hb11.mono HB10.out.size))
  have HC11 := Lib.hid (HC10.out.trans (hb11.mono HC10.out.size))
  have HM := Lib.hid (fun V (hV : Below w11.heap.size w11 V) => (⟨(hm11.below hV hs11).cells.1, (((hb11.trans (hV.mono hb11.size)).cell (p := ⟨bx, ox + 1, none⟩) hbx).trans hcx1)⟩ : _ ∧ V.cell? ⟨bx, ox + 1, none⟩ = some (.int .i64 5)))
  have HTK := Lib.hid (HD.out.tick { data := #[115, 110, 97, 112, 45, 48, 48, 48, 48, 48, 48, 48, 48, 49, 50] } w11 (by decide) (HLD.out w11 HB11.out))
  rw [name12, tickN_snap (by omega)] at HTK
  have HW11 : Hid (w10.alloc (.cells #[.slice (some ⟨bx, ox, none⟩) 2 d10, .slice b10 m10 e10] 32) = w11) := hw11.symm
  clear hx10 hy10 hb10 hcx hcx1 hb11 hm11 hs11 hw11 hbx HRE
  go_wp2_with fail
  rw [HW11.out]
  refine HTK.out.mono ?_
  rintro e w12 ⟨rfl, hb12⟩
  have HB12 := Lib.hid (HB11.out.trans (hb12.mono HB11.out.size))
  have HC12 := Lib.hid (HC11.out.trans (hb12.mono HC11.out.size))
  have HD12 := Lib.hid hb12
  have t6 := HT6.out w12 HC12.out
  rw [Nat.zero_mul, Nat.add_zero] at t6
  have HH2 := Lib.hid (HD.out.head 5 w12 (by omega))
  clear hb12 HTK
  go_wp2_with fail
  refine HH2.out.mono ?_
  rintro e w13 ⟨v13, rfl, ho13, hb13⟩
  obtain ⟨a13, c13, rfl, _⟩ := ho13.slice
  rw [lenHB] at ho13 ⊢
  have HB13 := Lib.hid (HB12.out.trans (hb13.mono HB12.out.size))
  obtain ⟨p0, p1⟩ := HM.out w13 (HD12.out.trans (hb13.mono HD12.out.size))
  have HSG := Lib.hid (HD.out.seg 7 w13 (by omega) (HLD.out w13 HB13.out))
  rw [name7] at HSG
  clear t6 ho13 hb13 HH2
  go_wp2_with fail
  refine HSG.out.mono ?_
  rintro e w14 ⟨rfl, hb14⟩
  have HB14 := Lib.hid (HB13.out.trans (hb14.mono HB13.out.size))
  clear p0 p1 hb14
  go_wp2_with fail
  go_ret
  exact ⟨rfl, HB14.out⟩
theorem awake14_any (w : World) (hL : Laid14 w) : Calls Tryd.prog 5 #[] w fun e w' => e = .returned (.bool true) ∧ Below w.heap.size w w' := awake14_of segDoes w hL
end Go.Proofs.YtplnaaokapilpaaDoor.Vm
