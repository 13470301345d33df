/- tuggerlaw02.FrameBack returns true for every input: of frames that were put all are scanned; of a beginning just those that are whole. -/
import Derived.Test.YtgeonmojadkbjaaAwakeTwo
import Derived.Test.YtgeonmojadkbjaaAlls
import Derived.Test.YtgeonmojadkbjaaSizes
namespace Go.Proofs.Ytgeonmojadkbjaa.Vm
open Go.RowKit

theorem info_int : (Try.prog.info? 3).map (fun i => (i.zero, i.size, i.bytes)) = some (some (.int .i64 0), 1, 8) := by kernel_rfl
/-- Numbers in new memory. -/
def i64s (l : List Nat) : List Value := l.map fun z => Value.int .i64 (z : Nat)
def OwnI (w : World) (B : Nat) (v : Value) (l : List Nat) : Prop := w.ownsRow B 3 1 v l.length (i64s l)

section
variable {w w' : World} {B B' : Nat} {u v : Value} {e e' : TypeId} {n n' k : Nat} {xs xs' : List Value} {row : Option Nat}
theorem owns_other (he : e ≠ e') (h : w.ownsRow B e 1 u n xs) (hv : w.ownsRow B' e' 1 v n' xs') (hk : u.ownBlock = some k) : v.ownBlock ≠ some k := by
  intro hk'
  rcases h.2 with ⟨rfl, _⟩ | ⟨g, cap, cur, rfl, _, hg, _⟩
  · simp [Value.ownBlock] at hk
  · rcases hv.2 with ⟨rfl, _⟩ | ⟨g', cap', cur', rfl, _, hg', _⟩
    · simp [Value.ownBlock] at hk'
    · simp only [Value.ownBlock, Option.some.injEq] at hk hk'
      subst hk
      rw [hk', hg] at hg'
      simp at hg'
      exact he hg'.2
theorem owns_stay (h : w.ownsRow B e 1 u n xs) (hg : w.grownBy w' row) (hk : ∀ k, u.ownBlock = some k → row ≠ some k) : w'.ownsRow B e 1 u n xs := by
  refine ⟨h.1, ?_⟩
  rcases h.2 with h2 | ⟨g, cap, cur, rfl, hb, hh, r⟩
  · exact .inl h2
  · exact .inr ⟨g, cap, cur, rfl, hb, by rw [hg.block g (Array.getElem?_eq_some_iff.1 hh).1 (fun e => hk g rfl e.symm)]; exact hh, r⟩
theorem owns_below (h : w.ownsRow B e 1 u n xs) (hb : Below w.heap.size w w') : w'.ownsRow B e 1 u n xs := by
  refine ⟨h.1, ?_⟩
  rcases h.2 with h2 | ⟨g, cap, cur, rfl, hB, hh, r⟩
  · exact .inl h2
  · exact .inr ⟨g, cap, cur, rfl, hB, by rw [hb.block g (Array.getElem?_eq_some_iff.1 hh).1]; exact hh, r⟩
theorem owns_mono (h : w.ownsRow B e 1 u n xs) (hB : B' ≤ B) : w.ownsRow B' e 1 u n xs := by
  refine ⟨h.1, ?_⟩
  rcases h.2 with h2 | ⟨g, cap, cur, rfl, hb, r⟩
  · exact .inl h2
  · exact .inr ⟨g, cap, cur, rfl, by omega, r⟩
end
theorem OwnI.form {w : World} {B : Nat} {v : Value} {l : List Nat} (h : OwnI w B v l) (hl : 0 < l.length) : ∃ g cap, v = .slice (some ⟨g, 0, none⟩) l.length cap ∧ g < w.heap.size ∧ ∀ j, j < l.length → w.cell? ⟨g, j, none⟩ = some (.int .i64 (l.getD j 0 : Nat)) := by
  rcases h.2 with ⟨_, hn⟩ | ⟨g, cap, cur, rfl, hb, hg, _⟩
  · omega
  · refine ⟨g, cap, rfl, (Array.getElem?_eq_some_iff.1 hg).1, fun j hj => ?_⟩
    have := World.ownsRow.cells h (g := g) rfl j (.int .i64 (l.getD j 0 : Nat)) (by simp [i64s, List.getD, hj])
    rwa [Row.add, Nat.zero_add] at this
theorem ownI_zero (w : World) : OwnI (w.alloc (.cells #[.int .i64 0] 3)) w.heap.size (.slice (some ⟨w.heap.size, 0, none⟩) 1 1) [0] :=
  ⟨rfl, .inr ⟨w.heap.size, 1, _, rfl, Nat.le_refl _, heap_alloc_new w _, Nat.le_refl _, by simp [maxLen], rfl, rfl⟩⟩
theorem OwnI.push {w : World} {B : Nat} {v : Value} {l : List Nat} {x m : Nat} (hm : l.length = m) (h : w.ownsRow B 3 1 v (m + 1) (i64s l ++ [.int .i64 (x : Nat)])) : OwnI w B v (l ++ [x]) := by
  unfold OwnI
  subst hm
  simpa [i64s] using h
theorem u8_ne_int : (5 : TypeId) ≠ 3 := by decide
theorem int_ne_u8 : (3 : TypeId) ≠ 5 := by decide

set_option maxRecDepth 100000 in
set_option maxHeartbeats 1600000 in
theorem frame_back_walk (a0 : Option Addr) (n0 c0 : Nat) (ls : List (List Nat)) (cut : Int) (w : World) (hr : Rows w w.heap.size a0 n0 c0 ls) (hz : ∀ l ∈ ls, ∀ x ∈ l, x < 256) (hl : ∀ l ∈ ls, l.length ≤ 140737488355328)
    (hcut1 : -9223372036854775808 ≤ cut) (hcut2 : cut ≤ 9223372036854775807) :
    Calls Try.prog 4 #[.slice a0 n0 c0, .int .i64 cut] w fun e w' => e = .returned (.bool true) ∧ Below w.heap.size w w' := by
  obtain ⟨i2, hi2, hq0, hq1, hq2⟩ := info_parts info_int
  have hm := hr.2.2.1
  have hlc := hr.2.1
  unfold maxLen at hm
  have HR := Lib.hid hr
  have HZ := Lib.hid hz
  have HLL := Lib.hid hl
  have HL := Lib.hid hr.1
  clear hr hz hl
  go_enter Try.func4, Try.ntmps4
  go_wp2_with fail
  refine (awake_two w).mono ?_
  rintro e w1 ⟨rfl, hbel1⟩
  go_wp2_with fail
  refine (size_any a0 n0 c0 _ ls w1 (HR.out.below hbel1) HLL.out).mono ?_
  rintro e w1' ⟨⟨z, rfl, htot⟩, rfl⟩
  by_cases hz : 3000 < z
  · clear htot
    go_wp2_with fail
    go_ret
    exact ⟨rfl, hbel1⟩
  have hz' : z ≤ 3000 := by omega
  have ht := htot hz'
  clear htot hz
  have hn3 : n0 ≤ 3000 := by have := tot_len ls; have := HL.out; omega
  have HT : Hid (tot ls ≤ 3000) := by unfold Hid; omega
  have HI := Lib.hid (owns_mono (ownI_zero w1) hbel1.size)
  have hbel2 : ∀ o, Below w.heap.size w (w1.alloc o) := fun o => hbel1.alloc hbel1.size o
  have HB2 := Lib.hid hbel2
  clear hbel2 ht
  go_wp2_with fail
  go_loopw [6, 7, 8] (fun v u i wr => ∃ k : Nat, k ≤ n0 ∧ i = .int .i64 k ∧ Own wr w.heap.size v (frs (ls.take k)) ∧ OwnI wr w.heap.size u (endsL ls k) ∧ Below w.heap.size w wr) (fun _ _ i _ => n0 - (intOf i).toNat)
  case atStart => exact ⟨0, Nat.zero_le _, rfl, by simp only [List.take_zero]; exact World.ownsRow_nil _ _ _ _, by rw [endsL_zero]; exact HI.out, HB2.out _⟩
  case round =>
    obtain ⟨k, hk, rfl, hown, hownI, hwl⟩ := hrel
    by_cases hlt : k < n0
    · obtain ⟨b, off, rfl, hb, hcs⟩ := (HR.out.below hwl).cells (by omega)
      obtain ⟨a', c', hcell, hrk⟩ := hcs k hlt
      clear hcs
      have hmem : ls.getD k [] ∈ ls := by have := HL.out; simp [List.getD, show k < ls.length by omega]
      have hlk : (ls.getD k []).length ≤ 3000 := Nat.le_trans (tot_mem hmem) HT.out
      have hF := frs_snoc ls k (by have := HL.out; omega)
      have hfl : (frs (ls.take (k + 1))).length ≤ 6000 := by have := frs_len _ (Nat.le_trans (tot_take ls (k + 1)) HT.out); have := tot_take ls (k + 1); have := HT.out; omega
      have hP := fput_any a' _ c' _ wr (hrk.mono hwl.size) (HZ.out _ hmem) (by omega)
      have hE := endsL_succ ls k
      have hEl := endsL_len ls k
      have hFL : (frs (ls.take k)).length + (fr (ls.getD k [])).length ≤ 6000 := by rw [hF, List.length_append] at hfl; exact hfl
      have hEA : endAt ls (k + 1) = (frs (ls.take k) ++ fr (ls.getD k [])).length := by unfold endAt; rw [hF]
      generalize ls.getD k [] = lk at *
      have HP := Lib.hid hP
      have HF := Lib.hid hF
      have HE := Lib.hid hE
      have HEL := Lib.hid hEl
      have HFL' : Hid ((frs (ls.take k)).length + (fr lk).length ≤ 140737488355328) := by unfold Hid; omega
      have HEA := Lib.hid hEA
      obtain ⟨N, hN⟩ : ∃ N, (frs (ls.take k) ++ fr lk).length = N := ⟨_, rfl⟩
      have hN6 : N ≤ 6000 := by rw [← hN, List.length_append]; exact hFL
      have HN := Lib.hid hN
      clear hP hF hE hEl hfl hrk hFL hEA hmem hN
      go_wp2_with fail
      refine HP.out.mono ?_
      rintro e w3 ⟨v3, rfl, hown3, hbel3⟩
      obtain ⟨a3, c3, rfl, hr3⟩ := hown3.slice
      have hown4 : Own w3 w.heap.size _ _ := owns_below hown hbel3
      have hownI4 : OwnI w3 w.heap.size _ _ := owns_below hownI hbel3
      have hwl4 : Below w.heap.size w w3 := hwl.trans (hbel3.mono hwl.size)
      have hs4 := hwl4.size
      have HR3 := Lib.hid hr3
      clear hown hownI hbel3 hown3 hr3 hcell
      go_wp2_with (at_builtin; first
        | (refine wpList_append_row rfl (.tmp 42) (.tmp 43) rfl rfl hown4 rfl HR3.out HFL'.out hs4 ?_
           intro v5 w5 hown5 hgrow5 _
           obtain ⟨a5, c5, rfl, _⟩ := hown5.slice
           rw [HN.out]
           have hbel5 := Below.grows hwl4 hs4 hown4 hgrow5
           have hownI5 : OwnI w5 w.heap.size _ _ := owns_stay hownI4 hgrow5 (fun k hk => owns_other int_ne_u8 hownI4 hown4 hk)
           have hs5 := hbel5.size)
        | (refine wpList_append_own _ rfl (.tmp 45) (.tmp 48) 36 rfl w.heap.size 3 i2 (.int .i64 0) 1 8 Try.underlying36 hi2 hq0 hq1 hq2 rfl (by decide) _ _ _ rfl (World.ownsRow.alloc hownI5 _) ⟨w5.heap.size, 0, none⟩ 1 1 [.int .i64 (N : Nat)] rfl rfl (one_cell _ _ _) (by simp [Value.oneCell']) (by rw [HEL.out]; simp only [maxLen]; omega) (by rw [HEL.out]; omega) (by simp; omega) ?_
           intro v6 w6 hown6 hgrow6 _))
      have hownI7 : OwnI w6 w.heap.size v6 (endsL ls (k + 1)) := by
        rw [HE.out, HEA.out, HN.out]
        exact OwnI.push rfl hown6
      have hown7 : Own w6 w.heap.size (.slice a5 N c5) (frs (ls.take (k + 1))) := by
        rw [HF.out]
        rw [HN.out] at hown5
        exact owns_stay (World.ownsRow.alloc hown5 _) hgrow6 (fun k hk => owns_other u8_ne_int hown5 hownI5 hk)
      have hwl7 : Below w.heap.size w w6 := (hbel5.alloc hs5 _).grown hgrow6 (by simp; omega) (fun k hk => (World.ownsRow.lt hownI5 k hk).1)
      clear hown6 hgrow6 hown5 hownI5 hown4 hownI4
      go_wp2_with fail
      go_roundw
      case rel => exact ⟨k + 1, by omega, by go_num, hown7, hownI7, hwl7⟩
      case measure => simp [intOf]; omega
    · obtain rfl : k = n0 := by omega
      rw [List.take_of_length_le (by rw [HL.out]; omega)] at hown
      have hbig : ∀ l ∈ ls, l.length ≤ 1000000 := fun l hl => by have := tot_mem hl; have := HT.out; omega
      have hFl := frs_len ls HT.out
      obtain ⟨a6, c6, rfl, hr6⟩ := hown.slice
      obtain ⟨N, hN⟩ : ∃ N, (frs ls).length = N := ⟨_, rfl⟩
      obtain ⟨g, ce, rfl, hge, hce⟩ := hownI.form (by rw [endsL_len]; omega)
      rw [endsL_len] at hce ⊢
      have hce' : ∀ j, j ≤ k → wr.cell? ⟨g, j, none⟩ = some (.int .i64 (endAt ls j : Nat)) := fun j hj => by rw [hce j (by omega), endsL_at ls k j hj]
      have hEN : ∀ j, endAt ls j ≤ N := fun j => by rw [← hN]; exact endAt_le ls j
      rw [hN] at hr6 hFl ⊢
      have hN6 : N ≤ 6000 := by have := HT.out; omega
      have hsc := scan_any a6 N c6 _ wr hr6 (frs_lt HZ.out) (by omega)
      rw [scan_all ls hbig, hN] at hsc
      have hNc := hr6.2.1
      have HSC := Lib.hid hsc
      have HR6 := Lib.hid hr6
      have HCE := Lib.hid hce'
      have HEN := Lib.hid hEN
      have HBG := Lib.hid hbig
      have HNN := Lib.hid hN
      clear hsc hr6 hce hce' hEN hbig hown hownI hFl hN
      go_wp2_with fail
      refine HSC.out.mono ?_
      rintro e w3 ⟨v3, rfl, hown3, hbel3⟩
      obtain ⟨a3, c3, rfl, hr3⟩ := hown3.rows
      have hwl3 : Below w.heap.size w w3 := hwl.trans (hbel3.mono hwl.size)
      have HA := Lib.hid (all_same ((HR.out.below hwl3).mono hwl3.size) hr3)
      clear hown3 hr3
      go_wp2_with fail
      refine HA.out.mono ?_
      rintro e w4 ⟨rfl, d, rfl⟩
      have hb4 : Below wr.heap.size wr (w3.drewN d) := below_drewN hbel3 d
      have hwl4 := below_drewN hwl3 d
      clear HA hbel3 hwl3
      generalize w3.drewN d = w4 at *
      by_cases hc1 : cut < 0
      · go_wp2_with fail
        go_ret
        exact ⟨rfl, hwl4⟩
      by_cases hc2 : (N : Int) < cut
      · have e0 : decide (cut < 0) = false := by simp; omega
        go_wp2_with fail
        go_ret
        exact ⟨rfl, hwl4⟩
      obtain ⟨q, rfl⟩ := Int.eq_ofNat_of_zero_le (show 0 ≤ cut by omega)
      have hq : q ≤ N := by omega
      have hqc : (q : Int) ≤ (c6 : Int) := by omega
      have e0 : decide ((q : Int) < 0) = false := by simp
      have e00 : decide ((N : Int) < (q : Int)) = false := by simp; omega
      clear hc1 hc2 hcut1 hcut2
      go_wp2_with fail
      go_loop [15] (fun i => ∃ j : Nat, j ≤ k ∧ i = .int .i64 j ∧ Hid (endAt ls j ≤ q)) (fun i => k - (intOf i).toNat)
      case atStart => exact ⟨0, Nat.zero_le _, rfl, by unfold Hid; simp [endAt, frs]⟩
      case round =>
        obtain ⟨j, hj, rfl, HJ⟩ := hrel
        by_cases hjk : j < k
        · have f1 : decide ((j : Int) + 1 < (k : Int) + 1) = true := by simp; omega
          have hcell : w4.cell? ⟨g, j + 1, none⟩ = some (.int .i64 (endAt ls (j + 1) : Nat)) := by rw [hb4.cell (p := ⟨g, j + 1, none⟩) hge]; exact HCE.out (j + 1) (by omega)
          generalize hx : endAt ls (j + 1) = x at hcell
          have HX := Lib.hid hx
          clear hx
          by_cases hxq : x ≤ q
          · go_wp2_with fail
            go_round
            case rel => exact ⟨j + 1, by omega, by go_num, by unfold Hid; rw [HX.out]; exact hxq⟩
            case measure => simp [intOf]; omega
          · have f2 : decide ((x : Int) ≤ (q : Int)) = false := by simp; omega
            have HNX : Hid (j < ls.length → q < endAt ls (j + 1)) := by unfold Hid; intro _; rw [HX.out]; omega
            generalize hxx : x = y at *
            clear hxx HX
            have hjc : (j : Int) ≤ (c0 : Int) := by omega
            have hs := scan_cut ls HBG.out q j (by have := HL.out; omega) HJ.out HNX.out (by rw [HNN.out]; exact hq)
            have hpart : Row .u8 w4 w4.heap.size a6 q c6 ((frs ls).take q) := by
              have := ((HR6.out.below hb4).mono hb4.size).part (lo := 0) (hi := q) (mx := c6) (a' := a6) (by omega) hq (by omega) (Nat.le_refl _) (fun b off e _ => by rw [e, Nat.add_zero])
              simpa using this
            have hsc := scan_any a6 q c6 _ w4 hpart (fun x hx => frs_lt HZ.out x (List.mem_of_mem_take hx)) (by omega)
            rw [hs] at hsc
            have HFI := Lib.hid (HR.out.first (k := j) (mx := c0) (by omega) (by omega) (Nat.le_refl _))
            generalize ls.take j = lj at hsc HFI
            have HCJ := Lib.hid (HCE.out j hj)
            clear hs hpart
            generalize endAt ls j = x at *
            by_cases hqx : q = x
            · subst hqx
              rw [if_pos rfl] at hsc
              have HSC2 := Lib.hid hsc
              clear hsc
              go_wp2_with fail
              refine HSC2.out.mono ?_
              rintro e w5 ⟨v5, rfl, hown5, hbel5⟩
              obtain ⟨a5, c5, rfl, hr5⟩ := hown5.rows
              have hwl5 : Below w.heap.size w w5 := hwl4.trans (hbel5.mono hwl4.size)
              have HA2 := Lib.hid (all_same ((HFI.out.below hwl5).mono hwl5.size) hr5)
              have HC5 : Hid (w5.cell? ⟨g, j, none⟩ = some (.int .i64 (q : Nat))) := by unfold Hid; rw [hbel5.cell (p := ⟨g, j, none⟩) (Nat.lt_of_lt_of_le hge hb4.size), hb4.cell (p := ⟨g, j, none⟩) hge]; exact HCJ.out
              clear hown5 hr5 hbel5
              go_wp2_with fail
              refine HA2.out.mono ?_
              rintro e w6 ⟨rfl, d6, rfl⟩
              have hc6 : (w5.drewN d6).cell? ⟨g, j, none⟩ = some (.int .i64 (q : Nat)) := HC5.out
              have hwl6 := below_drewN hwl5 d6
              generalize w5.drewN d6 = w6 at *
              have e1 : ((q : Int) == (q : Int)) = true := by simp
              go_wp2_with fail
              go_ret
              exact ⟨rfl, hwl6⟩
            · rw [if_neg hqx] at hsc
              have HSC2 := Lib.hid hsc
              have e1 : ((x : Int) == (q : Int)) = false := by simp; omega
              have e2 : ((x : Int) == (x : Int)) = true := by simp
              clear hsc hqx
              go_wp2_with fail
              refine HSC2.out.mono ?_
              rintro e w5 ⟨v5, rfl, hown5, hbel5⟩
              obtain ⟨a5, c5, rfl, hr5⟩ := hown5.rows
              have hwl5 : Below w.heap.size w w5 := hwl4.trans (hbel5.mono hwl4.size)
              have HA2 := Lib.hid (all_same ((HFI.out.below hwl5).mono hwl5.size) hr5)
              have HC5 : Hid (w5.cell? ⟨g, j, none⟩ = some (.int .i64 (x : Nat))) := by unfold Hid; rw [hbel5.cell (p := ⟨g, j, none⟩) (Nat.lt_of_lt_of_le hge hb4.size), hb4.cell (p := ⟨g, j, none⟩) hge]; exact HCJ.out
              clear hown5 hr5 hbel5
              go_wp2_with fail
              refine HA2.out.mono ?_
              rintro e w6 ⟨rfl, d6, rfl⟩
              have hc6 : (w5.drewN d6).cell? ⟨g, j, none⟩ = some (.int .i64 (x : Nat)) := HC5.out
              have hwl6 := below_drewN hwl5 d6
              generalize w5.drewN d6 = w6 at *
              go_wp2_with fail
              go_ret
              exact ⟨rfl, hwl6⟩
        · obtain rfl : j = k := by omega
          have f1 : decide ((j : Int) + 1 < (j : Int) + 1) = false := by simp
          have HNX : Hid (j < ls.length → q < endAt ls (j + 1)) := by unfold Hid; intro h; have := HL.out; omega
          have hjc : (j : Int) ≤ (c0 : Int) := by omega
          have hs := scan_cut ls HBG.out q j (by have := HL.out; omega) HJ.out HNX.out (by rw [HNN.out]; exact hq)
          have hpart : Row .u8 w4 w4.heap.size a6 q c6 ((frs ls).take q) := by
            have := ((HR6.out.below hb4).mono hb4.size).part (lo := 0) (hi := q) (mx := c6) (a' := a6) (by omega) hq (by omega) (Nat.le_refl _) (fun b off e _ => by rw [e, Nat.add_zero])
            simpa using this
          have hsc := scan_any a6 q c6 _ w4 hpart (fun x hx => frs_lt HZ.out x (List.mem_of_mem_take hx)) (by omega)
          rw [hs] at hsc
          have HFI := Lib.hid (HR.out.first (k := j) (mx := c0) (by omega) (by omega) (Nat.le_refl _))
          generalize ls.take j = lj at hsc HFI
          have HCJ := Lib.hid (HCE.out j hj)
          clear hs hpart
          generalize endAt ls j = x at *
          by_cases hqx : q = x
          · subst hqx
            rw [if_pos rfl] at hsc
            have HSC2 := Lib.hid hsc
            clear hsc
            go_wp2_with fail
            refine HSC2.out.mono ?_
            rintro e w5 ⟨v5, rfl, hown5, hbel5⟩
            obtain ⟨a5, c5, rfl, hr5⟩ := hown5.rows
            have hwl5 : Below w.heap.size w w5 := hwl4.trans (hbel5.mono hwl4.size)
            have HA2 := Lib.hid (all_same ((HFI.out.below hwl5).mono hwl5.size) hr5)
            have HC5 : Hid (w5.cell? ⟨g, j, none⟩ = some (.int .i64 (q : Nat))) := by unfold Hid; rw [hbel5.cell (p := ⟨g, j, none⟩) (Nat.lt_of_lt_of_le hge hb4.size), hb4.cell (p := ⟨g, j, none⟩) hge]; exact HCJ.out
            clear hown5 hr5 hbel5
            go_wp2_with fail
            refine HA2.out.mono ?_
            rintro e w6 ⟨rfl, d6, rfl⟩
            have hc6 : (w5.drewN d6).cell? ⟨g, j, none⟩ = some (.int .i64 (q : Nat)) := HC5.out
            have hwl6 := below_drewN hwl5 d6
            generalize w5.drewN d6 = w6 at *
            have e1 : ((q : Int) == (q : Int)) = true := by simp
            go_wp2_with fail
            go_ret
            exact ⟨rfl, hwl6⟩
          · rw [if_neg hqx] at hsc
            have HSC2 := Lib.hid hsc
            have e1 : ((x : Int) == (q : Int)) = false := by simp; omega
            have e2 : ((x : Int) == (x : Int)) = true := by simp
            clear hsc hqx
            go_wp2_with fail
            refine HSC2.out.mono ?_
            rintro e w5 ⟨v5, rfl, hown5, hbel5⟩
            obtain ⟨a5, c5, rfl, hr5⟩ := hown5.rows
            have hwl5 : Below w.heap.size w w5 := hwl4.trans (hbel5.mono hwl4.size)
            have HA2 := Lib.hid (all_same ((HFI.out.below hwl5).mono hwl5.size) hr5)
            have HC5 : Hid (w5.cell? ⟨g, j, none⟩ = some (.int .i64 (x : Nat))) := by unfold Hid; rw [hbel5.cell (p := ⟨g, j, none⟩) (Nat.lt_of_lt_of_le hge hb4.size), hb4.cell (p := ⟨g, j, none⟩) hge]; exact HCJ.out
            clear hown5 hr5 hbel5
            go_wp2_with fail
            refine HA2.out.mono ?_
            rintro e w6 ⟨rfl, d6, rfl⟩
            have hc6 : (w5.drewN d6).cell? ⟨g, j, none⟩ = some (.int .i64 (x : Nat)) := HC5.out
            have hwl6 := below_drewN hwl5 d6
            generalize w5.drewN d6 = w6 at *
            go_wp2_with fail
            go_ret
            exact ⟨rfl, hwl6⟩
end Go.Proofs.Ytgeonmojadkbjaa.Vm
