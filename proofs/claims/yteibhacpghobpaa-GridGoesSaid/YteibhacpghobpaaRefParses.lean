/- The contract of the document's Parse. -/
import Derived.Test.YteibhacpghobpaaParses
import Derived.Test.YteibhacpghobpaaPrintMath
namespace Go.Proofs.Yteibhacpghobpaa.Vm
open Go.RowKit

theorem str_snoc {row : List Nat} {s : ByteArray} {k : Nat} (h : k < s.size) : strOf row ++ s.extract k (k + 1) = strOf (row ++ [(s[k]'h).toNat]) := by
  apply bytesOf_inj
  rw [strOf_append, bytesOf_append, bytesOf_append, bytesOf_extract]
  congr 1
  rw [bytesOf_strOf (by intro x hx; simp at hx; subst hx; exact UInt8.toNat_lt _), drop_at (by rw [bytesOf_len]; exact h), bytesOf_at s k h, Nat.add_sub_cancel_left]
  simp

theorem last_at {s : ByteArray} (h : 0 < s.size) : (bytesOf s).getLast? = some (s[s.size - 1]'(by omega)).toNat := by
  rw [List.getLast?_eq_getElem?, bytesOf_len]
  have := bytesOf_at s (s.size - 1) (by omega)
  rw [← this]
  have hl : s.size - 1 < (bytesOf s).length := by rw [bytesOf_len]; omega
  simp [List.getD, hl]

theorem str_none {s : ByteArray} (h : s.size = 0) : s.toList = [] ∧ s.toList.isEmpty = true := by
  have : s.toList = [] := by
    rw [ByteArray.toList_eq]
    exact List.eq_nil_of_length_eq_zero (by simpa using h)
  exact ⟨this, by rw [this]; rfl⟩
theorem str_some {s : ByteArray} (h : 0 < s.size) : (¬ s.toList = []) ∧ s.toList.isEmpty = false := by
  have : ¬ s.toList = [] := by
    rw [ByteArray.toList_eq]
    intro h2
    have := congrArg List.length h2
    rw [Array.length_toList] at this
    have h3 : s.size = 0 := this
    omega
  exact ⟨this, by cases hh : s.toList with
    | nil => exact absurd hh this
    | cons a b => rfl⟩
theorem Meas.parse {l : List Nat} {W H : Nat} {cells row : List Nat} (h : Meas l l.length W H cells row) (hne : l ≠ []) (hlast : l.getLast? = some 10) : parseS l = if 256 < W ∨ 256 < H then (0, 0, [], 4) else (W, H, cells, 0) := by
  refine parseS_some ?_
  unfold measS
  rw [if_neg (fun h => h.elim hne (fun h => h hlast)), h.eq, List.drop_length, parseF]
theorem parseS_last {l : List Nat} (h : l = [] ∨ l.getLast? ≠ some 10) : parseS l = (0, 0, [], 3) := by unfold parseS; rw [if_pos h]

/-- The two grids of Parse: what is answered, and what has been read. -/
theorem below_pair (w : World) (o1 o2 : Obj) : Below w.heap.size w ((w.alloc o1).alloc o2) := ((Below.refl _ _).alloc (Nat.le_refl _) _).alloc (by simp) _

set_option maxRecDepth 100000 in
set_option maxHeartbeats 1600000 in
theorem rparse_any (s : ByteArray) (w : World) (hs : s.size ≤ 1099511627776) : Calls Try.prog 9 #[.string s] w (ParsePost w (parseS (bytesOf s))) := by
  have HL := Lib.hid (bytesOf_len s)
  by_cases h0 : s.size = 0
  · obtain ⟨e1, e2⟩ := str_none h0
    have HP := Lib.hid (parseS_last (l := bytesOf s) (.inl (List.eq_nil_of_length_eq_zero (by rw [bytesOf_len]; exact h0))))
    clear h0
    go_enter Try.func9, Try.ntmps9
    go_wp2_with fail
    refine bodyPost_ret (v := .tuple #[.agg #[.int .i64 0, .int .i64 0, .string ⟨#[]⟩], .int .i64 3]) (by simp [results, Try.results9, go_sem]) rfl (parsePost_no HP.out (below_pair w _ _))
  · have h1 : 0 < s.size := by omega
    obtain ⟨e1, e2⟩ := str_some h1
    have hla := last_at h1
    by_cases h10 : (s[s.size - 1]'(by omega)).toNat = 10
    · have e0 : (((s[s.size - 1]'(by omega)).toNat : Int) != 10) = false := by rw [bne_eq_false_iff_eq]; omega
      rw [h10] at hla
      have HLA := Lib.hid hla
      clear h0 h10 hla
      go_enter Try.func9, Try.ntmps9
      go_wp2_with fail
      clear e0
      go_loopw [5, 6] (fun t i wr => ∃ (k W H : Nat) (cells row : List Nat) (cs rs : ByteArray), k ≤ s.size ∧ W ≤ k ∧ H ≤ k ∧ rs.size ≤ k ∧ cs.size + rs.size ≤ k ∧ i = .int .i64 k ∧ t = .string rs ∧ wr = (w.alloc (gridO 0 0 ⟨#[]⟩)).alloc (gridO W H cs) ∧ Hid (cs = strOf cells) ∧ Hid (rs = strOf row) ∧ Hid (Meas (bytesOf s) k W H cells row)) (fun _ i _ => s.size - (intOf i).toNat)
      case atStart => exact ⟨0, 0, 0, [], [], ⟨#[]⟩, ⟨#[]⟩, Nat.zero_le _, Nat.le_refl _, Nat.le_refl _, Nat.le_refl _, Nat.le_refl _, rfl, rfl, rfl, rfl, rfl, Meas.start _⟩
      case round =>
        obtain ⟨k, W, H, cells, row, cs, rs, hk, hW, hH, hrs, hcs, rfl, rfl, rfl, HCS, HRS, HM⟩ := hrel
        have hrl : rs.size = row.length := by rw [HRS.out, strOf_size]
        have HRL := Lib.hid hrl
        clear hrl
        by_cases hlt : k < s.size
        · have hat := bytesOf_at s k hlt
          have hkl : k < (bytesOf s).length := by rw [HL.out]; exact hlt
          by_cases hc10 : (s[k]'hlt).toNat = 10
          · have e0 : (((s[k]'hlt).toNat : Int) != 10) = false := by rw [bne_eq_false_iff_eq]; omega
            rw [hc10] at hat
            clear hc10
            by_cases hg : row = [] ∨ (0 < H ∧ row.length ≠ W)
            · have HP := Lib.hid (parseS_none (HM.out.uneven hkl hat hg))
              have h2 : rs.size = 0 ∨ (0 < rs.size ∧ 0 < H ∧ ((rs.size : Int) != W) = true) := by
                rcases Nat.eq_zero_or_pos rs.size with h | h
                · exact .inl h
                · right
                  rcases hg with rfl | ⟨g1, g2⟩
                  · have h5 : rs.size = 0 := HRL.out; omega
                  · exact ⟨h, g1, by rw [bne_iff_ne]; have := HRL.out; omega⟩
              clear hg hat HM HRS HCS HRL
              rcases h2 with h2 | ⟨h2, h3, h4⟩
              · obtain ⟨f1, f2⟩ := str_none h2
                clear h2
                go_wp2_with fail
                refine bodyPost_ret (v := .tuple #[.agg #[.int .i64 0, .int .i64 0, .string ⟨#[]⟩], .int .i64 3]) (by simp [results, Try.results9, go_sem]) rfl (parsePost_no HP.out (below_pair w _ _))
              · obtain ⟨f1, f2⟩ := str_some h2
                go_wp2_with fail
                refine bodyPost_ret (v := .tuple #[.agg #[.int .i64 0, .int .i64 0, .string ⟨#[]⟩], .int .i64 3]) (by simp [results, Try.results9, go_sem]) rfl (parsePost_no HP.out (below_pair w _ _))
            · have HN := Lib.hid (HM.out.line hkl hat hg)
              have h2 : 0 < rs.size := by
                rcases Nat.eq_zero_or_pos rs.size with h | h
                · exact absurd (List.length_eq_zero_iff.1 (by rw [← HRL.out]; exact h)) (fun h => hg (.inl h))
                · exact h
              have h3 : H = 0 ∨ (0 < H ∧ ((rs.size : Int) != W) = false) := by
                rcases Nat.eq_zero_or_pos H with h | h
                · exact .inl h
                · right
                  have : row.length = W := Decidable.byContradiction fun h2 => hg (.inr ⟨h, h2⟩)
                  refine ⟨h, ?_⟩
                  rw [bne_eq_false_iff_eq]
                  have := HRL.out
                  omega
              obtain ⟨f1, f2⟩ := str_some h2
              have HCR : Hid (cs ++ rs = strOf (cells ++ row)) := by unfold Hid; rw [strOf_append, HCS.out, HRS.out]
              have hcrs : (cs ++ rs).size = cs.size + rs.size := by simp
              have HCRS := Lib.hid hcrs
              clear hg hat HM HCS hcrs
              rcases h3 with rfl | ⟨h3, h4⟩
              all_goals
                go_wp2_with fail
                go_roundw
                case rel => exact ⟨k + 1, rs.size, _ + 1, cells ++ row, [], cs ++ rs, ⟨#[]⟩, by omega, by omega, by omega, Nat.zero_le _, by rw [HCRS.out]; show cs.size + rs.size + 0 ≤ k + 1; omega, by go_num, rfl, rfl, HCR.out, rfl, by unfold Hid; rw [HRL.out]; exact HN.out⟩
                case measure => simp [intOf]; omega
          · have e0 : (((s[k]'hlt).toNat : Int) != 10) = true := by rw [bne_iff_ne]; omega
            have hisl := fun w => rletter_any (s[k]'hlt).toNat w
            cases hl : letterS (s[k]'hlt).toNat
            · have HP := Lib.hid (parseS_none (HM.out.bad hkl hat hc10 hl))
              rw [hl] at hisl
              have HI := Lib.hid hisl
              clear hisl hl HM hat hc10 HRS HCS HRL
              go_wp2_with fail
              refine (HI.out _).mono ?_
              rintro e w1 ⟨rfl, rfl⟩
              go_wp2_with fail
              refine bodyPost_ret (v := .tuple #[.agg #[.int .i64 0, .int .i64 0, .string ⟨#[]⟩], .int .i64 3]) (by simp [results, Try.results9, go_sem]) rfl (parsePost_no HP.out (below_pair w _ _))
            · have HN := Lib.hid (HM.out.letter hkl hat hl)
              have HS : Hid (rs ++ s.extract k (k + 1) = strOf (row ++ [(s[k]'hlt).toNat])) := by unfold Hid; rw [HRS.out]; exact str_snoc hlt
              have hss : (rs ++ s.extract k (k + 1)).size = rs.size + 1 := by rw [HS.out, strOf_size, List.length_append, HRL.out]; rfl
              have HSS := Lib.hid hss
              rw [hl] at hisl
              have HI := Lib.hid hisl
              have d1 : (k : Int) + 1 ≤ s.size := by omega
              have d2 : k + 1 ≤ s.size := by omega
              have d3 : (k : Int) ≤ (k : Int) + 1 := by omega
              clear hisl hl HM hat hc10 HRS HRL hss
              go_wp2_with fail
              refine (HI.out _).mono ?_
              rintro e w1 ⟨rfl, rfl⟩
              go_wp2_with fail
              go_roundw
              case rel => exact ⟨k + 1, W, H, cells, row ++ [(s[k]'hlt).toNat], cs, rs ++ s.extract k (k + 1), by omega, by omega, by omega, by rw [HSS.out]; omega, by rw [HSS.out]; omega, by go_num, rfl, rfl, HCS.out, HS.out, HN.out⟩
              case measure => simp [intOf]; omega
        · obtain rfl : k = s.size := by omega
          have HD := HM.out
          rw [← HL.out] at HD
          have hP := HD.parse (by intro h; have := HLA.out; rw [h] at this; simp at this) HLA.out
          clear HD HM
          by_cases hbig : 256 < W ∨ 256 < H
          · have HP := Lib.hid (hP.trans (if_pos hbig))
            have hbig2 : 256 < W ∨ (W ≤ 256 ∧ 256 < H) := by omega
            clear hbig hP HRS HCS HRL
            rcases hbig2 with h | ⟨h1, h2⟩
            all_goals
              go_wp2_with fail
              refine bodyPost_ret (v := .tuple #[.agg #[.int .i64 0, .int .i64 0, .string ⟨#[]⟩], .int .i64 4]) (by simp [results, Try.results9, go_sem]) rfl (parsePost_no HP.out (below_pair w _ _))
          · have HP := Lib.hid (hP.trans (if_neg hbig))
            have hW2 : W ≤ 256 := by omega
            have hH2 : H ≤ 256 := by omega
            clear hbig hP HRS HRL
            go_wp2_with fail
            refine bodyPost_ret (v := .tuple #[.agg #[.int .i64 W, .int .i64 H, .string cs], .int .i64 0]) (by simp [results, Try.results9, go_sem]) rfl ?_
            rw [HCS.out]
            exact parsePost_yes HP.out (below_pair w _ _)
    · have e0 : (((s[s.size - 1]'(by omega)).toNat : Int) != 10) = true := by rw [bne_iff_ne]; omega
      have HP := Lib.hid (parseS_last (l := bytesOf s) (.inr (by rw [hla]; intro h; exact h10 (Option.some.inj h))))
      clear h0 h10 hla
      go_enter Try.func9, Try.ntmps9
      go_wp2_with fail
      refine bodyPost_ret (v := .tuple #[.agg #[.int .i64 0, .int .i64 0, .string ⟨#[]⟩], .int .i64 3]) (by simp [results, Try.results9, go_sem]) rfl (parsePost_no HP.out (below_pair w _ _))
end Go.Proofs.Yteibhacpghobpaa.Vm
