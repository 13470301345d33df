/- The contract of the document's Scan: it answers what frame.Scan does. -/
import Derived.Test.YtgeonmojadkbjaaScans
import Derived.Test.YtgeonmojadkbjaaRefTakes
import Derived.Test.YtgeonmojadkbjaaSames
import Derived.Deep.RegionWith
import Derived.Deep.RegionHeld3
namespace Go.Proofs.Ytgeonmojadkbjaa.Vm
open Go.RowKit

theorem wrap_sum (q x : Nat) (h : q + x + 4 ≤ 1099511627776) : IntKind.i64.wrap ((q : Int) + x + 4) = (q : Int) + x + 4 := by rw [IntKind.wrap_i64]; omega
theorem cut_facts {q x n c : Nat} (h : q + x + 4 ≤ n) (hnc : n ≤ c) : (0 : Int) ≤ (q : Int) + x ∧ (0 : Int) ≤ (q : Int) + x + 4 ∧ (q : Int) ≤ (q : Int) + x ∧ (q : Int) + x ≤ c ∧ (q : Int) + x + 4 ≤ c ∧ ¬ c = q ∧ ¬ c = q + x ∧ (q : Int) + x ≤ (q : Int) + x + 4 := by omega
theorem four_same {X : Nat} {l : List Nat} (hX : X < 4294967296) (h4 : l.length = 4) (hl : ∀ x ∈ l, x < 256) : sameB (four X) l = decide (X = num l) := by
  unfold sameB
  by_cases h : X = num l
  · rw [decide_eq_true h, h, four_num h4 hl]; simp
  · rw [decide_eq_false h]
    refine decide_eq_false (fun he => h ?_)
    rw [← he, num_four hX]

set_option maxRecDepth 100000 in
set_option maxHeartbeats 1600000 in
theorem rscan_any (a : Option Addr) (n c : Nat) (zs : List Nat) (w : World) (h : Row .u8 w w.heap.size a n c zs) (hz : ∀ x ∈ zs, x < 256) (hn : n ≤ 1099511627776) :
    Calls Try.prog 11 #[.slice a n c] w fun e w' => ∃ v, e = .returned (.tuple #[v, .int .i64 ((scanS zs).2.1 : Nat), .int .i64 ((scanS zs).2.2 : Nat)]) ∧ OwnRows w' w.heap.size v (scanS zs).1 ∧ Below w.heap.size w w' := by
  obtain ⟨i1, hi1, hy0, hy1, hy2⟩ := info_parts info_rows
  have hm := h.2.2.1
  have hnc := h.2.1
  unfold maxLen at hm
  have HL := Lib.hid h.1
  have HZ := Lib.hid hz
  have HR := Lib.hid h
  clear hz h
  obtain ⟨S, hS⟩ : ∃ S, scanS zs = S := ⟨_, rfl⟩
  rw [hS]
  have HS := Lib.hid hS
  clear hS
  go_enter Try.func11, Try.ntmps11
  go_wp2_with fail
  go_loopw [5, 6] (fun v i wr => ∃ (p : Nat) (out : List (List Nat)), p ≤ n ∧ out.length ≤ p ∧ i = .int .i64 p ∧ OwnRows wr w.heap.size v out ∧ Below w.heap.size w wr ∧ Hid (Goes zs out p)) (fun _ i _ => n - (intOf i).toNat)
  case atStart => exact ⟨0, [], Nat.zero_le _, Nat.le_refl _, rfl, OwnRows.nil _ _, Below.refl _ _, Goes.start zs⟩
  case round =>
    obtain ⟨p, out, hp, hop, rfl, hown, hwl, HGo⟩ := hrel
    by_cases hlt : p < n
    · have hr0 : zs.drop p ≠ [] := by intro e; have h1 := congrArg List.length e; have h2 := HL.out; simp only [List.length_drop, List.length_nil] at h1; omega
      obtain ⟨x, k, e, hD⟩ : ∃ x k e, dec 0 (zs.drop p) = (x, k, e) := ⟨_, _, _, rfl⟩
      have htk := rtake_in a n c _ zs p wr (HR.out.below hwl) HZ.out hp
      rw [takeS_dec (by have := HL.out; omega) hD] at htk
      have hrl : (zs.drop p).length = n - p := by have := HL.out; rw [List.length_drop]; omega
      by_cases he : e = 0
      · subst he
        rw [if_pos rfl] at htk
        have HTK := Lib.hid htk
        clear htk
        have hok := dec_ok 9 0 (zs.drop p) rfl (fun y hy => HZ.out y (List.mem_of_mem_drop hy)) (by rw [hD])
        rw [hD, hrl] at hok
        obtain ⟨hk1, hk2, hk3, hx64, _, _⟩ := hok
        simp only [] at hk1 hk2 hk3 hx64
        by_cases hx : 1000000 < x
        · have HF := Lib.hid (HGo.out.stop (scan_great hr0 hD hx))
          have e1 : decide ((1000000 : Int) < (x : Int)) = true := by simp; omega
          clear hr0 hD hrl
          go_wp2_with fail
          refine HTK.out.mono ?_
          rintro e w2 ⟨rfl, rfl⟩
          go_wp2_with fail
          go_ret3
          exact ⟨_, fin_scan (HS.out.symm.trans HF.out) rfl rfl, by rw [← HS.out, HF.out]; exact hown, hwl⟩
        · have e1 : decide ((1000000 : Int) < (x : Int)) = false := by simp; omega
          have hx' : x ≤ 1000000 := by omega
          clear hx
          obtain ⟨q, hq⟩ : ∃ q, p + k = q := ⟨_, rfl⟩
          rw [hq] at HTK
          by_cases hfit : n - q < x + 4
          · have HF := Lib.hid (HGo.out.stop (scan_few hr0 hD hx' (by omega)))
            clear hr0 hD hrl
            go_wp2_with fail
            refine HTK.out.mono ?_
            rintro e w2 ⟨rfl, rfl⟩
            go_wp2_with fail
            go_ret3
            exact ⟨_, fin_scan (HS.out.symm.trans HF.out) rfl rfl, by rw [← HS.out, HF.out]; exact hown, hwl⟩
          · have hfit' : q + x + 4 ≤ n := by omega
            obtain ⟨b, off, rfl, hb, hcs⟩ := HR.out.cells (by omega)
            clear hcs
            have hpart : ∀ w', Below w.heap.size w w' → Row .u8 w' w.heap.size (some ⟨b, off + q, none⟩) x (c - q) ((zs.drop q).take x) := fun w' hw' => by
              have := (HR.out.below hw').part (lo := q) (hi := q + x) (mx := c) (a' := some ⟨b, off + q, none⟩) (by omega) (by omega) (by omega) (Nat.le_refl _) (fun b' off' e1 _ => by injection e1 with e1; injection e1 with e1 e2; subst e1 e2; rfl)
              rwa [Nat.add_sub_cancel_left] at this
            have hsum : ∀ w', Below w.heap.size w w' → Row .u8 w' w.heap.size (some ⟨b, off + (q + x), none⟩) 4 (c - (q + x)) ((zs.drop (q + x)).take 4) := fun w' hw' => by
              have := (HR.out.below hw').part (lo := q + x) (hi := q + x + 4) (mx := c) (a' := some ⟨b, off + (q + x), none⟩) (by omega) (by omega) (by omega) (Nat.le_refl _) (fun b' off' e1 _ => by injection e1 with e1; injection e1 with e1 e2; subst e1 e2; rfl)
              rwa [Nat.add_sub_cancel_left] at this
            have hpb : ∀ y ∈ (zs.drop q).take x, y < 256 := fun y hy => HZ.out y (List.mem_of_mem_drop (List.mem_of_mem_take hy))
            have hck : ∀ w', Below w.heap.size w w' → Calls Try.prog 14 #[.slice (some ⟨b, off + q, none⟩) x (c - q)] w' fun e w'' => e = .returned (.int .u32 (crc ((zs.drop q).take x) : Nat)) ∧ w' = w'' := fun w' hw' =>
              rcheck_any _ x (c - q) _ _ _ (hpart _ hw') hpb
            have hsm : ∀ w' a' c', Below w.heap.size w w' → Row .u8 w' w'.heap.size a' 4 c' (four (crc ((zs.drop q).take x))) → Calls Try.prog 9 #[.slice a' 4 c', .slice (some ⟨b, off + (q + x), none⟩) 4 (c - (q + x))] w' fun e w'' => e = .returned (.bool (decide (crc ((zs.drop q).take x) = num ((zs.drop (q + x)).take 4)))) ∧ ∃ j, w'' = w'.drewN j := fun w' a' c' hw' hr' => by
              have := same_any a' _ 4 c' 4 (c - (q + x)) w'.heap.size _ _ w' hr' ((hsum w' hw').mono hw'.size)
              rwa [four_same (crc_lt _) (hsum w' hw').1 (fun y hy => HZ.out y (List.mem_of_mem_drop (List.mem_of_mem_take hy)))] at this
            have hd1 : (zs.drop p).drop k = zs.drop q := by rw [List.drop_drop, hq]
            have hd2 : (zs.drop p).drop (k + x) = zs.drop (q + x) := by rw [List.drop_drop, ← hq, Nat.add_assoc]
            have hno := scan_sum hr0 hD hx' (by omega)
            have hyes := scan_whole hD hx' (by omega)
            rw [hd1, hd2] at hno hyes
            have HP : Hid (∀ w' L, L = x → Below w.heap.size w w' → Row .u8 w' w.heap.size (some ⟨b, off + q, none⟩) L (c - q) ((zs.drop q).take x)) := fun w' L hL hw' => by subst hL; exact hpart w' hw'
            have HPL : Hid (((zs.drop q).take x).length = x) := (hpart w (Below.refl _ _)).1
            clear hpart hsum hpb hd1 hd2 hr0 hD
            generalize (zs.drop q).take x = part at hck hno hyes HP HPL hsm
            generalize num ((zs.drop (q + x)).take 4) = Y at hsm hno hyes
            have hXl := crc_lt part
            generalize crc part = X at hck hno hyes hsm hXl
            have HCK : Hid (∀ w' L, L = x → Below w.heap.size w w' → Calls Try.prog 14 #[.slice (some ⟨b, off + q, none⟩) L (c - q)] w' fun e w'' => e = .returned (.int .u32 (X : Nat)) ∧ w' = w'') := fun w' L hL hw' => by subst hL; exact hck w' hw'
            clear hck
            have f7 := wrap_sum q x (Nat.le_trans hfit' hn)
            obtain ⟨f0, f00, f1, f2, f3, f4, f5, f8⟩ := cut_facts hfit' hnc
            clear hx64
            by_cases hXY : X = Y
            · obtain ⟨hw, hbo, hsz⟩ := hyes hXY
              have HN : Hid (Goes zs (out ++ [part]) (q + x + 4)) := by
                have := HGo.out.next hw
                rw [hbo, hsz] at this
                unfold Hid
                rwa [show p + (k + x + 4) = q + x + 4 by omega] at this
              rw [decide_eq_true hXY] at hsm
              have HSM : Hid (∀ w' a' c' L, L = 4 → Below w.heap.size w w' → Row .u8 w' w'.heap.size a' 4 c' (four X) → Calls Try.prog 9 #[.slice a' 4 c', .slice (some ⟨b, off + (q + x), none⟩) L (c - (q + x))] w' fun e w'' => e = .returned (.bool true) ∧ ∃ j, w'' = w'.drewN j) := fun w' a' c' L hL hw' hr' => by subst hL; exact hsm w' a' c' hw' hr'
              clear hno hyes hw hbo hsz hXY HGo hsm
              go_wp2_with fail
              refine HTK.out.mono ?_
              rintro e w2 ⟨rfl, rfl⟩
              go_wp2_with fail
              go_region_held3 (fun _ => True) (exact trivial)
                (first
                  | (go_at_call 14; refine (HCK.out _ _ ?_ ?_).mono ?_; (first | rfl | exact Nat.add_sub_cancel_left | omega); exact hwl.drew; rintro e w3 ⟨rfl, rfl⟩)
                  | (go_at_call 18; refine (rfour_any X _ hXl).mono ?_; rintro e w4 ⟨v4, rfl, hown4, hbel4⟩; obtain ⟨a4, c4, rfl, hr4⟩ := hown4.slice; have HR4 := Lib.hid hr4; clear hr4 hown4)
                  | (go_at_call 9; refine (HSM.out w4 a4 c4 _ ?_ ?_ HR4.out).mono ?_; (first | rfl | exact Nat.add_sub_cancel_left | omega); exact hwl.drew.trans (hbel4.mono hwl.size); rintro e w5 ⟨rfl, j, rfl⟩))
              have hwq : Below wr.heap.size wr (w4.drewN j) := below_drewN ((Below.refl wr.heap.size wr).drew.trans hbel4) j
              have hownq := hown.below hwq
              have hWq : Below w.heap.size w (w4.drewN j) := hwl.trans (hwq.mono hwl.size)
              generalize w4.drewN j = wq at *
              clear hwq hbel4
              have hsq := hWq.size
              clear hown
              go_wp2_with (at_builtin; first
                | (refine wpList_append_row rfl (.tmp 71) (.tmp 75) rfl rfl (own_none wq) rfl (HP.out _ _ (by omega) (hWq.alloc hsq _)) (by simp only [List.length_nil]; omega) (by simp) ?_
                   intro v5 w5 hown5 hgrow5 _
                   rw [List.nil_append] at hown5
                   have hbel5 := Below.grows ((Below.refl wq.heap.size wq).alloc (Nat.le_refl _) _) (by simp) (own_none wq) hgrow5
                   obtain ⟨xs, h1, h2⟩ := hownq.below hbel5
                   obtain ⟨a5, c5, rfl, _⟩ := hown5.slice
                   have hW5 := hWq.trans (hbel5.mono hsq)
                   have hs5 := hW5.size)
                | (refine wpList_append_own _ rfl (.tmp 70) (.tmp 77) 28 rfl w.heap.size 22 i1 (.slice none 0 0) 1 24 Try.underlying28 hi1 hy0 hy1 hy2 rfl (by decide) _ _ _ rfl (World.ownsRow.alloc h1 _) ⟨w5.heap.size, 0, none⟩ 1 1 [.slice a5 part.length c5] rfl rfl (one_cell _ _ _) (by simp [Value.oneCell']) (by simp only [maxLen]; omega) (by omega) (by simp; omega) ?_
                   intro v6 w6 hown6 hgrow6 _))
              have hown7 := OwnRows.push h1 h2 (hown5.mono hsq) hown6 hgrow6
              have hW6 := (hW5.alloc hs5 _).grown hgrow6 (by simp; omega) (fun k hk => (World.ownsRow.lt h1 k hk).1)
              clear hown6 hgrow6 h1 h2 hownq
              go_wp2_with fail
              go_roundw
              case rel => exact ⟨q + x + 4, out ++ [part], hfit', by simp; omega, by go_num, hown7, hW6, HN⟩
              case measure => simp [intOf]; omega
            · have hstop := HGo.out.stop (hno hXY)
              rw [hrl] at hstop
              rw [decide_eq_false hXY] at hsm
              have HSM : Hid (∀ w' a' c' L, L = 4 → Below w.heap.size w w' → Row .u8 w' w'.heap.size a' 4 c' (four X) → Calls Try.prog 9 #[.slice a' 4 c', .slice (some ⟨b, off + (q + x), none⟩) L (c - (q + x))] w' fun e w'' => e = .returned (.bool false) ∧ ∃ j, w'' = w'.drewN j) := fun w' a' c' L hL hw' hr' => by subst hL; exact hsm w' a' c' hw' hr'
              clear hno hyes hXY HGo hsm
              by_cases hl : q + x + 4 = n
              · rw [if_pos (by omega)] at hstop
                have HF := Lib.hid hstop
                have e3 : ((q : Int) + x + 4 == (n : Int)) = true := by simp; omega
                clear hstop hl
                go_wp2_with fail
                refine HTK.out.mono ?_
                rintro e w2 ⟨rfl, rfl⟩
                go_wp2_with fail
                go_region_held3 (fun _ => True) (exact trivial)
                  (first
                    | (go_at_call 14; refine (HCK.out _ _ ?_ ?_).mono ?_; (first | rfl | exact Nat.add_sub_cancel_left | omega); exact hwl.drew; rintro e w3 ⟨rfl, rfl⟩)
                    | (go_at_call 18; refine (rfour_any X _ hXl).mono ?_; rintro e w4 ⟨v4, rfl, hown4, hbel4⟩; obtain ⟨a4, c4, rfl, hr4⟩ := hown4.slice; have HR4 := Lib.hid hr4; clear hr4 hown4)
                    | (go_at_call 9; refine (HSM.out w4 a4 c4 _ ?_ ?_ HR4.out).mono ?_; (first | rfl | exact Nat.add_sub_cancel_left | omega); exact hwl.drew.trans (hbel4.mono hwl.size); rintro e w5 ⟨rfl, j, rfl⟩))
                have hwq : Below wr.heap.size wr (w4.drewN j) := below_drewN ((Below.refl wr.heap.size wr).drew.trans hbel4) j
                have hownq := hown.below hwq
                have hWq : Below w.heap.size w (w4.drewN j) := hwl.trans (hwq.mono hwl.size)
                generalize w4.drewN j = wq at *
                clear hwq hbel4
                go_wp2_with fail
                go_ret3
                exact ⟨_, fin_scan (HS.out.symm.trans HF.out) rfl rfl, by rw [← HS.out, HF.out]; exact hownq, hWq⟩
              · rw [if_neg (by omega)] at hstop
                have HF := Lib.hid hstop
                have e3 : ((q : Int) + x + 4 == (n : Int)) = false := by simp; omega
                clear hstop hl
                go_wp2_with fail
                refine HTK.out.mono ?_
                rintro e w2 ⟨rfl, rfl⟩
                go_wp2_with fail
                go_region_held3 (fun _ => True) (exact trivial)
                  (first
                    | (go_at_call 14; refine (HCK.out _ _ ?_ ?_).mono ?_; (first | rfl | exact Nat.add_sub_cancel_left | omega); exact hwl.drew; rintro e w3 ⟨rfl, rfl⟩)
                    | (go_at_call 18; refine (rfour_any X _ hXl).mono ?_; rintro e w4 ⟨v4, rfl, hown4, hbel4⟩; obtain ⟨a4, c4, rfl, hr4⟩ := hown4.slice; have HR4 := Lib.hid hr4; clear hr4 hown4)
                    | (go_at_call 9; refine (HSM.out w4 a4 c4 _ ?_ ?_ HR4.out).mono ?_; (first | rfl | exact Nat.add_sub_cancel_left | omega); exact hwl.drew.trans (hbel4.mono hwl.size); rintro e w5 ⟨rfl, j, rfl⟩))
                have hwq : Below wr.heap.size wr (w4.drewN j) := below_drewN ((Below.refl wr.heap.size wr).drew.trans hbel4) j
                have hownq := hown.below hwq
                have hWq : Below w.heap.size w (w4.drewN j) := hwl.trans (hwq.mono hwl.size)
                generalize w4.drewN j = wq at *
                clear hwq hbel4
                go_wp2_with fail
                go_ret3
                exact ⟨_, fin_scan (HS.out.symm.trans HF.out) rfl rfl, by rw [← HS.out, HF.out]; exact hownq, hWq⟩
      · have herr := dec_err 0 (zs.drop p) (by rw [hD]; exact he)
        rw [hD] at herr
        obtain ⟨h1, h2, h3⟩ := herr
        simp only [] at h1 h2 h3
        subst h1 h2
        rw [if_neg he] at htk
        have HTK := Lib.hid htk
        clear htk
        rcases h3 with rfl | rfl
        · have HF := Lib.hid (HGo.out.stop (scan_short hr0 hD))
          clear hr0 hD he hrl
          go_wp2_with fail
          refine HTK.out.mono ?_
          rintro e w2 ⟨rfl, rfl⟩
          go_wp2_with fail
          go_ret3
          exact ⟨_, fin_scan (HS.out.symm.trans HF.out) rfl rfl, by rw [← HS.out, HF.out]; exact hown, hwl⟩
        · have HF := Lib.hid (HGo.out.stop (scan_bad hr0 hD))
          clear hr0 hD he hrl
          go_wp2_with fail
          refine HTK.out.mono ?_
          rintro e w2 ⟨rfl, rfl⟩
          go_wp2_with fail
          go_ret3
          exact ⟨_, fin_scan (HS.out.symm.trans HF.out) rfl rfl, by rw [← HS.out, HF.out]; exact hown, hwl⟩
    · have hpn : p = n := by omega
      have HF := Lib.hid (HGo.out.stop (by rw [List.drop_of_length_le (by rw [HL.out]; omega)]; exact scanS_nil))
      clear hpn
      go_wp2_with fail
      go_ret3
      exact ⟨_, fin_scan (HS.out.symm.trans HF.out) rfl rfl, by rw [← HS.out, HF.out]; exact hown, hwl⟩
end Go.Proofs.Ytgeonmojadkbjaa.Vm
