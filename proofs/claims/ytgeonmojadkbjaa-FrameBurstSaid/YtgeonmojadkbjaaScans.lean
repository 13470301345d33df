/- The contract of frame.Scan: the frames at the beginning of bytes. -/
import Derived.Test.YtgeonmojadkbjaaFramePuts
import Derived.Test.YtgeonmojadkbjaaRowss
import Derived.Test.YtgeonmojadkbjaaTakes
import Derived.WalkMore
namespace Go.Proofs.Ytgeonmojadkbjaa.Vm
open Go.RowKit

theorem takeS_dec {zs : List Nat} {p x k e : Nat} (hp : p ≤ zs.length) (hD : dec 0 (zs.drop p) = (x, k, e)) : takeS zs p = if e = 0 then (x, p + k, 0) else (0, 0, e) := by
  unfold takeS
  rw [if_neg (by omega), Int.toNat_natCast, hD]
theorem fin_scan {S : List (List Nat) × Nat × Nat} {v : Value} {out : List (List Nat)} {p s : Nat} {P Z : Int} (h : S = (out, p, s)) (hP : P = p) (hZ : Z = s) : Ending.returned (.tuple #[v, .int .i64 P, .int .i64 Z]) = .returned (.tuple #[v, .int .i64 (S.2.1 : Nat), .int .i64 (S.2.2 : Nat)]) := by rw [h, hP, hZ]

/-- An empty slice in new memory. -/
theorem own_none (w : World) : Own (w.alloc (.cells #[] 5)) w.heap.size (.slice (some ⟨w.heap.size, 0, none⟩) 0 0) [] :=
  ⟨rfl, .inr ⟨w.heap.size, 0, _, rfl, Nat.le_refl _, heap_alloc_new w _, Nat.le_refl _, by simp [maxLen], rfl, rfl⟩⟩

set_option maxRecDepth 100000 in
set_option maxHeartbeats 1600000 in
theorem scan_any (a : Option Addr) (n c : Nat) (zs : List Nat) (w : World) (h : Row .u8 w w.heap.size a n c zs) (hz : ∀ x ∈ zs, x < 256) (hn : n ≤ 1099511627776) :
    Calls Try.prog 10 #[.slice a n c] w fun e w' => ∃ v, e = .returned (.tuple #[v, .int .i64 ((scanS zs).2.1 : Nat), .int .i64 ((scanS zs).2.2 : Nat)]) ∧ OwnRows w' w.heap.size v (scanS zs).1 ∧ Below w.heap.size w w' := by
  obtain ⟨i1, hi1, hy0, hy1, hy2⟩ := info_parts info_rows
  obtain ⟨hzero, hsize⟩ := zero_of_info info_tab
  obtain ⟨Z, hZ⟩ : ∃ Z, Array.replicate 256 (Value.int .u32 0) = Z := ⟨_, rfl⟩
  rw [hZ] at hzero
  have hZs : Z.size = 256 := by rw [← hZ]; simp
  have HZS := Lib.hid hZs
  clear hZ hZs
  have hm := h.2.2.1
  have hnc := h.2.1
  unfold maxLen at hm
  have HL := Lib.hid h.1
  have HZ := Lib.hid hz
  clear hz
  obtain ⟨S, hS⟩ : ∃ S, scanS zs = S := ⟨_, rfl⟩
  rw [hS]
  have HS := Lib.hid hS
  clear hS
  go_enter Try.func10, Try.ntmps10
  go_wp2_with fail
  go_step3
  go_wp2_with fail
  refine (sums_any w).mono ?_
  rintro e w1 ⟨rfl, hbel⟩
  obtain ⟨T, hT⟩ : ∃ T, tabV 256 = T := ⟨_, rfl⟩
  rw [hT]
  have hTs : T.size = 256 := by rw [← hT, tabV_size]
  have hst := run_storeCells_new (P := Try.prog) w1 46 Z T (by rw [hTs]; exact hsize) (by rw [hTs, HZS.out]) (by rw [← hT]; exact tabV_one _)
  have HTab : Tab (w1.alloc (.cells T 46)) w1.heap.size := by unfold Tab; rw [hT]; exact heap_alloc_last w1 _
  have HT := Lib.hid HTab
  have HR := Lib.hid ((h.below hbel).alloc hbel.size (.cells T 46))
  have HB := Lib.hid (hbel.alloc hbel.size (.cells T 46))
  have HG : Hid (w1.heap.size < (w1.alloc (.cells T 46)).heap.size) := by unfold Hid; simp
  clear HTab h hT hsize
  go_wp2_with fail
  go_step3
  go_wp2_with fail
  clear hst hzero hTs
  generalize w1.heap.size = g at *
  generalize w1.alloc (.cells T 46) = W at *
  go_loopw [6, 7, 8] (fun v i z wr => ∃ (p : Nat) (out : List (List Nat)), z = .int .i64 0 ∧ p ≤ n ∧ out.length ≤ p ∧ i = .int .i64 p ∧ OwnRows wr W.heap.size v out ∧ Below W.heap.size W wr ∧ Hid (Goes zs out p)) (fun _ i _ _ => n - (intOf i).toNat)
  case atStart => exact ⟨0, [], rfl, Nat.zero_le _, Nat.le_refl _, rfl, OwnRows.nil _ _, Below.refl _ _, Goes.start zs⟩
  case round =>
    obtain ⟨p, out, rfl, hp, hop, rfl, hown, hwl, HGo⟩ := hrel
    have hBW := HB.out.size
    by_cases hlt : p < n
    · have hr0 : zs.drop p ≠ [] := by intro e; have h1 := congrArg List.length e; have h2 := HL.out; simp only [List.length_drop, List.length_nil] at h1; omega
      obtain ⟨x, k, e, hD⟩ : ∃ x k e, dec 0 (zs.drop p) = (x, k, e) := ⟨_, _, _, rfl⟩
      have htk := take_in a n c _ zs p wr ((HR.out.mono hBW).below hwl) HZ.out hp
      rw [takeS_dec (by have := HL.out; omega) hD] at htk
      have hrl : (zs.drop p).length = n - p := by have := HL.out; rw [List.length_drop]; omega
      by_cases he : e = 0
      · subst he
        rw [if_pos rfl] at htk
        have HTK := Lib.hid htk
        clear htk
        have hok := dec_ok 9 0 (zs.drop p) rfl (fun y hy => HZ.out y (List.mem_of_mem_drop hy)) (by rw [hD])
        rw [hD, hrl] at hok
        obtain ⟨hk1, hk2, hk3, hx64, _, _⟩ := hok
        simp only [] at hk1 hk2 hk3 hx64
        by_cases hx : 1000000 < x
        · have HF := Lib.hid (HGo.out.stop (scan_great hr0 hD hx))
          have e1 : decide ((1000000 : Int) < (x : Int)) = true := by simp; omega
          clear hr0 hD hrl
          go_wp2_with fail
          refine HTK.out.mono ?_
          rintro e w2 ⟨rfl, rfl⟩
          go_wp2_with fail
          rw [Exit.noGoto_ret]
          go_ret3
          exact ⟨_, fin_scan (HS.out.symm.trans HF.out) rfl rfl, by rw [← HS.out, HF.out]; exact hown.mono hBW, HB.out.trans (hwl.mono hBW)⟩
        · have e1 : decide ((1000000 : Int) < (x : Int)) = false := by simp; omega
          have hx' : x ≤ 1000000 := by omega
          clear hx
          obtain ⟨q, hq⟩ : ∃ q, p + k = q := ⟨_, rfl⟩
          rw [hq] at HTK
          by_cases hfit : n - q < x + 4
          · have HF := Lib.hid (HGo.out.stop (scan_few hr0 hD hx' (by omega)))
            clear hr0 hD hrl
            go_wp2_with fail
            refine HTK.out.mono ?_
            rintro e w2 ⟨rfl, rfl⟩
            go_wp2_with fail
            rw [Exit.noGoto_ret]
            go_ret3
            exact ⟨_, fin_scan (HS.out.symm.trans HF.out) rfl rfl, by rw [← HS.out, HF.out]; exact hown.mono hBW, HB.out.trans (hwl.mono hBW)⟩
          · have hfit' : q + x + 4 ≤ n := by omega
            obtain ⟨b, off, rfl, hb, hcs⟩ := HR.out.cells (by omega)
            clear hcs
            have hwm : ∀ m, Below W.heap.size W (wr.drewN m) := fun m => below_drewN hwl m
            have hpart : ∀ w', Below W.heap.size W w' → Row .u8 w' W.heap.size (some ⟨b, off + q, none⟩) x (c - q) ((zs.drop q).take x) := fun w' hw' => by
              have := ((HR.out.mono hBW).below hw').part (lo := q) (hi := q + x) (mx := c) (a' := some ⟨b, off + q, none⟩) (by omega) (by omega) (by omega) (Nat.le_refl _) (fun b' off' e1 _ => by injection e1 with e1; injection e1 with e1 e2; subst e1 e2; rfl)
              rwa [Nat.add_sub_cancel_left] at this
            have hsum : ∀ w', Below W.heap.size W w' → Row .u8 w' W.heap.size (some ⟨b, off + (q + x), none⟩) 4 (c - (q + x)) ((zs.drop (q + x)).take 4) := fun w' hw' => by
              have := ((HR.out.mono hBW).below hw').part (lo := q + x) (hi := q + x + 4) (mx := c) (a' := some ⟨b, off + (q + x), none⟩) (by omega) (by omega) (by omega) (Nat.le_refl _) (fun b' off' e1 _ => by injection e1 with e1; injection e1 with e1 e2; subst e1 e2; rfl)
              rwa [Nat.add_sub_cancel_left] at this
            have hpb : ∀ y ∈ (zs.drop q).take x, y < 256 := fun y hy => HZ.out y (List.mem_of_mem_drop (List.mem_of_mem_take hy))
            have hck : ∀ m, Calls Try.prog 21 #[.pointer (some ⟨g, 0, none⟩), .slice (some ⟨b, off + q, none⟩) x (c - q)] (wr.drewN m) fun e w' => e = .returned (.int .u32 (crc ((zs.drop q).take x) : Nat)) ∧ w' = wr.drewN m := fun m =>
              (check_any g _ x (c - q) _ _ _ (HT.out.below (hwm m) HG.out) (hpart _ (hwm m)) hpb).mono (by rintro e w' ⟨rfl, rfl⟩; exact ⟨rfl, rfl⟩)
            have hwd : ∀ m, Calls Try.prog 22 #[.slice (some ⟨b, off + (q + x), none⟩) 4 (c - (q + x))] (wr.drewN m) fun e w' => e = .returned (.int .u32 (num ((zs.drop (q + x)).take 4) : Nat)) ∧ ∃ j, w' = (wr.drewN m).drewN j := fun m =>
              word_any _ (c - (q + x)) _ _ _ (hsum _ (hwm m)) (fun y hy => HZ.out y (List.mem_of_mem_drop (List.mem_of_mem_take hy)))
            have hd1 : (zs.drop p).drop k = zs.drop q := by rw [List.drop_drop, hq]
            have hd2 : (zs.drop p).drop (k + x) = zs.drop (q + x) := by rw [List.drop_drop, ← hq, Nat.add_assoc]
            have hno := scan_sum hr0 hD hx' (by omega)
            have hyes := scan_whole hD hx' (by omega)
            rw [hd1, hd2] at hno hyes
            have HP : Hid (∀ w' L, L = x → Below W.heap.size W w' → Row .u8 w' W.heap.size (some ⟨b, off + q, none⟩) L (c - q) ((zs.drop q).take x)) := fun w' L hL hw' => by subst hL; exact hpart w' hw'
            have HPL : Hid (((zs.drop q).take x).length = x) := (hpart W (Below.refl _ _)).1
            have HWM := Lib.hid hwm
            clear hpart hsum hpb hd1 hd2 hr0 hD hwm
            generalize (zs.drop q).take x = part at hck hno hyes HP HPL
            generalize num ((zs.drop (q + x)).take 4) = Y at hwd hno hyes
            generalize crc part = X at hck hno hyes
            have HCK := Lib.hid hck
            have HWD := Lib.hid hwd
            clear hck hwd
            by_cases hXY : X = Y
            · obtain ⟨hw, hbo, hsz⟩ := hyes hXY
              have HN : Hid (Goes zs (out ++ [part]) (q + x + 4)) := by
                have := HGo.out.next hw
                rw [hbo, hsz] at this
                unfold Hid
                rwa [show p + (k + x + 4) = q + x + 4 by omega] at this
              have e2 : ((X : Int) != (Y : Int)) = false := by simp; omega
              clear hno hyes hw hbo hsz hXY HGo
              go_wp2_with fail
              refine HTK.out.mono ?_
              rintro e w2 ⟨rfl, rfl⟩
              go_wp2_with fail
              go_quiet (first
                | (go_at_call 21; exact Calls.quiet_of_same (HCK.out _))
                | (go_at_call 22; exact Calls.quiet_of (HWD.out _)))
              have hwq : Below wr.heap.size wr (wr.drewN nq) := below_drewN (Below.refl _ _) nq
              have hownq := hown.below hwq
              have hWq := HWM.out nq
              generalize wr.drewN nq = wq at *
              clear hown hwq
              have hsq := hWq.size
              go_wp2_with (at_builtin; first
                | (refine wpList_append_row rfl (.tmp 68) (.tmp 72) rfl rfl (own_none wq) rfl (HP.out _ _ (by omega) (hWq.alloc hsq _)) (by simp only [List.length_nil]; omega) (by simp) ?_
                   intro v5 w5 hown5 hgrow5 _
                   rw [List.nil_append] at hown5
                   have hbel5 := Below.grows ((Below.refl wq.heap.size wq).alloc (Nat.le_refl _) _) (by simp) (own_none wq) hgrow5
                   obtain ⟨xs, h1, h2⟩ := hownq.below hbel5
                   obtain ⟨a5, c5, rfl, _⟩ := hown5.slice
                   have hW5 := hWq.trans (hbel5.mono hsq)
                   have hs5 := hW5.size)
                | (refine wpList_append_own _ rfl (.tmp 67) (.tmp 74) 28 rfl W.heap.size 22 i1 (.slice none 0 0) 1 24 Try.underlying28 hi1 hy0 hy1 hy2 rfl (by decide) _ _ _ rfl (World.ownsRow.alloc h1 _) ⟨w5.heap.size, 0, none⟩ 1 1 [.slice a5 part.length c5] rfl rfl (one_cell _ _ _) (by simp [Value.oneCell']) (by simp only [maxLen]; omega) (by omega) (by simp; omega) ?_
                   intro v6 w6 hown6 hgrow6 _))
              have hown7 := OwnRows.push h1 h2 (hown5.mono hsq) hown6 hgrow6
              have hW6 := (hW5.alloc hs5 _).grown hgrow6 (by simp; omega) (fun k hk => (World.ownsRow.lt h1 k hk).1)
              clear hown6 hgrow6 h1 h2 hownq
              go_wp2_with fail
              go_roundw
              case rel => exact ⟨q + x + 4, out ++ [part], rfl, hfit', by simp; omega, by go_num, hown7, hW6, HN⟩
              case measure => simp [intOf]; omega
            · have hstop := HGo.out.stop (hno hXY)
              have e2 : ((X : Int) != (Y : Int)) = true := by rw [bne_iff_ne]; omega
              rw [hrl] at hstop
              clear hno hyes hXY HGo
              by_cases hl : q + x + 4 = n
              · rw [if_pos (by omega)] at hstop
                have HF := Lib.hid hstop
                have e3 : ((q : Int) + x + 4 == (n : Int)) = true := by simp; omega
                clear hstop hl
                go_wp2_with fail
                refine HTK.out.mono ?_
                rintro e w2 ⟨rfl, rfl⟩
                go_wp2_with fail
                go_quiet (first
                  | (go_at_call 21; exact Calls.quiet_of_same (HCK.out _))
                  | (go_at_call 22; exact Calls.quiet_of (HWD.out _)))
                go_wp2_with fail
                refine (broken_any true _).mono ?_
                rintro e w2 ⟨rfl, rfl⟩
                go_wp2_with fail
                rw [Exit.noGoto_ret]
                go_ret3
                exact ⟨_, fin_scan (HS.out.symm.trans HF.out) rfl rfl, by rw [← HS.out, HF.out]; exact (hown.below (below_drewN (Below.refl _ _) _)).mono hBW, HB.out.trans ((HWM.out _).mono hBW)⟩
              · rw [if_neg (by omega)] at hstop
                have HF := Lib.hid hstop
                have e3 : ((q : Int) + x + 4 == (n : Int)) = false := by simp; omega
                clear hstop hl
                go_wp2_with fail
                refine HTK.out.mono ?_
                rintro e w2 ⟨rfl, rfl⟩
                go_wp2_with fail
                go_quiet (first
                  | (go_at_call 21; exact Calls.quiet_of_same (HCK.out _))
                  | (go_at_call 22; exact Calls.quiet_of (HWD.out _)))
                go_wp2_with fail
                refine (broken_any false _).mono ?_
                rintro e w2 ⟨rfl, rfl⟩
                go_wp2_with fail
                rw [Exit.noGoto_ret]
                go_ret3
                exact ⟨_, fin_scan (HS.out.symm.trans HF.out) rfl rfl, by rw [← HS.out, HF.out]; exact (hown.below (below_drewN (Below.refl _ _) _)).mono hBW, HB.out.trans ((HWM.out _).mono hBW)⟩
      · have herr := dec_err 0 (zs.drop p) (by rw [hD]; exact he)
        rw [hD] at herr
        obtain ⟨h1, h2, h3⟩ := herr
        simp only [] at h1 h2 h3
        subst h1 h2
        rw [if_neg he] at htk
        have HTK := Lib.hid htk
        clear htk
        rcases h3 with rfl | rfl
        · have HF := Lib.hid (HGo.out.stop (scan_short hr0 hD))
          clear hr0 hD he hrl
          go_wp2_with fail
          refine HTK.out.mono ?_
          rintro e w2 ⟨rfl, rfl⟩
          go_wp2_with fail
          rw [Exit.noGoto_ret]
          go_ret3
          exact ⟨_, fin_scan (HS.out.symm.trans HF.out) rfl rfl, by rw [← HS.out, HF.out]; exact hown.mono hBW, HB.out.trans (hwl.mono hBW)⟩
        · have HF := Lib.hid (HGo.out.stop (scan_bad hr0 hD))
          clear hr0 hD he hrl
          go_wp2_with fail
          refine HTK.out.mono ?_
          rintro e w2 ⟨rfl, rfl⟩
          go_wp2_with fail
          rw [Exit.noGoto_ret]
          go_ret3
          exact ⟨_, fin_scan (HS.out.symm.trans HF.out) rfl rfl, by rw [← HS.out, HF.out]; exact hown.mono hBW, HB.out.trans (hwl.mono hBW)⟩
    · have hpn : p = n := by omega
      have HF := Lib.hid (HGo.out.stop (by rw [List.drop_of_length_le (by rw [HL.out]; omega)]; exact scanS_nil))
      clear hpn
      go_wp2_with fail
      rw [Exit.noGoto_ret]
      go_ret3
      exact ⟨_, fin_scan (HS.out.symm.trans HF.out) rfl rfl, by rw [← HS.out, HF.out]; exact hown.mono hBW, HB.out.trans (hwl.mono hBW)⟩
end Go.Proofs.Ytgeonmojadkbjaa.Vm
