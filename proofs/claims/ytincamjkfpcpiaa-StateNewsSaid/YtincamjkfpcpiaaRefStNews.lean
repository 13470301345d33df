/- The contract of the document's New on states. -/
import Derived.Test.YtincamjkfpcpiaaStNews
import Derived.Test.YtincamjkfpcpiaaHeldRegion
import Derived.Test.YtincamjkfpcpiaaRefFinds
import Derived.Deep.RegionLaw
namespace Go.Proofs.Ytincamjkfpcpiaa.Vm
open Go Go.RowKit

/-- What an append of robots leaves. -/
theorem run_append_r {w : World} (ty : TypeId) {B : Nat} {v : Value} {out : List Rec} (hown : OwnR w B 45 v out) {ad : Addr} {m c : Nat} {l : List Rec} (hc : ∀ j u, (recs l)[j]? = some u → w.cell? (ad.add j) = some u) (hl : l.length = m) (hlen : out.length + m ≤ 100000) (hB : B ≤ w.heap.size) :
    ∃ v' w', (Builtin.append_ #[24, 24] ty #[v, .slice (some ad) m c]).run Try.prog w = .ok v' w' ∧ OwnR w' B 45 v' (out ++ l) ∧ Below B w w' := by
  obtain ⟨i0, hi0, hz0, hz1, hz2⟩ := info_parts info_robot
  obtain ⟨v', w', hrun, hown', hg, _⟩ := run_append_own (P := Try.prog) w B 24 ty 45 i0 (.agg #[.int .i64 0, .int .i64 0, .int .i64 0, .int .i64 0, .int .i64 0]) 5 40 Try.underlying24 hi0 hz0 hz1 hz2 rfl (by decide) v out.length (recs out) hown ad m c (recs l) (by rw [recs_len, hl]) hc
    (recs_one l) (by unfold maxLen; omega) (by omega) hB
  refine ⟨v', w', hrun, ?_, (Below.refl _ _).grown hg hB (fun k hk => (World.ownsRow.lt hown k hk).1)⟩
  unfold OwnR
  rw [List.length_append, hl, recs_append]
  exact hown'
theorem step_append_r {ops : Array Oper} {o : Oper} {a : Act} {w : World} {K : Act → World → Prop} {Q : Exit → Act → World → Prop} {E : Prop} (hgd : o.guard = none) (s x : Operand)
    (ho : o.op = .call { callee := .builtin .append, args := #[s, x], argTypes := #[24, 24] })
    {B : Nat} {v : Value} {out : List Rec} (hs : a.eval s = v) (hown : OwnR w B 45 v out) {ad : Addr} {m c : Nat} {l : List Rec} (hx : a.eval x = .slice (some ad) m c) (hc : ∀ j u, (recs l)[j]? = some u → w.cell? (ad.add j) = some u) (hl : l.length = m)
    (hlen : out.length + m ≤ 100000) (hB : B ≤ w.heap.size) (h : ∀ v' w', OwnR w' B 45 v' (out ++ l) → Below B w w' → K (a.put o.dst v') w') :
    if Region.wanted o (yielded ops a.tmps) = true then Oper.wp Try.prog o a w K Q else E := by
  have hw : Region.wanted o (yielded ops a.tmps) = true := by simp [Region.wanted, hgd]
  rw [if_pos hw]
  obtain ⟨v', w', hrun, h1, h2⟩ := run_append_r o.type hown hc hl hlen hB
  unfold Oper.wp
  simp [execOp, ho, resolve, invoke, builtin, hs, hx, Result.andThen]
  rw [hrun]
  exact h v' w' h1 h2
theorem rec_cells (w : World) (r : Rec) (t : TypeId) : ∀ j u, (recs [r])[j]? = some u → (w.alloc (.cells #[.int .i64 r.a, .int .i64 r.b, .int .i64 r.c, .int .i64 r.d, .int .i64 r.e] t)).cell? ((⟨w.heap.size, 0, none⟩ : Addr).add j) = some u := by
  intro j u hj
  have hj5 : j < 5 := by
    have := (List.getElem?_eq_some_iff.1 hj).1
    rw [recs_len] at this
    simpa using this
  rw [Row.add, Nat.zero_add]
  match j, hj5 with
  | 0, _ => simpa [recs, recL] using hj
  | 1, _ => simpa [recs, recL] using hj
  | 2, _ => simpa [recs, recL] using hj
  | 3, _ => simpa [recs, recL] using hj
  | 4, _ => simpa [recs, recL] using hj
theorem stAt_set1 {b n c n' c' : Nat} {a a' : Option Addr} {V : World} (h : StAt V b ⟨0, a, n, c, none, 0, 0, none, 0, 0⟩) : StAt (V.setCell ⟨b, 1, none⟩ (.slice a' n' c')) b ⟨0, a', n', c', none, 0, 0, none, 0, 0⟩ := by
  obtain ⟨h0, h1, h2, h3⟩ := h
  simp only [] at h0 h1 h2 h3
  refine ⟨?_, ?_, ?_, ?_⟩ <;> simp [go_sem, h0, h1, h2, h3]
theorem newR_more {cells : List Int} {k : Nat} (hk : k < cells.length) : newR (cells.take (k + 1)) = newR (cells.take k) ++ [⟨cells.getD k 0, 0, 0, 1000, 0⟩] := by
  rw [take_getD hk]
  simp [newR]
theorem newR_len (cells : List Int) {k : Nat} (hk : k ≤ cells.length) : (newR (cells.take k)).length = k := by simp [newR]; omega

set_option maxRecDepth 100000 in
set_option maxHeartbeats 2000000 in
theorem rnew_any (W H : Int) (g : ByteArray) (a : Option Addr) (n c B : Nat) (cells : List Int) (w : World) (hg : g.size ≤ maxLen) (hin : RowZ .i64 w B a n c cells) (hB : B ≤ w.heap.size) :
    Calls Try.prog 19 #[gridV W H g, .slice a n c] w (NewPost w (floorS (bytesOf g)) cells) := by
  obtain ⟨w2, hw2, hB2, hz2, hg2, hs2⟩ := gs_head w W H g ⟨0, none, 0, 0, none, 0, 0, none, 0, 0⟩
  have hf0 : ∀ i, w2.frozen? ⟨w.heap.size + 1, i, none⟩ = false := fun i => by rw [hw2]; simp
  have hw3 : Below w2.heap.size w2 (w2.alloc (shO ⟨0, none, 0, 0, none, 0, 0, none, 0, 0⟩)) := (Below.refl _ _).alloc (Nat.le_refl _) _
  have hs3 := stAt_new w2 ⟨0, none, 0, 0, none, 0, 0, none, 0, 0⟩
  have hf3 : (w2.alloc (shO ⟨0, none, 0, 0, none, 0, 0, none, 0, 0⟩)).frozen? ⟨w2.heap.size, 1, none⟩ = false := by simp
  have hz3 : (w2.alloc (shO ⟨0, none, 0, 0, none, 0, 0, none, 0, 0⟩)).heap.size = w.heap.size + 3 := by simp [hz2]
  rw [hz2] at hs3 hf3
  obtain ⟨w3, hw3e⟩ : ∃ w3, w3 = w2.alloc (shO ⟨0, none, 0, 0, none, 0, 0, none, 0, 0⟩) := ⟨_, rfl⟩
  rw [← hw3e] at hw3 hs3 hf3 hz3
  have HW2 := Lib.hid hw2
  have HW3 := Lib.hid hw3e
  have HG := Lib.hid hg
  have HG2 := Lib.hid (hg2.below hw3 (by omega))
  have HS2 := Lib.hid (hs2.below hw3 (by omega))
  have HF0 : Hid (∀ i, w3.frozen? ⟨w.heap.size + 1, i, none⟩ = false) := fun i => (hw3.frozen (p := ⟨w.heap.size + 1, i, none⟩) (show w.heap.size + 1 < w2.heap.size by omega)).trans (hf0 i)
  have HS3 := Lib.hid hs3
  have HF3 := Lib.hid hf3
  have HL := Lib.hid hin.1
  have HC := Lib.hid hin.cells
  have hnm := Nat.le_trans hin.2.1 hin.2.2.1
  unfold maxLen at hnm
  have hB3 := hB2.trans (hw3.mono (by omega))
  have HBA := Lib.hid hB3
  rw [HW3.out, HW2.out] at HBA
  clear hw2 hg hg2 hs2 hf0 hin hw3 hs3 hf3 hw3e
  obtain ⟨fl, hfl⟩ : ∃ fl, floorS (bytesOf g) = fl := ⟨_, rfl⟩
  rw [hfl]
  have HFL := Lib.hid hfl
  clear hfl
  by_cases hbig : 1024 < n
  · have HE : Hid (newE fl cells = 4) := by unfold Hid newE; rw [HL.out, if_pos hbig]
    go_enter Try.func19, Try.ntmps19
    go_wp2_with fail
    exact bodyPost_ret (v := .tuple #[.agg #[.int .i64 0, .slice none 0 0, .slice none 0 0, .slice none 0 0], .int .i64 4]) (by simp [results, Try.results19, go_sem]) rfl (newPost_err HE.out (by decide) HBA.out)
  have HE : Hid (newE fl cells = scanNew fl (cells.take 0) (cells.drop 0)) := by unfold Hid newE; rw [HL.out, if_neg hbig]; rfl
  go_enter Try.func19, Try.ntmps19
  go_wp2_with fail
  rw [← HW2.out, ← HW3.out]
  go_loopw [7] (fun i wr => ∃ (k : Nat) (av : Option Addr) (cv : Nat), k ≤ n ∧ i = .int .i64 k ∧ Hid (StAt wr (w.heap.size + 1 + 1) ⟨0, av, k, cv, none, 0, 0, none, 0, 0⟩) ∧ Hid (wr.frozen? ⟨w.heap.size + 1 + 1, 1, none⟩ = false) ∧ Hid (OwnR wr (w.heap.size + 3) 45 (.slice av k cv) (newR (cells.take k))) ∧ Below (w.heap.size + 2) w3 wr ∧ w.heap.size + 3 ≤ wr.heap.size ∧ Hid (newE fl cells = scanNew fl (cells.take k) (cells.drop k))) (fun i _ => n - (intOf i).toNat)
  case atStart => exact ⟨0, none, 0, Nat.zero_le _, rfl, HS3.out, HF3.out, ownR_nil _ _ _, Below.refl _ _, by omega, HE.out⟩
  case round =>
    obtain ⟨k, av, cv, hk, rfl, HSW, HFW, HOW, hbel, hzr, HA⟩ := hrel
    have hBr := hB3.trans (hbel.mono (by omega))
    by_cases hlt : k < n
    · obtain ⟨b, off, rfl, hb, hcs⟩ := HC.out (by omega)
      have hcell := (hBr.cell (p := ⟨b, off + k, none⟩) (show b < w.heap.size by omega)).trans (hcs k hlt)
      have HKN : Hid (k < cells.length) := by unfold Hid; rw [HL.out]; exact hlt
      have hx : ∃ x, cells.getD k 0 = x := ⟨_, rfl⟩
      obtain ⟨x, hx⟩ := hx
      rw [hx] at hcell
      have HX := Lib.hid hx
      have hgr := HG2.out.below hbel (by omega)
      obtain ⟨g1, g2, g3⟩ := id hgr
      have k0 : Kept wr wr := Kept.refl _
      obtain ⟨q, hq⟩ : ∃ q, fl x = q := ⟨_, rfl⟩
      have hcall : ∀ m : Held wr, Calls Try.prog 23 #[gridV W H g, .int .i64 x] m.V fun e V' => e = .returned (.bool q) ∧ ∃ m' : Held wr, V' = m'.V := fun m => m.call (by
        have hc := rfloor_any W H x g m.V HG.out
        rwa [HFL.out, hq] at hc)
      have HF := Lib.hid hcall
      have hne : Nonempty (Held wr) := ⟨⟨wr, k0⟩⟩
      have c1 : ∀ m : Held wr, m.V.cell? ⟨w.heap.size, 0, none⟩ = some (.int .i64 W) := fun m => m.cell g1
      have c2 : ∀ m : Held wr, m.V.cell? ⟨w.heap.size, 1, none⟩ = some (.int .i64 H) := fun m => m.cell g2
      have c3' : ∀ m : Held wr, m.V.cell? ⟨w.heap.size, 2, none⟩ = some (.string g) := fun m => m.cell g3
      have c5 : ∀ m : Held wr, m.V.cell? ⟨b, off + k, none⟩ = some (.int .i64 x) := fun m => m.cell hcell
      have HCS := Lib.hid hcs
      have HBE := Lib.hid hbel
      have HBR := Lib.hid hBr
      clear hcall hx hcs hgr hbel hBr
      cases q
      · have HY : Hid (newE fl cells = 5) := HA.out.trans (scan_5 HKN.out (by rw [HX.out]; exact hq))
        clear hq
        go_wp2_with fail
        refine wp_region_class k0 (by kernel_rfl) (by kernel_rfl) ?_
        repeat (go_big_quiet_step ((go_at_call 23; exact HF.out _)))
        refine wpQuiet_nil ?_
        rintro V ⟨m, hm⟩
        have hV : Kept wr V := by rw [hm]; exact m.k
        clear hm m
        have hbV : Below (w.heap.size + 2) w3 V := HBE.out.trans (Below.mono hV (by omega))
        obtain ⟨q0, q1, q2, q3⟩ := HS2.out.below hbV (by omega)
        simp only [] at q0 q1 q2 q3
        have f0 := (hbV.frozen (p := ⟨w.heap.size + 1, 0, none⟩) (show w.heap.size + 1 < w.heap.size + 2 by omega)).trans (HF0.out 0)
        have f1 := (hbV.frozen (p := ⟨w.heap.size + 1, 1, none⟩) (show w.heap.size + 1 < w.heap.size + 2 by omega)).trans (HF0.out 1)
        have f2 := (hbV.frozen (p := ⟨w.heap.size + 1, 2, none⟩) (show w.heap.size + 1 < w.heap.size + 2 by omega)).trans (HF0.out 2)
        have f3 := (hbV.frozen (p := ⟨w.heap.size + 1, 3, none⟩) (show w.heap.size + 1 < w.heap.size + 2 by omega)).trans (HF0.out 3)
        have HBV := Lib.hid (hB3.trans (hbV.mono (by omega)))
        clear hbV hV c1 c2 c3' c5 hne
        go_wp2_with fail
        refine bodyPost_ret (v := .tuple #[.agg #[.int .i64 0, .slice none 0 0, .slice none 0 0, .slice none 0 0], .int .i64 5]) (by simp [results, Try.results19, go_sem, q0, q1, q2, q3]) rfl (newPost_err HY.out (by decide) ?_)
        exact below_set4 HBV.out (by omega) _ _ _ _
      · have HFX : Hid (fl (cells.getD k 0) = true) := by unfold Hid; rw [HX.out]; exact hq
        clear hq
        go_wp2_with fail
        refine wp_region_class k0 (by kernel_rfl) (by kernel_rfl) ?_
        repeat (go_big_quiet_step ((go_at_call 23; exact HF.out _)))
        refine wpQuiet_nil ?_
        rintro V ⟨m, hm⟩
        have hV : Kept wr V := by rw [hm]; exact m.k
        clear hm m
        have hV' : Below wr.heap.size wr V := hV
        have HSV := Lib.hid (HSW.out.below hV' (by omega))
        have HFV : Hid (V.frozen? ⟨w.heap.size + 1 + 1, 1, none⟩ = false) := (hV'.frozen (p := ⟨w.heap.size + 1 + 1, 1, none⟩) (show w.heap.size + 2 < wr.heap.size by omega)).trans HFW.out
        have HOV := Lib.hid (HOW.out.calls hV')
        have HBV := Lib.hid (HBE.out.trans (hV'.mono (by omega)))
        have hzV : w.heap.size + 3 ≤ V.heap.size := by have := hV'.size; omega
        have hbr : b < V.heap.size := by omega
        clear hV hV' c1 c2 c3' c5 hne HF HSW HFW HOW HBE HBR g1 g2 g3 hcell k0
        go_wp2_with fail
        have HBWV := Lib.hid (hB3.trans (HBV.out.mono (by omega)))
        go_loopw [8] (fun i wr => ∃ j : Nat, j ≤ k ∧ i = .int .i64 j ∧ Below V.heap.size V wr ∧ Hid (∀ m, m < j → cells.getD m 0 ≠ x)) (fun i _ => k - (intOf i).toNat)
        case atStart => exact ⟨0, Nat.zero_le _, rfl, Below.refl _ _, fun j hj => absurd hj (Nat.not_lt_zero _)⟩
        case round =>
          obtain ⟨j, hj, rfl, hbel, HN⟩ := hrel
          have hBw := HBWV.out.trans (hbel.mono (by omega))
          have hcellx := (hBw.cell (p := ⟨b, off + k, none⟩) (show b < w.heap.size by omega)).trans (HCS.out k hlt)
          rw [HX.out] at hcellx
          have hbr2 : b < wr.heap.size := by have := hbel.size; omega
          by_cases hlt2 : j < k
          · have hcelly := (hBw.cell (p := ⟨b, off + j, none⟩) (show b < w.heap.size by omega)).trans (HCS.out j (by omega))
            have hy : ∃ y, cells.getD j 0 = y := ⟨_, rfl⟩
            obtain ⟨y, hy⟩ := hy
            rw [hy] at hcelly
            have HYY := Lib.hid hy
            clear hy
            by_cases hxy : y = x
            · have e1 : (y == x) = true := by simpa using hxy
              have HY : Hid (newE fl cells = 6) := HA.out.trans (scan_6 HKN.out HFX.out ((mem_take (by have := HKN.out; omega)).2 ⟨j, hlt2, by rw [HYY.out, HX.out]; exact hxy⟩))
              clear hxy
              go_wp2_with fail
              go_quiet (fail)
              have hbq : Below V.heap.size V (wr.drewN nq) := below_drewN hbel nq
              generalize wr.drewN nq = V2 at hbq
              have hb2 := HBV.out.trans (hbq.mono (by omega))
              obtain ⟨q0, q1, q2, q3⟩ := HS2.out.below hb2 (by omega)
              simp only [] at q0 q1 q2 q3
              have f0 := (hb2.frozen (p := ⟨w.heap.size + 1, 0, none⟩) (show w.heap.size + 1 < w.heap.size + 2 by omega)).trans (HF0.out 0)
              have f1 := (hb2.frozen (p := ⟨w.heap.size + 1, 1, none⟩) (show w.heap.size + 1 < w.heap.size + 2 by omega)).trans (HF0.out 1)
              have f2 := (hb2.frozen (p := ⟨w.heap.size + 1, 2, none⟩) (show w.heap.size + 1 < w.heap.size + 2 by omega)).trans (HF0.out 2)
              have f3 := (hb2.frozen (p := ⟨w.heap.size + 1, 3, none⟩) (show w.heap.size + 1 < w.heap.size + 2 by omega)).trans (HF0.out 3)
              have HB2 := Lib.hid (hB3.trans (hb2.mono (by omega)))
              clear hb2 hbq hBw hbel hcellx hcelly
              go_wp2_with fail
              refine bodyPost_ret (v := .tuple #[.agg #[.int .i64 0, .slice none 0 0, .slice none 0 0, .slice none 0 0], .int .i64 6]) (by simp [results, Try.results19, go_sem, q0, q1, q2, q3]) rfl (newPost_err HY.out (by decide) ?_)
              exact below_set4 HB2.out (by omega) _ _ _ _
            · have e1 : (y == x) = false := by simpa using hxy
              have HE1 : Hid (cells.getD j 0 ≠ x) := by unfold Hid; rw [HYY.out]; exact hxy
              clear hxy hBw
              go_wp2_with fail
              go_quiet (fail)
              go_wp2_with fail
              go_roundw
              case rel => exact ⟨j + 1, by omega, by go_num, below_drewN hbel _, upto_more HN.out HE1.out⟩
              case measure => simp [intOf]; omega
          · have hjk : j = k := by omega
            rw [hjk] at HN
            have HA1 : Hid (newE fl cells = scanNew fl (cells.take (k + 1)) (cells.drop (k + 1))) := HA.out.trans (scan_step HKN.out HFX.out (fun hm => by
              obtain ⟨m, hm1, hm2⟩ := (mem_take (by have := HKN.out; omega)).1 hm
              exact HN.out m hm1 (hm2.trans HX.out)))
            have hst := HSV.out.below hbel (by omega)
            have hfz : wr.frozen? ⟨w.heap.size + 1 + 1, 1, none⟩ = false := (hbel.frozen (p := ⟨w.heap.size + 1 + 1, 1, none⟩) (show w.heap.size + 2 < V.heap.size by omega)).trans HFV.out
            have HOR := Lib.hid (HOV.out.calls hbel)
            have HBR2 := Lib.hid (HBV.out.trans (hbel.mono (by omega)))
            have hzr2 : w.heap.size + 3 ≤ wr.heap.size := by have := hbel.size; omega
            have hz2' : w.heap.size + 2 < wr.heap.size := by omega
            have HST := Lib.hid hst
            have hk63 : k ≤ 1024 := by omega
            have HLEN := Lib.hid (newR_len cells (k := k) (by have := HKN.out; omega))
            obtain ⟨t0, t1, t2, t3⟩ := hst
            simp only [] at t0 t1 t2 t3
            clear HN hjk hj hBw hbel HSV HFV HOV HBV HBWV
            go_wp2_with fail
            go_region_law (refine step_append_r (B := w.heap.size + 3) (out := newR (cells.take k)) (l := [⟨x, 0, 0, 1000, 0⟩]) (ad := ⟨wr.heap.size, 0, none⟩) (m := 1) (c := 1) rfl (.tmp 44) (.tmp 50) rfl (by simp [Act.eval, Act.put]; rfl) (by first | exact World.ownsRow.drew (World.ownsRow.alloc HOR.out _) | exact World.ownsRow.alloc (World.ownsRow.drew HOR.out) _) (by simp [Act.eval, Act.put]) (rec_cells wr ⟨x, 0, 0, 1000, 0⟩ 45) rfl (by rw [HLEN.out]; omega) (by simp; omega) ?_; intro v' w' hown' hbel'; obtain ⟨a', c', hs'⟩ := hown'.slice; rw [show (newR (cells.take k) ++ [(⟨x, 0, 0, 1000, 0⟩ : Rec)]).length = k + 1 from by rw [List.length_append, HLEN.out]; rfl] at hs'; subst hs'; have hbw : Below (w.heap.size + 3) wr w' := (((Below.refl (w.heap.size + 3) wr).drew).alloc (show w.heap.size + 3 ≤ wr.drew.heap.size from hzr2) _).trans hbel'; have d1 := (hbw.cell (p := ⟨w.heap.size + 1 + 1, 1, none⟩) (show w.heap.size + 2 < w.heap.size + 3 by omega)).trans t1; have df := (hbw.frozen (p := ⟨w.heap.size + 1 + 1, 1, none⟩) (show w.heap.size + 2 < w.heap.size + 3 by omega)).trans hfz)
            all_goals
              have HS5 := Lib.hid (stAt_set1 (a' := a') (n' := k + 1) (c' := c') (HST.out.below hbw (by omega)))
              have HF5 : Hid ((w'.setCell ⟨w.heap.size + 1 + 1, 1, none⟩ (.slice a' (k + 1) c')).frozen? ⟨w.heap.size + 1 + 1, 1, none⟩ = false) := by unfold Hid; rw [World.frozen?_setCell]; exact df
              have HO5 : Hid (OwnR (w'.setCell ⟨w.heap.size + 1 + 1, 1, none⟩ (.slice a' (k + 1) c')) (w.heap.size + 3) 45 (.slice a' (k + 1) c') (newR (cells.take (k + 1)))) := by
                unfold Hid
                rw [newR_more HKN.out, HX.out]
                exact ownsRow_setCell_below hown' (a := ⟨w.heap.size + 1 + 1, 1, none⟩) (show w.heap.size + 1 + 1 < w.heap.size + 3 by omega) _
              have HB5 := Lib.hid ((HBR2.out.trans (hbw.mono (by omega))).setCell (p := ⟨w.heap.size + 1 + 1, 1, none⟩) (show w.heap.size + 2 ≤ w.heap.size + 1 + 1 by omega) (.slice a' (k + 1) c'))
              have HZ5 : Hid (w.heap.size + 3 ≤ (w'.setCell ⟨w.heap.size + 1 + 1, 1, none⟩ (.slice a' (k + 1) c')).heap.size) := by
                have := hbw.size
                unfold Hid
                simp [World.setCell]
                omega
              clear hown' hbel' hbw d1 df hfz t0 t1 t2 t3 HST HOR HBR2
              go_wp2_with fail
              go_roundw
              case rel => exact ⟨k + 1, a', c', by omega, by go_num, HS5.out, HF5.out, HO5.out, HB5.out, HZ5.out, HA1.out⟩
              case measure => simp [intOf]; omega
    · have hkn : k = n := by omega
      subst hkn
      have HY : Hid (newE fl cells = 0) := by
        have h1 := HA.out
        rw [← HL.out, List.drop_length] at h1
        exact h1
      have HRR : Hid (OwnR wr (w.heap.size + 3) 45 (.slice av k cv) (newR cells)) := by
        have h1 := HOW.out
        rw [List.take_of_length_le (by rw [HL.out]; omega)] at h1
        exact h1
      have HNL : Hid (k = cells.length) := HL.out.symm
      obtain ⟨q0, q1, q2, q3⟩ := HS2.out.below hbel (by omega)
      obtain ⟨t0, t1, t2, t3⟩ := HSW.out
      simp only [] at q0 q1 q2 q3 t0 t1 t2 t3
      have f0 := (hbel.frozen (p := ⟨w.heap.size + 1, 0, none⟩) (show w.heap.size + 1 < w.heap.size + 2 by omega)).trans (HF0.out 0)
      have f1 := (hbel.frozen (p := ⟨w.heap.size + 1, 1, none⟩) (show w.heap.size + 1 < w.heap.size + 2 by omega)).trans (HF0.out 1)
      have f2 := (hbel.frozen (p := ⟨w.heap.size + 1, 2, none⟩) (show w.heap.size + 1 < w.heap.size + 2 by omega)).trans (HF0.out 2)
      have f3 := (hbel.frozen (p := ⟨w.heap.size + 1, 3, none⟩) (show w.heap.size + 1 < w.heap.size + 2 by omega)).trans (HF0.out 3)
      have HBR := Lib.hid hBr
      clear HA HOW HSW HFW hk hbel hBr
      go_wp2_with fail
      refine bodyPost_ret (v := .tuple #[.agg #[.int .i64 0, .slice av k cv, .slice none 0 0, .slice none 0 0], .int .i64 0]) (by simp [results, Try.results19, go_sem, q0, q1, q2, q3]) rfl (newPost_ok HY.out HNL.out ?_ ?_)
      · exact OwnR.mono (own_set4 HRR.out (show w.heap.size + 1 < w.heap.size + 3 by omega) _ _ _ _) (by omega)
      · exact below_set4 HBR.out (by omega) _ _ _ _
end Go.Proofs.Ytincamjkfpcpiaa.Vm
