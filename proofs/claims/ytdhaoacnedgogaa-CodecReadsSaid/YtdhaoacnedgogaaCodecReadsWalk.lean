/- tuggerlaw07.CodecReads returns true for every input: what is read of any bytes is what the document reads. -/
import Derived.Test.YtdhaoacnedgogaaAwakeSeven
import Derived.Test.YtdhaoacnedgogaaRefCodRR
namespace Go.Proofs.Ytdhaoacnedgogaa.Vm
open Go Go.RowKit

/-- What is read of bytes as a state, as a record; the error. -/
def ExS (zs : List Nat) : Prop := ∃ s, CanS s ∧ encS s = zs
def ExR (zs : List Nat) : Prop := ∃ x, OkR x ∧ encR x = zs
noncomputable def stO (zs : List Nat) : St := @dite _ (ExS zs) (Classical.propDecidable _) (fun h => Classical.choose h) (fun _ => ⟨0, [], [], []⟩)
noncomputable def rcO (zs : List Nat) : Rcd := @dite _ (ExR zs) (Classical.propDecidable _) (fun h => Classical.choose h) (fun _ => ⟨0, [], [], [], 0⟩)
noncomputable def eS (zs : List Nat) : Int := @ite _ (ExS zs) (Classical.propDecidable _) 0 3
noncomputable def eR (zs : List Nat) : Int := @ite _ (ExR zs) (Classical.propDecidable _) 0 3
theorem stO_of {zs : List Nat} {s : St} (hs : CanS s) (he : encS s = zs) : stO zs = s ∧ eS zs = 0 := by
  have hx : ExS zs := ⟨s, hs, he⟩
  have e1 : stO zs = Classical.choose hx := dif_pos hx
  obtain ⟨h1, h2⟩ := Classical.choose_spec hx
  exact ⟨by rw [e1]; exact encS_inj h1 hs (by rw [h2, he]), if_pos hx⟩
theorem rcO_of {zs : List Nat} {x : Rcd} (hl : zs.length ≤ 600) (hx0 : OkR x) (he : encR x = zs) : rcO zs = x ∧ eR zs = 0 := by
  have hx : ExR zs := ⟨x, hx0, he⟩
  have e1 : rcO zs = Classical.choose hx := dif_pos hx
  obtain ⟨h1, h2⟩ := Classical.choose_spec hx
  exact ⟨by rw [e1]; exact encR_one h1 hx0 (by rw [h2]; omega) (by rw [h2, he]), if_pos hx⟩
theorem stO_no {zs : List Nat} (h : ¬ ExS zs) : stO zs = ⟨0, [], [], []⟩ ∧ eS zs = 3 := ⟨dif_neg h, if_neg h⟩
theorem rcO_no {zs : List Nat} (h : ¬ ExR zs) : rcO zs = ⟨0, [], [], [], 0⟩ ∧ eR zs = 3 := ⟨dif_neg h, if_neg h⟩
theorem stIn_zero (w : World) (B : Nat) : StIn w B ⟨0, none, 0, 0, none, 0, 0, none, 0, 0⟩ ⟨0, [], [], []⟩ :=
  ⟨rfl, ⟨rfl, Nat.le_refl _, by simp [maxLen], fun h => absurd h (Nat.lt_irrefl 0)⟩, ⟨rfl, Nat.le_refl _, by simp [maxLen], fun h => absurd h (Nat.lt_irrefl 0)⟩, ⟨rfl, Nat.le_refl _, by simp [maxLen], fun h => absurd h (Nat.lt_irrefl 0)⟩⟩
theorem rhIn_zero (w : World) (B : Nat) : RhIn w B ⟨0, none, 0, 0, none, 0, 0, none, 0, 0, 0⟩ ⟨0, [], [], [], 0⟩ :=
  ⟨rfl, ⟨rfl, Nat.le_refl _, by simp [maxLen], fun h => absurd h (Nat.lt_irrefl 0)⟩, ⟨rfl, Nat.le_refl _, by simp [maxLen], fun h => absurd h (Nat.lt_irrefl 0)⟩, ⟨rfl, Nat.le_refl _, by simp [maxLen], fun h => absurd h (Nat.lt_irrefl 0)⟩, rfl⟩
theorem readsS (a : Option Addr) (n c : Nat) (zs : List Nat) (w : World) (hr : Row .u8 w w.heap.size a n c zs) (hz : ∀ x ∈ zs, x < 256) (hn : n ≤ 600) :
    Calls Try.prog 17 #[.slice a n c] w fun e w' => ∃ h', e = .returned (.tuple #[shV h', .int .i64 (eS zs)]) ∧ StIn w' w'.heap.size h' (stO zs) ∧ Below w.heap.size w w' :=
  (readState_any a n c zs w hr hz (by omega)).mono fun e w' ⟨h', er, he, hd, hb⟩ => by
    rcases hd with ⟨rfl, s, hs, h1, h2⟩ | ⟨rfl, rfl, hno⟩
    · obtain ⟨e1, e2⟩ := stO_of hs h1
      rw [e1, e2]
      exact ⟨h', he, h2.stIn, hb⟩
    · obtain ⟨e1, e2⟩ := stO_no (zs := zs) hno
      rw [e1, e2]
      exact ⟨_, he, stIn_zero _ _, hb⟩
theorem rreadsS (a : Option Addr) (n c : Nat) (zs : List Nat) (w : World) (hr : Row .u8 w w.heap.size a n c zs) (hz : ∀ x ∈ zs, x < 256) (hn : n ≤ 600) :
    Calls Try.prog 18 #[.slice a n c] w fun e w' => ∃ h', e = .returned (.tuple #[shV h', .int .i64 (eS zs)]) ∧ StIn w' w'.heap.size h' (stO zs) ∧ Below w.heap.size w w' :=
  (rcodR_any a n c zs w hr hz hn).mono fun e w' ⟨h', er, he, hd, hb⟩ => by
    rcases hd with ⟨rfl, s, hs, h1, h2⟩ | ⟨rfl, rfl, hno⟩
    · obtain ⟨e1, e2⟩ := stO_of hs h1
      rw [e1, e2]
      exact ⟨h', he, h2, hb⟩
    · obtain ⟨e1, e2⟩ := stO_no (zs := zs) hno
      rw [e1, e2]
      exact ⟨_, he, stIn_zero _ _, hb⟩
theorem readsR (a : Option Addr) (n c : Nat) (zs : List Nat) (w : World) (hr : Row .u8 w w.heap.size a n c zs) (hz : ∀ x ∈ zs, x < 256) (hn : n ≤ 600) :
    Calls Try.prog 19 #[.slice a n c] w fun e w' => ∃ h', e = .returned (.tuple #[rhV h', .int .i64 (eR zs)]) ∧ RhIn w' w'.heap.size h' (rcO zs) ∧ Below w.heap.size w w' :=
  (readRecord_any a n c zs w hr hz (by omega)).mono fun e w' ⟨h', er, he, hd, hb⟩ => by
    have hl : zs.length ≤ 600 := by have := hr.1; omega
    rcases hd with ⟨rfl, x, hx, h1, h2⟩ | ⟨rfl, rfl, hno⟩
    · obtain ⟨e1, e2⟩ := rcO_of hl hx h1
      rw [e1, e2]
      exact ⟨h', he, h2.rhIn, hb⟩
    · obtain ⟨e1, e2⟩ := rcO_no (zs := zs) hno
      rw [e1, e2]
      exact ⟨_, he, rhIn_zero _ _, hb⟩
theorem rreadsR (a : Option Addr) (n c : Nat) (zs : List Nat) (w : World) (hr : Row .u8 w w.heap.size a n c zs) (hz : ∀ x ∈ zs, x < 256) (hn : n ≤ 600) :
    Calls Try.prog 20 #[.slice a n c] w fun e w' => ∃ h', e = .returned (.tuple #[rhV h', .int .i64 (eR zs)]) ∧ RhIn w' w'.heap.size h' (rcO zs) ∧ Below w.heap.size w w' :=
  (rcodRR_any a n c zs w hr hz hn).mono fun e w' ⟨h', er, he, hd, hb⟩ => by
    have hl : zs.length ≤ 600 := by have := hr.1; omega
    rcases hd with ⟨rfl, x, hc, hw, hl2, h1, h2⟩ | ⟨rfl, rfl, hno⟩
    · obtain ⟨e1, e2⟩ := rcO_of hl ⟨hc, hw, hl2⟩ h1
      rw [e1, e2]
      exact ⟨h', he, h2, hb⟩
    · obtain ⟨e1, e2⟩ := rcO_no (zs := zs) (fun ⟨x, hx, h1⟩ => hno ⟨x, hx.can, hx.wf, hx.ws, h1⟩)
      rw [e1, e2]
      exact ⟨_, he, rhIn_zero _ _, hb⟩

set_option maxRecDepth 100000 in
set_option maxHeartbeats 4000000 in
theorem codecReads_walk (a : Option Addr) (n c : Nat) (z : List Int) (w : World) (w0 : IsRow .u8 w a n c z) :
    Calls Try.prog 4 #[.slice a n c] w fun e w' => e = .returned (.bool true) ∧ Below w.heap.size w w' := by
  have hr := Row.of_isRow w0 (fun n hn => (bounds_u8 (w0.wf n hn)).1)
  have hz : ∀ x ∈ (z.take n).map Int.toNat, x < 256 := by
    intro x hx
    obtain ⟨n, hn, rfl⟩ := List.mem_map.1 hx
    have := bounds_u8 (w0.wf n (List.mem_of_mem_take hn))
    omega
  clear w0
  generalize (z.take n).map Int.toNat = zs at hr hz
  have HR := Lib.hid hr
  have HZ := Lib.hid hz
  clear hr hz
  go_enter Try.func4, Try.ntmps4
  go_wp2_with fail
  refine (awake_any w).mono ?_
  rintro e w1 ⟨rfl, hb1⟩
  have HB1 := Lib.hid hb1
  have hz1 := hb1.size
  clear hb1
  by_cases hbig : 600 < n
  · have hbig' : (600 : Int) < (n : Int) := by omega
    go_wp2_with fail
    go_ret
    exact ⟨rfl, HB1.out⟩
  · have hbig' : ¬ (600 : Int) < (n : Int) := by omega
    have hn6 : n ≤ 600 := by omega
    obtain ⟨ee, hee⟩ : ∃ ee, eS zs = ee := ⟨_, rfl⟩
    obtain ⟨ff, hff⟩ : ∃ ff, eR zs = ff := ⟨_, rfl⟩
    have HEE := Lib.hid hee
    have HFF := Lib.hid hff
    clear hee hff
    have HC1 := Lib.hid (readsS a n c zs w1 ((HR.out.below HB1.out).mono HB1.out.size) HZ.out hn6)
    rw [HEE.out] at HC1
    go_wp2_with fail
    refine HC1.out.mono ?_
    rintro e v2 ⟨h2, rfl, hi, hb⟩
    have hba : Below v2.heap.size v2 (v2.alloc (shO h2)) := (Below.refl _ _).alloc (Nat.le_refl _) _
    have hbt : Below w1.heap.size w1 (v2.alloc (shO h2)) := hb.trans (hba.mono hb.size)
    obtain ⟨w2, hw⟩ : ∃ w2, w2 = v2.alloc (shO h2) := ⟨_, rfl⟩
    have hx : BoxAt w2 v2.heap.size #[.int .i64 h2.t, .slice h2.a1 h2.n1 h2.c1, .slice h2.a2 h2.n2 h2.c2, .slice h2.a3 h2.n3 h2.c3] 26 := by rw [hw]; exact boxAt_new _ _ _
    rw [← hw] at hba hbt
    have HB2 := Lib.hid (HB1.out.trans (hbt.mono HB1.out.size))
    have HI2 := Lib.hid ((hi.below hba).mono hba.size)
    have HX2 := Lib.hid hx
    have HW2 : Hid (v2.alloc (.cells #[.int .i64 h2.t, .slice h2.a1 h2.n1 h2.c1, .slice h2.a2 h2.n2 h2.c2, .slice h2.a3 h2.n3 h2.c3] 26) = w2) := hw.symm
    have hsz2 := hbt.size
    have hvz2 := hb.size
    clear hi hb hba hbt hw hx HC1
    have HC2 := Lib.hid (rreadsS a n c zs w2 ((HR.out.below HB2.out).mono HB2.out.size) HZ.out hn6)
    rw [HEE.out] at HC2
    go_wp2_with fail
    rw [HW2.out]
    refine HC2.out.mono ?_
    rintro e v3 ⟨h3, rfl, hi, hb⟩
    have hba : Below v3.heap.size v3 (v3.alloc (shO h3)) := (Below.refl _ _).alloc (Nat.le_refl _) _
    have hbt : Below w2.heap.size w2 (v3.alloc (shO h3)) := hb.trans (hba.mono hb.size)
    obtain ⟨w3, hw⟩ : ∃ w3, w3 = v3.alloc (shO h3) := ⟨_, rfl⟩
    have hx : BoxAt w3 v3.heap.size #[.int .i64 h3.t, .slice h3.a1 h3.n1 h3.c1, .slice h3.a2 h3.n2 h3.c2, .slice h3.a3 h3.n3 h3.c3] 26 := by rw [hw]; exact boxAt_new _ _ _
    rw [← hw] at hba hbt
    have HB3 := Lib.hid (HB2.out.trans (hbt.mono HB2.out.size))
    have HI3 := Lib.hid ((hi.below hba).mono hba.size)
    have HX3 := Lib.hid hx
    have HW3 : Hid (v3.alloc (.cells #[.int .i64 h3.t, .slice h3.a1 h3.n1 h3.c1, .slice h3.a2 h3.n2 h3.c2, .slice h3.a3 h3.n3 h3.c3] 26) = w3) := hw.symm
    have hsz3 := hbt.size
    have hvz3 := hb.size
    have HI2 := Lib.hid ((HI2.out.below hbt).mono hbt.size)
    have HX2 := Lib.hid (HX2.out.calls hbt)
    clear hi hb hba hbt hw hx HC2
    have HC3 := Lib.hid (readsR a n c zs w3 ((HR.out.below HB3.out).mono HB3.out.size) HZ.out hn6)
    rw [HFF.out] at HC3
    go_wp2_with fail
    rw [HW3.out]
    refine HC3.out.mono ?_
    rintro e v4 ⟨h4, rfl, hi, hb⟩
    have hba : Below v4.heap.size v4 (v4.alloc (rhO h4)) := (Below.refl _ _).alloc (Nat.le_refl _) _
    have hbt : Below w3.heap.size w3 (v4.alloc (rhO h4)) := hb.trans (hba.mono hb.size)
    obtain ⟨w4, hw⟩ : ∃ w4, w4 = v4.alloc (rhO h4) := ⟨_, rfl⟩
    have hx : BoxAt w4 v4.heap.size #[.int .i64 h4.t, .slice h4.a1 h4.n1 h4.c1, .slice h4.a2 h4.n2 h4.c2, .slice h4.a3 h4.n3 h4.c3, .int .u32 h4.k] 31 := by rw [hw]; exact boxAt_new _ _ _
    rw [← hw] at hba hbt
    have HB4 := Lib.hid (HB3.out.trans (hbt.mono HB3.out.size))
    have HI4 := Lib.hid ((hi.below hba).mono hba.size)
    have HX4 := Lib.hid hx
    have HW4 : Hid (v4.alloc (.cells #[.int .i64 h4.t, .slice h4.a1 h4.n1 h4.c1, .slice h4.a2 h4.n2 h4.c2, .slice h4.a3 h4.n3 h4.c3, .int .u32 h4.k] 31) = w4) := hw.symm
    have hsz4 := hbt.size
    have hvz4 := hb.size
    have HI2 := Lib.hid ((HI2.out.below hbt).mono hbt.size)
    have HX2 := Lib.hid (HX2.out.calls hbt)
    have HI3 := Lib.hid ((HI3.out.below hbt).mono hbt.size)
    have HX3 := Lib.hid (HX3.out.calls hbt)
    clear hi hb hba hbt hw hx HC3
    have HC4 := Lib.hid (rreadsR a n c zs w4 ((HR.out.below HB4.out).mono HB4.out.size) HZ.out hn6)
    rw [HFF.out] at HC4
    go_wp2_with fail
    rw [HW4.out]
    refine HC4.out.mono ?_
    rintro e v5 ⟨h5, rfl, hi, hb⟩
    have hba : Below v5.heap.size v5 (v5.alloc (rhO h5)) := (Below.refl _ _).alloc (Nat.le_refl _) _
    have hbt : Below w4.heap.size w4 (v5.alloc (rhO h5)) := hb.trans (hba.mono hb.size)
    obtain ⟨w5, hw⟩ : ∃ w5, w5 = v5.alloc (rhO h5) := ⟨_, rfl⟩
    have hx : BoxAt w5 v5.heap.size #[.int .i64 h5.t, .slice h5.a1 h5.n1 h5.c1, .slice h5.a2 h5.n2 h5.c2, .slice h5.a3 h5.n3 h5.c3, .int .u32 h5.k] 31 := by rw [hw]; exact boxAt_new _ _ _
    rw [← hw] at hba hbt
    have HB5 := Lib.hid (HB4.out.trans (hbt.mono HB4.out.size))
    have HI5 := Lib.hid ((hi.below hba).mono hba.size)
    have HX5 := Lib.hid hx
    have HW5 : Hid (v5.alloc (.cells #[.int .i64 h5.t, .slice h5.a1 h5.n1 h5.c1, .slice h5.a2 h5.n2 h5.c2, .slice h5.a3 h5.n3 h5.c3, .int .u32 h5.k] 31) = w5) := hw.symm
    have hsz5 := hbt.size
    have hvz5 := hb.size
    have HI2 := Lib.hid ((HI2.out.below hbt).mono hbt.size)
    have HX2 := Lib.hid (HX2.out.calls hbt)
    have HI3 := Lib.hid ((HI3.out.below hbt).mono hbt.size)
    have HX3 := Lib.hid (HX3.out.calls hbt)
    have HI4 := Lib.hid ((HI4.out.below hbt).mono hbt.size)
    have HX4 := Lib.hid (HX4.out.calls hbt)
    clear hi hb hba hbt hw hx HC4
    have s0 := HX2.out.cell (i := 0) rfl
    have s1 := HX2.out.cell (i := 1) rfl
    have s2 := HX2.out.cell (i := 2) rfl
    have s3 := HX2.out.cell (i := 3) rfl
    have t0 := HX3.out.cell (i := 0) rfl
    have t1 := HX3.out.cell (i := 1) rfl
    have t2 := HX3.out.cell (i := 2) rfl
    have t3 := HX3.out.cell (i := 3) rfl
    rw [← HW5.out] at s0 s1 s2 s3 t0 t1 t2 t3
    go_wp2_with fail
    rw [HW5.out]
    refine (rstSame_any h2 h3 (stO zs) (stO zs) w5.heap.size w5 HI2.out HI3.out (Nat.le_refl _)).mono ?_
    rw [show sameSt (stO zs) (stO zs) = true from sameSt_all rfl rfl rfl rfl]
    rintro e w6 ⟨rfl, hb6⟩
    have HB6 := Lib.hid (HB5.out.trans (hb6.mono HB5.out.size))
    have HI4 := Lib.hid ((HI4.out.below hb6).mono hb6.size)
    have HI5 := Lib.hid ((HI5.out.below hb6).mono hb6.size)
    have HX4 := Lib.hid (HX4.out.calls hb6)
    have HX5 := Lib.hid (HX5.out.calls hb6)
    clear s0 s1 s2 s3 t0 t1 t2 t3 hb6
    have s0 := HX4.out.cell (i := 0) rfl
    have s1 := HX4.out.cell (i := 1) rfl
    have s2 := HX4.out.cell (i := 2) rfl
    have s3 := HX4.out.cell (i := 3) rfl
    have s4 := HX4.out.cell (i := 4) rfl
    have t0 := HX5.out.cell (i := 0) rfl
    have t1 := HX5.out.cell (i := 1) rfl
    have t2 := HX5.out.cell (i := 2) rfl
    have t3 := HX5.out.cell (i := 3) rfl
    have t4 := HX5.out.cell (i := 4) rfl
    go_wp2_with fail
    refine (rlike_any h4 h5 (rcO zs) (rcO zs) w6.heap.size w6 HI4.out HI5.out (Nat.le_refl _)).mono ?_
    rintro e w7 ⟨bl, rfl, hbl, hb7⟩
    obtain rfl : bl = true := hbl.2 rfl
    have HB7 := Lib.hid (HB6.out.trans (hb7.mono HB6.out.size))
    clear hbl hb7 s0 s1 s2 s3 s4 t0 t1 t2 t3 t4
    go_wp2_with fail
    go_ret
    exact ⟨rfl, HB7.out⟩
end Go.Proofs.Ytdhaoacnedgogaa.Vm
