/- The contract of tuggerlaw07.awake. -/
import Derived.Test.YtdhaoacnedgogaaCodSts
import Derived.Test.YtdhaoacnedgogaaReadSts
import Derived.Test.YtdhaoacnedgogaaRefCodD
import Derived.Test.YtdhaoacnedgogaaRefCodL
namespace Go.Proofs.Ytdhaoacnedgogaa.Vm
open Go Go.RowKit

def sA : St := ⟨3, [⟨5, 0, 0, 300, 0⟩], [⟨1, 2, 3, 1, -1⟩], [4, 6]⟩
def xA : Rcd := ⟨9, [⟨1, -7, 0, 0⟩], [5], [0, 0, 0, 2], 2147483648⟩
theorem canA : CanS sA := by
  refine ⟨⟨by decide, by decide⟩, by decide, by decide, by decide, fun r hr => ?_, fun r hr => ?_, ⟨by decide, by decide, by decide, by decide, trivial⟩⟩
  · obtain rfl : r = ⟨5, 0, 0, 300, 0⟩ := by simpa [sA] using hr
    decide
  · obtain rfl : r = ⟨1, 2, 3, 1, -1⟩ := by simpa [sA] using hr
    decide
theorem okA : OkR xA := by
  refine ⟨⟨⟨by decide, by decide⟩, rfl, ?_, ?_⟩, ⟨fun p hp => ?_, by decide⟩, by decide⟩
  · decide
  · decide
  · obtain rfl : p = ⟨1, -7, 0, 0⟩ := by simpa [xA] using hp
    decide
theorem lenSA : (encS sA).length = 17 := by decide +kernel
theorem lenXA : (encR xA).length = 17 := by decide +kernel
theorem awA_S (h : Sh) (w : World) (hin : StIn w w.heap.size h sA) :
    Calls Try.prog 10 #[shV h] w fun e w' => ∃ va vc, e = .returned (.tuple #[.slice va 17 vc, .int .i64 0]) ∧ Own w' w.heap.size (.slice va 17 vc) (encS sA) ∧ Below w.heap.size w w' :=
  (codS_any h sA w hin ⟨by decide, by decide, by decide⟩).mono fun e w' ⟨v, er, he, h1, _, hb⟩ => by
    obtain ⟨rfl, ho⟩ := h1 canA
    obtain ⟨va, vc, rfl, _⟩ := ho.slice
    rw [lenSA] at he ho
    exact ⟨va, vc, he, ho, hb⟩
theorem awA_RS (va : Option Addr) (vc B : Nat) (w : World) (ho : Own w B (.slice va 17 vc) (encS sA)) :
    Calls Try.prog 17 #[.slice va 17 vc] w fun e w' => ∃ h', e = .returned (.tuple #[shV h', .int .i64 0]) ∧ CopyIn w' w.heap.size h' sA ∧ Below w.heap.size w w' :=
  (readState_any va 17 vc (encS sA) w ho.row (encS_byte sA) (by decide)).mono fun e w' ⟨h', er, he, hd, hb⟩ => by
    rcases hd with ⟨rfl, s, hs, h1, h2⟩ | ⟨_, _, hno⟩
    · rw [encS_inj hs canA h1] at h2
      exact ⟨h', he, h2, hb⟩
    · exact absurd ⟨sA, canA, rfl⟩ hno
theorem awA_R (h : Rh) (w : World) (hin : RhIn w w.heap.size h xA) :
    Calls Try.prog 12 #[rhV h] w fun e w' => ∃ va vc, e = .returned (.tuple #[.slice va 17 vc, .int .i64 0]) ∧ Own w' w.heap.size (.slice va 17 vc) (encR xA) ∧ Below w.heap.size w w' :=
  (codP_any h xA w hin okA.wf ⟨by decide, by decide, by decide⟩).mono fun e w' ⟨v, er, he, h1, _, hb⟩ => by
    obtain ⟨rfl, ho⟩ := h1 okA.can
    obtain ⟨va, vc, rfl, _⟩ := ho.slice
    rw [lenXA] at he ho
    exact ⟨va, vc, he, ho, hb⟩
theorem encR_one {x y : Rcd} (hx : OkR x) (hy : OkR y) (hl : (encR x).length ≤ 2147483647) (e : encR x = encR y) : x = y :=
  (encR_pf (r := []) (r' := []) hx hy (by simpa using hl) (by rw [e])).1
theorem awA_RR (va : Option Addr) (vc B : Nat) (w : World) (ho : Own w B (.slice va 17 vc) (encR xA)) :
    Calls Try.prog 19 #[.slice va 17 vc] w fun e w' => ∃ h', e = .returned (.tuple #[rhV h', .int .i64 0]) ∧ RCopy w' w.heap.size h' xA ∧ Below w.heap.size w w' :=
  (readRecord_any va 17 vc (encR xA) w ho.row (encR_byte xA) (by decide)).mono fun e w' ⟨h', er, he, hd, hb⟩ => by
    rcases hd with ⟨rfl, s, hs, h1, h2⟩ | ⟨_, _, hno⟩
    · rw [encR_one hs okA (by rw [h1, lenXA]; decide) h1] at h2
      exact ⟨h', he, h2, hb⟩
    · exact absurd ⟨xA, okA, rfl⟩ hno

set_option maxRecDepth 100000 in
set_option maxHeartbeats 4000000 in
theorem awake_any (w : World) : Calls Try.prog 7 #[] w fun e w' => e = .returned (.bool true) ∧ Below w.heap.size w w' := by
  obtain ⟨u1, hu1⟩ : ∃ u1, u1 = w.alloc (.cells #[.int .i64 5, .int .i64 0, .int .i64 0, .int .i64 300, .int .i64 0] 51) := ⟨_, rfl⟩
  obtain ⟨u2, hu2⟩ : ∃ u2, u2 = u1.alloc (.cells #[.int .i64 1, .int .i64 2, .int .i64 3, .int .i64 1, .int .i64 (-1)] 53) := ⟨_, rfl⟩
  obtain ⟨u3, hu3⟩ : ∃ u3, u3 = u2.alloc (.cells #[.int .i64 4, .int .i64 6] 3) := ⟨_, rfl⟩
  obtain ⟨hs, hhs⟩ : ∃ hs : Sh, hs = ⟨3, some ⟨w.heap.size, 0, none⟩, 1, 1, some ⟨w.heap.size + 1, 0, none⟩, 1, 1, some ⟨w.heap.size + 1 + 1, 0, none⟩, 2, 2⟩ := ⟨_, rfl⟩
  obtain ⟨u4, hu4⟩ : ∃ u4, u4 = u3.alloc (shO hs) := ⟨_, rfl⟩
  have b1 : Below w.heap.size w u1 := by rw [hu1]; exact (Below.refl _ _).alloc (Nat.le_refl _) _
  have b2 : Below u1.heap.size u1 u2 := by rw [hu2]; exact (Below.refl _ _).alloc (Nat.le_refl _) _
  have b3 : Below u2.heap.size u2 u3 := by rw [hu3]; exact (Below.refl _ _).alloc (Nat.le_refl _) _
  have b4 : Below u3.heap.size u3 u4 := by rw [hu4]; exact (Below.refl _ _).alloc (Nat.le_refl _) _
  have z1 : u1.heap.size = w.heap.size + 1 := by rw [hu1]; simp
  have z2 : u2.heap.size = w.heap.size + 1 + 1 := by rw [hu2]; simp [z1]
  have z3 : u3.heap.size = w.heap.size + 1 + 1 + 1 := by rw [hu3]; simp [z2]
  have o1 : OwnR u1 w.heap.size 51 (.slice (some ⟨w.heap.size, 0, none⟩) 1 1) sA.rs := by
    rw [hu1]
    exact World.ownsRow_lit (size := 5) w _ 1 (Nat.le_refl _) (by unfold maxLen; decide) rfl
  have o2 : OwnR u2 w.heap.size 53 (.slice (some ⟨w.heap.size + 1, 0, none⟩) 1 1) sA.ts := by
    rw [hu2, ← z1]
    exact World.ownsRow_lit (size := 5) u1 _ 1 (by omega) (by unfold maxLen; decide) rfl
  have o3 : OwnZ u3 w.heap.size (.slice (some ⟨w.heap.size + 1 + 1, 0, none⟩) 2 2) sA.bl := by
    rw [hu3, ← z2]
    exact World.ownsRow_lit (size := 1) u2 _ 2 (by omega) (by unfold maxLen; decide) rfl
  have hc4 : CopyIn u4 w.heap.size hs sA := by
    rw [hhs]
    exact ⟨rfl, ((o1.calls b2).calls b3).calls b4, (o2.calls b3).calls b4, own_upto o3 b4 (fun k hk => (World.ownsRow.lt o3 k hk).2), rfl, rfl, rfl⟩
  have hb4 : Below w.heap.size w u4 := b1.trans ((b2.mono (by omega)).trans ((b3.mono (by omega)).trans (b4.mono (by omega))))
  have hx4 : BoxAt u4 (w.heap.size + 1 + 1 + 1) #[.int .i64 hs.t, .slice hs.a1 hs.n1 hs.c1, .slice hs.a2 hs.n2 hs.c2, .slice hs.a3 hs.n3 hs.c3] 26 := by rw [← z3, hu4]; exact boxAt_new _ _ _
  have HS := Lib.hid (awA_S hs u4 hc4.stIn)
  have HC4 := Lib.hid hc4
  have HB4 := Lib.hid hb4
  have HX4 := Lib.hid hx4
  have HW : Hid ((((w.alloc (.cells #[.int .i64 5, .int .i64 0, .int .i64 0, .int .i64 300, .int .i64 0] 51)).alloc (.cells #[.int .i64 1, .int .i64 2, .int .i64 3, .int .i64 1, .int .i64 (-1)] 53)).alloc (.cells #[.int .i64 4, .int .i64 6] 3)).alloc (.cells #[.int .i64 3, .slice (some ⟨w.heap.size, 0, none⟩) 1 1, .slice (some ⟨w.heap.size + 1, 0, none⟩) 1 1, .slice (some ⟨w.heap.size + 1 + 1, 0, none⟩) 2 2] 26) = u4) := by rw [hu4, hu3, hu2, hu1, hhs]; exact rfl
  have HHS : Hid (Value.agg #[.int .i64 3, .slice (some ⟨w.heap.size, 0, none⟩) 1 1, .slice (some ⟨w.heap.size + 1, 0, none⟩) 1 1, .slice (some ⟨w.heap.size + 1 + 1, 0, none⟩) 2 2] = shV hs) := by rw [hhs]; exact rfl
  have hw4 : w.heap.size + 1 + 1 + 1 < u4.heap.size := by rw [hu4]; simp; omega
  clear b1 b2 b3 b4 z1 z2 z3 o1 o2 o3 hc4 hb4 hx4 hu1 hu2 hu3 hu4 hhs
  go_enter Try.func7, Try.ntmps7
  go_wp2_with fail
  rw [HW.out, HHS.out]
  refine HS.out.mono ?_
  rintro e w5 ⟨va, vc, rfl, ho, hb5⟩
  have HB5 := Lib.hid (HB4.out.trans (hb5.mono HB4.out.size))
  have HC5 := Lib.hid (HC4.out.calls hb5)
  have HX5 := Lib.hid (HX4.out.calls hb5)
  have HRS := Lib.hid (awA_RS va vc u4.heap.size w5 ho)
  have hz5 := hb5.size
  clear ho hb5 HS HW HHS
  go_wp2_with fail
  refine HRS.out.mono ?_
  rintro e w6 ⟨ht, rfl, hct, hb6⟩
  have hba6 : Below w6.heap.size w6 (w6.alloc (shO ht)) := (Below.refl _ _).alloc (Nat.le_refl _) _
  have hz6 := hb6.size
  obtain ⟨w7, hw7⟩ : ∃ w7, w7 = w6.alloc (shO ht) := ⟨_, rfl⟩
  have hxt : BoxAt w7 w6.heap.size #[.int .i64 ht.t, .slice ht.a1 ht.n1 ht.c1, .slice ht.a2 ht.n2 ht.c2, .slice ht.a3 ht.n3 ht.c3] 26 := by rw [hw7]; exact boxAt_new _ _ _
  rw [← hw7] at hba6
  have HB7 := Lib.hid (HB5.out.trans ((hb6.mono HB5.out.size).trans (hba6.mono (Nat.le_trans HB5.out.size hz6))))
  have HC7 := Lib.hid ((HC5.out.calls hb6).calls hba6)
  have HX7 := Lib.hid ((HX5.out.calls hb6).calls hba6)
  have HCT := Lib.hid (hct.calls hba6)
  have HXT := Lib.hid hxt
  have HW7 := Lib.hid hw7
  have hz7 : w6.heap.size < w7.heap.size := by rw [hw7]; simp
  have hz7' : w7.heap.size = w6.heap.size + 1 := by rw [hw7]; simp
  obtain ⟨v1, hv1⟩ : ∃ v1, v1 = w7.alloc (.cells #[.int .i64 1, .int .i64 (-7), .int .i64 0, .int .i64 0] 55) := ⟨_, rfl⟩
  obtain ⟨v2, hv2⟩ : ∃ v2, v2 = v1.alloc (.cells #[.int .i64 5] 36) := ⟨_, rfl⟩
  obtain ⟨v3, hv3⟩ : ∃ v3, v3 = v2.alloc (.cells #[.int .i64 0, .int .i64 0, .int .i64 0, .int .i64 2] 3) := ⟨_, rfl⟩
  obtain ⟨hx, hhx⟩ : ∃ hx : Rh, hx = ⟨9, some ⟨w6.heap.size + 1, 0, none⟩, 1, 1, some ⟨w6.heap.size + 1 + 1, 0, none⟩, 1, 1, some ⟨w6.heap.size + 1 + 1 + 1, 0, none⟩, 4, 4, 2147483648⟩ := ⟨_, rfl⟩
  obtain ⟨v4, hv4⟩ : ∃ v4, v4 = v3.alloc (rhO hx) := ⟨_, rfl⟩
  have b1 : Below w7.heap.size w7 v1 := by rw [hv1]; exact (Below.refl _ _).alloc (Nat.le_refl _) _
  have b2 : Below v1.heap.size v1 v2 := by rw [hv2]; exact (Below.refl _ _).alloc (Nat.le_refl _) _
  have b3 : Below v2.heap.size v2 v3 := by rw [hv3]; exact (Below.refl _ _).alloc (Nat.le_refl _) _
  have b4 : Below v3.heap.size v3 v4 := by rw [hv4]; exact (Below.refl _ _).alloc (Nat.le_refl _) _
  have z1 : v1.heap.size = w6.heap.size + 1 + 1 := by rw [hv1]; simp [hz7']
  have z2 : v2.heap.size = w6.heap.size + 1 + 1 + 1 := by rw [hv2]; simp [z1]
  have z3 : v3.heap.size = w6.heap.size + 1 + 1 + 1 + 1 := by rw [hv3]; simp [z2]
  have o1 : OwnX v1 w7.heap.size (.slice (some ⟨w6.heap.size + 1, 0, none⟩) 1 1) xA.ins := by
    rw [hv1, ← hz7']
    exact World.ownsRow_lit (size := 4) w7 _ 1 (Nat.le_refl _) (by unfold maxLen; decide) rfl
  have o2 : OwnEr v2 w7.heap.size (.slice (some ⟨w6.heap.size + 1 + 1, 0, none⟩) 1 1) xA.cs := by
    rw [hv2, ← z1]
    exact World.ownsRow_lit (size := 1) v1 _ 1 (by omega) (by unfold maxLen; decide) rfl
  have o3 : OwnZ v3 w7.heap.size (.slice (some ⟨w6.heap.size + 1 + 1 + 1, 0, none⟩) 4 4) xA.ws := by
    rw [hv3, ← z2]
    exact World.ownsRow_lit (size := 1) v2 _ 4 (by omega) (by unfold maxLen; decide) rfl
  have b34 : Below v2.heap.size v2 v4 := b3.trans (b4.mono (by omega))
  have b24 : Below v1.heap.size v1 v4 := b2.trans (b34.mono (by omega))
  have b14 : Below w7.heap.size w7 v4 := b1.trans (b24.mono (by omega))
  have hc4 : RCopy v4 w7.heap.size hx xA := by
    rw [hhx]
    exact ⟨rfl, own_upto o1 b24 (fun k hk => (World.ownsRow.lt o1 k hk).2), own_upto o2 b34 (fun k hk => (World.ownsRow.lt o2 k hk).2), own_upto o3 b4 (fun k hk => (World.ownsRow.lt o3 k hk).2), rfl⟩
  have hx4 : BoxAt v4 (w6.heap.size + 1 + 1 + 1 + 1) #[.int .i64 hx.t, .slice hx.a1 hx.n1 hx.c1, .slice hx.a2 hx.n2 hx.c2, .slice hx.a3 hx.n3 hx.c3, .int .u32 hx.k] 31 := by rw [← z3, hv4]; exact boxAt_new _ _ _
  have HR := Lib.hid (awA_R hx v4 hc4.rhIn)
  have HCX := Lib.hid hc4
  have HBV := Lib.hid (HB7.out.trans (b14.mono HB7.out.size))
  have HCV := Lib.hid (HC7.out.calls b14)
  have HXV := Lib.hid (HX7.out.calls b14)
  have HCTV := Lib.hid (HCT.out.calls b14)
  have HXTV := Lib.hid (HXT.out.calls b14)
  have HXX := Lib.hid hx4
  have HW : Hid (((((w6.alloc (.cells #[.int .i64 ht.t, .slice ht.a1 ht.n1 ht.c1, .slice ht.a2 ht.n2 ht.c2, .slice ht.a3 ht.n3 ht.c3] 26)).alloc (.cells #[.int .i64 1, .int .i64 (-7), .int .i64 0, .int .i64 0] 55)).alloc (.cells #[.int .i64 5] 36)).alloc (.cells #[.int .i64 0, .int .i64 0, .int .i64 0, .int .i64 2] 3)).alloc (.cells #[.int .i64 9, .slice (some ⟨w6.heap.size + 1, 0, none⟩) 1 1, .slice (some ⟨w6.heap.size + 1 + 1, 0, none⟩) 1 1, .slice (some ⟨w6.heap.size + 1 + 1 + 1, 0, none⟩) 4 4, .int .u32 2147483648] 31) = v4) := by rw [hv4, hv3, hv2, hv1, hw7, hhx]; exact rfl
  have HHX : Hid (Value.agg #[.int .i64 9, .slice (some ⟨w6.heap.size + 1, 0, none⟩) 1 1, .slice (some ⟨w6.heap.size + 1 + 1, 0, none⟩) 1 1, .slice (some ⟨w6.heap.size + 1 + 1 + 1, 0, none⟩) 4 4, .int .u32 2147483648] = rhV hx) := by rw [hhx]; exact rfl
  have hzv : w6.heap.size + 1 + 1 + 1 + 1 < v4.heap.size := by rw [hv4]; simp; omega
  clear hct hb6 hba6 hxt hw7 HRS b1 b2 b3 b4 b34 b24 b14 z1 z2 z3 o1 o2 o3 hc4 hx4 hv1 hv2 hv3 hv4 hhx hz7 hz7' HB7 HC7 HX7 HCT HXT HW7
  go_wp2_with fail
  rw [HW.out, HHX.out]
  refine HR.out.mono ?_
  rintro e w8 ⟨vb, vd, rfl, ho, hb8⟩
  have HB8 := Lib.hid (HBV.out.trans (hb8.mono HBV.out.size))
  have HC8 := Lib.hid (HCV.out.calls hb8)
  have HX8 := Lib.hid (HXV.out.calls hb8)
  have HCT8 := Lib.hid (HCTV.out.calls hb8)
  have HXT8 := Lib.hid (HXTV.out.calls hb8)
  have HCX8 := Lib.hid (HCX.out.calls hb8)
  have HXX8 := Lib.hid (HXX.out.calls hb8)
  have HRR := Lib.hid (awA_RR vb vd v4.heap.size w8 ho)
  have hz8 := hb8.size
  clear ho hb8 HR HW HHX HBV HCV HXV HCTV HXTV HCX HXX
  go_wp2_with fail
  refine HRR.out.mono ?_
  rintro e w9 ⟨hy, rfl, hcy, hb9⟩
  have hba9 : Below w9.heap.size w9 (w9.alloc (rhO hy)) := (Below.refl _ _).alloc (Nat.le_refl _) _
  have hz9 := hb9.size
  obtain ⟨wX, hwX⟩ : ∃ wX, wX = w9.alloc (rhO hy) := ⟨_, rfl⟩
  have hxy : BoxAt wX w9.heap.size #[.int .i64 hy.t, .slice hy.a1 hy.n1 hy.c1, .slice hy.a2 hy.n2 hy.c2, .slice hy.a3 hy.n3 hy.c3, .int .u32 hy.k] 31 := by rw [hwX]; exact boxAt_new _ _ _
  rw [← hwX] at hba9
  have hbX : Below w8.heap.size w8 wX := hb9.trans (hba9.mono hz9)
  have HBX := Lib.hid (HB8.out.trans (hbX.mono HB8.out.size))
  have HCX' := Lib.hid (HC8.out.calls hbX)
  have HXs := Lib.hid (HX8.out.calls hbX)
  have HCTX := Lib.hid (HCT8.out.calls hbX)
  have HXt := Lib.hid (HXT8.out.calls hbX)
  have HCxX := Lib.hid (HCX8.out.calls hbX)
  have HXx := Lib.hid (HXX8.out.calls hbX)
  have HCyX := Lib.hid (hcy.calls hba9)
  have HXy := Lib.hid hxy
  have HWX : Hid (w9.alloc (.cells #[.int .i64 hy.t, .slice hy.a1 hy.n1 hy.c1, .slice hy.a2 hy.n2 hy.c2, .slice hy.a3 hy.n3 hy.c3, .int .u32 hy.k] 31) = wX) := hwX.symm
  have s0 := HXs.out.cell (i := 0) rfl
  have s1 := HXs.out.cell (i := 1) rfl
  have s2 := HXs.out.cell (i := 2) rfl
  have s3 := HXs.out.cell (i := 3) rfl
  have t0 := HXt.out.cell (i := 0) rfl
  have t1 := HXt.out.cell (i := 1) rfl
  have t2 := HXt.out.cell (i := 2) rfl
  have t3 := HXt.out.cell (i := 3) rfl
  rw [hwX] at s0 s1 s2 s3 t0 t1 t2 t3
  clear hcy hb9 hba9 hxy hbX hwX HRR HB8 HC8 HX8 HCT8 HXT8 HCX8 HXX8
  go_wp2_with fail
  rw [HWX.out]
  refine (rstSame_any hs ht sA sA wX.heap.size wX HCX'.out.stIn HCTX.out.stIn (Nat.le_refl _)).mono ?_
  rw [show sameSt sA sA = true from sameSt_all rfl rfl rfl rfl]
  rintro e wY ⟨rfl, hbY⟩
  have HBY := Lib.hid (HBX.out.trans (hbY.mono HBX.out.size))
  have HCsY := Lib.hid (HCX'.out.calls hbY)
  have HXsY := Lib.hid (HXs.out.calls hbY)
  have HCxY := Lib.hid (HCxX.out.calls hbY)
  have HXxY := Lib.hid (HXx.out.calls hbY)
  have HCyY := Lib.hid (HCyX.out.calls hbY)
  have HXyY := Lib.hid (HXy.out.calls hbY)
  clear s0 s1 s2 s3 t0 t1 t2 t3
  have s0 := HXxY.out.cell (i := 0) rfl
  have s1 := HXxY.out.cell (i := 1) rfl
  have s2 := HXxY.out.cell (i := 2) rfl
  have s3 := HXxY.out.cell (i := 3) rfl
  have s4 := HXxY.out.cell (i := 4) rfl
  have t0 := HXyY.out.cell (i := 0) rfl
  have t1 := HXyY.out.cell (i := 1) rfl
  have t2 := HXyY.out.cell (i := 2) rfl
  have t3 := HXyY.out.cell (i := 3) rfl
  have t4 := HXyY.out.cell (i := 4) rfl
  clear hbY HWX HCX' HXs HCxX HXx HCyX HXy HCTX HXt
  go_wp2_with fail
  refine (rlike_any hx hy xA xA wY.heap.size wY HCxY.out.rhIn HCyY.out.rhIn (Nat.le_refl _)).mono ?_
  rintro e wZ ⟨bl, rfl, hbl, hbZ⟩
  obtain rfl : bl = true := hbl.2 rfl
  have HBZ := Lib.hid (HBY.out.trans (hbZ.mono HBY.out.size))
  have HCs := Lib.hid (HCsY.out.calls hbZ)
  have HXs := Lib.hid (HXsY.out.calls hbZ)
  clear s0 s1 s2 s3 s4 t0 t1 t2 t3 t4 hbZ hbl HCxY HXxY HCyY HXyY HCsY HXsY
  have HD1 : Hid (∀ V, Kept wZ V → Calls Try.prog 15 #[shV hs] V fun e w' => e = .returned (.int .u32 (crc (encS sA) : Nat)) ∧ Kept wZ w') := fun V hV =>
    (digest_any hs sA V ((HCs.out.calls hV).stIn) ⟨by decide, by decide, by decide⟩).mono fun e w' ⟨d, he, h1, _, hb⟩ => ⟨by rw [he, h1 canA], Below.trans hV (hb.mono hV.size)⟩
  have HD2 : Hid (∀ V, Kept wZ V → Calls Try.prog 16 #[shV hs] V fun e w' => e = .returned (.int .u32 (crc (encS sA) : Nat)) ∧ Kept wZ w') := fun V hV =>
    (rdigest_any hs sA V ((HCs.out.calls hV).stIn) ⟨by decide, by decide, by decide⟩).mono fun e w' ⟨d, he, h1, _, hb⟩ => ⟨by rw [he, h1 canA], Below.trans hV (hb.mono hV.size)⟩
  have HKS : Hid (∀ V, Kept wZ V → Kept wZ V ∧ V.cell? ⟨w.heap.size + 1 + 1 + 1, 0, none⟩ = some (.int .i64 hs.t) ∧ V.cell? ⟨w.heap.size + 1 + 1 + 1, 1, none⟩ = some (.slice hs.a1 hs.n1 hs.c1) ∧ V.cell? ⟨w.heap.size + 1 + 1 + 1, 2, none⟩ = some (.slice hs.a2 hs.n2 hs.c2) ∧ V.cell? ⟨w.heap.size + 1 + 1 + 1, 3, none⟩ = some (.slice hs.a3 hs.n3 hs.c3)) := fun V hV =>
    ⟨hV, (HXs.out.calls hV).cell (i := 0) rfl, (HXs.out.calls hV).cell (i := 1) rfl, (HXs.out.calls hV).cell (i := 2) rfl, (HXs.out.calls hV).cell (i := 3) rfl⟩
  have k0 : Kept wZ wZ := Kept.refl _
  go_wp2_with fail
  go_region_held3 (fun V => Kept wZ V ∧ V.cell? ⟨w.heap.size + 1 + 1 + 1, 0, none⟩ = some (.int .i64 hs.t) ∧ V.cell? ⟨w.heap.size + 1 + 1 + 1, 1, none⟩ = some (.slice hs.a1 hs.n1 hs.c1) ∧ V.cell? ⟨w.heap.size + 1 + 1 + 1, 2, none⟩ = some (.slice hs.a2 hs.n2 hs.c2) ∧ V.cell? ⟨w.heap.size + 1 + 1 + 1, 3, none⟩ = some (.slice hs.a3 hs.n3 hs.c3))
    (first | exact HKS.out _ (by assumption) | exact HKS.out _ (Kept.drew (by assumption)))
    (first
      | (go_at_call 15; refine (HD1.out _ (by first | assumption | exact Kept.drew (by assumption))).mono ?_; rintro e V1 ⟨rfl, k1⟩)
      | (go_at_call 16; refine (HD2.out _ (by first | assumption | exact Kept.drew (by assumption))).mono ?_; rintro e V2 ⟨rfl, k2⟩))
  go_wp2_with fail
  go_ret
  exact ⟨rfl, HBZ.out.trans (Below.mono k2 HBZ.out.size)⟩
end Go.Proofs.Ytdhaoacnedgogaa.Vm
