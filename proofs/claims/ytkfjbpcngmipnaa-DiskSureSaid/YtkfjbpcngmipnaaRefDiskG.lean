/- The document's disk: Crash. -/
import Derived.Test.YtkfjbpcngmipnaaRefDiskE
import Derived.Test.YtkfjbpcngmipnaaIntsZ
import Derived.Deep.DeepCutAuto
namespace Go.Proofs.Ytkfjbpcngmipnaa.Vm
open Go Go.RowKit
set_option maxRecDepth 100000

/-- Files, the first ones cut. -/
def stepF (F : List FileS) (kept : List Int) (i : Nat) : List FileS := F.mapIdx fun j f => if j < i then cutF f (kept.getD j 0) else f
section
variable {F : List FileS} {kept : List Int} {i : Nat}
theorem stepF_len : (stepF F kept i).length = F.length := by simp [stepF]
theorem stepF_zero : stepF F kept 0 = F := by
  refine List.ext_getElem (by simp [stepF]) (fun j h1 h2 => ?_)
  simp [stepF]
theorem stepF_all (h : F.length ≤ i) : stepF F kept i = crashF F kept := by
  refine List.ext_getElem (by simp [stepF, crashF]) (fun j h1 h2 => ?_)
  have : j < i := by rw [stepF_len] at h1; omega
  simp [stepF, crashF, this]
theorem stepF_at (hi : i < F.length) : (stepF F kept i).getD i zfile = F.getD i zfile := by simp [stepF, List.getD, hi]
theorem stepF_next (hi : i < F.length) : stepF F kept (i + 1) = (stepF F kept i).set i (cutF (F.getD i zfile) (kept.getD i 0)) := by
  refine List.ext_getElem (by simp [stepF]) (fun j h1 h2 => ?_)
  rw [List.getElem_set]
  split
  · rename_i e
    subst e
    simp [stepF, List.getD, hi]
  · rename_i e
    simp only [stepF, List.getElem_mapIdx]
    by_cases h : j < i
    · rw [if_pos h, if_pos (by omega)]
    · rw [if_neg h, if_neg (by omega)]
end
/-- A whole file, written. -/
theorem RefAt.putAll {w V : World} {O : Nat → Prop} {bd lb n c i : Nat} {l : List FileV} {d : DiskS} (h : RefAt w O bd (.slice (some ⟨lb, 0, none⟩) n c) l d) (hb : Below w.heap.size w V) (hi : i < d.F.length) (u : FileV) (g : FileS) (hn : u.name = (d.F.getD i zfile).name)
    (hu : ByteIn V (fun k => O k ∨ (w.heap.size ≤ k ∧ k < V.heap.size)) (Mine13 bd (.slice (some ⟨lb, 0, none⟩) n c)) u g) :
    (∃ l', RefAt (((V.setCell ⟨lb, i * 3, none⟩ (.string u.name)).setCell ⟨lb, i * 3 + 1, none⟩ (.slice u.a u.n u.c)).setCell ⟨lb, i * 3 + 2, none⟩ (.int .i64 u.sure)) (fun k => O k ∨ (w.heap.size ≤ k ∧ k < V.heap.size)) bd (.slice (some ⟨lb, 0, none⟩) n c) l' { d with F := d.F.set i g }) ∧
      Alt O w (((V.setCell ⟨lb, i * 3, none⟩ (.string u.name)).setCell ⟨lb, i * 3 + 1, none⟩ (.slice u.a u.n u.c)).setCell ⟨lb, i * 3 + 2, none⟩ (.int .i64 u.sure)) := by
  have hlb := h.ov lb rfl
  have hA : ∀ (W : World) (j : Nat) (x : Value), Alt (fun k => k = lb) W (W.setCell ⟨lb, j, none⟩ x) := fun W j x => ⟨rfl, rfl, rfl, by simp [World.setCell], fun k hk hne => Below.heap_setCell _ _ _ _ hne⟩
  have hs : ∀ (W : World) (j : Nat) (x : Value), (W.setCell ⟨lb, j, none⟩ x).heap.size = W.heap.size := fun W j x => by simp [World.setCell]
  have hli : i < l.length := by rw [h.len]; exact hi
  have hO2 : ∀ (W : World) (O' : Nat → Prop) k, O' k ↔ O' k ∨ (W.heap.size ≤ k ∧ k < W.heap.size) := fun W O' k => ⟨.inl, fun h => h.elim id (fun h => absurd h.1 (by omega))⟩
  have hLK := (h.like i hli).alt (S := fun _ => False) (w' := V) (Alt.ofBelow hb) (fun k _ hk => absurd hk id)
  -- the name
  have h1 := h.putAt hb hi (j := 0) (by omega) u (d.F.getD i zfile) (fun k => O k ∨ (w.heap.size ≤ k ∧ k < V.heap.size)) (fun k => Iff.rfl) ⟨hn, hLK.sure, hLK.n, hLK.row, fun b o hn e => ⟨.inl (hLK.off b o hn e).1, (hLK.off b o hn e).2⟩⟩
  have e1 : (d.F.set i (d.F.getD i zfile)) = d.F := by
    refine List.ext_getElem (by simp) (fun j h1 h2 => ?_)
    rw [List.getElem_set]
    split
    · rename_i e; subst e; simp [List.getD, hi]
    · rfl
  rw [e1] at h1
  -- the slice
  have hu1 := hu.alt (hA V (i * 3) (.string u.name)) (fun k _ hk => .inr (by rw [hk]; rfl))
  have g1 : ((l.set i (putF (l.getD i zfv) 0 u)).getD i zfv) = putF (l.getD i zfv) 0 u := by simp [List.getD, hli]
  have h1' : RefAt (V.setCell ⟨lb, i * 3, none⟩ (.string u.name)) (fun k => O k ∨ (w.heap.size ≤ k ∧ k < V.heap.size)) bd (.slice (some ⟨lb, 0, none⟩) n c) (l.set i (putF (l.getD i zfv) 0 u)) d := h1.1
  have h2 := h1'.putAt (V := V.setCell ⟨lb, i * 3, none⟩ (.string u.name)) (Below.refl _ _) hi (j := 1) (by omega) u ⟨(d.F.getD i zfile).name, g.b, (d.F.getD i zfile).sure⟩ (fun k => O k ∨ (w.heap.size ≤ k ∧ k < V.heap.size)) (hO2 _ _) (by
    rw [g1]
    exact ⟨hn, hLK.sure, hu1.n, hu1.row, hu1.off⟩)
  have h2' : RefAt ((V.setCell ⟨lb, i * 3, none⟩ (.string u.name)).setCell ⟨lb, i * 3 + 1, none⟩ (.slice u.a u.n u.c)) (fun k => O k ∨ (w.heap.size ≤ k ∧ k < V.heap.size)) bd (.slice (some ⟨lb, 0, none⟩) n c) ((l.set i (putF (l.getD i zfv) 0 u)).set i (putF ((l.set i (putF (l.getD i zfv) 0 u)).getD i zfv) 1 u)) { d with F := d.F.set i ⟨(d.F.getD i zfile).name, g.b, (d.F.getD i zfile).sure⟩ } := h2.1
  have hu2 := hu1.alt (hA _ (i * 3 + 1) (.slice u.a u.n u.c)) (fun k _ hk => .inr (by rw [hk]; rfl))
  have h3 := RefAt.putAt (w := (V.setCell ⟨lb, i * 3, none⟩ (.string u.name)).setCell ⟨lb, i * 3 + 1, none⟩ (.slice u.a u.n u.c)) (l := (l.set i (putF (l.getD i zfv) 0 u)).set i (putF ((l.set i (putF (l.getD i zfv) 0 u)).getD i zfv) 1 u)) h2' (V := (V.setCell ⟨lb, i * 3, none⟩ (.string u.name)).setCell ⟨lb, i * 3 + 1, none⟩ (.slice u.a u.n u.c)) (Below.refl _ _) (i := i) (by show i < (d.F.set i _).length; rw [List.length_set]; exact hi) (j := 2) (by omega) u g (fun k => O k ∨ (w.heap.size ≤ k ∧ k < V.heap.size)) (hO2 _ _) (by
    have e : (((l.set i (putF (l.getD i zfv) 0 u)).set i (putF ((l.set i (putF (l.getD i zfv) 0 u)).getD i zfv) 1 u)).getD i zfv) = putF (putF (l.getD i zfv) 0 u) 1 u := by
      rw [g1]
      simp [List.getD, hli]
    rw [e]
    exact ⟨hn.trans (hn.symm.trans hu2.name), hu2.sure, hu2.n, hu2.row, hu2.off⟩)
  have e3 : (d.F.set i ⟨(d.F.getD i zfile).name, g.b, (d.F.getD i zfile).sure⟩).set i g = d.F.set i g := by rw [List.set_set]
  have hfin := h3.1
  simp only [e3] at hfin
  have hA3 : Alt (fun k => k = lb) V _ := ((hA V (i * 3) (.string u.name)).trans (hA _ (i * 3 + 1) (.slice u.a u.n u.c)) (fun k hk _ => hk)).trans (hA _ (i * 3 + 2) (.int .i64 u.sure)) (fun k hk _ => hk)
  exact ⟨⟨_, hfin⟩, ((Alt.ofBelow hb : Alt (fun k => k = lb) w V).trans hA3 (fun k hk _ => hk)).mono (fun k hk _ => by rw [hk]; exact hlb.1)⟩

theorem Row.take13 {k : IntKind} {w : World} {B : Nat} {a : Option Addr} {n c i : Nat} {zs : List Nat} (h : Row k w B a n c zs) (hi : i ≤ n) : Row k w B a i c (zs.take i) := by
  refine ⟨by rw [List.length_take, h.1]; omega, Nat.le_trans hi h.2.1, h.2.2.1, fun hp => ?_⟩
  obtain ⟨b, off, e, hb, hc⟩ := h.2.2.2 (by omega)
  refine ⟨b, off, e, hb, fun j hj => ?_⟩
  rw [hc j (by omega)]
  simp [List.getD, List.getElem?_take_of_lt hj]
theorem stepF_le {F : List FileS} {kept : List Int} {i : Nat} (hi : i ≤ F.length) : (stepF F kept i).length ≤ F.length := by rw [stepF_len]; omega
set_option maxHeartbeats 2000000 in
theorem rCrash13_any (bd : Nat) (v : Value) (l : List FileV) (d : DiskS) (O : Nat → Prop) (ao : Option Addr) (mo co B : Nat) (kept : List Int) (w : World) (h : RefAt w O bd v l d) (hd : OkD d) (hF : d.F.length ≤ 1000000) (hk : RowZ .i64 w B ao mo co kept) (hB : ∀ k, O k → B ≤ k) :
    Calls Try.prog 33 #[.pointer (some ⟨bd, 0, none⟩), .slice ao mo co] w fun e w' => e = .returned (.tuple #[]) ∧ RefPost w O bd (crashS d kept) w' := by
  obtain ⟨a, c, rfl⟩ := h.form
  have HR := Lib.hid h
  have HKR : Hid (∀ V, Alt O w V → RowZ .i64 V B ao mo co kept) := fun V hV => hk.below (hV.below hB (Nat.le_trans (hB bd h.obd) (Nat.le_of_lt (h.lt bd h.obd))))
  have HKL : Hid (kept.length = mo) := hk.1
  have hmc := hk.2.1
  have hcm := hk.2.2.1
  unfold maxLen at hcm
  have HSU := Lib.hid hd.sure
  have HAL := Lib.hid hd.all
  have HOB := Lib.hid h.obd
  clear hk hd hB h
  generalize hN : d.F.length = N at *
  have HN := Lib.hid hN
  clear hN
  go_enter Try.func33, Try.ntmps33
  go_wp2_with fail
  go_loopg [4] N (fun gg v4 wr => ∃ i : Nat, i + gg = N ∧ v4 = .int .i64 i ∧ Hid (∃ lr Or, RefAt wr Or bd (.slice a N c) lr { d with F := stepF d.F kept i } ∧ Alt O w wr ∧ ∀ k, Or k → O k ∨ w.heap.size ≤ k))
  case atStart => exact ⟨0, by omega, rfl, ⟨l, O, by rw [stepF_zero]; exact HR.out, Alt.refl _ _, fun k hk => .inl hk⟩⟩
  case round =>
    obtain ⟨i, hig, rfl, HI⟩ := hrel
    obtain ⟨lr, Or, hr, hA, hO⟩ := HI.out
    have HRR := Lib.hid hr
    have HA := Lib.hid hA
    have HO := Lib.hid hO
    obtain ⟨q0, _, q2, q3⟩ := hr.cells
    by_cases hi : i < N
    · have hii : (i : Int) < (N : Int) := by omega
      have d1 : decide ((i : Int) < (N : Int)) = true := by rw [decide_eq_true_eq]; exact hii
      have hiF : i < (stepF d.F kept i).length := by rw [stepF_len, HN.out]; exact hi
      obtain ⟨hnl, hnc, hcm2, hcl⟩ := hr.own.at
      clear hnl
      unfold maxLen at hcm2
      obtain ⟨lb, rfl, _, hlb, hcs, hfz⟩ := hcl (by omega)
      obtain ⟨c0, c1, c2⟩ := hcs i hi
      have hLK := hr.like i (by rw [hr.len]; exact hiF)
      have e0 := stepF_at (F := d.F) (kept := kept) (i := i) (by rw [HN.out]; exact hi)
      simp only [] at hLK
      rw [e0] at hLK
      have hsu := HSU.out _ (getD_mem (F := d.F) (i := i) (by rw [HN.out]; exact hi))
      have hbl := Nat.le_trans (b_le (F := d.F) (i := i) (by rw [HN.out]; exact hi)) HAL.out
      rw [hLK.name] at c0
      rw [hLK.n] at c1
      rw [hLK.sure] at c2
      have f0 := hfz (i * 3)
      have f1 := hfz (i * 3 + 1)
      have f2 := hfz (i * 3 + 2)
      have HLK := Lib.hid hLK
      have HNX : Hid (stepF d.F kept (i + 1) = (stepF d.F kept i).set i (cutF (d.F.getD i zfile) (kept.getD i 0))) := stepF_next (by rw [HN.out]; exact hi)
      clear hcl hcs hfz hLK hr hA hO
      have HE0 : Hid ((stepF d.F kept i).getD i zfile = d.F.getD i zfile) := e0
      clear e0
      generalize d.F.getD i zfile = f at *
      generalize lr.getD i zfv = g at *
      have HKK : Hid (∀ (hm : i < mo), ∃ kb ko, ao = some ⟨kb, ko, none⟩ ∧ wr.cell? ⟨kb, ko + i, none⟩ = some (.int .i64 (kept.getD i 0))) := fun hm => by
        obtain ⟨kb, ko, e, _, hc⟩ := (HKR.out wr HA.out).cells (by omega)
        exact ⟨kb, ko, e, hc i hm⟩
      have HK0 : Hid (¬ i < mo → kept.getD i 0 = 0) := fun hm => by simp [List.getD, List.getElem?_eq_none (show kept.length ≤ i by have := HKL.out; omega)]
      generalize kept.getD i 0 = kv at *
      go_upto_if 19 with fail
      go_cut [5] (fun v5 V => v5 = .int .i64 (max kv 0) ∧ V = wr)
      case first =>
        by_cases hm : i < mo
        · have hmi : (i : Int) < (mo : Int) := by omega
          have d2 : decide ((i : Int) < (mo : Int)) = true := by rw [decide_eq_true_eq]; exact hmi
          obtain ⟨kb, ko, rfl, hkc⟩ := HKK.out hm
          by_cases hk0 : 0 ≤ kv
          · have e : max kv 0 = kv := by omega
            have HE := Lib.hid e
            clear e
            go_wp2_with fail
            go_meet
            case rel => rw [HE.out]; exact ⟨rfl, rfl⟩
          · have e : max kv 0 = 0 := by omega
            have HE := Lib.hid e
            clear e
            go_wp2_with fail
            go_meet
            case rel => rw [HE.out]; exact ⟨rfl, rfl⟩
        · have d2 : decide ((i : Int) < (mo : Int)) = false := by rw [decide_eq_false_iff_not]; omega
          have e : max kv 0 = 0 := by rw [HK0.out hm]; rfl
          have HE := Lib.hid e
          clear e
          go_wp2_with fail
          go_meet
          case rel => rw [HE.out]; exact ⟨rfl, rfl⟩
      case rest =>
        obtain ⟨rfl, hwc⟩ := hcut
        subst hwc
        have hm0 : 0 ≤ max kv 0 := by omega
        have HCF : Hid (cutF f kv = ⟨f.name, (if max kv 0 < (f.b.length : Int) - f.sure then f.b.take (f.sure + (max kv 0).toNat) else f.b), (if max kv 0 < (f.b.length : Int) - f.sure then f.b.take (f.sure + (max kv 0).toNat) else f.b).length⟩) := rfl
        have HKEY : Hid (∀ (n' : Nat) (V : World), Below wc.heap.size wc V → n' ≤ f.b.length → cutF f kv = ⟨f.name, f.b.take n', n'⟩ →
            ∃ lr' Or', RefAt (((V.setCell ⟨lb, i * 3, none⟩ (.string f.name)).setCell ⟨lb, i * 3 + 1, none⟩ (.slice g.a n' g.c)).setCell ⟨lb, i * 3 + 2, none⟩ (.int .i64 (n' : Nat))) Or' bd (.slice (some ⟨lb, 0, none⟩) N c) lr' { d with F := stepF d.F kept (i + 1) } ∧ Alt O w (((V.setCell ⟨lb, i * 3, none⟩ (.string f.name)).setCell ⟨lb, i * 3 + 1, none⟩ (.slice g.a n' g.c)).setCell ⟨lb, i * 3 + 2, none⟩ (.int .i64 (n' : Nat))) ∧ ∀ k, Or' k → O k ∨ w.heap.size ≤ k) := fun n' V hV hn' hcf => by
          have h0 := HLK.out.alt (S := fun _ => False) (w' := V) (Alt.ofBelow hV) (fun k _ hk => absurd hk id)
          have h1 := HRR.out.putAll hV (i := i) hiF ⟨f.name, g.a, n', g.c, (n' : Nat)⟩ (cutF f kv) (by
            show f.name = ((stepF d.F kept i).getD i zfile).name
            rw [HE0.out]) (by
            rw [hcf]
            refine ⟨rfl, rfl, by show n' = (f.b.take n').length; rw [List.length_take]; omega, h0.row.take13 (by rw [h0.n]; exact hn'), fun b o hn e => ?_⟩
            have hq := h0.off b o (by rw [h0.n]; exact Nat.lt_of_lt_of_le hn hn') e
            exact ⟨.inl hq.1, hq.2⟩)
          obtain ⟨⟨l', hl'⟩, hA'⟩ := h1
          refine ⟨l', _, by have := hl'; simp only [← HNX.out] at this; exact this, HA.out.trans hA' (fun k hk hlt => (HO.out k hk).elim id (fun h => absurd h (by omega))), fun k hk => ?_⟩
          rcases hk with hk | hk
          · exact HO.out k hk
          · exact .inr (Nat.le_trans HA.out.size hk.1)
        generalize max kv 0 = m at *
        have hw1 : IntKind.i64.wrap ((f.b.length : Int) - (f.sure : Int)) = (f.b.length : Int) - (f.sure : Int) := by rw [IntKind.wrap_i64]; omega
        generalize hbn : f.b.length = bn at *
        generalize hfs : f.sure = fs at *
        have HBN := Lib.hid hbn
        have HFS := Lib.hid hfs
        clear hbn hfs
        by_cases hcut : m < (bn : Int) - (fs : Int)
        · have d3 : decide (m < (bn : Int) - (fs : Int)) = true := by rw [decide_eq_true_eq]; exact hcut
          obtain ⟨mn, rfl⟩ := Int.eq_ofNat_of_zero_le hm0
          have hw2 : IntKind.i64.wrap ((fs : Int) + (mn : Int)) = ((fs + mn : Nat) : Int) := by rw [IntKind.wrap_i64]; omega
          have hle : fs + mn ≤ bn := by omega
          have hgc := HLK.out.row.2.1
          have hgx := HLK.out.row.2.2.1
          rw [HLK.out.n, HBN.out] at hgc
          unfold maxLen at hgx
          have hx1 : (0 : Int) ≤ (fs : Int) + (mn : Int) := by omega
          have hx2 : (fs : Int) + (mn : Int) ≤ (g.c : Int) := by omega
          have hx3 : fs + mn ≤ g.c := by omega
          have hbw : Below wc.heap.size wc (wc.alloc (.cells #[.string f.name, .slice g.a (fs + mn) g.c, .int .i64 ((fs : Int) + (mn : Int))] 51)) := (Below.refl _ _).alloc (Nat.le_refl _) _
          have hx : ∀ j y, [Value.string f.name, .slice g.a (fs + mn) g.c, .int .i64 ((fs : Int) + (mn : Int))][j]? = some y → (wc.alloc (.cells #[.string f.name, .slice g.a (fs + mn) g.c, .int .i64 ((fs : Int) + (mn : Int))] 51)).cell? ⟨wc.heap.size, j, none⟩ = some y := fun j y hj => by
            have := three_cell wc (.string f.name) (.slice g.a (fs + mn) g.c) (.int .i64 ((fs : Int) + (mn : Int))) 51 j y hj
            rwa [Row.add, Nat.zero_add] at this
          have q0x := (Below.cell (p := ⟨bd, 0, none⟩) hbw (HRR.out.lt bd HRR.out.obd)).trans q0
          have x0 := hx 0 _ rfl
          have x1 := hx 1 _ rfl
          have x2 := hx 2 _ rfl
          have c0x := (Below.cell (p := ⟨lb, i * 3, none⟩) hbw hlb).trans c0
          have c1x := (Below.cell (p := ⟨lb, i * 3 + 1, none⟩) hbw hlb).trans c1
          have c2x := (Below.cell (p := ⟨lb, i * 3 + 2, none⟩) hbw hlb).trans c2
          have f0x := (Below.frozen (p := ⟨lb, i * 3, none⟩) hbw hlb).trans f0
          have f1x := (Below.frozen (p := ⟨lb, i * 3 + 1, none⟩) hbw hlb).trans f1
          have f2x := (Below.frozen (p := ⟨lb, i * 3 + 2, none⟩) hbw hlb).trans f2
          have HBW := Lib.hid hbw
          clear hx hbw
          go_upto_region 10 with fail
          generalize hwx : wc.alloc (.cells #[.string f.name, .slice g.a (fs + mn) g.c, .int .i64 ((fs : Int) + (mn : Int))] 51) = wx at *
          clear hwx
          have HN2 : Hid (∃ lr Or, RefAt ((((wx.setCell ⟨lb, i * 3, none⟩ (.string f.name)).setCell ⟨lb, i * 3 + 1, none⟩ (.slice g.a (fs + mn) g.c)).setCell ⟨lb, i * 3 + 2, none⟩ (.int .i64 ((fs : Int) + (mn : Int)))).drew) Or bd (.slice (some ⟨lb, 0, none⟩) N c) lr { d with F := stepF d.F kept (i + 1) } ∧ Alt O w ((((wx.setCell ⟨lb, i * 3, none⟩ (.string f.name)).setCell ⟨lb, i * 3 + 1, none⟩ (.slice g.a (fs + mn) g.c)).setCell ⟨lb, i * 3 + 2, none⟩ (.int .i64 ((fs : Int) + (mn : Int)))).drew) ∧ ∀ k, Or k → O k ∨ w.heap.size ≤ k) := by
            obtain ⟨lr', Or', h1, h2, h3⟩ := HKEY.out (fs + mn) wx HBW.out (by have := HBN.out; omega) (by
              have h1 := HCF.out
              rw [h1]
              rw [if_pos hcut, Int.toNat_natCast, List.length_take, show f.b.length = bn from HBN.out, Nat.min_eq_left hle])
            refine ⟨lr', Or', ?_, h2.drew, h3⟩
            have h4 := h1.alt (S := fun _ => False) (Alt.refl _ _).drew (fun _ _ h => h)
            rw [Int.natCast_add] at h4
            exact h4
          clear HKEY
          go_still_tail 6, (by kernel_rfl)
          change wpList _ _ _ _ _ wx.drew
          go_wp2_with fail
          go_roundg (gk - 1)
          case rel => exact ⟨i + 1, by omega, by first | rfl | go_num, HN2⟩
          case measure => omega
        · have d3 : decide (m < (bn : Int) - (fs : Int)) = false := by rw [decide_eq_false_iff_not]; exact hcut
          have hbw : Below wc.heap.size wc (wc.alloc (.cells #[.string f.name, .slice g.a bn g.c, .int .i64 ((bn : Int))] 51)) := (Below.refl _ _).alloc (Nat.le_refl _) _
          have hx : ∀ j y, [Value.string f.name, .slice g.a bn g.c, .int .i64 ((bn : Int))][j]? = some y → (wc.alloc (.cells #[.string f.name, .slice g.a bn g.c, .int .i64 ((bn : Int))] 51)).cell? ⟨wc.heap.size, j, none⟩ = some y := fun j y hj => by
            have := three_cell wc (.string f.name) (.slice g.a bn g.c) (.int .i64 ((bn : Int))) 51 j y hj
            rwa [Row.add, Nat.zero_add] at this
          have q0x := (Below.cell (p := ⟨bd, 0, none⟩) hbw (HRR.out.lt bd HRR.out.obd)).trans q0
          have x0 := hx 0 _ rfl
          have x1 := hx 1 _ rfl
          have x2 := hx 2 _ rfl
          have c0x := (Below.cell (p := ⟨lb, i * 3, none⟩) hbw hlb).trans c0
          have c1x := (Below.cell (p := ⟨lb, i * 3 + 1, none⟩) hbw hlb).trans c1
          have c2x := (Below.cell (p := ⟨lb, i * 3 + 2, none⟩) hbw hlb).trans c2
          have f0x := (Below.frozen (p := ⟨lb, i * 3, none⟩) hbw hlb).trans f0
          have f1x := (Below.frozen (p := ⟨lb, i * 3 + 1, none⟩) hbw hlb).trans f1
          have f2x := (Below.frozen (p := ⟨lb, i * 3 + 2, none⟩) hbw hlb).trans f2
          have HBW := Lib.hid hbw
          clear hx hbw
          go_upto_region 10 with fail
          generalize hwx : wc.alloc (.cells #[.string f.name, .slice g.a bn g.c, .int .i64 ((bn : Int))] 51) = wx at *
          clear hwx
          have HN2 : Hid (∃ lr Or, RefAt ((((wx.setCell ⟨lb, i * 3, none⟩ (.string f.name)).setCell ⟨lb, i * 3 + 1, none⟩ (.slice g.a bn g.c)).setCell ⟨lb, i * 3 + 2, none⟩ (.int .i64 ((bn : Int)))).drew) Or bd (.slice (some ⟨lb, 0, none⟩) N c) lr { d with F := stepF d.F kept (i + 1) } ∧ Alt O w ((((wx.setCell ⟨lb, i * 3, none⟩ (.string f.name)).setCell ⟨lb, i * 3 + 1, none⟩ (.slice g.a bn g.c)).setCell ⟨lb, i * 3 + 2, none⟩ (.int .i64 ((bn : Int)))).drew) ∧ ∀ k, Or k → O k ∨ w.heap.size ≤ k) := by
            obtain ⟨lr', Or', h1, h2, h3⟩ := HKEY.out bn wx HBW.out (by have := HBN.out; omega) (by
              have h1 := HCF.out
              rw [h1]
              rw [if_neg hcut, HBN.out, List.take_of_length_le (by rw [HBN.out]; omega)])
            refine ⟨lr', Or', ?_, h2.drew, h3⟩
            have h4 := h1.alt (S := fun _ => False) (Alt.refl _ _).drew (fun _ _ h => h)
            exact h4
          clear HKEY
          go_still_tail 6, (by kernel_rfl)
          change wpList _ _ _ _ _ wx.drew
          go_wp2_with fail
          go_roundg (gk - 1)
          case rel => exact ⟨i + 1, by omega, by first | rfl | go_num, HN2⟩
          case measure => omega
    · obtain rfl : i = N := by omega
      have d1 : decide ((i : Int) < (i : Int)) = false := by simp
      have f3 := hr.frozen 3
      have f2 := hr.frozen 2
      have hs1 := hr.store (i := 3) (u := .bool false) (d' := ⟨stepF d.F kept i, d.most, d.burn, false⟩) rfl rfl
      have hs2 := hs1.1.store (i := 2) (u := .int .i64 (-1)) (d' := crashS d kept) (by rfl) (by rw [stepF_all (by rw [HN.out]; omega)]; rfl)
      have HP : Hid (RefPost w O bd (crashS d kept) ((wr.setCell ⟨bd, 3, none⟩ (.bool false)).setCell ⟨bd, 2, none⟩ (.int .i64 (-1)))) := ⟨Or, ⟨_, _, hs2.1⟩, HA.out.trans ((hs1.2.trans hs2.2 (fun k hk _ => hk)).mono (S' := O) (fun k hk _ => by rw [hk]; exact HOB.out)) (fun k hk _ => hk), HO.out⟩
      clear hs1 hs2 hr hA hO
      go_wp2_with fail
      go_end0
      exact ⟨rfl, HP.out⟩
end Go.Proofs.Ytkfjbpcngmipnaa.Vm
