/- tuggerlaw13.awake returns true. -/
import Derived.Test.YtkfjbpcngmipnaaBoth13
import Derived.Test.YtkfjbpcngmipnaaStrs
import Derived.Lib.SlBytesConst
namespace Go.Proofs.Ytkfjbpcngmipnaa.Vm
open Go Go.RowKit
set_option maxRecDepth 100000

theorem row_lit13 (w : World) (l : List Nat) (t : TypeId) (f : Nat × Nat) (h : l.length ≤ 1000) : Row .u8 (w.alloc (.cells (u8s l).toArray t f)) (w.heap.size + 1) (some ⟨w.heap.size, 0, none⟩) l.length l.length l := by
  refine ⟨rfl, Nat.le_refl _, by simp only [maxLen]; omega, fun _ => ⟨_, 0, rfl, Nat.lt_succ_self _, fun i hi => ?_⟩⟩
  rw [Nat.zero_add, cell_of_row _ w.heap.size i (u8s l).toArray t f (heap_alloc_new w _)]
  simp [u8s, hi]
def nx : ByteArray := ⟨#[120]⟩
def ny : ByteArray := ⟨#[121]⟩
def nz : ByteArray := ⟨#[122]⟩
def dk1 : DiskS := ⟨[⟨nx, [97, 98, 99], 0⟩], 9, -1, false⟩
def dk2 : DiskS := ⟨[⟨nx, [97, 98, 99], 3⟩], 9, -1, false⟩
def dk3 : DiskS := ⟨[⟨nx, [97, 98, 99, 100, 101, 102], 3⟩], 9, -1, false⟩
def dk4 : DiskS := ⟨[⟨nx, [97, 98, 99, 100], 4⟩], 9, -1, false⟩
def dk5 : DiskS := ⟨[⟨nz, [97, 98, 99, 100], 4⟩], 9, -1, false⟩
def dk6 : DiskS := ⟨[⟨nz, [97, 98, 99, 100], 4⟩], 9, 0, false⟩
theorem ap1 : appendS (newDk 9) nx [97, 98, 99] = (0, dk1) := by kernel_rfl
theorem sy2 : syncS dk1 nx = (0, dk2) := by kernel_rfl
theorem ap3 : appendS dk2 nx [100, 101, 102] = (0, dk3) := by kernel_rfl
theorem ap4 : appendS dk3 ny [49, 50, 51, 52] = (8, dk3) := by kernel_rfl
theorem lf4 : leftS dk3 = 3 := by kernel_rfl
theorem cr4 : crashS dk3 [1] = dk4 := by kernel_rfl
theorem rn5 : renameS dk4 nx nz = (0, dk5) := by kernel_rfl
theorem fu6 : fuseS dk5 0 = dk6 := by kernel_rfl
theorem de6 : (deleteS dk6 nz).1 = 9 := by kernel_rfl
theorem rd4 : (if atS dk4.F nx < dk4.F.length then (dk4.F.getD (atS dk4.F nx) zfile).b else []) = [97, 98, 99, 100] ∧ (if atS dk4.F nx < dk4.F.length then (0 : Int) else 5) = 0 := by
  have h : atS dk4.F nx = 0 := by kernel_rfl
  rw [h]
  exact ⟨rfl, rfl⟩
theorem ok_newDk : OkD (newDk 9) := okD_new (by decide)
theorem ok_dk1 : OkD dk1 := by have := ok_newDk.append nx [97, 98, 99]; rwa [ap1] at this
theorem ok_dk2 : OkD dk2 := by have := ok_dk1.sync nx; rwa [sy2] at this
theorem ok_dk3 : OkD dk3 := by have := ok_dk2.append nx [100, 101, 102]; rwa [ap3] at this
theorem ok_dk4 : OkD dk4 := by have := ok_dk3.crash [1]; rwa [cr4] at this
theorem ok_dk5 : OkD dk5 := by have := ok_dk4.rename nx nz; rwa [rn5] at this
theorem ok_dk6 : OkD dk6 := ⟨ok_dk5.asc, ok_dk5.sure, ok_dk5.most, ok_dk5.all, ok_dk5.names, by show (-1 : Int) ≤ 0 ∧ (0 : Int) ≤ 9223372036854775807; omega⟩
section
variable {A V : World} {bd : Nat} {d : DiskS} {n : ByteArray}
/-- Bytes written out, appended. -/
theorem PrgN.append (h : PrgN A bd d V) (hd : OkD d) (hF : d.F.length ≤ 900000) (hn : n.size ≤ maxLen) (l : List Nat) (f : Nat × Nat) (hl : l.length ≤ 1000) :
    Calls Try.prog 20 #[.pointer (some ⟨bd, 0, none⟩), .string n, .slice (some ⟨V.heap.size, 0, none⟩) l.length l.length] (V.alloc (.cells (u8s l).toArray 5 f)) fun r w' => r = .returned (.int .i64 (appendS d n l).1) ∧ PrgN A bd (appendS d n l).2 w' := by
  have hb : Below V.heap.size V (V.alloc (.cells (u8s l).toArray 5 f)) := (Below.refl _ V).alloc (Nat.le_refl _) _
  have hbd : bd < V.heap.size := by obtain ⟨P, h1, _, _⟩ := h; exact h1.at.2
  obtain ⟨P, h1, h2, h3⟩ := h.calls hb
  refine (pAppend13_any bd d P n _ l.length l.length l _ h1 hd hF hn ((row_lit13 V l 5 f hl).mono (by simp)) (fun b o e _ => by injection e with e; injection e with e _; omega)).mono ?_
  rintro r w' ⟨hr, hp⟩
  exact ⟨hr, hp.news h2 h3⟩
theorem PrgN.sync (h : PrgN A bd d V) (hd : OkD d) (hF : d.F.length ≤ 900000) (hn : n.size ≤ maxLen) :
    Calls Try.prog 21 #[.pointer (some ⟨bd, 0, none⟩), .string n] V fun r w' => r = .returned (.int .i64 (syncS d n).1) ∧ PrgN A bd (syncS d n).2 w' := by
  obtain ⟨P, h1, h2, h3⟩ := h
  refine (pSync13_any bd d P n V h1 hd hF hn).mono ?_
  rintro r w' ⟨hr, hp⟩
  exact ⟨hr, hp.news h2 h3⟩
theorem PrgN.rename {m : ByteArray} (h : PrgN A bd d V) (hd : OkD d) (hF : d.F.length ≤ 900000) (hn : n.size ≤ maxLen) (hm : m.size ≤ maxLen) :
    Calls Try.prog 23 #[.pointer (some ⟨bd, 0, none⟩), .string n, .string m] V fun r w' => r = .returned (.int .i64 (renameS d n m).1) ∧ PrgN A bd (renameS d n m).2 w' := by
  obtain ⟨P, h1, h2, h3⟩ := h
  refine (pRename13_any bd d P n m V h1 hd hF hn hm).mono ?_
  rintro r w' ⟨hr, hp⟩
  exact ⟨hr, hp.news h2 h3⟩
theorem PrgN.delete (h : PrgN A bd d V) (hd : OkD d) (hF : d.F.length ≤ 900000) (hn : n.size ≤ maxLen) :
    Calls Try.prog 24 #[.pointer (some ⟨bd, 0, none⟩), .string n] V fun r w' => r = .returned (.int .i64 (deleteS d n).1) ∧ PrgN A bd (deleteS d n).2 w' := by
  obtain ⟨P, h1, h2, h3⟩ := h
  refine (pDelete13_any bd d P n V h1 hd hF hn).mono ?_
  rintro r w' ⟨hr, hp⟩
  exact ⟨hr, hp.news h2 h3⟩
theorem PrgN.fuse (h : PrgN A bd d V) {z : Int} (hz : -9223372036854775808 ≤ z) :
    Calls Try.prog 19 #[.pointer (some ⟨bd, 0, none⟩), .int .i64 z] V fun r w' => r = .returned (.tuple #[]) ∧ PrgN A bd (fuseS d z) w' := by
  obtain ⟨P, h1, h2, h3⟩ := h
  refine (pFuse13_any bd d P z V h1 hz).mono ?_
  rintro r w' ⟨hr, hp⟩
  exact ⟨hr, hp.news h2 h3⟩
theorem PrgN.left (h : PrgN A bd d V) (hd : OkD d) :
    Calls Try.prog 22 #[.pointer (some ⟨bd, 0, none⟩)] V fun r w' => r = .returned (.int .i64 (leftS d)) ∧ PrgN A bd d w' := by
  have h0 := h
  obtain ⟨P, ⟨mb, g, fu, h1, _⟩, h2, h3⟩ := h
  refine (pLeft13_any bd mb g fu d V h1 hd).mono ?_
  rintro r w' ⟨hr, m, rfl⟩
  exact ⟨hr, h0.calls (below_drewN (Below.refl _ _) _)⟩
theorem PrgN.read (h : PrgN A bd d V) (hd : OkD d) (hn : n.size ≤ maxLen) :
    Calls Try.prog 13 #[.pointer (some ⟨bd, 0, none⟩), .string n] V fun r w' => SaysReadN V d.F n r w' ∧ PrgN A bd d w' := by
  have h0 := h
  obtain ⟨P, ⟨mb, g, fu, h1, _⟩, h2, h3⟩ := h
  refine (pRead13_any bd mb g fu d n V h1 hd hn).mono ?_
  intro r w' hs
  refine ⟨hs, ?_⟩
  obtain ⟨_, _, _, _, _, _, _, hb⟩ := hs
  exact h0.calls hb
theorem PrgN.list (h : PrgN A bd d V) (hd : OkD d) (hF : d.F.length ≤ 1000000) :
    Calls Try.prog 15 #[.pointer (some ⟨bd, 0, none⟩)] V fun r w' => SaysListN V d.F r w' ∧ PrgN A bd d w' := by
  have h0 := h
  obtain ⟨P, ⟨mb, g, fu, h1, _⟩, h2, h3⟩ := h
  refine (pList13_any bd mb g fu d V h1 hd hF).mono ?_
  intro r w' hs
  refine ⟨hs, ?_⟩
  obtain ⟨_, _, _, _, hb⟩ := hs
  exact h0.calls hb
/-- A list of one number, written out. -/
theorem PrgN.crash (h : PrgN A bd d V) (hd : OkD d) (hF : d.F.length ≤ 900000) :
    Calls Try.prog 16 #[.pointer (some ⟨bd, 0, none⟩), .slice (some ⟨V.heap.size, 0, none⟩) 1 1] (V.alloc (.cells #[.int .i64 1] 3)) fun r w' => r = .returned (.tuple #[]) ∧ PrgN A bd (crashS d [1]) w' := by
  have hb : Below V.heap.size V (V.alloc (.cells #[.int .i64 1] 3)) := (Below.refl _ V).alloc (Nat.le_refl _) _
  have hlt : ∃ P, PrgD (V.alloc (.cells #[.int .i64 1] 3)) P bd d ∧ (∀ k, P k → A.heap.size ≤ k ∧ k < V.heap.size) := by
    obtain ⟨P, h1, h2, h3⟩ := h
    exact ⟨P, h1.alt (S := fun _ => False) (Alt.ofBelow hb) (fun _ _ h => h), fun k hk => ⟨h2 k hk, h1.lt k hk⟩⟩
  obtain ⟨P, h1, h2⟩ := hlt
  have hr : RowZ .i64 (V.alloc (.cells #[.int .i64 1] 3)) (V.alloc (.cells #[.int .i64 1] 3)).heap.size (some ⟨V.heap.size, 0, none⟩) 1 1 [1] :=
    ⟨rfl, Nat.le_refl _, by simp [maxLen], fun _ => ⟨_, 0, rfl, by simp, fun i hi => by
      obtain rfl : i = 0 := by omega
      simp⟩⟩
  refine (pCrash13_any bd d P _ 1 1 [1] _ h1 hd hF hr (by simp) (fun b o e _ hp => by injection e with e; injection e with e _; have := (h2 b hp).2; omega)).mono ?_
  rintro r w' ⟨hr, hp⟩
  exact ⟨hr, hp.news (fun k hk => (h2 k hk).1) (h.below.trans (hb.mono h.below.size))⟩
end

/-- The program's disk, and blocks that are none of its. -/
def PrgR (A : World) (R : Nat → Prop) (bd : Nat) (d : DiskS) (V : World) : Prop := ∃ P, PrgD V P bd d ∧ (∀ k, P k → A.heap.size ≤ k ∧ ¬ R k) ∧ (∀ k, R k → k < V.heap.size) ∧ Below A.heap.size A V
def KeepR (R : Nat → Prop) (V V' : World) : Prop := V.heap.size ≤ V'.heap.size ∧ ∀ k, R k → V'.heap[k]? = V.heap[k]?
section
variable {A V V' V'' : World} {R P : Nat → Prop} {bd : Nat} {d d' : DiskS} {n : ByteArray}
theorem KeepR.trans (h : KeepR R V V') (h' : KeepR R V' V'') : KeepR R V V'' := ⟨Nat.le_trans h.1 h'.1, fun k hk => (h'.2 k hk).trans (h.2 k hk)⟩
theorem KeepR.row {k : IntKind} {a : Option Addr} {m c : Nat} {l : List Nat} (h : KeepR R V V') (hr : Row k V V.heap.size a m c l) (hR : ∀ b o, a = some ⟨b, o, none⟩ → 0 < m → R b) : Row k V' V'.heap.size a m c l :=
  ⟨hr.1, hr.2.1, hr.2.2.1, fun hn => by
    obtain ⟨b, o, e, hb, hc⟩ := hr.2.2.2 hn
    exact ⟨b, o, e, Nat.lt_of_lt_of_le hb h.1, fun i hi => (World.cell?_of_block (w := V) (w' := V') (a := ⟨b, o + i, none⟩) (h.2 b (hR b o e hn))).trans (hc i hi)⟩⟩
theorem PrgPost.newsR (h : PrgPost V P bd d' V') (hP : ∀ k, P k → A.heap.size ≤ k ∧ ¬ R k) (hR : ∀ k, R k → k < V.heap.size) (hb : Below A.heap.size A V) : PrgR A R bd d' V' ∧ KeepR R V V' := by
  obtain ⟨P', h1, hA, h2⟩ := h
  refine ⟨⟨P', h1, fun k hk => ⟨(h2 k hk).elim (fun h => (hP k h).1) (fun h => Nat.le_trans hb.size h), fun hr => ?_⟩, fun k hk => Nat.lt_of_lt_of_le (hR k hk) hA.size, hb.trans (hA.below (fun k hk => (hP k hk).1) hb.size)⟩, hA.size, fun k hk => hA.block k (hR k hk) (fun hp => (hP k hp).2 hk)⟩
  rcases h2 k hk with h | h
  · exact (hP k h).2 hr
  · have := hR k hr
    omega
theorem PrgR.calls (h : PrgR A R bd d V) (hb : Below V.heap.size V V') : PrgR A R bd d V' ∧ KeepR R V V' := by
  obtain ⟨P, h1, h2, h3, h4⟩ := h
  exact ⟨⟨P, h1.alt (S := fun _ => False) (Alt.ofBelow hb) (fun _ _ h => h), h2, fun k hk => Nat.lt_of_lt_of_le (h3 k hk) hb.size, h4.trans (hb.mono h4.size)⟩, hb.size, fun k hk => hb.block k (h3 k hk)⟩
theorem PrgR.rename {m : ByteArray} (h : PrgR A R bd d V) (hd : OkD d) (hF : d.F.length ≤ 900000) (hn : n.size ≤ maxLen) (hm : m.size ≤ maxLen) :
    Calls Try.prog 23 #[.pointer (some ⟨bd, 0, none⟩), .string n, .string m] V fun r w' => r = .returned (.int .i64 (renameS d n m).1) ∧ PrgR A R bd (renameS d n m).2 w' ∧ KeepR R V w' := by
  obtain ⟨P, h1, h2, h3, h4⟩ := h
  refine (pRename13_any bd d P n m V h1 hd hF hn hm).mono ?_
  rintro r w' ⟨hr, hp⟩
  exact ⟨hr, hp.newsR h2 h3 h4⟩
theorem PrgR.delete (h : PrgR A R bd d V) (hd : OkD d) (hF : d.F.length ≤ 900000) (hn : n.size ≤ maxLen) :
    Calls Try.prog 24 #[.pointer (some ⟨bd, 0, none⟩), .string n] V fun r w' => r = .returned (.int .i64 (deleteS d n).1) ∧ PrgR A R bd (deleteS d n).2 w' ∧ KeepR R V w' := by
  obtain ⟨P, h1, h2, h3, h4⟩ := h
  refine (pDelete13_any bd d P n V h1 hd hF hn).mono ?_
  rintro r w' ⟨hr, hp⟩
  exact ⟨hr, hp.newsR h2 h3 h4⟩
theorem PrgR.fuse (h : PrgR A R bd d V) {z : Int} (hz : -9223372036854775808 ≤ z) :
    Calls Try.prog 19 #[.pointer (some ⟨bd, 0, none⟩), .int .i64 z] V fun r w' => r = .returned (.tuple #[]) ∧ PrgR A R bd (fuseS d z) w' ∧ KeepR R V w' := by
  obtain ⟨P, h1, h2, h3, h4⟩ := h
  refine (pFuse13_any bd d P z V h1 hz).mono ?_
  rintro r w' ⟨hr, hp⟩
  exact ⟨hr, hp.newsR h2 h3 h4⟩
theorem PrgR.list (h : PrgR A R bd d V) (hd : OkD d) (hF : d.F.length ≤ 1000000) :
    Calls Try.prog 15 #[.pointer (some ⟨bd, 0, none⟩)] V fun r w' => SaysListN V d.F r w' ∧ PrgR A (fun k => R k ∨ (V.heap.size ≤ k ∧ k < w'.heap.size)) bd d w' ∧ KeepR R V w' := by
  have h0 := h
  obtain ⟨P, ⟨mb, g, fu, h1, hP, hl⟩, h2, h3, h4⟩ := h
  refine (pList13_any bd mb g fu d V h1 hd hF).mono ?_
  intro r w' hs
  refine ⟨hs, ?_⟩
  obtain ⟨_, _, _, _, hb⟩ := hs
  refine ⟨⟨P, (show PrgD V P bd d from ⟨mb, g, fu, h1, hP, hl⟩).alt (S := fun _ => False) (Alt.ofBelow hb) (fun _ _ h => h), fun k hk => ⟨(h2 k hk).1, fun hr => ?_⟩, fun k hk => ?_, h4.trans (hb.mono h4.size)⟩, (h0.calls hb).2⟩
  · rcases hr with hr | hr
    · exact (h2 k hk).2 hr
    · have := hl k hk; omega
  · rcases hk with hk | hk
    · exact Nat.lt_of_lt_of_le (h3 k hk) hb.size
    · exact hk.2
theorem KeepR.mono {R' : Nat → Prop} (h : KeepR R V V') (hR : ∀ k, R' k → R k) : KeepR R' V V' := ⟨h.1, fun k hk => h.2 k (hR k hk)⟩
/-- What is read lies in blocks that are none of the disk's. -/
theorem PrgN.readR (h : PrgN A bd d V) (hd : OkD d) (hn : n.size ≤ maxLen) :
    Calls Try.prog 13 #[.pointer (some ⟨bd, 0, none⟩), .string n] V fun r w' => SaysReadN V d.F n r w' ∧ PrgR A (fun k => V.heap.size ≤ k ∧ k < w'.heap.size) bd d w' := by
  obtain ⟨P, h1, h2, h3⟩ := h
  have h0 := h1
  obtain ⟨mb, g, fu, h4, _⟩ := h1
  refine (pRead13_any bd mb g fu d n V h4 hd hn).mono ?_
  intro r w' hs
  refine ⟨hs, ?_⟩
  obtain ⟨_, _, _, _, _, _, _, hb⟩ := hs
  exact ⟨P, h0.alt (S := fun _ => False) (Alt.ofBelow hb) (fun _ _ h => h), fun k hk => ⟨h2 k hk, fun hr => by have := h0.lt k hk; omega⟩, fun k hk => hk.2, h3.trans (hb.mono h3.size)⟩
theorem Own.in13 {w : World} {B : Nat} {a : Option Addr} {m c : Nat} {l : List Nat} (h : Own w B (.slice a m c) l) : ∀ b o, a = some ⟨b, o, none⟩ → 0 < m → B ≤ b ∧ b < w.heap.size := fun b o e _ => by
  have := h.blk (k := b) (by rw [e]; rfl)
  exact ⟨this.1, this.2.1⟩
end

set_option maxHeartbeats 2000000 in
theorem awake13_any (w : World) : Calls Try.prog 6 #[] w fun e w' => e = .returned (.bool true) ∧ Below w.heap.size w w' := by
  have kc := fun (w : World) (C : Array Value) (n c : Nat) => Lib.run_convert_bytes_const (P := Try.prog) w 33 5 C n c Try.underlying33 Try.underlying5
  have HN0 := Lib.hid (newBoth (A := w) 9 w (Below.refl _ _) (by decide))
  go_enter Try.func6, Try.ntmps6
  go_wp2_with fail
  refine HN0.out.mono ?_
  rintro r w1 ⟨bd, rfl, hp1, _⟩
  have H1 := Lib.hid (hp1.append ok_newDk (by decide) (n := nx) (by decide) [97, 98, 99] (3, 4) (by decide))
  rw [ap1] at H1
  clear hp1 HN0
  go_wp2_with fail
  refine H1.out.mono ?_
  rintro r w2 ⟨rfl, hp2⟩
  have H2 := Lib.hid (hp2.sync ok_dk1 (by decide) (n := nx) (by decide))
  rw [sy2] at H2
  clear hp2 H1
  go_wp2_with fail
  refine H2.out.mono ?_
  rintro r w3 ⟨rfl, hp3⟩
  have H3 := Lib.hid (hp3.append ok_dk2 (by decide) (n := nx) (by decide) [100, 101, 102] (3, 4) (by decide))
  rw [ap3] at H3
  clear hp3 H2
  go_wp2_with fail
  refine H3.out.mono ?_
  rintro r w4 ⟨rfl, hp4⟩
  have H4 := Lib.hid (hp4.append ok_dk3 (by decide) (n := ny) (by decide) [49, 50, 51, 52] (4, 5) (by decide))
  rw [ap4] at H4
  clear hp4 H3
  go_wp2_with fail
  refine H4.out.mono ?_
  rintro r w5 ⟨rfl, hp5⟩
  have H5 := Lib.hid (hp5.left ok_dk3)
  rw [lf4] at H5
  clear hp5 H4
  go_wp2_with fail
  refine H5.out.mono ?_
  rintro r w6 ⟨rfl, hp6⟩
  have H6 := Lib.hid (hp6.crash ok_dk3 (by decide))
  rw [cr4] at H6
  clear hp6 H5
  go_wp2_with fail
  refine H6.out.mono ?_
  rintro r w7 ⟨rfl, hp7⟩
  have H7 := Lib.hid (hp7.readR ok_dk4 (n := nx) (by decide))
  clear hp7 H6
  go_wp2_with fail
  refine H7.out.mono ?_
  rintro r w8 ⟨⟨a8, m8, c8, x8, rfl, ho8, hx8, _⟩, hp8⟩
  rw [rd4.1] at ho8
  rw [rd4.2] at hx8
  subst hx8
  obtain rfl : m8 = 4 := ho8.row.1.symm
  have HR8 := Lib.hid ho8.row
  have HI8 := Lib.hid ho8.in13
  have H8 := Lib.hid (hp8.rename ok_dk4 (by decide) (n := nx) (m := nz) (by decide) (by decide))
  rw [rn5] at H8
  clear hp8 ho8 H7
  go_wp2_with fail
  refine H8.out.mono ?_
  rintro r w9 ⟨rfl, hp9, hk9⟩
  have H9 := Lib.hid (hp9.list ok_dk5 (by decide))
  have HK9 := Lib.hid hk9
  clear hp9 hk9 H8
  go_wp2_with fail
  refine H9.out.mono ?_
  rintro r w10 ⟨⟨a10, c10, rfl, ho10, hb10⟩, hp10, hk10⟩
  have HK10 := Lib.hid (HK9.out.trans hk10)
  obtain ⟨b, o, rfl, hlo, hlt, hcell⟩ : ∃ b o, a10 = some ⟨b, o, none⟩ ∧ w9.heap.size ≤ b ∧ b < w10.heap.size ∧ w10.cell? ⟨b, o, none⟩ = some (.string nz) := by
    rcases ho10.2 with ⟨hv, hn⟩ | ⟨g, cap, cur, hv, hb, hg, _⟩
    · cases hn
    · have hc := World.ownsRow.cells ho10 (g := g) (by rw [hv]; rfl) 0 (.string nz) rfl
      injection hv with h1 h2 h3
      rw [Row.add, Nat.zero_add] at hc
      exact ⟨g, 0, h1, hb, (Array.getElem?_eq_some_iff.1 hg).1, hc⟩
  have HLO := Lib.hid hlo
  have HLT := Lib.hid hlt
  have HCE := Lib.hid hcell
  have H10 := Lib.hid (hp10.fuse (z := 0) (by decide))
  rw [fu6] at H10
  clear hp10 hk10 H9 ho10 hb10 hcell
  have e5 : dk5.F.length = 1 := rfl
  rw [e5]
  clear e5
  go_wp2_with fail
  refine H10.out.mono ?_
  rintro r w11 ⟨rfl, hp11, hk11⟩
  have HK11 := Lib.hid hk11
  have H11 := Lib.hid (hp11.delete ok_dk6 (by decide) (n := nz) (by decide))
  rw [de6] at H11
  clear hp11 hk11 H10
  go_wp2_with fail
  refine H11.out.mono ?_
  rintro r w12 ⟨rfl, hp12, hk12⟩
  have HK12 := Lib.hid (HK11.out.trans hk12)
  have hrow := ((HK10.out.trans (HK12.out.mono (fun k hk => .inl hk))).row HR8.out HI8.out)
  have hcell := (World.cell?_of_block (w := w10) (w' := w12) (a := ⟨b, o, none⟩) (HK12.out.2 b (.inr ⟨HLO.out, HLT.out⟩))).trans HCE.out
  obtain ⟨_, _, _, _, hbw⟩ := hp12
  have HBW := Lib.hid hbw
  clear hk12 hbw H11
  have hcv := conv_row 33 5 9 Try.underlying33 Try.underlying5 Try.underlying9 hrow
  have e4 : strOf [97, 98, 99, 100] = ⟨#[97, 98, 99, 100]⟩ := by kernel_rfl
  rw [e4] at hcv
  have hnz : nz = ⟨#[122]⟩ := rfl
  rw [hnz] at hcell
  clear e4 hrow HR8 HI8 HCE hnz
  go_wp2_with fail
  go_ret
  exact ⟨rfl, HBW.out⟩
end Go.Proofs.Ytkfjbpcngmipnaa.Vm
