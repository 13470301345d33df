/- What package dist's leadingTo and reachedFrom hand back: iterators that keep their promise. -/
import Derived.Test.YtgjolllacchdeaaLeads
namespace Go.Proofs.Ytgjolllacchdeaa.Vm
open Go Go.RowKit Go.Maps

/-- An iterator that has been made, and all that it leans on, at or beyond block b. -/
structure Made (fs : Nat) (W H : Int) (s : ByteArray) (bl : List Int) (to b : Nat) (w : World) (c0 c1 c2 gb cb mb m : Nat) : Prop where
  i0 : b ≤ c0 ∧ c0 < w.heap.size
  i1 : b ≤ c1 ∧ c1 < w.heap.size
  i2 : b ≤ c2 ∧ c2 < w.heap.size
  i3 : b ≤ gb ∧ gb < w.heap.size
  i4 : b ≤ cb ∧ cb < w.heap.size
  i5 : b ≤ mb ∧ mb < w.heap.size
  k0 : w.cell? ⟨c0, 0, none⟩ = some (.int .i64 s.size)
  k1 : w.cell? ⟨c1, 0, none⟩ = some (.int .i64 to)
  k2 : w.cell? ⟨c2, 0, none⟩ = some (.func (.func fs) #[] #[.pointer (some ⟨gb, 0, none⟩), .pointer (some ⟨cb, 0, none⟩)])
  k3 : GridAt w gb W H s
  k4 : w.cell? ⟨cb, 0, none⟩ = some (.map (some mb))
  k5 : ShutIn w mb m bl

/-- What is handed to the loop: a cell and its distance. -/
def pairV (x : Nat × Nat) : Array Value := #[.int .i64 (x.1 : Nat), .int .i64 (x.2 : Nat)]

theorem GridAt.same {w w' : World} {b : Nat} {W H : Int} {s : ByteArray} (h : GridAt w b W H s) (hb : w'.heap[b]? = w.heap[b]?) : GridAt w' b W H s :=
  ⟨(World.cell?_of_block (w := w) hb).trans h.1, (World.cell?_of_block (w := w) hb).trans h.2.1, (World.cell?_of_block (w := w) hb).trans h.2.2⟩

section
variable {W H : Int} {s : ByteArray} {bl : List Int} {to b : Nat} {w : World} {c0 c1 c2 gb cb mb m : Nat}
theorem lead_offers (n : Nat) (hn : 2 ≤ n) (h : Okay W H s) (hto : to < s.size) (hM : Made 32 W H s bl to b w c0 c1 c2 gb cb mb m) :
    Offers Fence.wide n Try.prog 36 #[.pointer (some ⟨c0, 0, none⟩), .pointer (some ⟨c1, 0, none⟩), .pointer (some ⟨c2, 0, none⟩)] pairV b
      (Begun (stepsS W H (bytesOf s) bl) to s.size) (AllCome (stepsS W H (bytesOf s) bl) to s.size) (Begun (stepsS W H (bytesOf s) bl) to s.size) w := fun l J Jx V hV hJ hJx hY h0 => by
  have hle := h.le
  have hg := lead_graph (W := W) (H := H) (l := bytesOf s) (bl := bl) h.w1 (by rw [bytesOf_len]; exact h.len)
  rw [bytesOf_len] at hg
  refine iter_any Fence.wide n trivial rfl hn l 32 #[.pointer (some ⟨gb, 0, none⟩), .pointer (some ⟨cb, 0, none⟩)] trivial (by intro args w; rfl) b w.heap.size s.size to hto (by omega) c0 c1 c2 _ _ hg V
    hM.i0.1 hM.i0.2 hM.i1.1 hM.i1.2 hM.i2.1 hM.i2.2 hV.size (by have := hM.i0; omega)
    ((hV.cell (p := ⟨c0, 0, none⟩) hM.i0.2).trans hM.k0) ((hV.cell (p := ⟨c1, 0, none⟩) hM.i1.2).trans hM.k1) ((hV.cell (p := ⟨c2, 0, none⟩) hM.i2.2).trans hM.k2) ?_ J Jx hJ hJx hY h0
  intro A c way hc hw1 hw2 hA hsz
  have hk : ∀ k, b ≤ k → k < w.heap.size → A.heap[k]? = w.heap[k]? := fun k h1 h2 => (hA k h1 h2).trans (hV.block k h2)
  exact callsIn_wide.2 (lead_any W H s bl c way gb cb mb m A h hc ⟨hw1, hw2⟩ (hM.k3.same (hk gb hM.i3.1 hM.i3.2)) ((World.cell?_of_block (w := w) (hk cb hM.i4.1 hM.i4.2)).trans hM.k4) (hM.k5.keep (hk mb hM.i5.1 hM.i5.2)) (by have := hM.i3.2; omega) (by have := hM.i4.2; omega))
theorem from_offers (n : Nat) (hn : 2 ≤ n) (h : Okay W H s) (hto : to < s.size) (hM : Made 34 W H s bl to b w c0 c1 c2 gb cb mb m) :
    Offers Fence.wide n Try.prog 36 #[.pointer (some ⟨c0, 0, none⟩), .pointer (some ⟨c1, 0, none⟩), .pointer (some ⟨c2, 0, none⟩)] pairV b
      (Begun (backS' W H (bytesOf s) bl) to s.size) (AllCome (backS' W H (bytesOf s) bl) to s.size) (Begun (backS' W H (bytesOf s) bl) to s.size) w := fun l J Jx V hV hJ hJx hY h0 => by
  have hle := h.le
  have hg := from_graph (W := W) (H := H) (l := bytesOf s) (bl := bl)
  rw [bytesOf_len] at hg
  refine iter_any Fence.wide n trivial rfl hn l 34 #[.pointer (some ⟨gb, 0, none⟩), .pointer (some ⟨cb, 0, none⟩)] trivial (by intro args w; rfl) b w.heap.size s.size to hto (by omega) c0 c1 c2 _ _ hg V
    hM.i0.1 hM.i0.2 hM.i1.1 hM.i1.2 hM.i2.1 hM.i2.2 hV.size (by have := hM.i0; omega)
    ((hV.cell (p := ⟨c0, 0, none⟩) hM.i0.2).trans hM.k0) ((hV.cell (p := ⟨c1, 0, none⟩) hM.i1.2).trans hM.k1) ((hV.cell (p := ⟨c2, 0, none⟩) hM.i2.2).trans hM.k2) ?_ J Jx hJ hJx hY h0
  intro A c way hc hw1 hw2 hA hsz
  have hk : ∀ k, b ≤ k → k < w.heap.size → A.heap[k]? = w.heap[k]? := fun k h1 h2 => (hA k h1 h2).trans (hV.block k h2)
  exact callsIn_wide.2 (from_any W H s bl c way gb cb mb m A h (hM.k3.same (hk gb hM.i3.1 hM.i3.2)) ((World.cell?_of_block (w := w) (hk cb hM.i4.1 hM.i4.2)).trans hM.k4) (hM.k5.keep (hk mb hM.i5.1 hM.i5.2)) (by have := hM.i4.2; omega))
end

set_option maxRecDepth 100000 in
theorem nearestFirst_any (N to : Nat) (f : Value) (hf : ∃ fs lbs, f = .func (.func fs) #[] lbs) (w : World) :
    Calls Try.prog 31 #[.int .i64 (N : Nat), .int .i64 (to : Nat), f] w fun e w' =>
      e = .returned (.func (.func 36) #[] #[.pointer (some ⟨w.heap.size, 0, none⟩), .pointer (some ⟨w.heap.size + 1, 0, none⟩), .pointer (some ⟨w.heap.size + 1 + 1, 0, none⟩)]) ∧
      w' = ((w.alloc (.cells #[.int .i64 (N : Nat)] 3)).alloc (.cells #[.int .i64 (to : Nat)] 3)).alloc (.cells #[f] 58) := by
  obtain ⟨fs, lbs, rfl⟩ := hf
  go_enter Try.func31, Try.ntmps31
  go_wp2
  go_ret
  exact ⟨rfl, rfl⟩

theorem cell_top (w : World) (v : Value) (t : TypeId) {k : Nat} (hk : k = w.heap.size) : (w.alloc (.cells #[v] t)).cell? ⟨k, 0, none⟩ = some v := by subst hk; simp
theorem free_top (w : World) (v : Value) (t : TypeId) {k : Nat} (hk : k = w.heap.size) : (w.alloc (.cells #[v] t)).frozen? ⟨k, 0, none⟩ = false := by subst hk; simp
theorem cell_low {w : World} {k : Nat} {v : Value} (h : w.cell? ⟨k, 0, none⟩ = some v) (o : Obj) : (w.alloc o).cell? ⟨k, 0, none⟩ = some v :=
  (World.cell?_alloc_lt w o _ (World.block_lt_of_cell? w _ h)).trans h

theorem made_of {fs : Nat} {W H : Int} {s : ByteArray} {bl : List Int} {to m : Nat} {w w1 : World} (hz : w.heap.size + 1 < w1.heap.size) (hb : Below w.heap.size w w1) (hg : GridAt w1 w.heap.size W H s) (hm : ShutIn w1 (w.heap.size + 1) m bl) {f : Value} (hf : f = .func (.func fs) #[] #[.pointer (some ⟨w.heap.size, 0, none⟩), .pointer (some ⟨w1.heap.size, 0, none⟩)] := by rfl) :
    Made fs W H s bl to w.heap.size ((((w1.alloc (.cells #[.map (some (w.heap.size + 1))] 51)).alloc (.cells #[.int .i64 (s.size : Nat)] 3)).alloc (.cells #[.int .i64 (to : Nat)] 3)).alloc (.cells #[f] 58)) (w1.heap.size + 1) (w1.heap.size + 1 + 1) (w1.heap.size + 1 + 1 + 1) w.heap.size w1.heap.size (w.heap.size + 1) m ∧
    Below w.heap.size w ((((w1.alloc (.cells #[.map (some (w.heap.size + 1))] 51)).alloc (.cells #[.int .i64 (s.size : Nat)] 3)).alloc (.cells #[.int .i64 (to : Nat)] 3)).alloc (.cells #[f] 58)) := by
  subst hf
  have h1 : Below w1.heap.size w1 ((((w1.alloc (.cells #[.map (some (w.heap.size + 1))] 51)).alloc (.cells #[.int .i64 (s.size : Nat)] 3)).alloc (.cells #[.int .i64 (to : Nat)] 3)).alloc (.cells #[.func (.func fs) #[] #[.pointer (some ⟨w.heap.size, 0, none⟩), .pointer (some ⟨w1.heap.size, 0, none⟩)]] 58)) :=
    ((((Below.refl _ _).alloc (Nat.le_refl _) _).alloc (by simp) _).alloc (by simp; omega) _).alloc (by simp; omega) _
  refine ⟨⟨?_, ?_, ?_, ?_, ?_, ?_, ?_, ?_, ?_, hg.below h1 (by omega), ?_, hm.keep (h1.block _ hz)⟩, hb.trans (h1.mono (by omega))⟩
  · exact ⟨by omega, by simp <;> omega⟩
  · exact ⟨by omega, by simp <;> omega⟩
  · exact ⟨by omega, by simp <;> omega⟩
  · exact ⟨by omega, by simp <;> omega⟩
  · exact ⟨by omega, by simp <;> omega⟩
  · exact ⟨by omega, by simp <;> omega⟩
  · exact cell_low (cell_low (cell_top _ _ _ (by simp)) _) _
  · exact cell_low (cell_top _ _ _ (by simp)) _
  · exact cell_top _ _ _ (by simp)
  · exact cell_low (cell_low (cell_low (cell_top _ _ _ rfl) _) _) _

/-- What a maker of iterators promises. -/
def MakesPost (fs : Nat) (W H : Int) (s : ByteArray) (bl : List Int) (to : Nat) (w : World) (e : Ending) (w' : World) : Prop :=
  ∃ c0 c1 c2 gb cb mb m, e = .returned (.func (.func 36) #[] #[.pointer (some ⟨c0, 0, none⟩), .pointer (some ⟨c1, 0, none⟩), .pointer (some ⟨c2, 0, none⟩)]) ∧
    Made fs W H s bl to w.heap.size w' c0 c1 c2 gb cb mb m ∧ Below w.heap.size w w'

set_option maxRecDepth 100000 in
set_option maxHeartbeats 400000 in
theorem leadingTo_any (W H : Int) (s : ByteArray) (bl : List Int) (to B : Nat) (a : Option Addr) (n c : Nat) (w : World) (hs : s.size ≤ 1000000) (h : RowZ .i64 w B a n c bl) (hB : B ≤ w.heap.size) (hw : ∀ z ∈ bl, (Lit.int .i64 z).wf = true) (hn : n ≤ 1000000) :
    Calls Try.prog 20 #[gridV W H s, .int .i64 (to : Nat), .slice a n c] w (MakesPost 32 W H s bl to w) := by
  have hg0 := gridAt_new w W H s
  have hb0 : Below w.heap.size w (w.alloc (gridO W H s)) := (Below.refl _ _).alloc (Nat.le_refl _) _
  have HS := Lib.hid (setOf_any a n c B bl (w.alloc (gridO W H s)) (h.keep (fun p hp => World.cell?_alloc_lt w _ p (by omega))) (by simp; omega) hw hn)
  have hz0 : (w.alloc (gridO W H s)).heap.size = w.heap.size + 1 := by simp
  clear h hw
  go_enter Try.func20, Try.ntmps20
  go_wp2_with fail
  refine HS.out.mono ?_
  rintro e w1 ⟨rfl, hm, hb1⟩
  have hb2 := hb0.trans (hb1.mono (by omega))
  have hg1 := hg0.below hb1 (by omega)
  obtain ⟨g1, g2, g3⟩ := id hg1
  have hz1 : w.heap.size + 1 < w1.heap.size := by have := hm.lt; omega
  have q3 : (w1.alloc (.cells #[.map (some (w.heap.size + 1))] 51)).cell? ⟨w.heap.size, 2, none⟩ = some (.string s) := (World.cell?_alloc_lt w1 _ _ (show w.heap.size < w1.heap.size by omega)).trans g3
  rw [hz0] at hm
  have HM := Lib.hid hm
  have HG := Lib.hid hg1
  have HN := Lib.hid fun w' => nearestFirst_any s.size to (.func (.func 32) #[] #[.pointer (some ⟨w.heap.size, 0, none⟩), .pointer (some ⟨w1.heap.size, 0, none⟩)]) ⟨_, _, rfl⟩ w'
  clear hm hg0 hg1 hb1 g1 g2 g3
  go_wp2_with fail
  refine (HN.out _).mono ?_
  rintro e w2 ⟨rfl, rfl⟩
  go_wp2_with fail
  go_ret
  have hM := made_of (fs := 32) (to := to) (by omega) hb2 HG.out HM.out
  exact ⟨_, _, _, _, _, _, _, rfl, hM.1, hM.2⟩

set_option maxRecDepth 100000 in
set_option maxHeartbeats 400000 in
theorem reachedFrom_any (W H : Int) (s : ByteArray) (bl : List Int) (to B : Nat) (a : Option Addr) (n c : Nat) (w : World) (hs : s.size ≤ 1000000) (h : RowZ .i64 w B a n c bl) (hB : B ≤ w.heap.size) (hw : ∀ z ∈ bl, (Lit.int .i64 z).wf = true) (hn : n ≤ 1000000) :
    Calls Try.prog 25 #[gridV W H s, .int .i64 (to : Nat), .slice a n c] w (MakesPost 34 W H s bl to w) := by
  have hg0 := gridAt_new w W H s
  have hb0 : Below w.heap.size w (w.alloc (gridO W H s)) := (Below.refl _ _).alloc (Nat.le_refl _) _
  have HS := Lib.hid (setOf_any a n c B bl (w.alloc (gridO W H s)) (h.keep (fun p hp => World.cell?_alloc_lt w _ p (by omega))) (by simp; omega) hw hn)
  have hz0 : (w.alloc (gridO W H s)).heap.size = w.heap.size + 1 := by simp
  clear h hw
  go_enter Try.func25, Try.ntmps25
  go_wp2_with fail
  refine HS.out.mono ?_
  rintro e w1 ⟨rfl, hm, hb1⟩
  have hb2 := hb0.trans (hb1.mono (by omega))
  have hg1 := hg0.below hb1 (by omega)
  obtain ⟨g1, g2, g3⟩ := id hg1
  have hz1 : w.heap.size + 1 < w1.heap.size := by have := hm.lt; omega
  have q3 : (w1.alloc (.cells #[.map (some (w.heap.size + 1))] 51)).cell? ⟨w.heap.size, 2, none⟩ = some (.string s) := (World.cell?_alloc_lt w1 _ _ (show w.heap.size < w1.heap.size by omega)).trans g3
  rw [hz0] at hm
  have HM := Lib.hid hm
  have HG := Lib.hid hg1
  have HN := Lib.hid fun w' => nearestFirst_any s.size to (.func (.func 34) #[] #[.pointer (some ⟨w.heap.size, 0, none⟩), .pointer (some ⟨w1.heap.size, 0, none⟩)]) ⟨_, _, rfl⟩ w'
  clear hm hg0 hg1 hb1 g1 g2 g3
  go_wp2_with fail
  refine (HN.out _).mono ?_
  rintro e w2 ⟨rfl, rfl⟩
  go_wp2_with fail
  go_ret
  have hM := made_of (fs := 34) (to := to) (by omega) hb2 HG.out HM.out
  exact ⟨_, _, _, _, _, _, _, rfl, hM.1, hM.2⟩
end Go.Proofs.Ytgjolllacchdeaa.Vm
