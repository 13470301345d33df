/- The contracts of package dist's steps, and of what enumerates the cells: origin, leadingTo, reachedFrom. What package dist's leadingTo and reachedFrom hand back: iterators that keep their promise. The contract of dist.Field. The contract of dist.Far. -/
import Derived.Test.YtopgboepkckkjaaLeadMath
import Derived.Test.YtopgboepkckkjaaSets
import Derived.Test.YtopgboepkckkjaaStWords
import Derived.Test.YtopgboepkckkjaaIters
import Derived.Test.YtopgboepkckkjaaIntsZ
namespace Go.Proofs.Ytopgboepkckkjaa.Vm
open Go Go.RowKit Go.Maps

set_option maxRecDepth 100000 in
set_option maxHeartbeats 400000 in
theorem origin_any (W H : Int) (s : ByteArray) (cell way : Nat) (w : World) (hW : 1 ≤ W) (hW2 : W ≤ 256) (hc : cell ≤ 1000000) (hw : 1 ≤ way ∧ way ≤ 4) :
    Calls Try.prog 50 #[gridV W H s, .int .i64 (cell : Nat), .int .i64 (way : Nat)] w fun e w' => e = .returned (.int .i64 (originS W cell way)) ∧ Below w.heap.size w w' := by
  have hB : Below w.heap.size w (w.alloc (gridO W H s)) := (Below.refl _ _).alloc (Nat.le_refl _) _
  have hcase : way = 1 ∨ way = 2 ∨ way = 3 ∨ way = 4 := by omega
  clear hw
  rcases hcase with rfl | rfl | rfl | rfl
  all_goals
    go_enter Try.func50, Try.ntmps50
    go_wp2
    go_ret
    exact ⟨by simp [originS], hB⟩

theorem pair_eq {R : Int × Bool} {a : Int} {b : Bool} (h : R = (a, b)) : Ending.returned (.tuple #[.int .i64 a, .bool b]) = .returned (.tuple #[.int .i64 R.1, .bool R.2]) := by rw [h]

set_option maxRecDepth 100000 in
set_option maxHeartbeats 400000 in
theorem lead_any (W H : Int) (s : ByteArray) (bl : List Int) (cell way gb cb mb m : Nat) (A : World) (h : Okay W H s) (hc : cell < s.size) (hw : 1 ≤ way ∧ way ≤ 4)
    (hg : GridAt A gb W H s) (hcl : A.cell? ⟨cb, 0, none⟩ = some (.map (some mb))) (hm : ShutIn A mb m bl) (hgb : gb < A.heap.size) (hcb : cb < A.heap.size) :
    Calls Try.prog 49 #[.int .i64 (cell : Nat), .int .i64 (way : Nat), .pointer (some ⟨gb, 0, none⟩), .pointer (some ⟨cb, 0, none⟩)] A fun e w' =>
      e = .returned (.tuple #[.int .i64 (leadS W H (bytesOf s) bl cell way).1, .bool (leadS W H (bytesOf s) bl cell way).2]) ∧ Below A.heap.size A w' := by
  have hle := h.le
  have HO := Lib.hid fun A => origin_any W H s cell way A h.w1 h.w2 (by omega) hw
  have HG := Lib.hid fun A => goes_any W H (originS W cell way) way s A h
  have hwf : (Lit.int .i64 (cell : Nat)).wf = true := WalkArith.wf_i64 (by omega)
  have hle2 : leadS W H (bytesOf s) bl cell way = (originS W cell way, (goesS W H (bytesOf s) (originS W cell way) way).2 && !decide ((cell : Int) ∈ bl)) := rfl
  have HM := Lib.hid hm
  have HGA := Lib.hid hg
  obtain ⟨g1, g2, g3⟩ := hg
  obtain ⟨to, ok, hR⟩ : ∃ to ok, goesS W H (bytesOf s) (originS W cell way) way = (to, ok) := ⟨_, _, rfl⟩
  rw [hR] at hle2
  have hg2 := HG.out
  rw [hR] at hg2
  simp only [] at hg2 hle2
  have HG2 := Lib.hid hg2
  generalize originS W cell way = og at HO HG2 hle2
  clear hg2 HG hR hm h hw
  cases ok
  · have HE := Lib.hid hle2
    clear hle2
    go_enter Try.func49, Try.ntmps49
    go_wp2_with fail
    refine (HO.out _).mono ?_
    rintro e w1 ⟨rfl, hb1⟩
    obtain ⟨q1, q2, q3⟩ := HGA.out.below hb1 hgb
    go_wp2_with fail
    refine (HG2.out _).mono ?_
    rintro e w2 ⟨rfl, hb2⟩
    have hb := hb1.trans (hb2.mono hb1.size)
    go_wp2_with fail
    go_ret2
    exact ⟨pair_eq (by rw [HE.out]; rfl), hb⟩
  · have HE := Lib.hid hle2
    clear hle2
    go_enter Try.func49, Try.ntmps49
    go_wp2_with fail
    refine (HO.out _).mono ?_
    rintro e w1 ⟨rfl, hb1⟩
    obtain ⟨q1, q2, q3⟩ := HGA.out.below hb1 hgb
    go_wp2_with fail
    refine (HG2.out _).mono ?_
    rintro e w2 ⟨rfl, hb2⟩
    have hb := hb1.trans (hb2.mono hb1.size)
    have hc2 := (hb.cell (p := ⟨cb, 0, none⟩) hcb).trans hcl
    have hm2 : ShutIn w2 mb m bl := HM.out.keep (hb.block mb HM.out.lt)
    have HH := Lib.hid (has_any mb m bl cell w2 hm2 hwf)
    clear q1 q2 q3 hm2
    go_wp2_with fail
    refine HH.out.mono ?_
    rintro e w3 ⟨rfl, hb3⟩
    have hb4 := hb.trans (hb3.mono hb.size)
    go_wp2_with fail
    go_ret2
    exact ⟨pair_eq (by rw [HE.out]; simp), hb4⟩

end Go.Proofs.Ytopgboepkckkjaa.Vm

namespace Go.Proofs.Ytopgboepkckkjaa.Vm
open Go Go.RowKit Go.Maps

/-- An iterator that has been made, and all that it leans on, at or beyond block b. -/
structure Made (fs : Nat) (W H : Int) (s : ByteArray) (bl : List Int) (to b : Nat) (w : World) (c0 c1 c2 gb cb mb m : Nat) : Prop where
  i0 : b ≤ c0 ∧ c0 < w.heap.size
  i1 : b ≤ c1 ∧ c1 < w.heap.size
  i2 : b ≤ c2 ∧ c2 < w.heap.size
  i3 : b ≤ gb ∧ gb < w.heap.size
  i4 : b ≤ cb ∧ cb < w.heap.size
  i5 : b ≤ mb ∧ mb < w.heap.size
  k0 : w.cell? ⟨c0, 0, none⟩ = some (.int .i64 s.size)
  k1 : w.cell? ⟨c1, 0, none⟩ = some (.int .i64 to)
  k2 : w.cell? ⟨c2, 0, none⟩ = some (.func (.func fs) #[] #[.pointer (some ⟨gb, 0, none⟩), .pointer (some ⟨cb, 0, none⟩)])
  k3 : GridAt w gb W H s
  k4 : w.cell? ⟨cb, 0, none⟩ = some (.map (some mb))
  k5 : ShutIn w mb m bl

/-- What is handed to the loop: a cell and its distance. -/
def pairV (x : Nat × Nat) : Array Value := #[.int .i64 (x.1 : Nat), .int .i64 (x.2 : Nat)]

theorem GridAt.same {w w' : World} {b : Nat} {W H : Int} {s : ByteArray} (h : GridAt w b W H s) (hb : w'.heap[b]? = w.heap[b]?) : GridAt w' b W H s :=
  ⟨(World.cell?_of_block (w := w) hb).trans h.1, (World.cell?_of_block (w := w) hb).trans h.2.1, (World.cell?_of_block (w := w) hb).trans h.2.2⟩

section
variable {W H : Int} {s : ByteArray} {bl : List Int} {to b : Nat} {w : World} {c0 c1 c2 gb cb mb m : Nat}
theorem lead_offers (n : Nat) (hn : 2 ≤ n) (h : Okay W H s) (hto : to < s.size) (hM : Made 49 W H s bl to b w c0 c1 c2 gb cb mb m) :
    Offers Fence.wide n Try.prog 53 #[.pointer (some ⟨c0, 0, none⟩), .pointer (some ⟨c1, 0, none⟩), .pointer (some ⟨c2, 0, none⟩)] pairV b
      (Begun (stepsS W H (bytesOf s) bl) to s.size) (AllCome (stepsS W H (bytesOf s) bl) to s.size) (Begun (stepsS W H (bytesOf s) bl) to s.size) w := fun l J Jx V hV hJ hJx hY h0 => by
  have hle := h.le
  have hg := lead_graph (W := W) (H := H) (l := bytesOf s) (bl := bl) h.w1 (by rw [bytesOf_len]; exact h.len)
  rw [bytesOf_len] at hg
  refine iter_any Fence.wide n trivial rfl hn l 49 #[.pointer (some ⟨gb, 0, none⟩), .pointer (some ⟨cb, 0, none⟩)] trivial (by intro args w; rfl) b w.heap.size s.size to hto (by omega) c0 c1 c2 _ _ hg V
    hM.i0.1 hM.i0.2 hM.i1.1 hM.i1.2 hM.i2.1 hM.i2.2 hV.size (by have := hM.i0; omega)
    ((hV.cell (p := ⟨c0, 0, none⟩) hM.i0.2).trans hM.k0) ((hV.cell (p := ⟨c1, 0, none⟩) hM.i1.2).trans hM.k1) ((hV.cell (p := ⟨c2, 0, none⟩) hM.i2.2).trans hM.k2) ?_ J Jx hJ hJx hY h0
  intro A c way hc hw1 hw2 hA hsz
  have hk : ∀ k, b ≤ k → k < w.heap.size → A.heap[k]? = w.heap[k]? := fun k h1 h2 => (hA k h1 h2).trans (hV.block k h2)
  exact callsIn_wide.2 (lead_any W H s bl c way gb cb mb m A h hc ⟨hw1, hw2⟩ (hM.k3.same (hk gb hM.i3.1 hM.i3.2)) ((World.cell?_of_block (w := w) (hk cb hM.i4.1 hM.i4.2)).trans hM.k4) (hM.k5.keep (hk mb hM.i5.1 hM.i5.2)) (by have := hM.i3.2; omega) (by have := hM.i4.2; omega))
end

set_option maxRecDepth 100000 in
theorem nearestFirst_any (N to : Nat) (f : Value) (hf : ∃ fs lbs, f = .func (.func fs) #[] lbs) (w : World) :
    Calls Try.prog 48 #[.int .i64 (N : Nat), .int .i64 (to : Nat), f] w fun e w' =>
      e = .returned (.func (.func 53) #[] #[.pointer (some ⟨w.heap.size, 0, none⟩), .pointer (some ⟨w.heap.size + 1, 0, none⟩), .pointer (some ⟨w.heap.size + 1 + 1, 0, none⟩)]) ∧
      w' = ((w.alloc (.cells #[.int .i64 (N : Nat)] 3)).alloc (.cells #[.int .i64 (to : Nat)] 3)).alloc (.cells #[f] 87) := by
  obtain ⟨fs, lbs, rfl⟩ := hf
  go_enter Try.func48, Try.ntmps48
  go_wp2
  go_ret
  exact ⟨rfl, rfl⟩

theorem cell_top (w : World) (v : Value) (t : TypeId) {k : Nat} (hk : k = w.heap.size) : (w.alloc (.cells #[v] t)).cell? ⟨k, 0, none⟩ = some v := by subst hk; simp
theorem free_top (w : World) (v : Value) (t : TypeId) {k : Nat} (hk : k = w.heap.size) : (w.alloc (.cells #[v] t)).frozen? ⟨k, 0, none⟩ = false := by subst hk; simp
theorem cell_low {w : World} {k : Nat} {v : Value} (h : w.cell? ⟨k, 0, none⟩ = some v) (o : Obj) : (w.alloc o).cell? ⟨k, 0, none⟩ = some v :=
  (World.cell?_alloc_lt w o _ (World.block_lt_of_cell? w _ h)).trans h

theorem made_of {fs : Nat} {W H : Int} {s : ByteArray} {bl : List Int} {to m : Nat} {w w1 : World} (hz : w.heap.size + 1 < w1.heap.size) (hb : Below w.heap.size w w1) (hg : GridAt w1 w.heap.size W H s) (hm : ShutIn w1 (w.heap.size + 1) m bl) {f : Value} (hf : f = .func (.func fs) #[] #[.pointer (some ⟨w.heap.size, 0, none⟩), .pointer (some ⟨w1.heap.size, 0, none⟩)] := by rfl) :
    Made fs W H s bl to w.heap.size ((((w1.alloc (.cells #[.map (some (w.heap.size + 1))] 82)).alloc (.cells #[.int .i64 (s.size : Nat)] 3)).alloc (.cells #[.int .i64 (to : Nat)] 3)).alloc (.cells #[f] 87)) (w1.heap.size + 1) (w1.heap.size + 1 + 1) (w1.heap.size + 1 + 1 + 1) w.heap.size w1.heap.size (w.heap.size + 1) m ∧
    Below w.heap.size w ((((w1.alloc (.cells #[.map (some (w.heap.size + 1))] 82)).alloc (.cells #[.int .i64 (s.size : Nat)] 3)).alloc (.cells #[.int .i64 (to : Nat)] 3)).alloc (.cells #[f] 87)) := by
  subst hf
  have h1 : Below w1.heap.size w1 ((((w1.alloc (.cells #[.map (some (w.heap.size + 1))] 82)).alloc (.cells #[.int .i64 (s.size : Nat)] 3)).alloc (.cells #[.int .i64 (to : Nat)] 3)).alloc (.cells #[.func (.func fs) #[] #[.pointer (some ⟨w.heap.size, 0, none⟩), .pointer (some ⟨w1.heap.size, 0, none⟩)]] 87)) :=
    ((((Below.refl _ _).alloc (Nat.le_refl _) _).alloc (by simp) _).alloc (by simp; omega) _).alloc (by simp; omega) _
  refine ⟨⟨?_, ?_, ?_, ?_, ?_, ?_, ?_, ?_, ?_, hg.below h1 (by omega), ?_, hm.keep (h1.block _ hz)⟩, hb.trans (h1.mono (by omega))⟩
  · exact ⟨by omega, by simp <;> omega⟩
  · exact ⟨by omega, by simp <;> omega⟩
  · exact ⟨by omega, by simp <;> omega⟩
  · exact ⟨by omega, by simp <;> omega⟩
  · exact ⟨by omega, by simp <;> omega⟩
  · exact ⟨by omega, by simp <;> omega⟩
  · exact cell_low (cell_low (cell_top _ _ _ (by simp)) _) _
  · exact cell_low (cell_top _ _ _ (by simp)) _
  · exact cell_top _ _ _ (by simp)
  · exact cell_low (cell_low (cell_low (cell_top _ _ _ rfl) _) _) _

/-- What a maker of iterators promises. -/
def MakesPost (fs : Nat) (W H : Int) (s : ByteArray) (bl : List Int) (to : Nat) (w : World) (e : Ending) (w' : World) : Prop :=
  ∃ c0 c1 c2 gb cb mb m, e = .returned (.func (.func 53) #[] #[.pointer (some ⟨c0, 0, none⟩), .pointer (some ⟨c1, 0, none⟩), .pointer (some ⟨c2, 0, none⟩)]) ∧
    Made fs W H s bl to w.heap.size w' c0 c1 c2 gb cb mb m ∧ Below w.heap.size w w'

set_option maxRecDepth 100000 in
set_option maxHeartbeats 400000 in
theorem leadingTo_any (W H : Int) (s : ByteArray) (bl : List Int) (to B : Nat) (a : Option Addr) (n c : Nat) (w : World) (hs : s.size ≤ 1000000) (h : RowZ .i64 w B a n c bl) (hB : B ≤ w.heap.size) (hw : ∀ z ∈ bl, (Lit.int .i64 z).wf = true) (hn : n ≤ 1000000) :
    Calls Try.prog 44 #[gridV W H s, .int .i64 (to : Nat), .slice a n c] w (MakesPost 49 W H s bl to w) := by
  have hg0 := gridAt_new w W H s
  have hb0 : Below w.heap.size w (w.alloc (gridO W H s)) := (Below.refl _ _).alloc (Nat.le_refl _) _
  have HS := Lib.hid (setOf_any a n c B bl (w.alloc (gridO W H s)) (h.keep (fun p hp => World.cell?_alloc_lt w _ p (by omega))) (by simp; omega) hw hn)
  have hz0 : (w.alloc (gridO W H s)).heap.size = w.heap.size + 1 := by simp
  clear h hw
  go_enter Try.func44, Try.ntmps44
  go_wp2_with fail
  refine HS.out.mono ?_
  rintro e w1 ⟨rfl, hm, hb1⟩
  have hb2 := hb0.trans (hb1.mono (by omega))
  have hg1 := hg0.below hb1 (by omega)
  obtain ⟨g1, g2, g3⟩ := id hg1
  have hz1 : w.heap.size + 1 < w1.heap.size := by have := hm.lt; omega
  have q3 : (w1.alloc (.cells #[.map (some (w.heap.size + 1))] 82)).cell? ⟨w.heap.size, 2, none⟩ = some (.string s) := (World.cell?_alloc_lt w1 _ _ (show w.heap.size < w1.heap.size by omega)).trans g3
  rw [hz0] at hm
  have HM := Lib.hid hm
  have HG := Lib.hid hg1
  have HN := Lib.hid fun w' => nearestFirst_any s.size to (.func (.func 49) #[] #[.pointer (some ⟨w.heap.size, 0, none⟩), .pointer (some ⟨w1.heap.size, 0, none⟩)]) ⟨_, _, rfl⟩ w'
  clear hm hg0 hg1 hb1 g1 g2 g3
  go_wp2_with fail
  refine (HN.out _).mono ?_
  rintro e w2 ⟨rfl, rfl⟩
  go_wp2_with fail
  go_ret
  have hM := made_of (fs := 49) (to := to) (by omega) hb2 HG.out HM.out
  exact ⟨_, _, _, _, _, _, _, rfl, hM.1, hM.2⟩

end Go.Proofs.Ytopgboepkckkjaa.Vm

namespace Go.Proofs.Ytopgboepkckkjaa.Vm
open Go Go.RowKit Go.Maps Go.Shelf
attribute [local go_sem] Oper.semAt_some

/-- What has been told. -/
def toldZ (N : Nat) (pre : List (Nat × Nat)) : List Int := pre.foldl (fun l x => l.set x.1 (x.2 : Int)) (List.replicate N (-1))
theorem toldZ_snoc (N : Nat) (pre : List (Nat × Nat)) (x : Nat × Nat) : toldZ N (pre ++ [x]) = (toldZ N pre).set x.1 (x.2 : Int) := by simp [toldZ, List.foldl_append]
theorem toldZ_len (N : Nat) (pre : List (Nat × Nat)) : (toldZ N pre).length = N := by
  have : ∀ (pre : List (Nat × Nat)) (l : List Int), (pre.foldl (fun l x => l.set x.1 (x.2 : Int)) l).length = l.length := by
    intro pre
    induction pre with
    | nil => intro l; rfl
    | cons x pre ih => intro l; rw [List.foldl_cons, ih, List.length_set]
  rw [toldZ, this, List.length_replicate]
theorem snoc_ind {α : Type} {P : List α → Prop} (h0 : P []) (h : ∀ l x, P l → P (l ++ [x])) (l : List α) : P l := by
  rw [← List.reverse_reverse l]
  induction l.reverse with
  | nil => exact h0
  | cons x t ih => rw [List.reverse_cons]; exact h _ _ ih
theorem toldZ_at (N : Nat) (pre : List (Nat × Nat)) : ∀ c, c < N → (∃ e, (c, e) ∈ pre ∧ (toldZ N pre).getD c 0 = (e : Int)) ∨ ((∀ e, (c, e) ∉ pre) ∧ (toldZ N pre).getD c 0 = -1) := by
  refine snoc_ind (P := fun pre => ∀ c, c < N → (∃ e, (c, e) ∈ pre ∧ (toldZ N pre).getD c 0 = (e : Int)) ∨ ((∀ e, (c, e) ∉ pre) ∧ (toldZ N pre).getD c 0 = -1)) ?_ (fun l x ih => ?_) pre
  · intro c hc
    exact .inr ⟨by simp, by simp [toldZ, List.getD, hc]⟩
  · intro c hc
    rw [toldZ_snoc]
    by_cases hx : c = x.1
    · subst hx
      exact .inl ⟨x.2, by simp, by simp [List.getD, toldZ_len, hc]⟩
    · have e1 : ((toldZ N l).set x.1 (x.2 : Int)).getD c 0 = (toldZ N l).getD c 0 := by simp [List.getD, Ne.symm hx]
      rw [e1]
      rcases ih c hc with ⟨e, h1, h2⟩ | ⟨h1, h2⟩
      · exact .inl ⟨e, by simp [h1], h2⟩
      · refine .inr ⟨fun e he => ?_, h2⟩
        rcases List.mem_append.1 he with h3 | h3
        · exact h1 e h3
        · have : (c, e) = x := by simpa using h3
          exact hx (by rw [← this])
theorem toldZ_field {S : Nat → List Nat} {s N : Nat} {xs : List (Nat × Nat)} (h : AllCome S s N xs) : IsField S s N (toldZ N xs) := by
  refine ⟨toldZ_len _ _, fun c hc => ?_⟩
  rcases toldZ_at N xs c hc with ⟨e, h1, h2⟩ | ⟨h1, h2⟩
  · exact .inl ⟨e, h2, (h.1.at h1).2.2⟩
  · refine .inr ⟨h2, fun n hn => ?_⟩
    obtain ⟨k, _, hk⟩ := hn.far
    exact h1 k (h.2 c k hk)

set_option maxRecDepth 100000 in
set_option maxHeartbeats 400000 in
theorem field_no (W H to : Int) (s : ByteArray) (a : Option Addr) (n c : Nat) (w : World) (hs : s.size ≤ maxLen) (hf : floorS (bytesOf s) to = false) :
    Calls Try.prog 38 #[gridV W H s, .int .i64 to, .slice a n c] w fun e w' => e = .returned (.tuple #[.slice none 0 0, .int .i64 1]) ∧ Below w.heap.size w w' := by
  have hfl := fun w => floor_any W H to s w hs
  rw [hf] at hfl
  have HFL := Lib.hid hfl
  have hB : Below w.heap.size w (w.alloc (gridO W H s)) := (Below.refl _ _).alloc (Nat.le_refl _) _
  clear hfl hf
  unfold maxLen at hs
  go_enter Try.func38, Try.ntmps38
  go_wp2_with fail
  refine (HFL.out _).mono ?_
  rintro e w1 ⟨rfl, hb⟩
  have hb2 := hB.trans (hb.mono hB.size)
  go_wp2
  go_ret2
  exact ⟨rfl, hb2⟩

set_option maxRecDepth 100000 in
set_option maxHeartbeats 2000000 in
theorem field_yes (W H : Int) (to : Nat) (s : ByteArray) (bl : List Int) (a : Option Addr) (n c B : Nat) (w : World) (h : Okay W H s) (hf : floorS (bytesOf s) to = true) (hr : RowZ .i64 w B a n c bl) (hB : B ≤ w.heap.size) (hw : ∀ z ∈ bl, (Lit.int .i64 z).wf = true) (hn : n ≤ 1000000) :
    Calls Try.prog 38 #[gridV W H s, .int .i64 (to : Nat), .slice a n c] w fun e w' =>
      ∃ lb l, e = .returned (.tuple #[.slice (some ⟨lb, 0, none⟩) s.size s.size, .int .i64 0]) ∧ IsField (stepsS W H (bytesOf s) bl) to s.size l ∧ NumsZ w' w.heap.size lb l ∧ Below w.heap.size w w' := by
  have hle := h.le
  have hto := floorS_in hf
  rw [bytesOf_len] at hto
  have hfl := fun w => floor_any W H to s w (by unfold maxLen; omega)
  rw [hf] at hfl
  have HFL := Lib.hid hfl
  have HOK := Lib.hid h
  have hgb0 := gridAt_new w W H s
  have hBg : Below w.heap.size w (w.alloc (gridO W H s)) := (Below.refl _ _).alloc (Nat.le_refl _) _
  have hr0 : RowZ .i64 (w.alloc (gridO W H s)) B a n c bl := hr.keep (fun p hp => World.cell?_alloc_lt w _ p (by omega))
  have hz0 : (w.alloc (gridO W H s)).heap.size = w.heap.size + 1 := by simp
  have HW := Lib.hid hw
  clear hfl hf hr h hw
  refine (callsIn_wide (n := 9)).1 ?_
  refine callsIn_of_wp_marks Try.func38 rfl trivial ?_ rfl
  simp only [Try.ntmps38, List.size_toArray, List.length_cons, List.length_nil, Nat.reduceAdd, Nat.reduceSub, Array.replicate_succ, Array.replicate_zero, List.push_toArray, List.append_toArray, List.nil_append, List.cons_append]
  gi_wp2_with fail
  refine ⟨trivial, (callsIn_wide.2 (HFL.out _)).mono ?_⟩
  rintro e w1 ⟨rfl, hb1⟩
  have hg1 := hgb0.below (B := w.heap.size + 1) (hb1.mono (by simp)) (by omega)
  have hr1 : RowZ .i64 w1 B a n c bl := hr0.below (hb1.mono (by simp; omega))
  have hB1 := hBg.trans (hb1.mono (by simp))
  have hz1 : w.heap.size < w1.heap.size := by have := hb1.size; simp at this; omega
  have hmk := make_ints w1 s.size (by omega)
  have hnz := numsZ_made w1 s.size (by omega)
  have hbm : Below w1.heap.size w1 (w1.alloc (.cells ⟨intsZ (List.replicate s.size 0)⟩ 3)) := (Below.refl _ _).alloc (Nat.le_refl _) _
  have hz2 : (w1.alloc (.cells ⟨intsZ (List.replicate s.size 0)⟩ 3)).heap.size = w1.heap.size + 1 := by simp
  generalize w1.alloc (.cells ⟨intsZ (List.replicate s.size 0)⟩ 3) = w2 at hmk hnz hbm hz2
  obtain ⟨g1, g2, g3⟩ := id hg1
  have HNZ := Lib.hid hnz
  have HG1 := Lib.hid hg1
  have HR1 := Lib.hid hr1
  clear hgb0 hBg hr0 hz0 hnz hg1 hr1 hb1 g1 g2
  gi_wp2_with fail
  gi_loopg [22] s.size (fun k vi wr => ∃ i : Nat, vi = .int .i64 i ∧ i + k = s.size ∧ NumsZ wr w1.heap.size w1.heap.size (fillZ s.size i) ∧ wr.cell? ⟨w1.heap.size + 1, 0, none⟩ = some (.slice (some ⟨w1.heap.size, 0, none⟩) s.size s.size) ∧ Below w1.heap.size w1 wr ∧ w1.heap.size + 1 < wr.heap.size)
  case atStart =>
    exact ⟨0, rfl, by omega, by rw [fillZ_start]; exact HNZ.out.alloc _, cell_top _ _ _ (by omega), hbm.alloc (by omega) _, by simp; omega⟩
  case round =>
    obtain ⟨i, rfl, hik, hnz, hcl, hbel, hsz⟩ := hrel
    have HNZ := Lib.hid hnz
    by_cases hi : i < s.size
    · have q1 := hnz.cell (i := i) (by rw [fillZ_len]; exact hi)
      have q2 := hnz.frozen i
      clear hnz
      gi_wp2_with fail
      gi_roundg (gk - 1)
      case measure => omega
      case rel =>
        refine ⟨i + 1, by go_num, by omega, ?_, ?_, hbel.setCell (p := ⟨w1.heap.size, i, none⟩) (Nat.le_refl _) _, by simp [World.setCell]; omega⟩
        · rw [← fillZ_set]; exact HNZ.out.set i (-1)
        · rw [← hcl]; exact World.cell?_of_block (Below.heap_setCell _ _ _ _ (by simp))
    · obtain rfl : i = s.size := by omega
      clear hnz
      have hg2 := HG1.out.below hbel hz1
      have hr2 := HR1.out.below (hbel.mono (by omega))
      have hB2 := hB1.trans (hbel.mono (by omega))
      have HLT := Lib.hid (leadingTo_any W H s bl to B a n c wr (by omega) hr2 (by have := hB2.size; omega) HW.out hn)
      obtain ⟨g1, g2, g3⟩ := id hg2
      have HNZ2 := Lib.hid (fillZ_end s.size ▸ HNZ.out)
      clear HNZ hr2 hg2 HG1 HR1 hi
      gi_wp2_with fail
      refine ⟨trivial, (callsIn_wide.2 HLT.out).mono ?_⟩
      rintro e w3 ⟨c0, c1, c2, gb, cb, mb, m, rfl, hM, hb3⟩
      have hB3 := hB2.trans (hb3.mono (by have := hB2.size; omega))
      have HNZ3 := Lib.hid (HNZ2.out.below hb3 (by omega))
      have hcl3 := (hb3.cell (p := ⟨w1.heap.size + 1, 0, none⟩) hsz).trans hcl
      have HOF := Lib.hid (lead_offers 8 (by omega) HOK.out (by omega) hM)
      have HB3 := Lib.hid hB3
      clear HLT g1 g2 g3 HNZ2 hcl
      gi_wp2_with fail
      have hs3 := hb3.size
      have hcl4 : Hid (w3.cell? ⟨w1.heap.size + 1, 0, none⟩ = some (.slice (some ⟨w1.heap.size, 0, none⟩) s.size s.size)) := hcl3
      clear hcl3 hB3
      refine rounds_set rfl (by omega) (gf := 53) (lb := #[.pointer (some ⟨c0, 0, none⟩), .pointer (some ⟨c1, 0, none⟩), .pointer (some ⟨c2, 0, none⟩)]) rfl trivial (by intro args w; rfl) HOF.out hs3 (fun _ => rfl)
        (fun pre V => NumsZ V w1.heap.size w1.heap.size (toldZ s.size pre) ∧ V.cell? ⟨w1.heap.size + 1, 0, none⟩ = some (.slice (some ⟨w1.heap.size, 0, none⟩) s.size s.size) ∧ Below w.heap.size w V)
        (fun _ _ _ => False)
        (fun pre A A' h hb => ⟨h.1.below hb (by omega), (hb.cell (p := ⟨w1.heap.size + 1, 0, none⟩) (show w1.heap.size + 1 < w3.heap.size by omega)).trans h.2.1, h.2.2.trans (hb.mono (by omega))⟩)
        (fun _ _ _ _ h _ => h) ⟨HNZ3.out, hcl4.out, HB3.out⟩
        (fun x => [(33, .int .i64 (x.1 : Nat)), (34, .int .i64 (x.2 : Nat)), (10, .int .i64 (x.1 : Nat)), (11, .int .i64 (x.2 : Nat))]) ?assign ?body ?done ?stop
      case assign =>
        intro l x V K hK
        simp only [setAll, List.setIfInBounds_toArray, List.set_cons_succ, List.set_cons_zero] at hK
        simp only [pairV]
        gi_wp2
        exact hK
      case body =>
        rintro l pre ⟨x, d⟩ V ⟨hnz, hcl, hbel'⟩ hok
        obtain ⟨hx, hd, _⟩ := hok.last
        simp only [] at hx hd
        have q1 := hnz.cell (i := x) (by rw [toldZ_len]; exact hx)
        have q2 := hnz.frozen x
        have HNZ := Lib.hid hnz
        clear hnz hok
        simp only [setAll, List.setIfInBounds_toArray, List.set_cons_succ, List.set_cons_zero]
        gi_wp2
        refine ⟨(Tame.refl _ V).setCell (p := ⟨w1.heap.size, x, none⟩) (show w1.heap.size < wr.heap.size by omega) _, ?_, ?_, hbel'.setCell (p := ⟨w1.heap.size, x, none⟩) (show w.heap.size ≤ w1.heap.size by omega) _⟩
        · rw [toldZ_snoc]; exact HNZ.out.set x (d : Int)
        · rw [← hcl]; exact World.cell?_of_block (Below.heap_setCell _ _ _ _ (by simp))
      case done =>
        rintro D xs V hD hS ⟨hnz, hcl, hbel'⟩ hK
        gi_wp2
        refine ⟨by simp, .inl ⟨_, _, rfl, run_takeDeferred hK, ?_⟩⟩
        exact ⟨_, results_tmp2 rfl _ _ _, w1.heap.size, _, rfl, toldZ_field hS, (hnz.below (below_put hD V) (by omega)).mono (by omega), hbel'.trans (below_put (by omega) V)⟩
      case stop =>
        rintro D c pre V hD hSp h _
        exact h.elim
end Go.Proofs.Ytopgboepkckkjaa.Vm

namespace Go.Proofs.Ytopgboepkckkjaa.Vm
open Go Go.RowKit Go.Maps Go.Shelf
attribute [local go_sem] Oper.semAt_some

theorem farG_no1 {W H : Int} {l : List Nat} {bl : List Int} {a b : Int} (h : floorS l a = false) : farG W H l bl a b = -1 := by unfold farG; rw [if_neg (by rw [h]; simp)]
theorem farG_no2 {W H : Int} {l : List Nat} {bl : List Int} {a b : Int} (h : floorS l b = false) : farG W H l bl a b = -1 := by unfold farG; rw [if_neg (by rw [h]; simp)]
theorem farG_yes {W H : Int} {l : List Nat} {bl : List Int} {a b : Nat} (h1 : floorS l a = true) (h2 : floorS l b = true) : farG W H l bl a b = farI (stepsS W H l bl) b a := by unfold farG; rw [if_pos ⟨h1, h2⟩]; simp
theorem ret_int {a b : Int} (h : a = b) : Ending.returned (.int .i64 a) = .returned (.int .i64 b) := by rw [h]

/-- What Far hands back. -/
def FarPost (w : World) (W H : Int) (s : ByteArray) (bl : List Int) (a b : Int) (e : Ending) (w' : World) : Prop := e = .returned (.int .i64 (farG W H (bytesOf s) bl a b)) ∧ Below w.heap.size w w'

/-- Where Far begins: three boxes. -/
theorem far_head (W H fr : Int) (s : ByteArray) (w : World) : ∃ w3, w3 = ((w.alloc (gridO W H s)).alloc (.cells #[.int .i64 fr] 3)).alloc (.cells #[.int .i64 0] 3) ∧ Below w.heap.size w w3 ∧ w3.heap.size = w.heap.size + 3 ∧
    GridAt w3 w.heap.size W H s ∧ w3.cell? ⟨w.heap.size + 1, 0, none⟩ = some (.int .i64 fr) ∧ w3.cell? ⟨w.heap.size + 1 + 1, 0, none⟩ = some (.int .i64 0) ∧ w3.frozen? ⟨w.heap.size + 1 + 1, 0, none⟩ = false := by
  have h1 : Below w.heap.size w (w.alloc (gridO W H s)) := (Below.refl _ _).alloc (Nat.le_refl _) _
  have z1 : (w.alloc (gridO W H s)).heap.size = w.heap.size + 1 := by simp
  have g1 := gridAt_new w W H s
  generalize w.alloc (gridO W H s) = u1 at h1 z1 g1
  have h2 : Below u1.heap.size u1 (u1.alloc (.cells #[.int .i64 fr] 3)) := (Below.refl _ _).alloc (Nat.le_refl _) _
  have z2 : (u1.alloc (.cells #[.int .i64 fr] 3)).heap.size = w.heap.size + 2 := by simp [z1]
  have c2 : (u1.alloc (.cells #[.int .i64 fr] 3)).cell? ⟨w.heap.size + 1, 0, none⟩ = some (.int .i64 fr) := cell_top _ _ _ z1.symm
  generalize u1.alloc (.cells #[.int .i64 fr] 3) = u2 at h2 z2 c2
  have h3 : Below u2.heap.size u2 (u2.alloc (.cells #[.int .i64 0] 3)) := (Below.refl _ _).alloc (Nat.le_refl _) _
  have g2 := g1.below h2 (by omega)
  refine ⟨_, rfl, (h1.trans (h2.mono (by omega))).trans (h3.mono (by omega)), by simp [z2], g2.below h3 (by omega), cell_low c2 _, cell_top _ _ _ z2.symm, free_top _ _ _ z2.symm⟩


end Go.Proofs.Ytopgboepkckkjaa.Vm
