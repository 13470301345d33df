/- The contract of dist.Nearest. The contract of dist.Nearest, whatever the cell. -/
import Derived.Test.YtiejinphofkjaaaLeadMath
import Derived.Test.YtiejinphofkjaaaFars
namespace Go.Proofs.Ytiejinphofkjaaa.Vm
open Go Go.RowKit Go.Maps Go.Shelf
attribute [local go_sem] Oper.semAt_some

/-- What Nearest hands back. -/
noncomputable def nearG (W H : Int) (l : List Nat) (bl of : List Int) (fr : Int) : Int × Int := nearS (fun x => farG W H l bl fr x) of
theorem nearS_none {d : Int → Int} : ∀ of : List Int, (∀ x, d x = -1) → nearS d of = (-1, -1) := by
  intro of h
  refine IsNear.only (nearS_is d of) (.inl ⟨rfl, fun x _ => by rw [h x]; omega⟩)
theorem nearG_no {W H : Int} {l : List Nat} {bl of : List Int} {fr : Int} (h : floorS l fr = false) : nearG W H l bl of fr = (-1, -1) := nearS_none of fun _ => farG_no1 h
theorem ret_ii {R : Int × Int} {a b : Int} (h : (a, b) = R) : Ending.returned (.tuple #[.int .i64 a, .int .i64 b]) = .returned (.tuple #[.int .i64 R.1, .int .i64 R.2]) := by rw [← h]

def NearPost (w : World) (W H : Int) (s : ByteArray) (bl of : List Int) (fr : Int) (e : Ending) (w' : World) : Prop :=
  e = .returned (.tuple #[.int .i64 (nearG W H (bytesOf s) bl of fr).1, .int .i64 (nearG W H (bytesOf s) bl of fr).2]) ∧ Below w.heap.size w w'

set_option maxRecDepth 100000 in
set_option maxHeartbeats 400000 in
theorem nearest_no (W H fr : Int) (s : ByteArray) (bl of : List Int) (a a' : Option Addr) (n c n' c' : Nat) (w : World) (hs : s.size ≤ maxLen) (hf : floorS (bytesOf s) fr = false) :
    Calls Try.prog 53 #[gridV W H s, .int .i64 fr, .slice a' n' c', .slice a n c] w (NearPost w W H s bl of fr) := by
  have hfl := fun w => floor_any W H fr s w hs
  have HE := Lib.hid (nearG_no (W := W) (H := H) (bl := bl) (of := of) hf)
  rw [hf] at hfl
  have HFL := Lib.hid hfl
  have hB : Below w.heap.size w (w.alloc (gridO W H s)) := (Below.refl _ _).alloc (Nat.le_refl _) _
  clear hfl hf
  unfold maxLen at hs
  go_enter Try.func53, Try.ntmps53
  go_wp2_with fail
  refine (HFL.out _).mono ?_
  rintro e w1 ⟨rfl, hb⟩
  have hb2 := hB.trans (hb.mono hB.size)
  go_wp2_with fail
  go_ret2
  exact ⟨ret_ii HE.out.symm, hb2⟩

/-- What the loop of Nearest holds: the best and the least so far; the set of those that are wanted. -/
structure Hunt (b1 b2 bx mb m : Nat) (of : List Int) (R : Int × Int) (V : World) : Prop where
  k1 : V.cell? ⟨b1, 0, none⟩ = some (.int .i64 R.1)
  f1 : V.frozen? ⟨b1, 0, none⟩ = false
  k2 : V.cell? ⟨b2, 0, none⟩ = some (.int .i64 R.2)
  f2 : V.frozen? ⟨b2, 0, none⟩ = false
  k3 : V.cell? ⟨bx, 0, none⟩ = some (.map (some mb))
  k4 : ShutIn V mb m of
section
variable {b1 b2 bx mb m B : Nat} {of : List Int} {R : Int × Int} {V V' : World}
theorem Hunt.below (h : Hunt b1 b2 bx mb m of R V) (hb : Below B V V') (h1 : b1 < B) (h2 : b2 < B) (h3 : bx < B) (h4 : mb < B) : Hunt b1 b2 bx mb m of R V' :=
  ⟨(hb.cell (p := ⟨b1, 0, none⟩) h1).trans h.k1, (hb.frozen (p := ⟨b1, 0, none⟩) h1).trans h.f1, (hb.cell (p := ⟨b2, 0, none⟩) h2).trans h.k2, (hb.frozen (p := ⟨b2, 0, none⟩) h2).trans h.f2,
   (hb.cell (p := ⟨bx, 0, none⟩) h3).trans h.k3, h.k4.keep (hb.block mb h4)⟩
theorem Hunt.put (h : Hunt b1 b2 bx mb m of R V) (h12 : b1 ≠ b2) (h13 : b1 ≠ bx) (h23 : b2 ≠ bx) (h14 : mb ≠ b1) (h24 : mb ≠ b2) (x y : Int) :
    Hunt b1 b2 bx mb m of (x, y) ((V.setCell ⟨b1, 0, none⟩ (.int .i64 x)).setCell ⟨b2, 0, none⟩ (.int .i64 y)) := by
  have e1 : ∀ (W : World) (p : Nat) (v : Value) (k : Nat), k ≠ p → (W.setCell ⟨p, 0, none⟩ v).heap[k]? = W.heap[k]? := fun W p v k hk => Below.heap_setCell W _ v k hk
  refine ⟨?_, ?_, ?_, ?_, ?_, ?_⟩
  · exact (World.cell?_of_block (e1 _ _ _ _ h12)).trans (World.cell?_setCell_same' _ _ _ (by rw [h.k1]; rfl))
  · rw [World.frozen?_setCell, World.frozen?_setCell]; exact h.f1
  · exact World.cell?_setCell_same' _ _ _ (by rw [World.cell?_of_block (e1 _ _ _ _ (Ne.symm h12)), h.k2]; rfl)
  · rw [World.frozen?_setCell, World.frozen?_setCell]; exact h.f2
  · exact (World.cell?_of_block (e1 _ _ _ _ (Ne.symm h23))).trans ((World.cell?_of_block (e1 _ _ _ _ (Ne.symm h13))).trans h.k3)
  · exact h.k4.keep ((e1 _ _ _ _ h24).trans (e1 _ _ _ _ h14))
end

/-- Where the loop of Nearest begins: three boxes. -/
theorem near_head (w : World) (mb m : Nat) (of : List Int) (hm : ShutIn w mb m of) : ∃ w5, w5 = ((w.alloc (.cells #[.map (some mb)] 107)).alloc (.cells #[.int .i64 (-1)] 3)).alloc (.cells #[.int .i64 (-1)] 3) ∧ Below w.heap.size w w5 ∧ w5.heap.size = w.heap.size + 3 ∧
    Hunt (w.heap.size + 1) (w.heap.size + 1 + 1) w.heap.size mb m of (-1, -1) w5 := by
  have h1 : Below w.heap.size w (w.alloc (.cells #[.map (some mb)] 107)) := (Below.refl _ _).alloc (Nat.le_refl _) _
  have z1 : (w.alloc (.cells #[.map (some mb)] 107)).heap.size = w.heap.size + 1 := by simp
  have c1 : (w.alloc (.cells #[.map (some mb)] 107)).cell? ⟨w.heap.size, 0, none⟩ = some (.map (some mb)) := cell_top _ _ _ rfl
  generalize w.alloc (.cells #[.map (some mb)] 107) = u1 at h1 z1 c1
  have h2 : Below u1.heap.size u1 (u1.alloc (.cells #[.int .i64 (-1)] 3)) := (Below.refl _ _).alloc (Nat.le_refl _) _
  have z2 : (u1.alloc (.cells #[.int .i64 (-1)] 3)).heap.size = w.heap.size + 2 := by simp [z1]
  have c2 : (u1.alloc (.cells #[.int .i64 (-1)] 3)).cell? ⟨w.heap.size + 1, 0, none⟩ = some (.int .i64 (-1)) := cell_top _ _ _ z1.symm
  have f2 : (u1.alloc (.cells #[.int .i64 (-1)] 3)).frozen? ⟨w.heap.size + 1, 0, none⟩ = false := free_top _ _ _ z1.symm
  generalize u1.alloc (.cells #[.int .i64 (-1)] 3) = u2 at h2 z2 c2 f2
  have h3 : Below u2.heap.size u2 (u2.alloc (.cells #[.int .i64 (-1)] 3)) := (Below.refl _ _).alloc (Nat.le_refl _) _
  have h4 := (h1.trans (h2.mono (by omega))).trans (h3.mono (by omega))
  refine ⟨_, rfl, h4, by simp [z2], ⟨cell_low c2 _, (h3.frozen (p := ⟨w.heap.size + 1, 0, none⟩) (show w.heap.size + 1 < u2.heap.size by omega)).trans f2, cell_top _ _ _ z2.symm, free_top _ _ _ z2.symm, cell_low ((h2.cell (p := ⟨w.heap.size, 0, none⟩) (show w.heap.size < u1.heap.size by omega)).trans c1) _, hm.keep (h4.block mb hm.lt)⟩⟩

set_option maxRecDepth 100000 in
set_option maxHeartbeats 2000000 in
theorem nearest_yes (W H : Int) (fr : Nat) (s : ByteArray) (bl of : List Int) (a a' : Option Addr) (n c n' c' B : Nat) (w : World) (h : Okay W H s) (hf : floorS (bytesOf s) fr = true)
    (hr : RowZ .i64 w B a n c bl) (hr' : RowZ .i64 w B a' n' c' of) (hB : B ≤ w.heap.size) (hw : ∀ z ∈ bl, (Lit.int .i64 z).wf = true) (hw' : ∀ z ∈ of, (Lit.int .i64 z).wf = true) (hn : n ≤ 1000000) (hn' : n' ≤ 1000000) :
    Calls Try.prog 53 #[gridV W H s, .int .i64 (fr : Nat), .slice a' n' c', .slice a n c] w (NearPost w W H s bl of fr) := by
  have hle := h.le
  have hfr := floorS_in hf
  rw [bytesOf_len] at hfr
  have HT := Lib.hid (tells_from (W := W) (H := H) (bl := bl) hf)
  have hfl := fun w => floor_any W H fr s w (by unfold maxLen; omega)
  rw [hf] at hfl
  have HFL := Lib.hid hfl
  have HOK := Lib.hid h
  have hgb0 := gridAt_new w W H s
  have hBg : Below w.heap.size w (w.alloc (gridO W H s)) := (Below.refl _ _).alloc (Nat.le_refl _) _
  have hz0 : (w.alloc (gridO W H s)).heap.size = w.heap.size + 1 := by simp
  have HW := Lib.hid hw
  have HW' := Lib.hid hw'
  have HR := Lib.hid hr
  have HR' := Lib.hid hr'
  clear hfl hf hr hr' h hw hw'
  refine (callsIn_wide (n := 9)).1 ?_
  refine callsIn_of_wp_marks Try.func53 rfl trivial ?_ rfl
  simp only [Try.ntmps53, List.size_toArray, List.length_cons, List.length_nil, Nat.reduceAdd, Nat.reduceSub, Array.replicate_succ, Array.replicate_zero, List.push_toArray, List.append_toArray, List.nil_append, List.cons_append]
  gi_wp2_with fail
  refine ⟨trivial, (callsIn_wide.2 (HFL.out _)).mono ?_⟩
  rintro e w1 ⟨rfl, hb⟩
  have hg1 := hgb0.below (B := w.heap.size + 1) (hb.mono (by simp)) (by omega)
  have hB1 := hBg.trans (hb.mono (by simp))
  have hz1 : w.heap.size < w1.heap.size := by have := hb.size; simp at this; omega
  have HS := Lib.hid (setOf_any a' n' c' B of w1 (HR'.out.below (hB1.mono hB)) (by omega) HW'.out hn')
  clear hgb0 hBg hz0 hb
  gi_wp2_with fail
  refine ⟨trivial, (callsIn_wide.2 HS.out).mono ?_⟩
  rintro e w2 ⟨rfl, hm2, hb2⟩
  have hB2 := hB1.trans (hb2.mono hB1.size)
  have hg2 := hg1.below hb2 hz1
  have hz2 : w1.heap.size < w2.heap.size := hm2.lt
  have HM2 := Lib.hid hm2
  have HG2 := Lib.hid hg2
  clear hg1 hb2 hm2 HS hg2
  obtain ⟨w5, hw5, hb5, hz5, hH5⟩ := near_head w2 w1.heap.size n' of HM2.out
  have hB5 := hB2.trans (hb5.mono hB2.size)
  obtain ⟨g1, g2, g3⟩ := HG2.out.below hb5 (by omega)
  have HRF := Lib.hid fun w' (h : Below w.heap.size w w') => reachedFrom_any W H s bl fr B a n c w' (by omega) (HR.out.below (h.mono hB)) (by have := h.size; omega) HW.out hn
  have HW5 := Lib.hid hw5
  have HH5 := Lib.hid hH5
  rw [hw5] at g1 g2 g3
  clear hw5 hH5 HM2 HG2 HR HR' HW HW'
  gi_wp2_with fail
  rw [← HW5.out]
  refine ⟨trivial, (callsIn_wide.2 (HRF.out _ hB5)).mono ?_⟩
  rintro e w6 ⟨c0, c1, c2, gb, cb, mb, m, rfl, hM, hb6⟩
  have hB6 := hB5.trans (hb6.mono hB5.size)
  have hs6 := hb6.size
  have HH6 := Lib.hid (HH5.out.below hb6 (by omega) (by omega) (by omega) (by omega))
  have HOF := Lib.hid (from_offers 8 (by omega) HOK.out (by omega) hM)
  clear HH5 HRF g1 g2 g3 hb6 HW5
  gi_wp2_with fail
  refine rounds_set rfl (by omega) (gf := 72) (lb := #[.pointer (some ⟨c0, 0, none⟩), .pointer (some ⟨c1, 0, none⟩), .pointer (some ⟨c2, 0, none⟩)]) rfl trivial (by intro args w; rfl) HOF.out hs6 (fun _ => rfl)
    (fun pre V => ∃ R, Hunt (w2.heap.size + 1) (w2.heap.size + 1 + 1) w2.heap.size w1.heap.size n' of R V ∧ NearP of pre R ∧ Below w.heap.size w V)
    (fun cd pre V => cd = .exit 0 ∧ ∃ R, Hunt (w2.heap.size + 1) (w2.heap.size + 1 + 1) w2.heap.size w1.heap.size n' of R V ∧ R = nearG W H (bytesOf s) bl of fr ∧ Below w.heap.size w V)
    (fun pre A A' ⟨R, h, h1, h2⟩ hb => ⟨R, h.below hb (by omega) (by omega) (by omega) (by omega), h1, h2.trans (hb.mono (by omega))⟩)
    (fun cd pre A A' ⟨h0, R, h, h1, h2⟩ hb => ⟨h0, R, h.below hb (by omega) (by omega) (by omega) (by omega), h1, h2.trans (hb.mono (by omega))⟩)
    ⟨_, HH6.out, .nil, hB6⟩
    (fun x => [(25, .int .i64 (x.1 : Nat)), (26, .int .i64 (x.2 : Nat)), (13, .int .i64 (x.1 : Nat)), (14, .int .i64 (x.2 : Nat))]) ?assign ?body ?done ?stop
  case assign =>
    intro l x V K hK
    simp only [setAll, List.setIfInBounds_toArray, List.set_cons_succ, List.set_cons_zero] at hK
    simp only [pairV]
    gi_wp2
    exact hK
  case body =>
    rintro l pre ⟨x, d⟩ V ⟨R, hh, hn, hbel⟩ hok
    have hgd := hok.last
    have hx := hgd.1
    have hd := hgd.2.1
    simp only [] at hx hd
    have hbg : Begun (backS' W H (bytesOf s) bl) fr s.size pre := fun p y q he => hok p y (q ++ [(x, d)]) (by rw [he]; simp)
    have HGD := Lib.hid hgd
    have HBG := Lib.hid hbg
    have hwf : (Lit.int .i64 (x : Nat)).wf = true := WalkArith.wf_i64 (by omega)
    have HHAS := Lib.hid fun V (h : ShutIn V w1.heap.size n' of) => has_any w1.heap.size n' of x V h hwf
    have hsz := hbel.size
    have hV : w2.heap.size + 1 + 1 < V.heap.size := World.block_lt_of_cell? V ⟨w2.heap.size + 1 + 1, 0, none⟩ hh.k2
    simp only [setAll, List.setIfInBounds_toArray, List.set_cons_succ, List.set_cons_zero]
    clear hok hgd hbg hwf
    rcases hn.form with rfl | ⟨b', n1, rfl⟩
    · obtain ⟨k1, f1, k2, f2, k3, k4⟩ := id hh
      simp only [] at k1 k2
      have HN := Lib.hid hn
      have HHH := Lib.hid hh
      have hhas := HHAS.out V k4
      by_cases hxo : (x : Int) ∈ of
      · rw [decide_eq_true hxo] at hhas
        have HC := Lib.hid hhas
        have HXO := Lib.hid hxo
        clear hn hh hhas hxo k4
        gi_wp2_with fail
        refine ⟨trivial, (CallsIn.inRound l (callsIn_wide.2 HC.out)).mono ?_⟩
        rintro e V1 ⟨rfl, hv⟩
        have hh1 := HHH.out.below hv (by omega) (by omega) (by omega) (by omega)
        have ht1 : Tame w5.heap.size V V1 := .of_below hv
        have hbel1 := hbel.trans (hv.mono (by omega))
        obtain ⟨k1, f1, k2, f2, k3, k4⟩ := id hh1
        simp only [] at k1 k2
        have HH1 := Lib.hid (hh1.put (by omega) (by omega) (by omega) (by omega) (by omega) x d)
        have q1 : (V1.setCell ⟨w2.heap.size + 1, 0, none⟩ (.int .i64 (x : Nat))).cell? ⟨w2.heap.size + 1 + 1, 0, none⟩ = some (.int .i64 (-1)) := (World.cell?_of_block (Below.heap_setCell V1 _ _ _ (by simp))).trans k2
        clear hh1 k4 hv HC HHH
        gi_wp2_with fail
        exact ⟨(ht1.setCell (p := ⟨w2.heap.size + 1, 0, none⟩) (show w2.heap.size + 1 < w5.heap.size by omega) _).setCell (p := ⟨w2.heap.size + 1 + 1, 0, none⟩) (show w2.heap.size + 1 + 1 < w5.heap.size by omega) _, _, HH1.out, HN.out.first HXO.out,
          (hbel1.setCell (p := ⟨w2.heap.size + 1, 0, none⟩) (show w.heap.size ≤ w2.heap.size + 1 by omega) _).setCell (p := ⟨w2.heap.size + 1 + 1, 0, none⟩) (show w.heap.size ≤ w2.heap.size + 1 + 1 by omega) _⟩
      · rw [decide_eq_false hxo] at hhas
        have HC := Lib.hid hhas
        have HXO := Lib.hid hxo
        clear hn hh hhas hxo k4
        gi_wp2_with fail
        refine ⟨trivial, (CallsIn.inRound l (callsIn_wide.2 HC.out)).mono ?_⟩
        rintro e V1 ⟨rfl, hv⟩
        have hh1 := HHH.out.below hv (by omega) (by omega) (by omega) (by omega)
        have ht1 : Tame w5.heap.size V V1 := .of_below hv
        have hbel1 := hbel.trans (hv.mono (by omega))
        have HH1 := Lib.hid hh1
        clear hh1 hv HC HHH
        gi_wp2_with fail
        exact ⟨ht1, _, HH1.out, HN.out.not HXO.out, hbel1⟩
    · obtain ⟨k1, f1, k2, f2, k3, k4⟩ := id hh
      simp only [] at k1 k2
      have HN := Lib.hid hn
      have HHH := Lib.hid hh
      have hhas := HHAS.out V k4
      have e1 : ((b' : Int) != -1) = true := by rw [bne_iff_ne]; omega
      have e2 : ((b' : Int) == -1) = false := by rw [beq_eq_false_iff_ne]; omega
      by_cases hbr : n1 < d
      · have HBR := Lib.hid (HN.out.broken HT.out HBG.out HGD.out hbr)
        have e3 : decide (n1 < d) = true := by simpa using hbr
        clear hn hh hhas k4
        gi_wp2_with fail
        exact ⟨Tame.refl _ _, rfl, _, HHH.out, HBR.out, hbel⟩
      have hle1 : d ≤ n1 := by omega
      have e3 : decide (n1 < d) = false := by simpa using hle1
      have HLE := Lib.hid hle1
      clear hle1
      by_cases hxo : (x : Int) ∈ of
      · rw [decide_eq_true hxo] at hhas
        have HC := Lib.hid hhas
        have HXO := Lib.hid hxo
        clear hn hh hhas hxo k4
        by_cases hlt : x < b'
        · have e4 : decide (x < b') = true := by simpa using hlt
          have HN2 := Lib.hid (HN.out.less HBG.out HGD.out HXO.out HLE.out hlt)
          gi_wp2_with fail
          refine ⟨trivial, (CallsIn.inRound l (callsIn_wide.2 HC.out)).mono ?_⟩
          rintro e V1 ⟨rfl, hv⟩
          have hh1 := HHH.out.below hv (by omega) (by omega) (by omega) (by omega)
          have ht1 : Tame w5.heap.size V V1 := .of_below hv
          have hbel1 := hbel.trans (hv.mono (by omega))
          obtain ⟨k1, f1, k2, f2, k3, k4⟩ := id hh1
          simp only [] at k1 k2
          have HH1 := Lib.hid (hh1.put (by omega) (by omega) (by omega) (by omega) (by omega) x d)
          have q1 : (V1.setCell ⟨w2.heap.size + 1, 0, none⟩ (.int .i64 (x : Nat))).cell? ⟨w2.heap.size + 1 + 1, 0, none⟩ = some (.int .i64 n1) := (World.cell?_of_block (Below.heap_setCell V1 _ _ _ (by simp))).trans k2
          clear hh1 k4 hv HC HHH
          gi_wp2_with fail
          exact ⟨(ht1.setCell (p := ⟨w2.heap.size + 1, 0, none⟩) (show w2.heap.size + 1 < w5.heap.size by omega) _).setCell (p := ⟨w2.heap.size + 1 + 1, 0, none⟩) (show w2.heap.size + 1 + 1 < w5.heap.size by omega) _, _, HH1.out, HN2.out,
            (hbel1.setCell (p := ⟨w2.heap.size + 1, 0, none⟩) (show w.heap.size ≤ w2.heap.size + 1 by omega) _).setCell (p := ⟨w2.heap.size + 1 + 1, 0, none⟩) (show w.heap.size ≤ w2.heap.size + 1 + 1 by omega) _⟩
        · have e4 : decide (x < b') = false := by simpa using hlt
          have HN2 := Lib.hid (HN.out.more HBG.out HGD.out HXO.out (by omega))
          gi_wp2_with fail
          refine ⟨trivial, (CallsIn.inRound l (callsIn_wide.2 HC.out)).mono ?_⟩
          rintro e V1 ⟨rfl, hv⟩
          have hh1 := HHH.out.below hv (by omega) (by omega) (by omega) (by omega)
          have ht1 : Tame w5.heap.size V V1 := .of_below hv
          have hbel1 := hbel.trans (hv.mono (by omega))
          obtain ⟨k1, f1, k2, f2, k3, k4⟩ := id hh1
          simp only [] at k1 k2
          have HH1 := Lib.hid hh1
          clear hh1 k4 hv HC HHH
          gi_wp2_with fail
          exact ⟨ht1, _, HH1.out, HN2.out, hbel1⟩
      · rw [decide_eq_false hxo] at hhas
        have HC := Lib.hid hhas
        have HXO := Lib.hid hxo
        clear hn hh hhas hxo k4
        gi_wp2_with fail
        refine ⟨trivial, (CallsIn.inRound l (callsIn_wide.2 HC.out)).mono ?_⟩
        rintro e V1 ⟨rfl, hv⟩
        have hh1 := HHH.out.below hv (by omega) (by omega) (by omega) (by omega)
        have ht1 : Tame w5.heap.size V V1 := .of_below hv
        have hbel1 := hbel.trans (hv.mono (by omega))
        have HH1 := Lib.hid hh1
        clear hh1 hv HC HHH
        gi_wp2_with fail
        exact ⟨ht1, _, HH1.out, HN.out.not HXO.out, hbel1⟩
  case done =>
    rintro D xs V hD hS ⟨R, hh, hn, hbel⟩ hK
    have HE : Hid (R = nearG W H (bytesOf s) bl of fr) := hn.ended HT.out hS
    obtain ⟨k1, f1, k2, f2, k3, k4⟩ := hh
    clear hn hS f1 f2 k3 k4
    gi_wp2
    gi_region
    all_goals
      gi_wp2
      refine ⟨by simp, .inl ⟨_, _, rfl, run_takeDeferred (w := V.drew) hK, ?_⟩⟩
      exact ⟨_, results_tmp2 (t := 8) (u := 9) rfl _ _ _, ret_ii HE.out, hbel.drew.trans (below_put (by omega) _)⟩
  case stop =>
    rintro D cd pre V hD hSp ⟨rfl, R, hh, hR, hbel⟩ hK
    have HE := Lib.hid hR
    obtain ⟨k1, f1, k2, f2, k3, k4⟩ := hh
    clear hR f1 f2 k3 k4
    gi_wp2
    gi_region
    all_goals
      gi_wp2
      refine ⟨by simp, .inl ⟨_, _, rfl, run_takeDeferred (w := V.drew) hK, ?_⟩⟩
      exact ⟨_, results_tmp2 (t := 8) (u := 9) rfl _ _ _, ret_ii HE.out, hbel.drew.trans (below_put (by omega) _)⟩
end Go.Proofs.Ytiejinphofkjaaa.Vm

namespace Go.Proofs.Ytiejinphofkjaaa.Vm
open Go Go.RowKit

theorem nearest_any (W H fr : Int) (s : ByteArray) (bl of : List Int) (a a' : Option Addr) (n c n' c' B : Nat) (w : World) (h : Okay W H s)
    (hr : RowZ .i64 w B a n c bl) (hr' : RowZ .i64 w B a' n' c' of) (hB : B ≤ w.heap.size) (hw : ∀ z ∈ bl, (Lit.int .i64 z).wf = true) (hw' : ∀ z ∈ of, (Lit.int .i64 z).wf = true) (hn : n ≤ 1000000) (hn' : n' ≤ 1000000) :
    Calls Try.prog 53 #[gridV W H s, .int .i64 fr, .slice a' n' c', .slice a n c] w (NearPost w W H s bl of fr) := by
  have hle := h.le
  cases hf : floorS (bytesOf s) fr
  · exact nearest_no W H fr s bl of a a' n c n' c' w (by unfold maxLen; omega) hf
  · obtain ⟨t, rfl⟩ := Int.eq_ofNat_of_zero_le (floorS_in hf).1
    exact nearest_yes W H t s bl of a a' n c n' c' B w h hf hr hr' hB hw hw' hn hn'
end Go.Proofs.Ytiejinphofkjaaa.Vm
