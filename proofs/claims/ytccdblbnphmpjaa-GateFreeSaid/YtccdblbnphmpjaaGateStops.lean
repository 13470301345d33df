/- The contracts of package gate's isStopped, those, followers. -/
import Derived.Test.YtccdblbnphmpjaaGateMaps
import Derived.StillTailTactics
namespace Go.Proofs.Ytccdblbnphmpjaa.Vm
open Go Go.RowKit Go.Maps

/-- The traffic in block b. -/
structure Tr (w : World) (B b m2 m3 m4 : Nat) (a1 : Option Addr) (n c1 : Nat) (a2 : Option Addr) (c2 : Nat) (cells wants blocked now : List Int) : Prop where
  s0 : w.cell? ⟨b, 0, none⟩ = some (.slice a1 n c1)
  s1 : w.cell? ⟨b, 1, none⟩ = some (.slice a2 n c2)
  s2 : w.cell? ⟨b, 2, none⟩ = some (.map (some m2))
  s3 : w.cell? ⟨b, 3, none⟩ = some (.map (some m3))
  s4 : w.cell? ⟨b, 4, none⟩ = some (.map (some m4))
  rc : RowZ .i64 w B a1 n c1 cells
  ow : OwnZ w B (.slice a2 n c2) now
  ln : now.length = n
  sh : ∃ k, ShutIn w m2 k blocked
  mi : ∃ k, MapIn w m3 k (inG cells n)
  mf : ∃ k, MapIn w m4 k (firstG cells wants n)
  hB : B ≤ b
  lt : b < w.heap.size
  ne : ∀ g, a2 = some ⟨g, 0, none⟩ → g ≠ b ∧ g ≠ m2 ∧ g ≠ m3 ∧ g ≠ m4
section
variable {w w' : World} {B b m2 m3 m4 n c1 c2 : Nat} {a1 a2 : Option Addr} {cells wants blocked now : List Int}
theorem Tr.calls (h : Tr w B b m2 m3 m4 a1 n c1 a2 c2 cells wants blocked now) (hb : Below w.heap.size w w') : Tr w' B b m2 m3 m4 a1 n c1 a2 c2 cells wants blocked now := by
  have hl := h.lt
  have hB := h.hB
  refine ⟨(hb.cell (p := ⟨b, 0, none⟩) hl).trans h.s0, (hb.cell (p := ⟨b, 1, none⟩) hl).trans h.s1, (hb.cell (p := ⟨b, 2, none⟩) hl).trans h.s2, (hb.cell (p := ⟨b, 3, none⟩) hl).trans h.s3, (hb.cell (p := ⟨b, 4, none⟩) hl).trans h.s4,
    h.rc.below (hb.mono (by omega)), h.ow.calls hb, h.ln, ?_, ?_, ?_, hB, Nat.lt_of_lt_of_le hl hb.size, h.ne⟩
  · obtain ⟨k, hs⟩ := h.sh; exact ⟨k, hs.keep (hb.block m2 hs.lt)⟩
  · obtain ⟨k, hs⟩ := h.mi; exact ⟨k, hs.keep (hb.block m3 hs.lt)⟩
  · obtain ⟨k, hs⟩ := h.mf; exact ⟨k, hs.keep (hb.block m4 hs.lt)⟩
theorem Tr.want (h : Tr w B b m2 m3 m4 a1 n c1 a2 c2 cells wants blocked now) {i : Nat} (hi : i < n) (z : Int) :
    ∃ g, a2 = some ⟨g, 0, none⟩ ∧ B ≤ g ∧ g < w.heap.size ∧ w.frozen? ⟨g, i, none⟩ = false ∧ w.cell? ⟨g, i, none⟩ = some (.int .i64 (now.getD i 0)) ∧
      Tr (w.setCell ⟨g, i, none⟩ (.int .i64 z)) B b m2 m3 m4 a1 n c1 a2 c2 cells wants blocked (now.set i z) := by
  obtain ⟨g, hg, hbg, hfz, hc, hw⟩ := h.ow.at h.ln hi z
  obtain ⟨n1, n2, n3, n4⟩ := h.ne g hg
  have hB := h.hB
  have hk : ∀ k, k ≠ g → (w.setCell ⟨g, i, none⟩ (.int .i64 z)).heap[k]? = w.heap[k]? := fun k hk => Below.heap_setCell w ⟨g, i, none⟩ _ k hk
  have hcb : ∀ o, (w.setCell ⟨g, i, none⟩ (.int .i64 z)).cell? ⟨b, o, none⟩ = w.cell? ⟨b, o, none⟩ := fun o => World.cell?_of_block (w := w) (hk b (Ne.symm n1))
  refine ⟨g, hg, hbg, World.block_lt_of_cell? w _ hc, hfz, hc, (hcb 0).trans h.s0, (hcb 1).trans h.s1, (hcb 2).trans h.s2, (hcb 3).trans h.s3, (hcb 4).trans h.s4,
    h.rc.below ((Below.refl B w).setCell (p := ⟨g, i, none⟩) hbg _), hw, by rw [List.length_set]; exact h.ln, ?_, ?_, ?_, hB, by simpa [World.setCell] using h.lt, h.ne⟩
  · obtain ⟨k, hs⟩ := h.sh; exact ⟨k, hs.keep (hk m2 (Ne.symm n2))⟩
  · obtain ⟨k, hs⟩ := h.mi; exact ⟨k, hs.keep (hk m3 (Ne.symm n3))⟩
  · obtain ⟨k, hs⟩ := h.mf; exact ⟨k, hs.keep (hk m4 (Ne.symm n4))⟩
end

theorem getD_firstG {cells wants : List Int} {n : Nat} (z : Int) (hn : n ≤ 100000) : ∃ f : Int, (firstG cells wants n z).getD 0 = f := ⟨_, rfl⟩

set_option maxRecDepth 100000 in
set_option maxHeartbeats 1000000 in
theorem isStopped_any (w : World) (B b m2 m3 m4 n c1 c2 : Nat) (a1 a2 : Option Addr) (cells wants blocked now : List Int) (h : Tr w B b m2 m3 m4 a1 n c1 a2 c2 cells wants blocked now) (hw : WfZ now) (hn : n ≤ 100000) (i : Nat) (hi : i < n) :
    Calls Try.prog 22 #[.pointer (some ⟨b, 0, none⟩), .int .i64 (i : Int)] w fun e w' => e = .returned (.bool (stopB cells wants blocked now (i : Int))) ∧ Below w.heap.size w w' := by
  have hlc := h.rc.1
  have hln := h.ln
  have hc1 := h.rc.2.1
  obtain ⟨g, rfl, hbg, hgl, _, hcg, _⟩ := h.want hi 0
  have hc2 : n ≤ c2 := by
    obtain ⟨a', c', e, hr⟩ := h.ow.sliced h.ln
    injection e with _ _ e
    subst e
    exact hr.2.1
  obtain ⟨bc, off, rfl, hbc, hcc⟩ := h.rc.cells (by omega)
  have hci := hcc i hi
  have hwz := hw.at i (by omega)
  have hbl := h.lt
  have hBl := h.hB
  have hbcl : bc < w.heap.size := by omega
  obtain ⟨k2, hsh⟩ := h.sh
  obtain ⟨k3, hmi⟩ := h.mi
  obtain ⟨k4, hmf⟩ := h.mf
  have L2 : ∀ d, (Instr.lookup 36 (.map (some m2)) (.int .i64 (now.getD i 0)) true).run Try.prog (w.drewN d) = .ok (.tuple #[.agg #[], .bool (decide (now.getD i 0 ∈ blocked))]) (w.drewN d) :=
    fun d => ShutIn.look (w := w.drewN d) (hsh.keep rfl) hwz
  have L3 : ∀ d o, (Instr.lookup 32 (.map (some m3)) (.int .i64 (now.getD i 0)) true).run Try.prog ((w.drewN d).alloc o) = .ok (.tuple #[.int .i64 ((inG cells n (now.getD i 0)).getD 0), .bool (inG cells n (now.getD i 0)).isSome]) ((w.drewN d).alloc o) :=
    fun d o => MapIn.look (hmi.keep (Below.heap_alloc (w.drewN d) o m3 hmi.lt)) hwz
  have L4 : ∀ d o, (Instr.lookup 32 (.map (some m4)) (.int .i64 (now.getD i 0)) false).run Try.prog ((w.drewN d).alloc o) = .ok (.int .i64 ((firstG cells wants n (now.getD i 0)).getD 0)) ((w.drewN d).alloc o) :=
    fun d o => MapIn.look1 (hmf.keep (Below.heap_alloc (w.drewN d) o m4 hmf.lt)) hwz
  have hcA : ∀ (d : Nat) (o : Obj) (p : Addr), p.block < w.heap.size → ((w.drewN d).alloc o).cell? p = w.cell? p := fun d o p hp => World.cell?_of_block (w := w) (Below.heap_alloc (w.drewN d) o p.block hp)
  have HCA := Lib.hid hcA
  have S1 : ∀ (d : Nat) (o : Obj), ((w.drewN d).alloc o).cell? ⟨b, 1, none⟩ = some (.slice (some ⟨g, 0, none⟩) n c2) := fun d o => (hcA d o ⟨b, 1, none⟩ hbl).trans h.s1
  have S3 : ∀ (d : Nat) (o : Obj), ((w.drewN d).alloc o).cell? ⟨b, 3, none⟩ = some (.map (some m3)) := fun d o => (hcA d o ⟨b, 3, none⟩ hbl).trans h.s3
  have S4 : ∀ (d : Nat) (o : Obj), ((w.drewN d).alloc o).cell? ⟨b, 4, none⟩ = some (.map (some m4)) := fun d o => (hcA d o ⟨b, 4, none⟩ hbl).trans h.s4
  clear hcA
  have HBD : Hid (∀ d, Below w.heap.size w (w.drewN d)) := fun d => below_drewN (Below.refl _ _) d
  have HBA : Hid (∀ d o, Below w.heap.size w ((w.drewN d).alloc o)) := fun d o => (below_drewN (Below.refl _ _) d).alloc (Nat.le_refl _) o
  have HJ := Lib.hid (fun (j : Nat) (hj : j < n) => (h.want (i := j) hj 0))
  have HIN := Lib.hid (fun (x : Int) (hx : inG cells n (now.getD i 0) = some x) => inG_some hx)
  have HYES := Lib.hid (stopB_yes (cells := cells) (wants := wants) (blocked := blocked) (now := now) (i := i))
  have HNO := Lib.hid (stopB_no (cells := cells) (wants := wants) (blocked := blocked) (now := now) (i := i))
  obtain ⟨s0, s1, s2, s3, s4, _, _, _, _, _, _, _, _, _⟩ := h
  unfold StopP at HYES HNO
  rw [hlc] at HYES HNO
  generalize hF : firstG cells wants n (now.getD i 0) = F at HYES HNO L4
  generalize hI : inG cells n (now.getD i 0) = I at HYES HNO L3 HIN
  generalize hz : now.getD i 0 = z at HYES HNO L2 L3 L4 HIN hcg
  generalize hy : cells.getD i 0 = y at HYES HNO hci
  have HI := Lib.hid hI
  clear hF hI hz hy hcc hsh hmi hmf hwz
  by_cases e1 : z = y
  · have HE : Hid (stopB cells wants blocked now (i : Int) = false) := HNO.out fun hh => hh.1 e1
    have g1 : (z == y) = true := by simpa using e1
    clear L2 L3 L4 e1
    go_enter Try.func22, Try.ntmps22
    go_wp2_with fail
    go_quiet (fail)
    go_wp2_with fail
    go_ret
    exact ⟨ret_bool HE.out.symm, HBD.out _⟩
  have g1 : (z == y) = false := by simpa using e1
  by_cases e2 : z ∈ blocked
  · have HE : Hid (stopB cells wants blocked now (i : Int) = true) := HYES.out ⟨e1, .inl (.inl e2)⟩
    simp only [e2, decide_true] at L2
    clear L3 L4 e1 e2
    go_enter Try.func22, Try.ntmps22
    go_wp2_with fail
    go_quiet (fail)
    go_wp2_with fail
    go_ret
    exact ⟨ret_bool HE.out.symm, HBA.out _ _⟩
  simp only [e2, decide_false] at L2
  by_cases e3 : F.getD 0 ≠ (i : Int)
  · have HE : Hid (stopB cells wants blocked now (i : Int) = true) := HYES.out ⟨e1, .inl (.inr e3)⟩
    have g3 : (F.getD 0 != (i : Int)) = true := by rw [bne_iff_ne]; exact e3
    generalize F.getD 0 = f at L4 g3
    clear L3 e1 e2 e3
    go_enter Try.func22, Try.ntmps22
    go_wp2_with fail
    go_quiet (fail)
    go_wp2_with fail
    go_ret
    exact ⟨ret_bool HE.out.symm, HBA.out _ _⟩
  have e3' : F.getD 0 = (i : Int) := Classical.not_not.1 e3
  rw [e3'] at L4
  have g3 : ((i : Int) != (i : Int)) = false := by simp
  cases hII : I with
  | none =>
    have HE : Hid (stopB cells wants blocked now (i : Int) = false) := HNO.out fun hh => by
      rcases hh.2 with (hb | hb) | ⟨j, hj, _⟩
      · exact e2 hb
      · exact e3 hb
      · rw [hII] at hj; cases hj
    simp only [hII, Option.getD_none, Option.isSome_none] at L3
    clear e1 e2 e3 e3' hII
    go_enter Try.func22, Try.ntmps22
    go_wp2_with fail
    go_quiet (fail)
    go_wp2_with fail
    go_ret
    exact ⟨ret_bool HE.out.symm, HBA.out _ _⟩
  | some x =>
    obtain ⟨j, rfl, hj, _⟩ := HIN.out x hII
    obtain ⟨g', eg, _, _, _, hcj, _⟩ := HJ.out j hj
    injection eg with eg
    injection eg with eg _ _
    subst eg
    simp only [hII, Option.getD_some, Option.isSome_some] at L3
    have hcj := fun d o => (HCA.out d o ⟨g, j, none⟩ hgl).trans hcj
    by_cases e4 : now.getD j 0 = z ∨ now.getD j 0 = y
    · have HE : Hid (stopB cells wants blocked now (i : Int) = true) := HYES.out ⟨e1, .inr ⟨j, hII, e4⟩⟩
      generalize now.getD j 0 = x at hcj e4
      by_cases e5 : x = z
      · have g5 : (x == z) = true := by simpa using e5
        clear e1 e2 e3 e3' e4 e5 hII
        go_enter Try.func22, Try.ntmps22
        go_wp2_with fail
        go_quiet (fail)
        go_wp2_with fail
        go_ret
        exact ⟨ret_bool HE.out.symm, HBA.out _ _⟩
      · have g5 : (x == z) = false := by simpa using e5
        have g6 : (x == y) = true := by simpa using e4.resolve_left e5
        clear e1 e2 e3 e3' e4 e5 hII
        go_enter Try.func22, Try.ntmps22
        go_wp2_with fail
        go_quiet (fail)
        go_wp2_with fail
        go_ret
        exact ⟨ret_bool HE.out.symm, HBA.out _ _⟩
    · have HE : Hid (stopB cells wants blocked now (i : Int) = false) := HNO.out fun hh => by
        rcases hh.2 with (hb | hb) | ⟨j', hj', hc⟩
        · exact e2 hb
        · exact e3 hb
        · rw [hII] at hj'
          injection hj' with hj'
          obtain rfl : j = j' := by omega
          exact e4 hc
      generalize now.getD j 0 = x at hcj e4
      have g5 : (x == z) = false := by simpa using fun e => e4 (.inl e)
      have g6 : (x == y) = false := by simpa using fun e => e4 (.inr e)
      clear e1 e2 e3 e3' e4 hII
      go_enter Try.func22, Try.ntmps22
      go_wp2_with fail
      go_quiet (fail)
      go_wp2_with fail
      go_ret
      exact ⟨ret_bool HE.out.symm, HBA.out _ _⟩

theorem push_stepZ {w wr w1 : World} {B : Nat} {v v' : Value} {out : List Int} {x : Int} {o : Obj} (hown : OwnZ wr B v out) (hbel : Below B w wr) (hB : B ≤ w.heap.size)
    (hown1 : w1.ownsRow B 3 1 v' (out.length + 1) (intsZ out ++ [.int .i64 x])) (hg : (wr.alloc o).grownBy w1 v.ownBlock) : OwnZ w1 B v' (out ++ [x]) ∧ Below B w w1 := by
  have hs := hbel.size
  refine ⟨?_, (hbel.alloc (by omega) o).grown hg (by simp; omega) (fun k hk => (World.ownsRow.lt hown k hk).1)⟩
  unfold OwnZ
  simpa [intsZ] using hown1
theorem filter_takeZ {l : List Int} (p : Int → Bool) {k : Nat} (hk : k < l.length) : (l.take (k + 1)).filter p = (l.take k).filter p ++ (if p (l.getD k 0) then [l.getD k 0] else []) := by
  rw [List.take_succ_eq_append_getElem hk, List.filter_append]
  simp [List.getD, hk, List.filter_cons]

set_option maxRecDepth 100000 in
set_option maxHeartbeats 1000000 in
theorem those_any (b : Nat) (a : Option Addr) (n c B : Nat) (l : List Int) (p : Int → Bool) (w : World) (h : RowZ .i64 w B a n c l) (hB : B ≤ w.heap.size) (hn : n ≤ 100000)
    (hp : ∀ (wr : World) (s : Int), s ∈ l → Below w.heap.size w wr → Calls Try.prog 22 #[.pointer (some ⟨b, 0, none⟩), .int .i64 s] wr fun e w' => e = .returned (.bool (p s)) ∧ Below wr.heap.size wr w') :
    Calls Try.prog 20 #[.slice a n c, .func (.func 22) #[.pointer (some ⟨b, 0, none⟩)] #[]] w fun e w' =>
      ∃ a' c', e = .returned (.slice a' (l.filter p).length c') ∧ OwnZ w' w.heap.size (.slice a' (l.filter p).length c') (l.filter p) ∧ Below w.heap.size w w' := by
  obtain ⟨i0, hi0, hz0, hz1, hz2⟩ := info_parts info_int
  have HP := Lib.hid hp
  have hl := h.1
  have HCS := Lib.hid (fun h' => h.cells h')
  have hc1 := h.2.1
  clear hp h
  go_enter Try.func20, Try.ntmps20
  go_wp2_with fail
  go_loopw [5, 10] (fun v i wr => ∃ (k : Nat) (out : List Int), k ≤ n ∧ out.length ≤ k ∧ i = .int .i64 k ∧ OwnZ wr w.heap.size v out ∧ Below w.heap.size w wr ∧ Hid (out = (l.take k).filter p)) (fun _ i _ => n - (intOf i).toNat)
  case atStart => exact ⟨0, [], Nat.zero_le _, Nat.le_refl _, rfl, World.ownsRow_nil _ _ _ _, Below.refl _ _, by simp [Hid]⟩
  case round =>
    obtain ⟨k, out, hk, hol, rfl, hown, hbel, HO⟩ := hrel
    by_cases hlt : k < n
    · obtain ⟨bb, off, rfl, hb, hcs⟩ := HCS.out (by omega)
      have hcell := (hbel.cell (p := ⟨bb, off + k, none⟩) (show bb < w.heap.size by omega)).trans (hcs k hlt)
      have hcall := HP.out wr (l.getD k 0) (by simp [List.getD, hl, hlt]) hbel
      have hsn := filter_takeZ p (show k < l.length by omega)
      rw [← HO.out] at hsn
      generalize l.getD k 0 = z at hcell hcall hsn
      cases hpk : p z
      · rw [hpk] at hcall
        have HCALL := Lib.hid hcall
        have HSN : Hid (out = (l.take (k + 1)).filter p) := by unfold Hid; rw [hsn, hpk]; simp
        clear hcall hsn hpk HO hcs
        go_wp2_with fail
        refine HCALL.out.mono ?_
        rintro e w1 ⟨rfl, hb1⟩
        have hown1 : OwnZ w1 w.heap.size _ out := hown.calls hb1
        have hbel1 := hbel.trans (hb1.mono hbel.size)
        go_wp2_with fail
        go_roundw
        case rel => exact ⟨k + 1, out, by omega, by omega, by go_num, hown1, hbel1, HSN.out⟩
        case measure => simp [intOf]; omega
      · rw [hpk] at hcall
        have HCALL := Lib.hid hcall
        have HSN : Hid (out ++ [z] = (l.take (k + 1)).filter p) := by unfold Hid; rw [hsn, hpk]; simp
        clear hcall hsn hpk HO hcs
        go_wp2_with fail
        refine HCALL.out.mono ?_
        rintro e w1 ⟨rfl, hb1⟩
        have hown1 : OwnZ w1 w.heap.size _ out := hown.calls hb1
        have hbel1 := hbel.trans (hb1.mono hbel.size)
        clear hown hbel
        go_wp2_with (at_builtin; refine wpList_append_own _ rfl (.tmp 17) (.tmp 19) 22 rfl w.heap.size 3 i0 (.int .i64 0) 1 8 Try.underlying22 hi0 hz0 hz1 hz2 rfl (by decide) _ _ _ rfl (World.ownsRow.alloc hown1 _) ⟨w1.heap.size, 0, none⟩ 1 1 [.int .i64 z] rfl rfl (one_cell _ _ _) (by simp [Value.oneCell']) (by simp only [maxLen]; omega) (by omega) (by have := hbel1.size; simp; omega) ?_; intro v' w2 hown2 hgrow2 _)
        have RR := push_stepZ hown1 hbel1 (Nat.le_refl _) hown2 hgrow2
        clear hown2 hgrow2 hown1 hbel1
        go_wp2_with fail
        go_roundw
        case rel => exact ⟨k + 1, out ++ [z], by omega, by simp; omega, by go_num, RR.1, RR.2, HSN.out⟩
        case measure => simp [intOf]; omega
    · obtain rfl : k = n := by omega
      have HO2 := HO.out
      rw [List.take_of_length_le (by omega)] at HO2
      obtain ⟨a', c', rfl⟩ := own_slice hown
      have HW := Lib.hid hown
      go_wp2_with fail
      go_ret
      rw [← HO2]
      exact ⟨a', c', rfl, HW.out, hbel⟩
end Go.Proofs.Ytccdblbnphmpjaa.Vm
