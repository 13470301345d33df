/- The contract of the iterator of package dist: nearest first. -/
import Derived.Test.YtincamjkfpcpiaaIts
import Derived.Test.YtincamjkfpcpiaaGridMath
import Derived.Shelf.Abstract
import Derived.Shelf.RegionOpen
import Derived.WalkKit
import Derived.OwnWalkIn
import Derived.TacticsInMore
import Derived.LoopNIn
import Derived.LoopIn
import Derived.Sort.LoopGhostIn
namespace Go.Proofs.Ytincamjkfpcpiaa.Vm
open Go Go.RowKit Go.Shelf
attribute [local go_sem] Oper.semAt_some

/-- What the step function promises, in every world in which the captured blocks lie as they lay in W. -/
def Steps (F : Fence) (n : Nat) (fs : Nat) (lbs : Array Value) (b B : Nat) (W : World) (N : Nat) (st : Nat → Nat → Int × Bool) : Prop :=
  ∀ (A : World) (c way : Nat), c < N → 1 ≤ way → way ≤ 4 → (∀ k, b ≤ k → k < B → A.heap[k]? = W.heap[k]?) → B ≤ A.heap.size →
    CallsIn F n Try.prog fs (#[.int .i64 (c : Nat), .int .i64 (way : Nat)] ++ lbs) A fun e A' => e = .returned (.tuple #[.int .i64 (st c way).1, .bool (st c way).2]) ∧ Below A.heap.size A A'

set_option maxRecDepth 100000 in
set_option maxHeartbeats 2000000 in
theorem iter_any (F : Fence) (n : Nat) (hF : F.fn 56) (hro : F.round = none) (hn : 2 ≤ n) (l fs : Nat) (lbs : Array Value) (hfs : F.fn fs) (hent : ∀ args w, (callFunc fs args).run Try.prog w = .ok (.enter fs args) w)
    (b B : Nat) (N s : Nat) (hs : s < N) (hN : N ≤ 1000000) (c0 c1 c2 : Nat) (S : Nat → List Nat) (st : Nat → Nat → Int × Bool) (G : Graph S st N) (W : World)
    (hb0 : b ≤ c0) (hB0 : c0 < B) (hb1 : b ≤ c1) (hB1 : c1 < B) (hb2 : b ≤ c2) (hB2 : c2 < B) (hBW : B ≤ W.heap.size) (hbB : b ≤ B)
    (k0 : W.cell? ⟨c0, 0, none⟩ = some (.int .i64 N)) (k1 : W.cell? ⟨c1, 0, none⟩ = some (.int .i64 s)) (k2 : W.cell? ⟨c2, 0, none⟩ = some (.func (.func fs) #[] lbs))
    (hst : Steps F (n - 1) fs lbs b B W N st)
    (J Jx : List (Nat × Nat) → World → Prop) (hJ : ∀ x A A', J x A → Below W.heap.size A A' → J x A') (hJx : ∀ x A A', Jx x A → Below W.heap.size A A' → Jx x A')
    (hY : ∀ pre x A, J pre A → Begun S s N (pre ++ [x]) → YieldAt F (n - 1) Try.prog l #[.int .i64 (x.1 : Nat), .int .i64 (x.2 : Nat)] A fun e A' =>
      (e = .returned (.bool true) ∧ J (pre ++ [x]) A' ∧ Spares b B A A') ∨ (e = .returned (.bool false) ∧ Jx (pre ++ [x]) A'))
    (h0 : J [] W) :
    CallsIn F n Try.prog 56 #[.func (.yield l) #[] #[], .pointer (some ⟨c0, 0, none⟩), .pointer (some ⟨c1, 0, none⟩), .pointer (some ⟨c2, 0, none⟩)] W fun e A =>
      (∃ v, e = .returned v) ∧ ((∃ xs, AllCome S s N xs ∧ J xs A) ∨ (∃ pre, Begun S s N pre ∧ Jx pre A)) := by
  have hn1 : 1 ≤ n := by omega
  obtain ⟨i0, hi0, hz0, hz1, hz2⟩ := info_parts info_int
  obtain ⟨j0, hj0, hy0, hy1, hy2⟩ := info_parts info_bool
  have hmk := run_make (P := Try.prog) W 89 4 j0 (.bool false) Try.underlying89 hj0 hy0 .i64 .i64 N N (by omega) (Int.le_refl _) (by rw [hy2]; omega) (by omega)
  simp only [Int.toNat_natCast] at hmk
  rw [hy1] at hmk
  have hmc : (madeCells (Value.bool false).cells (N * 1)) = ⟨bools (List.replicate N false)⟩ := by
    apply Array.ext'
    simp only [Value.cells]
    rw [Nat.mul_one, toList_madeCells_one]
    simp [bools]
  rw [hmc] at hmk
  have hM : Marks (W.alloc (.cells ⟨bools (List.replicate N false)⟩ 4)) W.heap.size W.heap.size (List.replicate N false) := by
    have := World.ownsRow_lit (base := W.heap.size) (e := 4) (size := 1) W ⟨bools (List.replicate N false)⟩ N (Nat.le_refl _) (by unfold maxLen; omega) (by simp [bools])
    unfold Marks
    rw [List.length_replicate]
    exact this
  have hw1 : Below W.heap.size W (W.alloc (.cells ⟨bools (List.replicate N false)⟩ 4)) := (Below.refl _ _).alloc (Nat.le_refl _) _
  have hz1' : (W.alloc (.cells ⟨bools (List.replicate N false)⟩ 4)).heap.size = W.heap.size + 1 := by simp
  generalize W.alloc (.cells ⟨bools (List.replicate N false)⟩ 4) = W1 at hmk hM hw1 hz1'
  have hw2 : Below W.heap.size W (W1.setCell ⟨W.heap.size, s, none⟩ (.bool true)) := hw1.setCell (p := ⟨W.heap.size, s, none⟩) (Nat.le_refl _) _
  have m1 : W1.cell? ⟨W.heap.size, s, none⟩ = some (.bool false) := by
    rw [hM.cell (by simpa using hs)]; simp [List.getD, hs]
  have m2 : W1.frozen? ⟨W.heap.size, s, none⟩ = false := hM.frozen s
  have m3 : W1.cell? ⟨c1, 0, none⟩ = some (.int .i64 s) := (hw1.cell (p := ⟨c1, 0, none⟩) (show c1 < W.heap.size by omega)).trans k1
  have m4 : (W1.setCell ⟨W.heap.size, s, none⟩ (.bool true)).cell? ⟨c1, 0, none⟩ = some (.int .i64 s) := (hw2.cell (p := ⟨c1, 0, none⟩) (show c1 < W.heap.size by omega)).trans k1
  have hM2 := hM.set s
  have hz2' : (W1.setCell ⟨W.heap.size, s, none⟩ (.bool true)).heap.size = W.heap.size + 1 := by rw [← hz1']; simp [World.setCell]
  obtain ⟨W2, hW2⟩ : ∃ W2, W1.setCell ⟨W.heap.size, s, none⟩ (.bool true) = W2 := ⟨_, rfl⟩
  rw [hW2] at hw2 m4 hM2 hz2'
  have HM := Lib.hid hM2
  clear hM hM2 hmc
  refine callsIn_of_wp Try.func56 rfl hF ?_ hro
  simp only [Try.ntmps56, List.size_toArray, List.length_cons, List.length_nil, Nat.reduceAdd, Nat.reduceSub, Array.replicate_succ, Array.replicate_zero, List.push_toArray, List.append_toArray, List.nil_append, List.cons_append]
  gi_wp2
  gi_loopg [6, 7, 8] (N + 1) (fun k ve vn vd wr => ∃ (d : Nat) (pre : List (Nat × Nat)) (edge : List Nat) (seen : List Bool), vd = .int .i64 d ∧ N + 1 ≤ d + k ∧ seen.length = N ∧ It b B W W.heap.size seen ve edge vn [] wr ∧ Hid (Bfs S s N d 0 pre edge [] seen NoneLeft) ∧ J pre wr)
  case atStart =>
    have hst0 := It.start (b := b) (s := s) hw2 hz2' HM.out hBW
    exact ⟨0, [], [s], (List.replicate N false).set s true, rfl, by omega, by simp, hst0.1, Bfs.start hs, hJ _ _ _ h0 hst0.2⟩
  case round =>
    obtain ⟨d, pre, edge, seen, rfl, hdk, hsl, hit, HBF, hj⟩ := hrel
    obtain ⟨go, hgo⟩ : ∃ go, go = gk := ⟨_, rfl⟩
    subst hgo
    cases edge with
    | nil =>
      obtain ⟨a, c, rfl⟩ := own_slice hit.edg
      gi_wp2
      go_end0
      exact ⟨⟨_, rfl⟩, .inl ⟨pre, HBF.out.ended, hj⟩⟩
    | cons c rest =>
      obtain ⟨g, cap, rfl⟩ := ownI_cons hit.edg
      have HIT := Lib.hid hit
      have hrl := HBF.out.few
      simp only [List.length_cons, List.length_nil] at hrl
      clear hit
      gi_wp2
      gi_loopg [7, 29] (rest.length + 1) (fun k vn vi wq => ∃ (i : Nat) (pre' : List (Nat × Nat)) (next' : List Nat) (seen' : List Bool), vi = .int .i64 i ∧ i + k = rest.length + 1 ∧ seen'.length = N ∧ It b B W W.heap.size seen' (.slice (some ⟨g, 0, none⟩) (rest.length + 1) cap) (c :: rest) vn next' wq ∧ Hid (Bfs S s N d i pre' ((c :: rest).drop i) next' seen' NoneLeft) ∧ J pre' wq)
      case atStart => exact ⟨0, pre, [], seen, rfl, by omega, hsl, HIT.out, HBF, hj⟩
      case round =>
        obtain ⟨i, pre', next', seen', rfl, hik, hsl', hit', HBF', hj'⟩ := hrel
        obtain rfl : gk = rest.length + 1 - i := by omega
        by_cases hi : i < rest.length + 1
        · have hdr : (c :: rest).drop i = (c :: rest).getD i 0 :: (c :: rest).drop (i + 1) := by
            rw [List.drop_eq_getElem_cons (by simpa using hi)]
            simp [List.getD, hi]
          have hcell := ownI_cell hit'.edg (i := i) (by simpa using hi)
          have hbf := HBF'.out
          rw [hdr] at hbf
          generalize (c :: rest).getD i 0 = x at hcell hbf
          obtain ⟨fn, tmps, assign, body, hy, hR⟩ := hY pre' (x, d) wr hj' (hbf.beg.snoc hbf.good)
          dsimp only at hy
          have HBF2 := Lib.hid (hbf.pop G)
          have hxN := hbf.good.1
          have hdN := hbf.good.2.1
          simp only [] at hxN hdN
          have HIT' := Lib.hid hit'
          clear hit' HBF' hbf hdr HIT HBF hj
          gi_wp2
          refine hR.mono ?_
          rintro e W3 (⟨rfl, hJ3, hsp⟩ | ⟨rfl, hJx3⟩)
          · have HIT3 := Lib.hid (HIT'.out.spares hsp hBW hbB)
            clear hR hy hsp hj' hcell
            gi_wp2
            gi_loopg [7, 11] 4 (fun k vn vw wz => ∃ (way : Nat) (next2 : List Nat) (seen2 : List Bool), vw = .int .i64 way ∧ way + k = 5 ∧ 1 ≤ way ∧ seen2.length = N ∧ It b B W W.heap.size seen2 (.slice (some ⟨g, 0, none⟩) (rest.length + 1) cap) (c :: rest) vn next2 wz ∧ Hid (Bfs S s N d (i + 1) (pre' ++ [(x, d)]) ((c :: rest).drop (i + 1)) next2 seen2 (Left st x way)) ∧ J (pre' ++ [(x, d)]) wz)
            case atStart => exact ⟨1, next', seen', rfl, by omega, by omega, hsl', HIT3.out, HBF2, hJ3⟩
            case round =>
              obtain ⟨way, next2, seen2, rfl, hwk, hw1, hsl2, hit2, HBF4, hj2⟩ := hrel
              by_cases hw : way ≤ 4
              · have hk2 : wr.cell? ⟨c2, 0, none⟩ = some (.func (.func fs) #[] lbs) := (World.cell?_of_block (w := W) (hit2.held c2 hb2 hB2)).trans k2
                have hcall := hst wr x way hxN hw1 hw hit2.held (Nat.le_trans hBW hit2.size)
                obtain ⟨o, ok, hR2⟩ : ∃ o ok, st x way = (o, ok) := ⟨_, _, rfl⟩
                rw [hR2] at hcall
                simp only [] at hcall
                have hwi : (way : Int) ≤ 4 := by omega
                have HCALL := Lib.hid hcall
                have HIT2 := Lib.hid hit2
                clear hcall hit2 HIT3 HIT'
                have hsz2 := HIT2.out.size
                cases ok
                · have HBF5 := Lib.hid (HBF4.out.no (by rw [hR2]))
                  clear hR2
                  gi_wp2
                  refine HCALL.out.mono ?_
                  rintro e W4 ⟨rfl, hb4⟩
                  have HIT4 := Lib.hid (HIT2.out.below hb4 hBW)
                  have hj4 := hJ _ _ _ hj2 (hb4.mono hsz2)
                  clear hb4 hk2
                  gi_wp2
                  gi_roundg (gk - 1)
                  case measure => omega
                  case rel => exact ⟨way + 1, next2, seen2, by go_num, by omega, by omega, hsl2, HIT4.out, HBF5, hj4⟩
                · obtain ⟨ho0, hoN⟩ := G.to x way o hxN hR2
                  obtain ⟨m, rfl⟩ := Int.eq_ofNat_of_zero_le ho0
                  have hmN : m < N := by omega
                  cases hsm : seen2.getD m false
                  · have HBF5 := Lib.hid (HBF4.out.new G hxN (by simp) hw1 hw hR2 hsm)
                    have hfew := HBF4.out.few
                    clear hR2
                    gi_wp2
                    refine HCALL.out.mono ?_
                    rintro e W4 ⟨rfl, hb4⟩
                    have HIT4 := Lib.hid (HIT2.out.below hb4 hBW)
                    have hj4 := hJ _ _ _ hj2 (hb4.mono hsz2)
                    have q1 := HIT4.out.marks.cell (i := m) (by omega)
                    rw [hsm] at q1
                    have q2 := HIT4.out.marks.frozen m
                    have HIT5 := Lib.hid (HIT4.out.mark hBW m)
                    have hj5 := hJ _ _ _ hj4 (HIT4.out.below_mark m)
                    obtain ⟨W5, hW5⟩ : ∃ W5, W4.setCell ⟨W.heap.size, m, none⟩ (.bool true) = W5 := ⟨_, rfl⟩
                    rw [hW5] at HIT5 hj5
                    have hown5 := HIT5.out.nxt
                    have hsz5 := HIT5.out.size
                    clear hb4 hk2 HIT2 HIT4 hsm hsz2
                    gi_wp2_with (gi_at_builtin; refine wpListIn_append_own_at _ rfl (.tmp 60) (.tmp 62) 26 rfl W.heap.size 3 i0 (.int .i64 0) 1 8 Try.underlying26 hi0 hz0 hz1 hz2 rfl (by decide) _ _ _ rfl (World.ownsRow.alloc hown5 _) ⟨W5.heap.size, 0, none⟩ 1 1 [.int .i64 (m : Int)] rfl rfl (one_cell _ _ _) (by simp [Value.oneCell']) (by simp only [maxLen]; omega) (by omega) (by simp; omega) ?_; intro v' W6 hown6 hgrow6 _ hloc6)
                    obtain ⟨hit6, hbel6⟩ := HIT5.out.push hBW hown6 hgrow6 hloc6
                    have HIT6 := Lib.hid hit6
                    have hj6 := hJ _ _ _ hj5 hbel6
                    clear hit6 hbel6 hown6 hgrow6 hloc6 hown5 HIT5
                    gi_wp2
                    gi_roundg (gk - 1)
                    case measure => omega
                    case rel => exact ⟨way + 1, next2 ++ [m], seen2.set m true, by go_num, by omega, by omega, by simpa using hsl2, HIT6.out, HBF5, hj6⟩
                  · have HBF5 := Lib.hid (HBF4.out.old hR2 hsm)
                    clear hR2
                    gi_wp2
                    refine HCALL.out.mono ?_
                    rintro e W4 ⟨rfl, hb4⟩
                    have HIT4 := Lib.hid (HIT2.out.below hb4 hBW)
                    have hj4 := hJ _ _ _ hj2 (hb4.mono hsz2)
                    have q1 := HIT4.out.marks.cell (i := m) (by omega)
                    rw [hsm] at q1
                    clear hb4 hk2
                    gi_wp2
                    gi_roundg (gk - 1)
                    case measure => omega
                    case rel => exact ⟨way + 1, next2, seen2, by go_num, by omega, by omega, hsl2, HIT4.out, HBF5, hj4⟩
              · obtain rfl : way = 5 := by omega
                have HBF6 := Lib.hid HBF4.out.looked
                have HIT2 := Lib.hid hit2
                clear hit2
                gi_wp2
                gi_roundg (rest.length + 1 - (i + 1))
                case measure => omega
                case rel => exact ⟨i + 1, pre' ++ [(x, d)], next2, seen2, by go_num, by omega, hsl2, HIT2.out, HBF6, hj2⟩
          · gi_wp2
            (try simp only [Exit.inBlock, Exit.then])
            refine bodyPost_ret (results_none rfl _ _ _) rfl ?_
            exact ⟨⟨_, rfl⟩, .inr ⟨pre' ++ [(x, d)], HBF2.out.beg, hJx3⟩⟩
        · obtain rfl : i = rest.length + 1 := by omega
          have hbf := HBF'.out
          rw [List.drop_of_length_le (by simp)] at hbf
          have HBF3 := Lib.hid (hbf.level (by omega))
          have hbd := hbf.dle
          have hbn := hbf.few
          have HIT' := Lib.hid hit'
          clear hit' hbf HBF' HIT HBF hj
          gi_wp2
          gi_region
          all_goals
            gi_wp2
            gi_roundg (go - 1)
            case measure => omega
            case rel => exact ⟨d + 1, pre', next', seen', by go_num, by omega, hsl', HIT'.out.swap.drewN 1, HBF3, hJ _ _ _ hj' (Below.refl _ _).drew⟩
end Go.Proofs.Ytincamjkfpcpiaa.Vm
