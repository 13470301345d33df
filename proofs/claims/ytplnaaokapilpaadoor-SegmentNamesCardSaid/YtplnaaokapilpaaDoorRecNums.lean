/- Numbers (uint64) that a call owns, and what an append to them leaves. No function of the program is named here. The contract of codec's stateNumbers. The contracts of codec's signed and runs. The contract of codec's recordNumbers. -/
import Derived.Test.YtplnaaokapilpaaDoorPushes
import Derived.Test.YtplnaaokapilpaaDoorCodMath
import Derived.Test.YtplnaaokapilpaaDoorZigs
import Derived.Test.YtplnaaokapilpaaDoorCodWords
import Derived.Deep.LoopGhost
import Derived.Lib.AppendZeros
import Derived.BigRegion
import Derived.BigQuiet
import Derived.Deep.RegionHeld3
namespace Go.Proofs.YtplnaaokapilpaaDoor.Vm
open Go Go.RowKit

theorem info_u64 : (Tryd.prog.info? 56).map (fun i => (i.zero, i.size, i.bytes)) = some (some (.int .u64 0), 1, 8) := by kernel_rfl
def numsU (l : List Int) : List Value := l.map fun x => Value.int .u64 x
theorem numsU_len (l : List Int) : (numsU l).length = l.length := by simp [numsU]
def OwnU (w : World) (B : Nat) (v : Value) (l : List Int) : Prop := w.ownsRow B 56 1 v l.length (numsU l)
theorem OwnU.slice {w : World} {B : Nat} {v : Value} {l : List Int} (h : OwnU w B v l) : ∃ a c, v = .slice a l.length c := by
  rcases h.2 with ⟨rfl, hn⟩ | ⟨g, cap, cur, rfl, _⟩
  · rw [show l.length = 0 from hn]; exact ⟨_, _, rfl⟩
  · exact ⟨_, _, rfl⟩
theorem ownU_lit (w : World) {B : Nat} (hB : B ≤ w.heap.size) (l : List Int) (hl : l.length ≤ 1000) : OwnU (w.alloc (.cells ⟨numsU l⟩ 56)) B (.slice (some ⟨w.heap.size, 0, none⟩) l.length l.length) l := by
  have := World.ownsRow_lit (base := B) (e := 56) (size := 1) w ⟨numsU l⟩ l.length hB (by unfold maxLen; omega) (by simp [numsU])
  exact this
theorem OwnU.mono {w : World} {B B' : Nat} {v : Value} {l : List Int} (h : OwnU w B v l) (hB : B' ≤ B) : OwnU w B' v l := by
  refine ⟨h.1, ?_⟩
  rcases h.2 with h2 | ⟨g, cap, cur, hv, hb, r⟩
  · exact .inl h2
  · exact .inr ⟨g, cap, cur, hv, Nat.le_trans hB hb, r⟩
theorem OwnU.calls {w w' : World} {B : Nat} {v : Value} {l : List Int} (h : OwnU w B v l) (hb : Below w.heap.size w w') : OwnU w' B v l := own_upto h hb (fun k hk => (World.ownsRow.lt h k hk).2)
theorem OwnU.row {w : World} {B : Nat} {a : Option Addr} {n c : Nat} {l : List Int} (h : OwnU w B (.slice a n c) l) (hp : ∀ x ∈ l, 0 ≤ x) : Row .u64 w w.heap.size a n c (l.map Int.toNat) := by
  rcases h.2 with ⟨hv, hn⟩ | ⟨g, cap, cur, hv, hb, hg, hnc, hm, hcs, htk⟩
  · injection hv with h1 h2 h3
    subst h1 h2 h3
    obtain rfl := List.eq_nil_of_length_eq_zero hn
    exact ⟨rfl, Nat.le_refl _, by simp [maxLen], fun h => absurd h (by omega)⟩
  · injection hv with h1 h2 h3
    subst h1 h2 h3
    refine ⟨by simp, hnc, hm, fun _ => ⟨g, 0, rfl, (Array.getElem?_eq_some_iff.1 hg).1, fun i hi => ?_⟩⟩
    have := World.ownsRow.cells h (g := g) rfl i (.int .u64 (l.getD i 0)) (by simp [numsU, List.getD, hi])
    rw [Row.add] at this
    rw [this]
    have h2 := hp (l.getD i 0) (by simp [List.getD, hi])
    simp only [List.getD, List.getElem?_map]
    rw [List.getElem?_eq_getElem hi]
    simp only [List.getD, List.getElem?_eq_getElem hi, Option.getD_some] at h2
    simp only [Option.map_some, Option.getD_some]
    rw [Int.toNat_of_nonneg h2]
/-- Numbers laid behind those that the call owns. -/
theorem append_us {A : World} {B : Nat} {v : Value} {out : List Int} (hown : OwnU A B v out) (l : List Int) (m : Nat) (hm : l.length = m) (cs : Array Value) (hcs : cs = ⟨numsU l⟩) (hlen : out.length + m ≤ 900000) (hB : B ≤ A.heap.size) :
    ∃ v' w', (Builtin.append_ #[63, 63] 63 #[v, .slice (some ⟨A.heap.size, 0, none⟩) m m]).run Tryd.prog (A.alloc (.cells cs 56)) = .ok v' w' ∧ OwnU w' B v' (out ++ l) ∧ A.grownBy w' v.ownBlock := by
  obtain ⟨i0, hi0, hz0, hz1, hz2⟩ := info_parts info_u64
  subst hcs
  have hba : Below A.heap.size A (A.alloc (.cells ⟨numsU l⟩ 56)) := (Below.refl _ _).alloc (Nat.le_refl _) _
  have hc : ∀ j u, (numsU l)[j]? = some u → (A.alloc (.cells ⟨numsU l⟩ 56)).cell? ((⟨A.heap.size, 0, none⟩ : Addr).add j) = some u := by
    intro j u hj
    rw [Row.add, Nat.zero_add]
    simpa using hj
  obtain ⟨v', w', hrun, hown', hg, _⟩ := run_append_own (P := Tryd.prog) (A.alloc (.cells ⟨numsU l⟩ 56)) B 63 63 56 i0 (.int .u64 0) 1 8 Tryd.underlying63 hi0 hz0 hz1 hz2 rfl (by decide) v out.length (numsU out) (hown.calls hba) ⟨A.heap.size, 0, none⟩ m m (numsU l) (by rw [numsU_len]; omega) hc
    (fun u hu => by obtain ⟨_, _, rfl⟩ := List.mem_map.1 hu; rfl) (by unfold maxLen; omega) (by omega) (by have := hba.size; omega)
  refine ⟨v', w', hrun, ?_, ⟨hg.os.trans hba.os, hg.tape.trans hba.tape, hg.output.trans hba.output, Nat.le_trans hba.size hg.size, fun k hk hne => (hg.block k (Nat.lt_of_lt_of_le hk hba.size) hne).trans (hba.block k hk)⟩⟩
  unfold OwnU
  rw [List.length_append, hm, show numsU (out ++ l) = numsU out ++ numsU l by simp [numsU]]
  exact hown'
end Go.Proofs.YtplnaaokapilpaaDoor.Vm

namespace Go.Proofs.YtplnaaokapilpaaDoor.Vm
open Go Go.RowKit

/-- The numbers of a state. -/
def jobP (r : Rec) : List Int := [r.a, r.b, r.c, r.d, r.e + 1]
def gapP : Int → List Int → List Int
  | _, [] => []
  | p, x :: r => (x - p - 1) :: gapP x r
def numsP (s : St) : List Int := [s.tick, (s.rs.length : Int)] ++ s.rs.flatMap robN ++ [(s.ts.length : Int)] ++ s.ts.flatMap jobP ++ [(s.bl.length : Int)] ++ gapP (-1) s.bl
theorem gapP_enc : ∀ (l : List Int) (p : Int), (gapP p l).flatMap encI = encG p l
  | [], _ => rfl
  | x :: r, p => by
    unfold gapP encG
    rw [List.flatMap_cons, gapP_enc r x]
theorem flat2 {f : Rec → List Int} {g : Rec → List Nat} (h : ∀ r, (f r).flatMap encI = g r) : ∀ rs : List Rec, (rs.flatMap f).flatMap encI = rs.flatMap g
  | [] => rfl
  | r :: q => by rw [List.flatMap_cons, List.flatMap_append, h, flat2 h q, List.flatMap_cons]
theorem numsP_enc (s : St) : (numsP s).flatMap encI = encS s := by
  have h1 := flat2 (f := robN) (g := encRob) (fun r => by simp [robN, encRob, List.append_assoc]) s.rs
  have h2 := flat2 (f := jobP) (g := encJob) (fun r => by simp [jobP, encJob, List.append_assoc]) s.ts
  unfold numsP encS
  simp only [List.flatMap_append, h1, h2, gapP_enc]
  simp [encI, List.append_assoc]
theorem gapP_take : ∀ (l : List Int) (p : Int) (k : Nat), k < l.length → gapP p (l.take (k + 1)) = gapP p (l.take k) ++ [l.getD k 0 - (if k = 0 then p else l.getD (k - 1) 0) - 1]
  | [], _, _, h => by simp at h
  | x :: q, p, 0, _ => by simp [gapP]
  | x :: q, p, k + 1, h => by
    have ih := gapP_take q x k (by simpa using h)
    rw [List.take_succ_cons, List.take_succ_cons]
    unfold gapP
    rw [ih, List.cons_append]
    congr 3
    cases k with
    | zero => simp
    | succ j => simp
theorem gapP_len : ∀ (l : List Int) (p : Int), (gapP p l).length = l.length
  | [], _ => rfl
  | x :: r, p => by simp [gapP, gapP_len r x]
theorem gapP_pos : ∀ {l : List Int} {p : Int}, UpIn p l → ∀ y ∈ gapP p l, 0 ≤ y
  | [], _, _, y, hy => by simp [gapP] at hy
  | x :: r, p, ⟨h1, _, h3⟩, y, hy => by
    unfold gapP at hy
    rcases List.mem_cons.1 hy with rfl | hy
    · omega
    · exact gapP_pos h3 y hy
theorem numsP_pos {s : St} (h : CanS s) : ∀ y ∈ numsP s, 0 ≤ y := by
  intro y hy
  unfold numsP at hy
  have ht := h.tick
  rcases List.mem_append.1 hy with hy | hy
  · rcases List.mem_append.1 hy with hy | hy
    · rcases List.mem_append.1 hy with hy | hy
      · rcases List.mem_append.1 hy with hy | hy
        · rcases List.mem_append.1 hy with hy | hy
          · simp at hy
            rcases hy with rfl | rfl <;> omega
          · obtain ⟨r, hr, hy⟩ := List.mem_flatMap.1 hy
            obtain ⟨a, b, c, d, e⟩ := h.rob r hr
            simp [robN] at hy
            rcases hy with rfl | rfl | rfl | rfl | rfl <;> omega
        · simp at hy; omega
      · obtain ⟨r, hr, hy⟩ := List.mem_flatMap.1 hy
        obtain ⟨a, b, c, d, e, f⟩ := h.job r hr
        simp [jobP] at hy
        rcases hy with rfl | rfl | rfl | rfl | rfl <;> omega
    · simp at hy; omega
  · exact gapP_pos h.up y hy
theorem numsP_len (s : St) : (numsP s).length = 4 + 5 * s.rs.length + 5 * s.ts.length + s.bl.length := by
  unfold numsP
  simp only [List.length_append, gapP_len, flat_len (f := robN) (m := 5) (fun r => rfl), flat_len (f := jobP) (m := 5) (fun r => rfl)]
  simp
  omega

end Go.Proofs.YtplnaaokapilpaaDoor.Vm

namespace Go.Proofs.YtplnaaokapilpaaDoor.Vm
open Go Go.RowKit

set_option maxRecDepth 100000 in
theorem signedP_any (x : Int) (w : World) (hx : I64 x) : Calls Tryd.prog 48 #[.int .i64 x] w fun e w' => e = .returned (.int .u64 (zig x)) ∧ w = w' := by
  have HZ := Lib.hid (zig_any x w hx.1 hx.2)
  have hw : IntKind.i64.wrap x = x := by simp only [IntKind.wrap_i64]; omega
  go_enter Tryd.func48, Tryd.ntmps48
  go_wp2_with fail
  refine HZ.out.mono ?_
  rintro e y ⟨rfl, rfl⟩
  go_wp2_with fail
  go_ret
  exact ⟨rfl, rfl⟩

theorem info_run : (Tryd.prog.info? 94).map (fun i => (i.zero, i.size, i.bytes)) = some (some (.agg #[.int .i64 0, .int .i64 0]), 2, 16) := by kernel_rfl
def qL (p : Int × Nat) : List Value := [.int .i64 p.1, .int .i64 ((p.2 - 1 : Nat) : Int)]
def qs (l : List (Int × Nat)) : List Value := l.flatMap qL
theorem qs_len : ∀ l : List (Int × Nat), (qs l).length = l.length * 2
  | [] => rfl
  | x :: q => by
    have h := qs_len q
    unfold qs at h ⊢
    rw [List.flatMap_cons, List.length_append, h]
    simp [qL]
    omega
theorem qs_append (a b : List (Int × Nat)) : qs (a ++ b) = qs a ++ qs b := by simp [qs]
theorem qs_one (l : List (Int × Nat)) : ∀ u ∈ qs l, u.oneCell' = true := by
  intro u hu
  obtain ⟨r, _, hr⟩ := List.mem_flatMap.1 hu
  simp [qL] at hr
  rcases hr with rfl | rfl <;> rfl
theorem qs_get : ∀ (l : List (Int × Nat)) (j : Nat), (qs l)[j]? = (l[j / 2]?).bind fun r => (qL r)[j % 2]?
  | [], j => by simp [qs]
  | r :: t, j => by
    have ih := qs_get t (j - 2)
    unfold qs at ih ⊢
    rw [List.flatMap_cons]
    by_cases h : j < 2
    · rw [List.getElem?_append_left (by simpa [qL] using h), Nat.div_eq_of_lt h, Nat.mod_eq_of_lt h]
      rfl
    · rw [List.getElem?_append_right (by simp [qL]; omega), show (qL r).length = 2 from rfl, ih, show j / 2 = (j - 2) / 2 + 1 by omega, show j % 2 = (j - 2) % 2 by omega]
      rfl
/-- The call owns these runs. -/
def OwnQ (w : World) (B : Nat) (v : Value) (l : List (Int × Nat)) : Prop := w.ownsRow B 94 2 v l.length (qs l)
theorem OwnQ.calls {w w' : World} {B : Nat} {v : Value} {l : List (Int × Nat)} (h : OwnQ w B v l) (hb : Below w.heap.size w w') : OwnQ w' B v l := own_upto h hb (fun k hk => (World.ownsRow.lt h k hk).2)
theorem append_run {A : World} {B : Nat} {v : Value} {out : List (Int × Nat)} (hown : OwnQ A B v out) (x : Int) (hlen : out.length ≤ 200000) (hB : B ≤ A.heap.size) :
    ∃ v' w', (Builtin.append_ #[91, 91] 91 #[v, .slice (some ⟨A.heap.size, 0, none⟩) 1 1]).run Tryd.prog (A.alloc (.cells #[.int .i64 x, .int .i64 0] 94)) = .ok v' w' ∧ OwnQ w' B v' (out ++ [(x, 1)]) ∧ A.grownBy w' v.ownBlock := by
  obtain ⟨i0, hi0, hz0, hz1, hz2⟩ := info_parts info_run
  have hba : Below A.heap.size A (A.alloc (.cells #[.int .i64 x, .int .i64 0] 94)) := (Below.refl _ _).alloc (Nat.le_refl _) _
  have hc : ∀ j u, (qs [(x, 1)])[j]? = some u → (A.alloc (.cells #[.int .i64 x, .int .i64 0] 94)).cell? ((⟨A.heap.size, 0, none⟩ : Addr).add j) = some u := by
    intro j u hj
    have hjn : j < 2 := by
      have := (List.getElem?_eq_some_iff.1 hj).1
      rw [qs_len] at this
      simpa using this
    rw [Row.add, Nat.zero_add]
    match j, hjn with
    | 0, _ => simpa [qs, qL] using hj
    | 1, _ => simpa [qs, qL] using hj
  obtain ⟨v', w', hrun, hown', hg, _⟩ := run_append_own (P := Tryd.prog) (A.alloc (.cells #[.int .i64 x, .int .i64 0] 94)) B 91 91 94 i0 (.agg #[.int .i64 0, .int .i64 0]) 2 16 Tryd.underlying91 hi0 hz0 hz1 hz2 rfl (by decide) v out.length (qs out) (hown.calls hba) ⟨A.heap.size, 0, none⟩ 1 1 (qs [(x, 1)]) (by rw [qs_len]; rfl) hc
    (qs_one _) (by unfold maxLen; omega) (by omega) (by have := hba.size; omega)
  refine ⟨v', w', hrun, ?_, ⟨hg.os.trans hba.os, hg.tape.trans hba.tape, hg.output.trans hba.output, Nat.le_trans hba.size hg.size, fun k hk hne => (hg.block k (Nat.lt_of_lt_of_le hk hba.size) hne).trans (hba.block k hk)⟩⟩
  unfold OwnQ
  rw [List.length_append, qs_append]
  exact hown'
/-- The last run's count. -/
theorem OwnQ.last {w : World} {B n c : Nat} {a : Option Addr} {q : List (Int × Nat)} {y : Int} {m : Nat} (h : OwnQ w B (.slice a n c) (q ++ [(y, m + 1)])) (hn : q.length + 1 = n) :
    ∃ g, a = some ⟨g, 0, none⟩ ∧ w.cell? ⟨g, (n - 1) * 2 + 1, none⟩ = some (.int .i64 (m : Nat)) ∧ w.frozen? ⟨g, (n - 1) * 2 + 1, none⟩ = false ∧ OwnQ (w.setCell ⟨g, (n - 1) * 2 + 1, none⟩ (.int .i64 ((m : Int) + 1))) B (.slice a n c) (q ++ [(y, m + 2)]) ∧ (B ≤ g ∧ w.grownBy (w.setCell ⟨g, (n - 1) * 2 + 1, none⟩ (.int .i64 ((m : Int) + 1))) (some g)) := by
  have hs := h
  unfold OwnQ at hs
  rw [List.length_append, show q.length + [(y, m + 1)].length = n from hn] at hs
  rcases hs.2 with ⟨hv, h0⟩ | ⟨g, cap, cur, hv, hb, hg, hnc, hm, hcs, htk⟩
  · exact absurd h0 (by omega)
  · injection hv with h1 h2 h3
    subst h1 h3
    have hq : (qs q).length = (n - 1) * 2 := by rw [qs_len]; omega
    have hc := World.ownsRow.cellAt hs ((n - 1) * 2 + 1) (by omega)
    have hfz := World.ownsRow.frozenAt hs ((n - 1) * 2 + 1)
    obtain ⟨k1, k2⟩ := World.ownsRow.stored hs ((n - 1) * 2 + 1) (.int .i64 ((m : Int) + 1))
    refine ⟨g, rfl, ?_, hfz, ?_, hb, k2⟩
    · rw [hc, qs_append, List.getElem?_append_right (by omega), hq, show (n - 1) * 2 + 1 - (n - 1) * 2 = 1 by omega]
      rfl
    · unfold OwnQ
      rw [List.length_append, show q.length + [(y, m + 2)].length = n from hn]
      have e : (qs (q ++ [(y, m + 1)])).set ((n - 1) * 2 + 1) (.int .i64 ((m : Int) + 1)) = qs (q ++ [(y, m + 2)]) := by
        rw [qs_append, qs_append, List.set_append_right _ _ (by omega), hq, show (n - 1) * 2 + 1 - (n - 1) * 2 = 1 by omega]
        rfl
      rw [← e]
      exact k1
theorem apart_count {y : Int} {m m' : Nat} : ∀ {q : List (Int × Nat)}, Apart (q ++ [(y, m)]) → Apart (q ++ [(y, m')])
  | [], _ => trivial
  | [p], h => ⟨h.1, trivial⟩
  | p :: r :: q, h => ⟨h.1, apart_count (q := r :: q) h.2⟩

set_option maxRecDepth 100000 in
set_option maxHeartbeats 4000000 in
theorem runsP_any (a : Option Addr) (n c B : Nat) (ws : List Int) (w : World) (h : RowZ .i64 w B a n c ws) (hB : B ≤ w.heap.size) (hn : n ≤ 100000) :
    Calls Tryd.prog 49 #[.slice a n c] w fun e w' => ∃ a' c', e = .returned (.slice a' (runs ws).length c') ∧ OwnQ w' w.heap.size (.slice a' (runs ws).length c') (runs ws) ∧ Below w.heap.size w w' := by
  have hl : ws.length = n := h.1
  have HL := Lib.hid hl
  have HH := Lib.hid h
  have HBB := Lib.hid hB
  clear h hl hB
  go_enter Tryd.func49, Tryd.ntmps49
  go_wp2_with fail
  go_loopg [3, 4, 5, 8] n (fun gg v vi vw i wr => ∃ (k L : Nat) (la : Option Addr) (lc : Nat) (Q : List (Int × Nat)), v = .slice la L lc ∧ i = .int .i64 k ∧ k + gg = n ∧ L ≤ k ∧ Hid (Q.length = L) ∧ Hid (Apart Q) ∧ Hid (∀ p ∈ Q, 1 ≤ p.2) ∧ Hid (expand Q = ws.take k) ∧ Hid (OwnQ wr w.heap.size v Q) ∧ Hid (Below w.heap.size w wr))
  case atStart => exact ⟨0, 0, none, 0, [], rfl, rfl, by omega, by omega, rfl, trivial, by simp [Hid], rfl, World.ownsRow_nil _ _ _ _, Below.refl _ _⟩
  case round =>
    obtain ⟨k, L, la, lc, Q, rfl, rfl, hkg, hLk, HQL, HAP, HQ1, HEX, HO, HB⟩ := hrel
    have hbs := HB.out.size
    by_cases hlt : k < n
    · obtain ⟨rb, ro, rfl, hrb, hcs⟩ := HH.out.cells (by omega)
      have hbb := HBB.out
      have x0 := (Below.cell HB.out (p := ⟨rb, ro + k, none⟩) (show rb < w.heap.size by omega)).trans (hcs k hlt)
      have hlt' : (k : Int) < (n : Int) := by omega
      have hkl : k < ws.length := by rw [HL.out]; exact hlt
      have HTK : Hid (ws.take (k + 1) = ws.take k ++ [ws.getD k 0]) := by
        unfold Hid
        rw [List.take_succ_eq_append_getElem hkl]
        simp [List.getD, hkl]
      obtain ⟨x, hx⟩ : ∃ x, ws.getD k 0 = x := ⟨_, rfl⟩
      rw [hx] at x0 HTK
      -- the run goes on, or a new one begins
      have HNEW : Hid ((∀ z, (expand Q).getLast? = some z → z ≠ x) → ∃ a' c' w', (Builtin.append_ #[91, 91] 91 #[.slice la L lc, .slice (some ⟨wr.heap.size, 0, none⟩) 1 1]).run Tryd.prog (wr.alloc (.cells #[.int .i64 x, .int .i64 0] 94)) = .ok (.slice a' (L + 1) c') w' ∧ OwnQ w' w.heap.size (.slice a' (L + 1) c') (Q ++ [(x, 1)]) ∧ Below w.heap.size w w' ∧ (Q ++ [(x, 1)]).length = L + 1 ∧ Apart (Q ++ [(x, 1)]) ∧ (∀ p ∈ Q ++ [(x, 1)], 1 ≤ p.2) ∧ expand (Q ++ [(x, 1)]) = ws.take (k + 1)) := fun hz => by
        obtain ⟨v', w', hrun, hown, hg⟩ := append_run HO.out x (by rw [HQL.out]; omega) hbs
        have hll : (Q ++ [(x, 1)]).length = L + 1 := by rw [List.length_append, HQL.out]; rfl
        obtain ⟨a', c', rfl⟩ := own_is_slice hown
        rw [hll] at hrun hown
        refine ⟨a', c', w', hrun, hown, HB.out.grown hg hbs (fun k hk => (World.ownsRow.lt HO.out k hk).1), hll, apart_snoc HAP.out HQ1.out hz, all_snoc HQ1.out (by show 1 ≤ 1; omega), ?_⟩
        rw [expand_append, expand_one, HEX.out, HTK.out]
        rfl
      by_cases hk0 : k = 0
      · subst hk0
        rw [Nat.add_zero] at x0
        obtain ⟨a', c', w', hrun, hown, hbn, hll, hap, hq1, hex⟩ := HNEW.out (fun z hz => by rw [HEX.out] at hz; simp at hz)
        have HON := Lib.hid hown
        have HBN := Lib.hid hbn
        have HLN := Lib.hid hll
        have HAN := Lib.hid hap
        have HQN := Lib.hid hq1
        have HEN := Lib.hid hex
        clear hown hbn hll hap hq1 hex hcs hx HNEW
        go_wp2_with (at_builtin; refine Lib.wpList_append_run _ rfl _ _ _ _ rfl _ _ rfl rfl _ _ hrun ?_)
        go_roundg (gk - 1)
        case measure => omega
        case rel => exact ⟨1, L + 1, a', c', Q ++ [(x, 1)], by first | rfl | trivial, by go_num, by omega, by omega, HLN.out, HAN.out, HQN.out, HEN.out, HON.out, HBN.out⟩
      · have y0 := (Below.cell HB.out (p := ⟨rb, ro + (k - 1), none⟩) (show rb < w.heap.size by omega)).trans (hcs (k - 1) (by omega))
        obtain ⟨y, hy⟩ : ∃ y, ws.getD (k - 1) 0 = y := ⟨_, rfl⟩
        rw [hy] at y0
        have HLA : Hid ((expand Q).getLast? = some y) := by
          unfold Hid
          rw [HEX.out, List.getLast?_eq_getElem?, List.length_take, Nat.min_eq_left (by omega), List.getElem?_take_of_lt (by omega), ← hy]
          simp [List.getD, show k - 1 < ws.length by omega]
        have hk1 : (0 : Int) < (k : Int) := by omega
        have hw1 : IntKind.i64.wrap ((k : Int) - 1) = (k : Int) - 1 := by simp only [IntKind.wrap_i64]; omega
        by_cases hxy : x = y
        · subst hxy
          -- the last run
          obtain ⟨q, p, hqp⟩ : ∃ q p, Q = q ++ [p] := by
            rcases List.eq_nil_or_concat Q with h0 | ⟨q, p, h0⟩
            · have := HLA.out
              rw [h0] at this
              simp [expand] at this
            · exact ⟨q, p, by simpa using h0⟩
          obtain ⟨y, m1⟩ := p
          have hm1 : 1 ≤ m1 := HQ1.out (y, m1) (by rw [hqp]; simp)
          obtain ⟨m, rfl⟩ : ∃ m, m1 = m + 1 := ⟨m1 - 1, by omega⟩
          have hyx : y = x := by
            have := HLA.out
            rw [hqp, expand_append, expand_one, List.getLast?_append, List.getLast?_replicate] at this
            simpa using this
          subst hyx
          have hql : q.length + 1 = L := by
            have := HQL.out
            rw [hqp, List.length_append] at this
            exact this
          have ho := HO.out
          rw [hqp] at ho
          obtain ⟨g, hla, gc, gf, ho2, hgB, hg⟩ := ho.last hql
          subst hla
          have hml : m + 1 ≤ k := by
            have h1 := congrArg List.length HEX.out
            rw [hqp, expand_append, expand_one, List.length_append, List.length_replicate, List.length_take] at h1
            simp only [] at h1
            omega
          have hw2 : IntKind.i64.wrap ((m : Int) + 1) = (m : Int) + 1 := by simp only [IntKind.wrap_i64]; omega
          have hw3 : IntKind.i64.wrap ((L : Int) - 1) = (L : Int) - 1 := by simp only [IntKind.wrap_i64]; omega
          have HON := Lib.hid ho2
          have HBN := Lib.hid (HB.out.grown hg hbs (fun k hk => by injection hk with hk; omega))
          have HLN : Hid ((q ++ [(y, m + 2)]).length = L) := by unfold Hid; rw [List.length_append]; exact hql
          have HAN : Hid (Apart (q ++ [(y, m + 2)])) := apart_count (by have := HAP.out; rw [hqp] at this; exact this)
          have HQN : Hid (∀ p ∈ q ++ [(y, m + 2)], 1 ≤ p.2) := all_snoc (fun p hp => HQ1.out p (by rw [hqp]; simp [hp])) (by show 1 ≤ m + 2; omega)
          have HEN : Hid (expand (q ++ [(y, m + 2)]) = ws.take (k + 1)) := by
            unfold Hid
            rw [HTK.out, ← HEX.out, hqp, expand_append, expand_append, expand_one, expand_one, List.append_assoc]
            show expand q ++ List.replicate (m + 2) y = expand q ++ (List.replicate (m + 1) y ++ [y])
            rw [← List.replicate_succ']
          have hL0 : ¬ L = 0 := by omega
          clear ho ho2 hg hcs hx hy HNEW hqp hql
          go_wp2_with fail
          go_roundg (gk - 1)
          case measure => omega
          case rel => exact ⟨k + 1, L, _, lc, q ++ [(y, m + 2)], by first | rfl | trivial, by go_num, by omega, by omega, HLN.out, HAN.out, HQN.out, HEN.out, HON.out, HBN.out⟩
        · obtain ⟨a', c', w', hrun, hown, hbn, hll, hap, hq1, hex⟩ := HNEW.out (fun z hz => by rw [HLA.out] at hz; injection hz with hz; rw [← hz]; exact fun e => hxy e.symm)
          have HON := Lib.hid hown
          have HBN := Lib.hid hbn
          have HLN := Lib.hid hll
          have HAN := Lib.hid hap
          have HQN := Lib.hid hq1
          have HEN := Lib.hid hex
          have hxy' : (x == y) = false := by simp; omega
          clear hown hbn hll hap hq1 hex hcs hx hy HNEW
          go_wp2_with (at_builtin; refine Lib.wpList_append_run _ rfl _ _ _ _ rfl _ _ rfl rfl _ _ hrun ?_)
          go_roundg (gk - 1)
          case measure => omega
          case rel => exact ⟨k + 1, L + 1, a', c', Q ++ [(x, 1)], by first | rfl | trivial, by go_num, by omega, by omega, HLN.out, HAN.out, HQN.out, HEN.out, HON.out, HBN.out⟩
    · obtain rfl : n = k := by omega
      have hrs : runs ws = Q := by
        have h1 := HEX.out
        rw [List.take_of_length_le (show ws.length ≤ n by rw [HL.out]; exact Nat.le_refl _)] at h1
        rw [← h1]
        exact runs_of HAP.out HQ1.out
      have hql := HQL.out
      have ho := HO.out
      rw [← hrs] at hql ho
      rw [← hql] at ho ⊢
      have HOF := Lib.hid ho
      clear ho hql hrs
      go_wp2_with fail
      go_ret
      exact ⟨la, lc, rfl, HOF.out, HB.out⟩
end Go.Proofs.YtplnaaokapilpaaDoor.Vm

namespace Go.Proofs.YtplnaaokapilpaaDoor.Vm
open Go Go.RowKit

/-- The numbers of a record. -/
def putP (p : Inp × Int) : List Int := [zig p.1.k, zig p.1.a, zig p.1.b, zig p.1.c, p.2]
def runP (p : Int × Nat) : List Int := [p.1, ((p.2 - 1 : Nat) : Int)]
def numsR (x : Rcd) : List Int := [x.tick, (x.ins.length : Int)] ++ (x.ins.zip x.cs).flatMap putP ++ [((runs x.ws).length : Int)] ++ (runs x.ws).flatMap runP ++ [x.ck]
theorem flat2a {α : Type} {f : α → List Int} {g : α → List Nat} (h : ∀ r, (f r).flatMap encI = g r) : ∀ rs : List α, (rs.flatMap f).flatMap encI = rs.flatMap g
  | [] => rfl
  | r :: q => by rw [List.flatMap_cons, List.flatMap_append, h, flat2a h q, List.flatMap_cons]
theorem numsR_enc (x : Rcd) : (numsR x).flatMap encI = encR x := by
  have h1 := flat2a (f := putP) (g := encPut) (fun r => by simp [putP, encPut, encZ, encI, List.append_assoc]) (x.ins.zip x.cs)
  have h2 := flat2a (f := runP) (g := encRun) (fun r => by simp [runP, encRun, encI]) (runs x.ws)
  unfold numsR encR
  simp only [List.flatMap_append, h1, h2]
  simp [encI, List.append_assoc]
theorem flat_lena {α : Type} {f : α → List Int} {m : Nat} (h : ∀ r, (f r).length = m) : ∀ rs : List α, (rs.flatMap f).length = m * rs.length
  | [] => by simp
  | r :: q => by rw [List.flatMap_cons, List.length_append, h, flat_lena h q, List.length_cons, Nat.mul_succ, Nat.add_comm]
theorem numsR_len {x : Rcd} (h : CanR x) : (numsR x).length = 4 + 5 * x.ins.length + 2 * (runs x.ws).length := by
  unfold numsR
  simp only [List.length_append, flat_lena (f := putP) (m := 5) (fun r => rfl), flat_lena (f := runP) (m := 2) (fun r => rfl), List.length_zip, h.cn, Nat.min_self]
  simp
  omega
theorem numsR_in {x : Rcd} (h : CanR x) (hw : WfR x) (hn : x.ins.length ≤ 1000 ∧ x.ws.length ≤ 100000) : ∀ y ∈ numsR x, 0 ≤ y ∧ y < 18446744073709551616 := by
  intro y hy
  unfold numsR at hy
  have ht := h.tick
  have hk := hw.ck
  have hrl := runs_len x.ws
  rcases List.mem_append.1 hy with hy | hy
  · rcases List.mem_append.1 hy with hy | hy
    · rcases List.mem_append.1 hy with hy | hy
      · rcases List.mem_append.1 hy with hy | hy
        · simp at hy
          rcases hy with rfl | rfl <;> omega
        · obtain ⟨p, hp, hy⟩ := List.mem_flatMap.1 hy
          obtain ⟨u, v⟩ := p
          obtain ⟨h1, h2⟩ := List.of_mem_zip hp
          obtain ⟨a, b, c, d⟩ := hw.ins u h1
          have e := h.cs v h2
          have z1 := zig_bd a.1 a.2
          have z2 := zig_bd b.1 b.2
          have z3 := zig_bd c.1 c.2
          have z4 := zig_bd d.1 d.2
          simp [putP] at hy
          rcases hy with rfl | rfl | rfl | rfl | rfl <;> omega
      · simp at hy; omega
    · obtain ⟨p, hp, hy⟩ := List.mem_flatMap.1 hy
      obtain ⟨h1, h2, h3⟩ := runs_mem x.ws p hp
      have e := h.ws _ h1
      simp [runP] at hy
      rcases hy with rfl | rfl <;> omega
  · simp at hy; omega
theorem OwnQ.at {w : World} {B n c : Nat} {a : Option Addr} {q : List (Int × Nat)} (h : OwnQ w B (.slice a n c) q) (hn : q.length = n) {k : Nat} (hk : k < n) :
    ∃ g, a = some ⟨g, 0, none⟩ ∧ g < w.heap.size ∧ w.cell? ⟨g, k * 2, none⟩ = some (.int .i64 (q.getD k (0, 0)).1) ∧ w.cell? ⟨g, k * 2 + 1, none⟩ = some (.int .i64 (((q.getD k (0, 0)).2 - 1 : Nat) : Int)) := by
  have hs := h
  unfold OwnQ at hs
  rw [hn] at hs
  rcases hs.2 with ⟨hv, h0⟩ | ⟨g, cap, cur, hv, hb, hg, hnc, hm, hcs, htk⟩
  · exact absurd h0 (by omega)
  · injection hv with h1 h2 h3
    subst h1 h3
    have h4 : ∀ j, j < 2 → ∀ u, (qL (q.getD k (0, 0)))[j]? = some u → w.cell? ⟨g, k * 2 + j, none⟩ = some u := fun j hj u hu => by
      rw [World.ownsRow.cellAt hs (k * 2 + j) (by omega), qs_get, show (k * 2 + j) / 2 = k by omega, show (k * 2 + j) % 2 = j by omega]
      simpa [List.getD, show k < q.length by omega] using hu
    exact ⟨g, rfl, (Array.getElem?_eq_some_iff.1 hg).1, h4 0 (by omega) _ rfl, h4 1 (by omega) _ rfl⟩
theorem flat_takea {α β : Type} {f : α → List β} {l : List α} {k : Nat} (d : α) (hk : k < l.length) : (l.take (k + 1)).flatMap f = (l.take k).flatMap f ++ f (l.getD k d) := by
  rw [List.take_succ_eq_append_getElem hk, List.flatMap_append]
  simp [List.getD, hk]
theorem zip_getD {ins : List Inp} {cs : List Int} {k : Nat} (hc : cs.length = ins.length) (hk : k < ins.length) : (ins.zip cs).getD k (zx, 0) = (ins.getD k zx, cs.getD k 0) := by
  have hl : k < (ins.zip cs).length := by rw [List.length_zip]; omega
  simp [List.getD, hk, show k < cs.length by omega, List.getElem?_eq_getElem hl, List.getElem_zip]

set_option maxRecDepth 100000 in
set_option maxHeartbeats 8000000 in
theorem recNums_any (h : Rh) (x : Rcd) (w : World) (hin : RhIn w w.heap.size h x) (hwf : WfR x) (hn : x.ins.length ≤ 1000 ∧ x.ws.length ≤ 100000 ∧ (runs x.ws).length ≤ 10000) (hcan : CanR x) :
    Calls Tryd.prog 30 #[rhV h] w fun e w' => ∃ a c, e = .returned (.slice a (numsR x).length c) ∧ OwnU w' w.heap.size (.slice a (numsR x).length c) (numsR x) ∧ Below w.heap.size w w' := by
  have hB1 : Below w.heap.size w (w.alloc (rhO h)) := (Below.refl _ _).alloc (Nat.le_refl _) _
  have hs1 := rhAt_new w h
  obtain ⟨w1, hw1⟩ : ∃ w1, w1 = w.alloc (rhO h) := ⟨_, rfl⟩
  have hz1 : w1.heap.size = w.heap.size + 1 := by rw [hw1]; simp
  rw [← hw1] at hB1 hs1
  have HW := Lib.hid hw1
  have HB1 := Lib.hid hB1
  have HS := Lib.hid hs1
  have HIN := Lib.hid (hin.below hB1)
  have HCAN := Lib.hid hcan
  have HWF := Lib.hid hwf
  have HN1 := Lib.hid hin.ins.1
  have HN2 : Hid (x.cs.length = h.n1) := hcan.cn.trans hin.ins.1
  have HNN := Lib.hid hin.cs.1
  have HN3 := Lib.hid hin.ws.1
  have HT := Lib.hid hin.tick
  have HK := Lib.hid hin.ck
  have HR := Lib.hid hn.2.2
  have hn1 : h.n1 ≤ 1000 := by have := hin.ins.1; omega
  have hn3 : h.n3 ≤ 100000 := by have := hin.ws.1; omega
  have hn2 : h.n2 = h.n1 := by have := hin.cs.1; have := HN2.out; omega
  have htc := hcan.tick
  rw [← hin.tick] at htc
  have hkc := hwf.ck
  rw [← hin.ck] at hkc
  obtain ⟨t, a1, n1, c1, a2, n2, c2, a3, n3, c3, ck⟩ := h
  simp only [] at HN1 HN2 HN3 HNN HT HK hn1 hn2 hn3 htc hkc
  obtain rfl : n1 = n2 := hn2.symm
  clear hn2
  obtain ⟨s0, s1, s2, s3, s4⟩ := hs1
  simp only [] at s0 s1 s2 s3 s4
  have hwt : IntKind.u64.wrap t = t := by simp only [IntKind.wrap_u64]; omega
  have hw1' : IntKind.u64.wrap (n1 : Int) = (n1 : Int) := by simp only [IntKind.wrap_u64]; omega
  have HO0 : Hid (OwnU (w1.alloc (.cells #[.int .u64 t, .int .u64 n1] 56)) w1.heap.size (.slice (some ⟨w1.heap.size, 0, none⟩) 2 2) ([t, (n1 : Int)] ++ ((x.ins.zip x.cs).take 0).flatMap putP)) := ownU_lit w1 (Nat.le_refl _) [t, (n1 : Int)] (by simp)
  have HB0 : Hid (Below w1.heap.size w1 (w1.alloc (.cells #[.int .u64 t, .int .u64 n1] 56))) := (Below.refl _ _).alloc (Nat.le_refl _) _
  have hz1' : w.heap.size + 1 = w1.heap.size := by omega
  have hz1a : w1.heap.size ≤ w.heap.size + 1 := by omega
  have hz1b : w.heap.size + 1 ≤ w1.heap.size := by omega
  clear hin hB1 hw1 hn hcan hwf hz1
  go_enter Tryd.func30, Tryd.ntmps30
  go_wp2_with fail
  rw [← HW.out]
  first | rw [hz1'] | skip
  clear hz1'
  go_loopg [3, 20] n1 (fun gg v i wr => ∃ (k L : Nat) (la : Option Addr) (lc : Nat), v = .slice la L lc ∧ i = .int .i64 k ∧ k + gg = n1 ∧ L ≤ 2 + 5 * k ∧ Hid (([t, (n1 : Int)] ++ ((x.ins.zip x.cs).take k).flatMap putP).length = L) ∧ Hid (OwnU wr w1.heap.size v ([t, (n1 : Int)] ++ ((x.ins.zip x.cs).take k).flatMap putP)) ∧ Hid (Below w1.heap.size w1 wr))
  case atStart => exact ⟨0, 2, some ⟨w1.heap.size, 0, none⟩, 2, by first | rfl | trivial, rfl, by omega, by omega, rfl, HO0.out, HB0.out⟩
  case round =>
    clear HO0 HB0
    obtain ⟨k, L, la, lc, rfl, rfl, hkg, hLk, HLL, HO, HB⟩ := hrel
    by_cases hlt : k < n1
    · obtain ⟨rb, ro, rfl, hrb, hcs⟩ := HIN.out.ins.2.2.2 (show 0 < n1 by omega)
      obtain ⟨eb, eo, rfl, heb, hes⟩ := HIN.out.cs.cells (show 0 < n1 by omega)
      have hbs := HB.out.size
      obtain ⟨x0, x1, x2, x3⟩ := hcs k hlt
      have x0 := (Below.cell HB.out (p := ⟨rb, _, none⟩) (show rb < w1.heap.size by omega)).trans x0
      have x1 := (Below.cell HB.out (p := ⟨rb, _, none⟩) (show rb < w1.heap.size by omega)).trans x1
      have x2 := (Below.cell HB.out (p := ⟨rb, _, none⟩) (show rb < w1.heap.size by omega)).trans x2
      have x3 := (Below.cell HB.out (p := ⟨rb, _, none⟩) (show rb < w1.heap.size by omega)).trans x3
      have e0 := (Below.cell HB.out (p := ⟨eb, eo + k, none⟩) (show eb < w1.heap.size by omega)).trans (hes k hlt)
      have hrbw : rb < wr.heap.size := by omega
      have hebw : eb < wr.heap.size := by omega
      have hk' : k < x.ins.length := by rw [HN1.out]; exact hlt
      have HM := Lib.hid (flat_takea (f := putP) (zx, 0) (show k < (x.ins.zip x.cs).length by rw [List.length_zip, HCAN.out.cn, Nat.min_self]; exact hk'))
      have hwi := HWF.out.ins (x.ins.getD k zx) (by simp [List.getD, hk'])
      have hci := HCAN.out.cs (x.cs.getD k 0) (by simp [List.getD, show k < x.cs.length by rw [HCAN.out.cn]; exact hk'])
      rw [zip_getD HCAN.out.cn hk'] at HM
      obtain ⟨y, hy⟩ : ∃ y, x.ins.getD k zx = y := ⟨_, rfl⟩
      obtain ⟨d, hd⟩ : ∃ d, x.cs.getD k 0 = d := ⟨_, rfl⟩
      rw [hy] at x0 x1 x2 x3 hwi HM
      rw [hd] at e0 hci HM
      have hlt' : (k : Int) < (n1 : Int) := by omega
      have HSG : Hid (∀ (z : Int) (V : World), I64 z → Calls Tryd.prog 48 #[.int .i64 z] V fun e w' => e = .returned (.int .u64 (zig z)) ∧ V = w') := fun z V hz => signedP_any z V hz
      have wd : IntKind.u64.wrap d = d := by simp only [IntKind.wrap_u64]; omega
      obtain ⟨A0, hA0⟩ : ∃ A0, A0 = wr.alloc (.cells #[.int .i64 y.k, .int .i64 y.a, .int .i64 y.b, .int .i64 y.c] 89) := ⟨_, rfl⟩
      have hba : Below wr.heap.size wr A0 := by rw [hA0]; exact (Below.refl _ _).alloc (Nat.le_refl _) _
      have hz : A0.heap.size = wr.heap.size + 1 := by rw [hA0]; simp
      have hoa : OwnU A0.drew w1.heap.size (.slice la L lc) ([t, (n1 : Int)] ++ ((x.ins.zip x.cs).take k).flatMap putP) := HO.out.calls hba.drew
      obtain ⟨v', w', hrun, hown, hg⟩ := append_us hoa (putP (y, d)) 5 rfl #[.int .u64 (zig y.k), .int .u64 (zig y.a), .int .u64 (zig y.b), .int .u64 (zig y.c), .int .u64 d] rfl (by rw [HLL.out]; omega) (by show w1.heap.size ≤ A0.heap.size; omega)
      have hbn : Below w1.heap.size w1 w' := (HB.out.trans (hba.drew.mono hbs)).grown hg (by show w1.heap.size ≤ A0.heap.size; omega) (fun k hk => (World.ownsRow.lt hoa k hk).1)
      obtain ⟨a', c', rfl⟩ := hown.slice
      have hll : ([t, (n1 : Int)] ++ ((x.ins.zip x.cs).take k).flatMap putP ++ putP (y, d)).length = L + 5 := by rw [List.length_append, HLL.out]; rfl
      rw [hll] at hrun hown
      have hcat : [t, (n1 : Int)] ++ ((x.ins.zip x.cs).take k).flatMap putP ++ putP (y, d) = [t, (n1 : Int)] ++ ((x.ins.zip x.cs).take (k + 1)).flatMap putP := by rw [HM.out, List.append_assoc]
      rw [hcat] at hown hll
      have HON := Lib.hid hown
      have HBN := Lib.hid hbn
      have HLN := Lib.hid hll
      have hin := boxAt_new wr #[.int .i64 y.k, .int .i64 y.a, .int .i64 y.b, .int .i64 y.c] 89
      rw [← hA0] at hin
      have i0 := hin.cell (i := 0) rfl
      have i1 := hin.cell (i := 1) rfl
      have i2 := hin.cell (i := 2) rfl
      have i3 := hin.cell (i := 3) rfl
      have r2 : A0.cell? ⟨w.heap.size, 2, none⟩ = some (.slice (some ⟨eb, eo, none⟩) n1 c2) := (Below.cell hba (p := ⟨w.heap.size, 2, none⟩) (show w.heap.size < wr.heap.size by omega)).trans ((Below.cell HB.out (p := ⟨w.heap.size, 2, none⟩) (show w.heap.size < w1.heap.size by omega)).trans s2)
      have re := (Below.cell hba (p := ⟨eb, eo + k, none⟩) hebw).trans e0
      have HKS : Hid (∀ V, V = A0 ∨ V = A0.drew ∨ V = (A0.alloc (.cells #[.int .u64 (zig y.k), .int .u64 (zig y.a), .int .u64 (zig y.b), .int .u64 (zig y.c), .int .u64 d] 56)).drew ∨ V = w' → V.cell? ⟨wr.heap.size, 0, none⟩ = some (.int .i64 y.k) ∧ V.cell? ⟨wr.heap.size, 1, none⟩ = some (.int .i64 y.a) ∧ V.cell? ⟨wr.heap.size, 2, none⟩ = some (.int .i64 y.b) ∧ V.cell? ⟨wr.heap.size, 3, none⟩ = some (.int .i64 y.c) ∧ V.cell? ⟨w.heap.size, 2, none⟩ = some (.slice (some ⟨eb, eo, none⟩) n1 c2) ∧ V.cell? ⟨eb, eo + k, none⟩ = some (.int .i64 d)) := fun V hV => by
        have hal : Below A0.heap.size A0 (A0.alloc (.cells #[.int .u64 (zig y.k), .int .u64 (zig y.a), .int .u64 (zig y.b), .int .u64 (zig y.c), .int .u64 d] 56)).drew := ((Below.refl _ _).alloc (Nat.le_refl _) _).drew
        have hgl := fun k hk => World.ownsRow.lt HO.out k hk
        have kc : ∀ (b i : Nat) (u : Value), b < A0.heap.size → (Value.slice la L lc).ownBlock ≠ some b → A0.cell? ⟨b, i, none⟩ = some u → w'.cell? ⟨b, i, none⟩ = some u := fun b i u h1 h2 h3 => by
          have h4 := World.cell?_of_block (a := ⟨b, i, none⟩) (hg.block b h1 (fun e => h2 e.symm))
          exact h4.trans h3
        have n0 : (Value.slice la L lc).ownBlock ≠ some wr.heap.size := fun e => by have := (hgl _ e).2; omega
        have n1' : (Value.slice la L lc).ownBlock ≠ some w.heap.size := fun e => by have := (hgl _ e).1; omega
        have n2' : (Value.slice la L lc).ownBlock ≠ some eb := fun e => by have := (hgl _ e).1; omega
        rcases hV with rfl | rfl | rfl | rfl
        · exact ⟨i0, i1, i2, i3, r2, re⟩
        · exact ⟨i0, i1, i2, i3, r2, re⟩
        · exact ⟨(Below.cell hal (p := ⟨wr.heap.size, 0, none⟩) (show wr.heap.size < A0.heap.size by omega)).trans i0, (Below.cell hal (p := ⟨wr.heap.size, 1, none⟩) (show wr.heap.size < A0.heap.size by omega)).trans i1, (Below.cell hal (p := ⟨wr.heap.size, 2, none⟩) (show wr.heap.size < A0.heap.size by omega)).trans i2, (Below.cell hal (p := ⟨wr.heap.size, 3, none⟩) (show wr.heap.size < A0.heap.size by omega)).trans i3, (Below.cell hal (p := ⟨w.heap.size, 2, none⟩) (show w.heap.size < A0.heap.size by omega)).trans r2, (Below.cell hal (p := ⟨eb, eo + k, none⟩) (show eb < A0.heap.size by omega)).trans re⟩
        · exact ⟨kc _ _ _ (by omega) n0 i0, kc _ _ _ (by omega) n0 i1, kc _ _ _ (by omega) n0 i2, kc _ _ _ (by omega) n0 i3, kc _ _ _ (by omega) n1' r2, kc _ _ _ (by omega) n2' re⟩
      have hwe : (A0.drew).alloc (.cells #[.int .u64 (zig y.k), .int .u64 (zig y.a), .int .u64 (zig y.b), .int .u64 (zig y.c), .int .u64 d] 56) = (A0.alloc (.cells #[.int .u64 (zig y.k), .int .u64 (zig y.a), .int .u64 (zig y.b), .int .u64 (zig y.c), .int .u64 d] 56)).drew := rfl
      have hsz : A0.drew.heap.size = A0.heap.size := rfl
      rw [hwe, hsz] at hrun
      clear hwe hsz
      obtain ⟨z1, z2, z3, z4⟩ := hwi
      have HA0 := Lib.hid hA0
      have HSZ := Lib.hid hz
      clear hba hz hoa hg hbn hown hcat hA0 hcs hes hy hd hll hin i0 i1 i2 i3 r2 re hci
      go_wp2_with fail
      rw [← HA0.out]
      clear x0 x1 x2 x3 e0
      go_region_held3 (fun V => V.cell? ⟨wr.heap.size, 0, none⟩ = some (.int .i64 y.k) ∧ V.cell? ⟨wr.heap.size, 1, none⟩ = some (.int .i64 y.a) ∧ V.cell? ⟨wr.heap.size, 2, none⟩ = some (.int .i64 y.b) ∧ V.cell? ⟨wr.heap.size, 3, none⟩ = some (.int .i64 y.c) ∧ V.cell? ⟨w.heap.size, 2, none⟩ = some (.slice (some ⟨eb, eo, none⟩) n1 c2) ∧ V.cell? ⟨eb, eo + k, none⟩ = some (.int .i64 d))
        (first | exact HKS.out _ (.inl rfl) | exact HKS.out _ (.inr (.inl rfl)) | exact HKS.out _ (.inr (.inr (.inl rfl))) | exact HKS.out _ (.inr (.inr (.inr rfl))))
        (first
          | (go_at_call 48; refine (HSG.out y.k _ z1).mono ?_; rintro e V ⟨rfl, rfl⟩)
          | (go_at_call 48; refine (HSG.out y.a _ z2).mono ?_; rintro e V ⟨rfl, rfl⟩)
          | (go_at_call 48; refine (HSG.out y.b _ z3).mono ?_; rintro e V ⟨rfl, rfl⟩)
          | (go_at_call 48; refine (HSG.out y.c _ z4).mono ?_; rintro e V ⟨rfl, rfl⟩)
          | (refine step_append_of rfl _ _ _ rfl rfl rfl hrun ?_))
      go_wp2_with fail
      go_roundg (gk - 1)
      case measure => omega
      case rel => exact ⟨k + 1, L + 5, a', c', by first | rfl | trivial, by go_num, by omega, by omega, HLN.out, HON.out, HBN.out⟩
    · obtain rfl : n1 = k := by omega
      have htk : (x.ins.zip x.cs).take n1 = x.ins.zip x.cs := List.take_of_length_le (by rw [List.length_zip, HN1.out, HN2.out, Nat.min_self]; exact Nat.le_refl _)
      have hLF := HLL.out
      have hOF := HO.out
      rw [htk] at hOF hLF
      have HOF := Lib.hid hOF
      have HLF := Lib.hid hLF
      have HBF := Lib.hid HB.out
      obtain ⟨wq, hwq⟩ : ∃ wq, wq = wr := ⟨_, rfl⟩
      rw [← hwq] at HOF HBF ⊢
      have p3 := (Below.cell HBF.out (p := ⟨w.heap.size, 3, none⟩) (show w.heap.size < w1.heap.size by omega)).trans s3
      have hbs := HBF.out.size
      have HRN := Lib.hid (runsP_any a3 n3 c3 w.heap.size x.ws wq (HIN.out.ws.below (HBF.out.mono (by omega))) (by omega) hn3)
      obtain ⟨R, hR⟩ : ∃ R, runs x.ws = R := ⟨_, rfl⟩
      have HRR := Lib.hid hR
      have hRl : R.length ≤ 10000 := by rw [← hR]; exact HR.out
      rw [hR] at HRN
      obtain ⟨m, hm⟩ : ∃ m, R.length = m := ⟨_, rfl⟩
      have HM := Lib.hid hm
      rw [hm] at HRN hRl
      clear hOF hLF HO HLL HB hwq htk hR hm
      go_wp2_with fail
      refine HRN.out.mono ?_
      rintro e wp ⟨qa, qc, rfl, hoq, hbq⟩
      have HOQ : Hid (OwnQ wp w1.heap.size (.slice qa m qc) R) := by
        refine ⟨hoq.1, ?_⟩
        rcases hoq.2 with h2 | ⟨g, cap, cur, hv, hb, r⟩
        · exact .inl h2
        · exact .inr ⟨g, cap, cur, hv, Nat.le_trans hbs hb, r⟩
      have HOF2 := Lib.hid (HOF.out.calls hbq)
      have HBF2 := Lib.hid (HBF.out.trans (hbq.mono hbs))
      have hbs3 := hbq.size
      clear hoq hbq HOF HBF
      have HOF := Lib.hid HOF2.out
      have HBF := Lib.hid HBF2.out
      have hbs : w1.heap.size ≤ wp.heap.size := by omega
      clear HOF2 HBF2
      have wm : IntKind.u64.wrap ((m : Int)) = (m : Int) := by simp only [IntKind.wrap_u64]; omega
      obtain ⟨v', w', hrun, hown, hg⟩ := append_us HOF.out [(m : Int)] 1 rfl #[.int .u64 ((m : Int))] rfl (by rw [HLF.out]; omega) hbs
      have hbn : Below w1.heap.size w1 w' := HBF.out.grown hg hbs (fun k hk => (World.ownsRow.lt HOF.out k hk).1)
      obtain ⟨a', c', rfl⟩ := hown.slice
      have hll : (([t, (n1 : Int)] ++ (x.ins.zip x.cs).flatMap putP) ++ [(m : Int)]).length = L + 1 := by rw [List.length_append, HLF.out]; rfl
      rw [hll] at hrun hown
      have HON := Lib.hid hown
      have HLN := Lib.hid hll
      have HBN := Lib.hid hbn
      have hbs2 := hbn.size
      have hqs : w.heap.size < wp.heap.size := by omega
      have HQN : Hid (OwnQ w' w1.heap.size (.slice qa m qc) R) := World.ownsRow.kept HOQ.out hg (own_own HOF.out HOQ.out (by decide))
      clear hown hg hbn hll HOF HLF HBF HOQ
      go_wp2_with (at_builtin; refine Lib.wpList_append_run _ rfl _ _ _ _ rfl _ _ rfl rfl _ _ hrun ?_)
      go_loopg [3, 58] m (fun gg v i wr => ∃ (k L : Nat) (la : Option Addr) (lc : Nat), v = .slice la L lc ∧ i = .int .i64 k ∧ k + gg = m ∧ L ≤ 5003 + 2 * k ∧ Hid ((([t, (n1 : Int)] ++ (x.ins.zip x.cs).flatMap putP ++ [(m : Int)]) ++ (R.take k).flatMap runP).length = L) ∧ Hid (OwnU wr w1.heap.size v (([t, (n1 : Int)] ++ (x.ins.zip x.cs).flatMap putP ++ [(m : Int)]) ++ (R.take k).flatMap runP)) ∧ Hid (OwnQ wr w1.heap.size (.slice qa m qc) R) ∧ Hid (Below w1.heap.size w1 wr))
      case atStart => exact ⟨0, _, a', c', by first | rfl | trivial, rfl, by omega, by omega, by simpa [Hid] using HLN.out, by simpa [Hid] using HON.out, HQN.out, HBN.out⟩
      case round =>
        clear HON HLN HBN HQN
        obtain ⟨k, L, la, lc, rfl, rfl, hkg, hLk, HLL, HO, HQ, HB⟩ := hrel
        by_cases hlt : k < m
        · obtain ⟨g, rfl, hgw, x0, x1⟩ := HQ.out.at HM.out hlt
          have hbs := HB.out.size
          have hk' : k < R.length := by rw [HM.out]; exact hlt
          have HTK := Lib.hid (flat_takea (f := runP) (0, 0) hk')
          have hpm : R.getD k (0, 0) ∈ runs x.ws := by rw [HRR.out]; simp [List.getD, hk']
          obtain ⟨r1, r2, r3⟩ := runs_mem x.ws _ hpm
          have r4 := HCAN.out.ws _ r1
          have hnw := HN3.out
          obtain ⟨⟨py, pm⟩, hp⟩ : ∃ p, R.getD k (0, 0) = p := ⟨_, rfl⟩
          rw [hp] at x0 x1 r2 r3 r4 HTK
          simp only [] at x0 x1 r2 r3 r4
          have hlt' : (k : Int) < (m : Int) := by omega
          obtain ⟨pf, hpf⟩ : ∃ pf, pm - 1 = pf := ⟨_, rfl⟩
          rw [hpf] at x1
          have wa : IntKind.u64.wrap py = py := by simp only [IntKind.wrap_u64]; omega
          have wb : IntKind.u64.wrap (pf : Int) = (pf : Int) := by simp only [IntKind.wrap_u64]; omega
          obtain ⟨A0, hA0⟩ : ∃ A0, A0 = wr.alloc (.cells #[.int .i64 py, .int .i64 pf] 94) := ⟨_, rfl⟩
          have hba : Below wr.heap.size wr A0 := by rw [hA0]; exact (Below.refl _ _).alloc (Nat.le_refl _) _
          have hz : A0.heap.size = wr.heap.size + 1 := by rw [hA0]; simp
          have hoa := HO.out.calls hba
          obtain ⟨v', w', hrun, hown, hg⟩ := append_us hoa [py, (pf : Int)] 2 rfl #[.int .u64 py, .int .u64 pf] rfl (by rw [HLL.out]; omega) (by omega)
          have hbn : Below w1.heap.size w1 w' := (HB.out.trans (hba.mono hbs)).grown hg (by omega) (fun k hk => (World.ownsRow.lt hoa k hk).1)
          have HQN : Hid (OwnQ w' w1.heap.size (.slice (some ⟨g, 0, none⟩) m qc) R) := World.ownsRow.kept (HQ.out.calls hba) hg (own_own hoa (HQ.out.calls hba) (by decide))
          obtain ⟨a', c', rfl⟩ := hown.slice
          have hll : (([t, (n1 : Int)] ++ (x.ins.zip x.cs).flatMap putP ++ [(m : Int)]) ++ (R.take k).flatMap runP ++ [py, (pf : Int)]).length = L + 2 := by rw [List.length_append, HLL.out]; rfl
          rw [hll] at hrun hown
          have hcat : ([t, (n1 : Int)] ++ (x.ins.zip x.cs).flatMap putP ++ [(m : Int)]) ++ (R.take k).flatMap runP ++ [py, (pf : Int)] = ([t, (n1 : Int)] ++ (x.ins.zip x.cs).flatMap putP ++ [(m : Int)]) ++ (R.take (k + 1)).flatMap runP := by rw [HTK.out, List.append_assoc, ← hpf]; rfl
          rw [hcat] at hown hll
          have HON := Lib.hid hown
          have HBN := Lib.hid hbn
          have HLN := Lib.hid hll
          rw [hz, hA0] at hrun
          clear hba hz hoa hg hbn hown hcat hA0 hp hll hpm r1 hpf HQ HO HLL HTK
          go_wp2_with (at_builtin; refine Lib.wpList_append_run _ rfl _ _ _ _ rfl _ _ rfl rfl _ _ hrun ?_)
          go_roundg (gk - 1)
          case measure => omega
          case rel => exact ⟨k + 1, L + 2, a', c', by first | rfl | trivial, by go_num, by omega, by omega, HLN.out, HON.out, HQN.out, HBN.out⟩
        · obtain rfl : m = k := by omega
          have htk : R.take m = R := List.take_of_length_le (by rw [HM.out]; exact Nat.le_refl _)
          have hLF := HLL.out
          have hOF := HO.out
          rw [htk] at hOF hLF
          have HOF := Lib.hid hOF
          have HLF := Lib.hid hLF
          have HBF := Lib.hid HB.out
          obtain ⟨wp, hwp⟩ : ∃ wp, wp = wr := ⟨_, rfl⟩
          rw [← hwp] at HOF HBF ⊢
          have p4 := (Below.cell HBF.out (p := ⟨w.heap.size, 4, none⟩) (show w.heap.size < w1.heap.size by omega)).trans s4
          have hbs := HBF.out.size
          clear hOF hLF HO HLL HB hwp htk HQ
          have wck : IntKind.u64.wrap (ck) = ck := by simp only [IntKind.wrap_u64]; omega
          obtain ⟨v', w', hrun, hown, hg⟩ := append_us HOF.out [ck] 1 rfl #[.int .u64 (ck)] rfl (by rw [HLF.out]; omega) hbs
          have hbn : Below w1.heap.size w1 w' := HBF.out.grown hg hbs (fun k hk => (World.ownsRow.lt HOF.out k hk).1)
          obtain ⟨a', c', rfl⟩ := hown.slice
          have hll : ((([t, (n1 : Int)] ++ (x.ins.zip x.cs).flatMap putP ++ [(m : Int)]) ++ R.flatMap runP) ++ [ck]).length = L + 1 := by rw [List.length_append, HLF.out]; rfl
          rw [hll] at hrun hown
          have HON := Lib.hid hown
          have HLN := Lib.hid hll
          have HBN := Lib.hid hbn
          have hbs2 := hbn.size
          have hqs : w.heap.size < wp.heap.size := by omega
          have hfin : ([t, (n1 : Int)] ++ (x.ins.zip x.cs).flatMap putP ++ [(m : Int)]) ++ R.flatMap runP ++ [ck] = numsR x := by
            unfold numsR
            rw [HN1.out, HT.out, HK.out, HRR.out, HM.out]
          rw [hfin] at HON HLN
          have hlf := HLN.out
          have hof := HON.out
          rw [← hlf] at hof hrun
          have HOE := Lib.hid hof
          clear hown hg hbn hll HOF HLF HBF hfin hlf hof HON HLN
          go_wp2_with (at_builtin; refine Lib.wpList_append_run _ rfl _ _ _ _ rfl _ _ rfl rfl _ _ hrun ?_)
          go_ret
          exact ⟨_, _, rfl, OwnU.mono HOE.out (by omega), HB1.out.trans (HBN.out.mono (by omega))⟩
end Go.Proofs.YtplnaaokapilpaaDoor.Vm
