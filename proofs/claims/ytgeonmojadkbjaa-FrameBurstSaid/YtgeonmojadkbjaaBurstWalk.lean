/- tuggerlaw02.FrameBurst returns true for every input: where at most 32 bits, one behind the other, are turned, the frame is not taken for whole. -/
import Derived.Test.YtgeonmojadkbjaaAwakeTwo
import Derived.Laws.OwnMore
namespace Go.Proofs.Ytgeonmojadkbjaa.Vm
open Go.RowKit

/-- What the loop has made of a frame's bytes and its checksum. -/
structure Turned (M at' n : Nat) (body0 body : List Nat) (i t : Nat) : Prop where
  len : body.length = n + 4
  lt : ∀ x ∈ body, x < 256
  val : num body = M ^^^ 2 ^ at' * t
  small : t < 2 ^ i
  same : t = 0 → body = body0
theorem Turned.start {n at' : Nat} {body0 : List Nat} (h : body0.length = n + 4) (hl : ∀ x ∈ body0, x < 256) : Turned (num body0) at' n body0 body0 0 0 := ⟨h, hl, by simp, by simp, fun _ => rfl⟩
theorem Turned.skip {M at' n i t : Nat} {body0 body : List Nat} (h : Turned M at' n body0 body i t) : Turned M at' n body0 body (i + 1) t := ⟨h.len, h.lt, h.val, by have := h.small; rw [Nat.pow_succ]; omega, h.same⟩
theorem Turned.turn {M at' n i t K : Nat} {body0 body : List Nat} (h : Turned M at' n body0 body i t) (hK : at' + i = K) (hk : K < 8 * (n + 4)) : Turned M at' n body0 (body.set (K / 8) (body.getD (K / 8) 0 ^^^ 2 ^ (K % 8))) (i + 1) (t + 2 ^ i) := by
  have hj : K / 8 < body.length := by rw [h.len]; omega
  refine ⟨by rw [List.length_set, h.len], set_byte body _ _ hj (by omega) h.lt, ?_, by have := h.small; rw [Nat.pow_succ]; omega, fun h0 => absurd h0 (by have : 0 < 2 ^ i := Nat.pow_pos (by omega); omega)⟩
  rw [num_set body _ _ hj (by omega) h.lt, h.val, show 8 * (K / 8) + K % 8 = at' + i by omega, burst_more M at' t i h.small]
/-- The checksum is not the right one. -/
theorem Turned.felt {at' t : Nat} {b body : List Nat} (hb : ∀ x ∈ b, x < 256) (h : Turned (num (b ++ four (crc b))) at' b.length (b ++ four (crc b)) body 32 t) (ha : at' < 8 * (b.length + 4)) (ht : t ≠ 0) :
    ∃ l' cs', body = l' ++ cs' ∧ l'.length = b.length ∧ cs'.length = 4 ∧ crc l' ≠ num cs' := by
  have hl := h.len
  refine ⟨body.take b.length, body.drop b.length, (List.take_append_drop _ _).symm, by rw [List.length_take]; omega, by rw [List.length_drop]; omega, ?_⟩
  refine burst_felt (a := at') (t := t) hb (four_len (crc b)) (four_byte _) (num_four (crc_lt b)).symm (fun x hx => h.lt x (List.mem_of_mem_take hx)) (by rw [List.length_drop]; omega) (fun x hx => h.lt x (List.mem_of_mem_drop hx)) (by rw [List.length_take]; omega) ?_ ha (by have := h.small; omega) ht
  rw [List.take_append_drop]
  exact h.val
theorem felt_scan {l' cs' g : List Nat} {n : Nat} (hl : l'.length = n) (hn : n ≤ 2000) (hc : cs'.length = 4) (h : crc l' ≠ num cs') : scanS (enc n ++ (l' ++ cs') ++ fr g) = ([], 0, 2) ∧ scanS (enc n ++ (l' ++ cs')) = ([], 0, 1) := by
  subst hl
  have h1 := form_not (t := fr g) (l := l') (cs := cs') (by omega) hc h
  have h2 := form_not (t := []) (l := l') (cs := cs') (by omega) hc h
  have hg : fr g ≠ [] := by intro e; have := congrArg List.length e; rw [fr_len] at this; simp at this
  rw [if_neg hg] at h1
  rw [if_pos rfl, List.append_nil] at h2
  rw [← List.append_assoc]
  exact ⟨h1, h2⟩
theorem whole_scan {b g : List Nat} (hb : b.length ≤ 2000) (hg : g.length ≤ 2000) : (scanS (fr b ++ fr g)).1.length = 2 ∧ (scanS (fr b)).1.length = 1 := by
  have h1 := fr_whole (l := b) (fr g) (by omega)
  have h2 : scanS (fr g ++ []) = _ := fr_whole (l := g) [] (by omega)
  have h3 : scanS (fr b ++ []) = _ := fr_whole (l := b) [] (by omega)
  rw [List.append_nil, scanS_nil] at h2 h3
  rw [h1, h2, h3]
  simp

theorem set_behind (e body : List Nat) (j x : Nat) : (e ++ body).set (e.length + j) x = e ++ body.set j x := by
  rw [List.set_append_right _ _ (by omega)]
  congr 2
  omega
theorem getD_behind (e body : List Nat) (j : Nat) : (e ++ body).getD (e.length + j) 0 = body.getD j 0 := by
  simp [List.getD, List.getElem?_append_right]

/-- A byte of what is owned, turned. -/
theorem Own.stored {w : World} {B g n cap : Nat} {l : List Nat} (hn : n = l.length) (h : Own w B (.slice (some ⟨g, 0, none⟩) n cap) l) (j x : Nat) :
    Own (w.setCell ⟨g, j, none⟩ (.int .u8 (x : Nat))) B (.slice (some ⟨g, 0, none⟩) n cap) (l.set j x) ∧ w.grownBy (w.setCell ⟨g, j, none⟩ (.int .u8 (x : Nat))) (some g) := by
  subst hn
  have := World.ownsRow.stored h j (.int .u8 (x : Nat))
  refine ⟨?_, this.2⟩
  unfold Own
  rw [List.length_set, show u8s (l.set j x) = (u8s l).set j (.int .u8 (x : Nat)) by simp [u8s, List.map_set]]
  exact this.1
theorem Own.at {w : World} {B g n cap : Nat} {l : List Nat} (hn : n = l.length) (h : Own w B (.slice (some ⟨g, 0, none⟩) n cap) l) {j : Nat} (hj : j < n) :
    w.cell? ⟨g, j, none⟩ = some (.int .u8 (l.getD j 0 : Nat)) ∧ w.frozen? ⟨g, j, none⟩ = false := by
  subst hn
  refine ⟨?_, World.ownsRow.frozenAt h j⟩
  rw [World.ownsRow.cellAt h j (by omega)]
  simp [u8s, List.getD, hj]
theorem grown_trans {a b c : World} {r : Option Nat} (h1 : a.grownBy b r) (h2 : b.grownBy c r) : a.grownBy c r :=
  ⟨h2.os.trans h1.os, h2.tape.trans h1.tape, h2.output.trans h1.output, Nat.le_trans h1.size h2.size, fun k hk hne => (h2.block k (Nat.lt_of_lt_of_le hk h1.size) hne).trans (h1.block k hk hne)⟩
theorem xor_u8 {y p : Nat} (hy : y < 256) (hp : p < 256) : bits BinOp.xor IntKind.u8 (y : Int) (p : Int) = ((y ^^^ p : Nat) : Int) := u8_xor_nat y p hy hp

set_option maxRecDepth 100000 in
set_option maxHeartbeats 3200000 in
theorem frame_burst_walk (a1 a2 : Option Addr) (n1 c1 n2 c2 : Nat) (b g : List Nat) (at0 : Int) (turn : Nat) (w : World) (h1 : Row .u8 w w.heap.size a1 n1 c1 b) (h2 : Row .u8 w w.heap.size a2 n2 c2 g)
    (hb : ∀ x ∈ b, x < 256) (hg : ∀ x ∈ g, x < 256) (hat1 : -9223372036854775808 ≤ at0) (hat2 : at0 ≤ 9223372036854775807) (hturn : turn < 4294967296) :
    Calls Try.prog 5 #[.agg #[.slice a1 n1 c1, .slice a2 n2 c2], .int .i64 at0, .int .u32 turn] w fun e w' => e = .returned (.bool true) ∧ Below w.heap.size w w' := by
  have hm1 := h1.2.2.1
  have hlc1 := h1.2.1
  have hm2 := h2.2.2.1
  have hlc2 := h2.2.1
  unfold maxLen at hm1 hm2
  have HR1 := Lib.hid h1
  have HR2 := Lib.hid h2
  have HB := Lib.hid hb
  have HG := Lib.hid hg
  have HL1 := Lib.hid h1.1
  have HL2 := Lib.hid h2.1
  have HC0 : Hid (∀ w1, Below (w.alloc (.cells #[.slice a1 n1 c1, .slice a2 n2 c2] 38)).heap.size (w.alloc (.cells #[.slice a1 n1 c1, .slice a2 n2 c2] 38)) w1 → w1.cell? ⟨w.heap.size, 0, none⟩ = some (.slice a1 n1 c1)) := fun w1 hw => by
    rw [hw.cell (p := ⟨w.heap.size, 0, none⟩) (by simp)]; simp
  have HC1 : Hid (∀ w1, Below (w.alloc (.cells #[.slice a1 n1 c1, .slice a2 n2 c2] 38)).heap.size (w.alloc (.cells #[.slice a1 n1 c1, .slice a2 n2 c2] 38)) w1 → w1.cell? ⟨w.heap.size, 1, none⟩ = some (.slice a2 n2 c2)) := fun w1 hw => by
    rw [hw.cell (p := ⟨w.heap.size, 1, none⟩) (by simp)]; simp
  have HB1 : Hid (∀ w1, Below (w.alloc (.cells #[.slice a1 n1 c1, .slice a2 n2 c2] 38)).heap.size (w.alloc (.cells #[.slice a1 n1 c1, .slice a2 n2 c2] 38)) w1 → Below w.heap.size w w1 ∧ w.heap.size < w1.heap.size) := fun w1 hw =>
    ⟨((Below.refl _ w).alloc (Nat.le_refl _) _).trans (hw.mono (by simp)), by have := hw.size; simp at this; omega⟩
  clear h1 h2 hb hg
  by_cases hA : 2000 < n1
  · have f1 : decide ((2000 : Int) < (n1 : Int)) = true := by simp; omega
    go_enter Try.func5, Try.ntmps5
    go_wp2_with fail
    refine (awake_two _).mono ?_
    rintro e w1 ⟨rfl, hbel0⟩
    have hc0 := HC0.out w1 hbel0
    have hc1 := HC1.out w1 hbel0
    have hbel := HB1.out w1 hbel0
    clear hbel0
    go_wp2_with fail
    go_ret
    exact ⟨rfl, hbel.1⟩
  have f1 : decide ((2000 : Int) < (n1 : Int)) = false := by simp; omega
  have hA' : n1 ≤ 2000 := by omega
  clear hA
  by_cases hA : 2000 < n2
  · have f2 : decide ((2000 : Int) < (n2 : Int)) = true := by simp; omega
    go_enter Try.func5, Try.ntmps5
    go_wp2_with fail
    refine (awake_two _).mono ?_
    rintro e w1 ⟨rfl, hbel0⟩
    have hc0 := HC0.out w1 hbel0
    have hc1 := HC1.out w1 hbel0
    have hbel := HB1.out w1 hbel0
    clear hbel0
    go_wp2_with fail
    go_ret
    exact ⟨rfl, hbel.1⟩
  have f2 : decide ((2000 : Int) < (n2 : Int)) = false := by simp; omega
  have hA2 : n2 ≤ 2000 := by omega
  clear hA
  by_cases hA : at0 < 0
  · have f3 : decide (at0 < 0) = true := by simp; omega
    go_enter Try.func5, Try.ntmps5
    go_wp2_with fail
    refine (awake_two _).mono ?_
    rintro e w1 ⟨rfl, hbel0⟩
    have hc0 := HC0.out w1 hbel0
    have hc1 := HC1.out w1 hbel0
    have hbel := HB1.out w1 hbel0
    clear hbel0
    go_wp2_with fail
    go_ret
    exact ⟨rfl, hbel.1⟩
  obtain ⟨p, rfl⟩ := Int.eq_ofNat_of_zero_le (show 0 ≤ at0 by omega)
  have f3 : decide ((p : Int) < 0) = false := by simp
  clear hA
  by_cases hA : 8 * (n1 + 4) ≤ p
  · have f4 : decide (8 * ((n1 : Int) + 4) ≤ (p : Int)) = true := by simp; omega
    go_enter Try.func5, Try.ntmps5
    go_wp2_with fail
    refine (awake_two _).mono ?_
    rintro e w1 ⟨rfl, hbel0⟩
    have hc0 := HC0.out w1 hbel0
    have hc1 := HC1.out w1 hbel0
    have hbel := HB1.out w1 hbel0
    clear hbel0
    go_wp2_with fail
    go_ret
    exact ⟨rfl, hbel.1⟩
  have f4 : decide (8 * ((n1 : Int) + 4) ≤ (p : Int)) = false := by simp; omega
  have hp : p < 8 * (n1 + 4) := by omega
  clear hA
  by_cases hA : turn = 0
  · have f5 : ((turn : Int) == 0) = true := by simp; omega
    clear hA
    go_enter Try.func5, Try.ntmps5
    go_wp2_with fail
    refine (awake_two _).mono ?_
    rintro e w1 ⟨rfl, hbel0⟩
    have hc0 := HC0.out w1 hbel0
    have hc1 := HC1.out w1 hbel0
    have hbel := HB1.out w1 hbel0
    clear hbel0
    go_wp2_with fail
    go_ret
    exact ⟨rfl, hbel.1⟩
  have f5 : ((turn : Int) == 0) = false := by simp; omega
  clear hA
  have hE := (enc_len64 (n := n1) (by omega))
  have hF : (fr b).length = (enc n1).length + n1 + 4 := by rw [fr_len, HL1.out]
  obtain ⟨E, hE0⟩ : ∃ E, (enc n1).length = E := ⟨_, rfl⟩
  obtain ⟨F, hF0⟩ : ∃ F, (fr b).length = F := ⟨_, rfl⟩
  rw [hE0] at hE hF
  rw [hF0] at hF
  obtain ⟨hE1, hE2⟩ := hE
  have hfrom : (F : Int) - (n1 : Int) - 4 = (E : Int) := by omega
  have f6 : decide ((F : Int) < (n1 : Int) + 5) = false := by simp; omega
  have HE0 := Lib.hid hE0
  have HF0 := Lib.hid hF0
  have HF := Lib.hid hF
  clear hE0 hF0 hF
  go_enter Try.func5, Try.ntmps5
  go_wp2_with fail
  refine (awake_two _).mono ?_
  rintro e w1 ⟨rfl, hbel0⟩
  have hc0 := HC0.out w1 hbel0
  have hc1 := HC1.out w1 hbel0
  obtain ⟨hbel1, hs1⟩ := HB1.out w1 hbel0
  clear hbel0
  go_wp2_with fail
  refine (fput_any a1 n1 c1 b w1 ((HR1.out.below hbel1).mono hbel1.size) HB.out (by omega)).mono ?_
  rintro e w2 ⟨v2, rfl, hown2, hbel2⟩
  obtain ⟨gf, cf, rfl, hgf1, hgf2, _⟩ := hown2.form (by rw [HF0.out]; have := HF.out; omega)
  rw [HF0.out]
  have hc1' : w2.cell? ⟨w.heap.size, 1, none⟩ = some (.slice a2 n2 c2) := (hbel2.cell (p := ⟨w.heap.size, 1, none⟩) hs1).trans hc1
  have hB2 : Below w.heap.size w w2 := hbel1.trans (hbel2.mono hbel1.size)
  go_wp2_with fail
  refine (fput_any a2 n2 c2 g w2 ((HR2.out.below hB2).mono hB2.size) HG.out (by omega)).mono ?_
  rintro e w3 ⟨v3, rfl, hown3, hbel3⟩
  have hB3 : Below w.heap.size w w3 := hB2.trans (hbel3.mono hB2.size)
  have hown2' : Own w3 w1.heap.size _ _ := own_below hown2 hbel3 (fun k hk => (World.ownsRow.lt hown2 k hk).2)
  clear hc0 hc1 hc1' hown2 hbel2
  obtain ⟨ag, cg, rfl, hrg⟩ := hown3.slice
  have hlg : (fr g).length ≤ 2014 := by have := (enc_len64 (n := n2) (by omega)).2; rw [fr_len, HL2.out]; omega
  have HBODY : Hid (fr b = enc n1 ++ (b ++ four (crc b))) := by unfold Hid fr; rw [HL1.out, List.append_assoc]
  have hbl : (b ++ four (crc b)).length = n1 + 4 := by rw [List.length_append, HL1.out]; rfl
  have hbt : ∀ x ∈ b ++ four (crc b), x < 256 := by intro x hx; exact (List.mem_append.1 hx).elim (HB.out x) (four_byte _ x)
  have HST := Lib.hid (Turned.start (at' := p) hbl hbt)
  have HEB : Hid (∀ x ∈ enc n1, x < 256) := enc_byte _ _ (Nat.le_refl _)
  have hown4 : Own w3 w1.heap.size (.slice (some ⟨gf, 0, none⟩) F cf) (enc n1 ++ (b ++ four (crc b))) := by rw [← HBODY.out, ← HF0.out]; exact hown2'
  have HRG := Lib.hid hrg
  have HNG : Hid (∀ k, (Value.slice ag (fr g).length cg).ownBlock = some k → k ≠ gf) := fun k hk => by have := (World.ownsRow.lt hown3 k hk).1; omega
  have HOG := Lib.hid hown3
  obtain ⟨G, hG⟩ : ∃ G, (fr g).length = G := ⟨_, rfl⟩
  rw [hG] at HRG HNG HOG hlg ⊢
  have HG0 := Lib.hid hG
  have hs3 := hbel3.size
  clear hown2' hown3 hrg hbl hbt hG hbel3
  generalize hb0 : b ++ four (crc b) = body0 at HST hown4 HBODY
  have HB0 := Lib.hid hb0
  clear hb0
  go_wp2_with fail
  go_loopw [2, 14, 15] (fun tv sv iv wr => ∃ (i tn t : Nat) (body : List Nat), i ≤ 32 ∧ tn < 4294967296 ∧ tv = .int .u32 tn ∧ sv = .bool (decide (t ≠ 0)) ∧ iv = .int .i64 i ∧ Own wr w1.heap.size (.slice (some ⟨gf, 0, none⟩) F cf) (enc n1 ++ body) ∧ w3.grownBy wr (some gf) ∧ Hid (Turned (num body0) p n1 body0 body i t)) (fun _ _ iv _ => 32 - (intOf iv).toNat)
  case atStart => exact ⟨0, turn, 0, body0, by omega, hturn, rfl, rfl, rfl, hown4, World.grownBy.refl _ _, HST.out⟩
  case round =>
    obtain ⟨i, tn, t, body, hi, htn, rfl, rfl, rfl, hown, hgr, HTU⟩ := hrel
    by_cases hlt : i < 32
    · obtain ⟨K, hK⟩ : ∃ K, p + i = K := ⟨_, rfl⟩
      have hKi : (p : Int) + (i : Int) = (K : Int) := by omega
      have HK := Lib.hid hK
      clear hK
      by_cases hodd : tn % 2 = 1
      · have g1 : ((tn : Int) % 2 == 1) = true := by simp; omega
        clear hodd
        by_cases hin : K < 8 * (n1 + 4)
        · have g2 : decide ((K : Int) < 8 * ((n1 : Int) + 4)) = true := by simp; omega
          have hlF : F = (enc n1 ++ body).length := by rw [List.length_append, HE0.out, HTU.out.len]; have := HF.out; omega
          obtain ⟨Q, hQ⟩ : ∃ Q, K / 8 = Q := ⟨_, rfl⟩
          obtain ⟨R, hR⟩ : ∃ R, K % 8 = R := ⟨_, rfl⟩
          obtain ⟨I, hI⟩ : ∃ I, E + Q = I := ⟨_, rfl⟩
          have hIF : I < F := by have := HF.out; omega
          obtain ⟨hcell, hfro⟩ := hown.at hlF hIF
          have hgd : (enc n1 ++ body).getD I 0 = body.getD Q 0 := by rw [← hI, ← HE0.out]; exact getD_behind _ _ _
          rw [hgd] at hcell
          have hQl : Q < body.length := by rw [HTU.out.len]; omega
          have hy : body.getD Q 0 < 256 := HTU.out.lt _ (by simp [List.getD, hQl])
          have HNX := Lib.hid (HTU.out.turn HK.out hin)
          rw [hQ, hR] at HNX
          have HSB := Lib.hid (fun x => set_behind (enc n1) body Q x)
          have hQi : (K : Int) / 8 = (Q : Int) := by omega
          have hQt : (K : Int).tdiv 8 = (Q : Int) := by rw [Int.tdiv_eq_ediv_of_nonneg (by omega)]; omega
          have hRi : (K : Int) % 8 = (R : Int) := by omega
          have hRt : (K : Int).tmod 8 = (R : Int) := by rw [Int.tmod_eq_emod_of_nonneg (by omega)]; omega
          have hIi : (E : Int) + (Q : Int) = (I : Int) := by omega
          have hR8 : R < 8 := by omega
          have HIE : Hid ((enc n1).length + Q = I) := by unfold Hid; rw [HE0.out]; exact hI
          have HOWN := Lib.hid hown
          have HLF := Lib.hid hlF
          clear hQ hR hI hgd hlF hown hQl
          generalize body.getD Q 0 = y at *
          go_wp2_with fail
          go_loop [17, 18] (fun bv jv => ∃ j bt : Nat, j ≤ R ∧ bt < 256 ∧ bv = .int .u8 bt ∧ jv = .int .i64 j ∧ Hid (bt = 2 ^ j)) (fun _ jv => 8 - (intOf jv).toNat)
          case atStart => exact ⟨0, 1, by omega, by omega, rfl, rfl, rfl⟩
          case round =>
            obtain ⟨j, bt, hj, hbt, rfl, rfl, HBT⟩ := hrel
            by_cases hjR : j < R
            · have hb128 : bt < 128 := by rw [HBT.out]; exact Nat.pow_lt_pow_right (n := 7) (by omega) (by omega)
              go_wp2_with fail
              go_round
              case rel => exact ⟨j + 1, 2 * bt, by omega, by omega, by go_num, by go_num, by unfold Hid; rw [HBT.out, Nat.pow_succ]; omega⟩
              case measure => simp [intOf]; omega
            · obtain rfl : j = R := by omega
              have hxb := xor_u8 hy hbt
              have hst := Own.stored HLF.out HOWN.out I (y ^^^ bt)
              have HS1 : Hid (Own (wr.setCell ⟨gf, I, none⟩ (.int .u8 ((y ^^^ bt : Nat) : Int))) w1.heap.size (.slice (some ⟨gf, 0, none⟩) F cf) (enc n1 ++ body.set Q (y ^^^ bt))) := by
                unfold Hid; rw [← HSB.out, HIE.out]; exact hst.1
              have HS2 := Lib.hid (grown_trans hgr hst.2)
              have HN2 : Hid (Turned (num body0) p n1 body0 (body.set Q (y ^^^ bt)) (i + 1) (t + 2 ^ i)) := by unfold Hid; rw [HBT.out]; exact HNX.out
              have HPW : Hid (0 < 2 ^ i) := Nat.pow_pos (by omega)
              clear hst
              generalize y ^^^ bt = yb at *
              go_wp2_with fail
              go_roundw
              case rel => exact ⟨i + 1, tn / 2, t + 2 ^ i, body.set Q yb, by omega, by omega, by go_num, congrArg Value.bool (decide_eq_true (by have := HPW.out; omega)).symm, by go_num, HS1.out, HS2.out, HN2.out⟩
              case measure => simp [intOf]; omega
        · have g2 : decide ((K : Int) < 8 * ((n1 : Int) + 4)) = false := by simp; omega
          go_wp2_with fail
          go_roundw
          case rel => exact ⟨i + 1, tn / 2, t, body, by omega, by omega, by go_num, rfl, by go_num, hown, hgr, HTU.out.skip⟩
          case measure => simp [intOf]; omega
      · have g1 : ((tn : Int) % 2 == 1) = false := by simp; omega
        clear hodd
        go_wp2_with fail
        go_roundw
        case rel => exact ⟨i + 1, tn / 2, t, body, by omega, by omega, by go_num, rfl, by go_num, hown, hgr, HTU.out.skip⟩
        case measure => simp [intOf]; omega
    · obtain rfl : i = 32 := by omega
      have hlF : F = (enc n1 ++ body).length := by rw [List.length_append, HE0.out, HTU.out.len]; have := HF.out; omega
      have hsr := hgr.size
      have hogr : Own wr w2.heap.size (.slice ag G cg) (fr g) := by
        have := HOG.out
        exact this.stay hgr (fun k hk e => HNG.out k hk (by injection e with e; exact e.symm))
      have HRG2 := Lib.hid hogr.row
      have hBr : Below w.heap.size w wr := hB3.grown hgr hB3.size (fun k hk => by injection hk with hk; have := hbel1.size; omega)
      have hw1 : w1.heap.size ≤ wr.heap.size := by omega
      have hbyte : ∀ x ∈ enc n1 ++ body, x < 256 := by intro x hx; exact (List.mem_append.1 hx).elim (HEB.out x) (HTU.out.lt x)
      have hbyte2 : ∀ x ∈ enc n1 ++ body ++ fr g, x < 256 := by intro x hx; exact (List.mem_append.1 hx).elim (hbyte x) (fr_lt g HG.out x)
      have hFG : (enc n1 ++ body ++ fr g).length = F + G := by rw [List.length_append, ← hlF, HG0.out]
      have hlen : (enc n1 ++ body).length + G ≤ 140737488355328 := by rw [← hlF]; have := HF.out; omega
      have hF3 : F ≤ 2014 := by have := HF.out; omega
      have HBY := Lib.hid hbyte
      have HBY2 := Lib.hid hbyte2
      have HFG := Lib.hid hFG
      have HLEN := Lib.hid hlen
      have HTW : Hid ((t = 0 → (scanS (enc n1 ++ body ++ fr g)).1.length = 2 ∧ (scanS (enc n1 ++ body)).1.length = 1) ∧ (t ≠ 0 → scanS (enc n1 ++ body ++ fr g) = ([], 0, 2) ∧ scanS (enc n1 ++ body) = ([], 0, 1))) := by
        refine ⟨fun h0 => ?_, fun h0 => ?_⟩
        · rw [HTU.out.same h0, ← HBODY.out]
          exact whole_scan (by rw [HL1.out]; exact hA') (by rw [HL2.out]; exact hA2)
        · have hTU := HTU.out
          rw [← HB0.out, ← HL1.out] at hTU
          obtain ⟨l', cs', rfl, h3, h4, h5⟩ := hTU.felt HB.out (by rw [HL1.out]; exact hp) h0
          rw [HL1.out] at h3
          exact felt_scan h3 hA' h4 h5
      clear hogr hlF hbyte hbyte2 hFG hlen
      generalize hL : enc n1 ++ body = L at *
      clear hL
      by_cases ht : t = 0
      · have hw2 := HTW.out.1 ht
        have e14 : decide (t ≠ 0) = false := by simp; exact ht
        rw [e14]
        clear ht e14
        have HW1 := Lib.hid hw2.1
        have HW2 := Lib.hid hw2.2
        clear hw2 HTW HTU
        go_wp2_with (at_builtin; first
          | (refine wpList_append_row rfl (.tmp 129) (.tmp 130) rfl rfl hown rfl HRG2.out HLEN.out hw1 ?_
             intro v5 w5 hown5 hgrow5 hkeep5
             obtain ⟨a5, c5, rfl, hr5⟩ := hown5.slice
             rw [HFG.out] at hr5 ⊢
             have HK5 := Lib.hid (hkeep5 _ _ _ rfl)
             have hb5 := Below.grows (Below.refl w1.heap.size wr) hw1 hown hgrow5
             have hB5 : Below w.heap.size w w5 := hBr.trans (hb5.mono hbel1.size)
             have HR5 := Lib.hid hr5
             clear hr5 hkeep5 hgrow5))
        refine (scan_any a5 (F + G) c5 _ w5 HR5.out HBY2.out (by omega)).mono ?_
        rintro e w6 ⟨v6, rfl, hown6, hbel6⟩
        obtain ⟨a6, c6, rfl, _⟩ := hown6.rows
        rw [HW1.out]
        have hB6 : Below w.heap.size w w6 := hB5.trans (hbel6.mono hB5.size)
        have HK6 := Lib.hid ((HK5.out.below hbel6).mono hbel6.size)
        clear hown6 hbel6
        go_wp2_with fail
        refine (scan_any _ F cf _ w6 HK6.out HBY.out (by omega)).mono ?_
        rintro e w7 ⟨v7, rfl, hown7, hbel7⟩
        obtain ⟨a7, c7, rfl, _⟩ := hown7.rows
        rw [HW2.out]
        have hB7 : Below w.heap.size w w7 := hB6.trans (hbel7.mono hB6.size)
        clear hown7 hbel7
        go_wp2_with fail
        go_ret
        exact ⟨rfl, hB7⟩
      · have hw2 := HTW.out.2 ht
        have e14 : decide (t ≠ 0) = true := by simp; exact ht
        rw [e14]
        clear ht e14
        have HW1 := Lib.hid hw2.1
        have HW2 := Lib.hid hw2.2
        clear hw2 HTW HTU
        go_wp2_with (at_builtin; first
          | (refine wpList_append_row rfl (.tmp 129) (.tmp 130) rfl rfl hown rfl HRG2.out HLEN.out hw1 ?_
             intro v5 w5 hown5 hgrow5 hkeep5
             obtain ⟨a5, c5, rfl, hr5⟩ := hown5.slice
             rw [HFG.out] at hr5 ⊢
             have HK5 := Lib.hid (hkeep5 _ _ _ rfl)
             have hb5 := Below.grows (Below.refl w1.heap.size wr) hw1 hown hgrow5
             have hB5 : Below w.heap.size w w5 := hBr.trans (hb5.mono hbel1.size)
             have HR5 := Lib.hid hr5
             clear hr5 hkeep5 hgrow5))
        have hs1 := scan_any a5 (F + G) c5 _ w5 HR5.out HBY2.out (by omega)
        rw [HW1.out] at hs1
        refine hs1.mono ?_
        rintro e w6 ⟨v6, rfl, hown6, hbel6⟩
        obtain ⟨a6, c6, rfl, _⟩ := hown6.rows
        have hB6 : Below w.heap.size w w6 := hB5.trans (hbel6.mono hB5.size)
        have HK6 := Lib.hid ((HK5.out.below hbel6).mono hbel6.size)
        clear hown6 hbel6 hs1
        go_wp2_with fail
        have hs2 := scan_any _ F cf _ w6 HK6.out HBY.out (by omega)
        rw [HW2.out] at hs2
        refine hs2.mono ?_
        rintro e w7 ⟨v7, rfl, hown7, hbel7⟩
        obtain ⟨a7, c7, rfl, _⟩ := hown7.rows
        have hB7 : Below w.heap.size w w7 := hB6.trans (hbel7.mono hB6.size)
        clear hown7 hbel7 hs2
        go_wp2_with fail
        go_ret
        exact ⟨rfl, hB7⟩
end Go.Proofs.Ytgeonmojadkbjaa.Vm
