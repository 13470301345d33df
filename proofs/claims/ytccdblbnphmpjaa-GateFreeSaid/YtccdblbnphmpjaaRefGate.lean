/- The contract of the document's Gate (tuggerref08). -/
import Derived.Test.YtccdblbnphmpjaaRefGates
import Derived.Test.YtccdblbnphmpjaaAppendZ
namespace Go.Proofs.Ytccdblbnphmpjaa.Vm
open Go Go.RowKit

theorem RowZ.takes {k : IntKind} {w : World} {B : Nat} {a : Option Addr} {n c : Nat} {zs : List Int} (h : RowZ k w B a n c zs) {i : Nat} (hi : i ≤ n) : RowZ k w B a i c (zs.take i) := by
  refine ⟨by have := h.1; simp; omega, by have := h.2.1; omega, h.2.2.1, fun hp => ?_⟩
  obtain ⟨b, off, e, hb, hc⟩ := h.cells (by omega)
  refine ⟨b, off, e, hb, fun j hj => ?_⟩
  rw [hc j (by omega)]
  simp [List.getD, hj]

set_option maxRecDepth 100000 in
set_option maxHeartbeats 400000 in
theorem rgate_len (a1 a2 a3 : Option Addr) (n1 c1 n2 c2 n3 c3 : Nat) (w : World) (hne : n1 ≠ n2) :
    Calls Try.prog 9 #[.slice a1 n1 c1, .slice a2 n2 c2, .slice a3 n3 c3] w fun e w' => e = .returned (.tuple #[.slice none 0 0, .int .i64 1]) ∧ ∃ d, w' = w.drewN d := by
  have e0 : ((n1 : Int) != (n2 : Int)) = true := by rw [bne_iff_ne]; omega
  clear hne
  go_enter Try.func9, Try.ntmps9
  go_wp2
  go_ret2
  exact ⟨rfl, 0, rfl⟩

set_option maxRecDepth 100000 in
set_option maxHeartbeats 4000000 in
theorem rgate_twice (a1 a2 a3 : Option Addr) (n c1 c2 n3 c3 B : Nat) (cells : List Int) (w : World) (h1 : RowZ .i64 w B a1 n c1 cells) (hn : n ≤ 1000000) (ht : TwiceP cells) :
    Calls Try.prog 9 #[.slice a1 n c1, .slice a2 n c2, .slice a3 n3 c3] w fun e w' => e = .returned (.tuple #[.slice none 0 0, .int .i64 6]) ∧ ∃ d, w' = w.drewN d := by
  have e0 : ((n : Int) != (n : Int)) = false := by simp
  have HL := Lib.hid h1.1
  have HIN := Lib.hid (fun (k d m : Nat) (hk : k ≤ n) (x : Int) => in8_any a1 k c1 B (cells.take k) x ((w.drewN d).drewN m) ((h1.takes hk).below (below_drewN (below_drewN (Below.refl _ _) d) m)) (Nat.le_trans hk hn))
  have HCS := Lib.hid (fun h => h1.cells h)
  have hm1 := h1.2.2.1
  have hc1 := h1.2.1
  unfold maxLen at hm1
  have HT := Lib.hid ht
  clear h1 ht
  go_enter Try.func9, Try.ntmps9
  go_wp2
  go_loopw [8] (fun v wr => ∃ k d : Nat, k ≤ n ∧ v = .int .i64 k ∧ wr = w.drewN d ∧ Hid (∀ j, j < k → cells.getD j 0 ∉ cells.take j)) (fun v _ => n - (intOf v).toNat)
  case atStart => exact ⟨0, 0, Nat.zero_le _, rfl, rfl, fun j hj => absurd hj (Nat.not_lt_zero _)⟩
  case round =>
    obtain ⟨k, d, hk, rfl, rfl, HN⟩ := hrel
    by_cases hlt : k < n
    · obtain ⟨b, off, rfl, hb, hcs⟩ := HCS.out (by omega)
      have hcell : (w.drewN d).cell? ⟨b, off + k, none⟩ = some (.int .i64 (cells.getD k 0)) := hcs k hlt
      clear hcs HCS
      generalize ez : cells.getD k 0 = z at hcell
      have EZ := Lib.hid ez
      clear ez
      have HI := Lib.hid (fun m => HIN.out k d m hk z)
      have f1 : (0 : Int) ≤ (k : Int) ∧ (k : Int) ≤ (c1 : Int) ∧ k ≤ c1 ∧ ¬ c1 = 0 := by omega
      obtain ⟨f1, f2, f3, f4⟩ := f1
      clear HIN
      have HV : Hid (∃ d', w.drewN d = w.drewN d') := ⟨d, rfl⟩
      generalize w.drewN d = V at hcell HI HV ⊢
      have HV : Hid (∀ m, ∃ d', V.drewN m = w.drewN d') := fun m => by
        obtain ⟨d', e⟩ := HV.out
        exact ⟨d' + m, by rw [e, World.drewN_drewN]⟩
      by_cases hx : z ∈ cells.take k
      · have HX := Lib.hid hx
        rw [decide_eq_true hx] at HI
        clear hx
        go_wp2
        go_quiet ((go_at_call 18; exact Calls.quiet_of_same (HI.out _)))
        go_wp2
        go_ret2
        exact ⟨rfl, HV.out _⟩
      · have HX := Lib.hid hx
        rw [decide_eq_false hx] at HI
        clear hx
        go_wp2
        go_quiet ((go_at_call 18; exact Calls.quiet_of_same (HI.out _)))
        go_wp2
        go_roundw
        case rel =>
          obtain ⟨d', hd'⟩ := HV.out nq
          exact ⟨k + 1, d', by omega, by go_num, hd', fun j hj => by
            by_cases e : j = k
            · subst e; rw [EZ.out]; exact HX.out
            · exact HN.out j (by omega)⟩
        case measure => simp [intOf]; omega
    · obtain rfl : k = n := by omega
      exfalso
      obtain ⟨i, hi, hm⟩ := HT.out
      exact HN.out i (by have := HL.out; omega) hm
theorem OwnZ.sliced {w : World} {B : Nat} {v : Value} {l : List Int} (h : OwnZ w B v l) {n : Nat} (hn : l.length = n) : ∃ a c, v = .slice a n c ∧ RowZ .i64 w w.heap.size a n c l := by
  subst hn
  exact h.row
theorem OwnZ.rowAt {w : World} {B n c : Nat} {a : Option Addr} {l : List Int} (h : OwnZ w B (.slice a n c) l) (hn : l.length = n) : RowZ .i64 w w.heap.size a n c l := by
  obtain ⟨a', c', e, hr⟩ := h.sliced hn
  injection e with e1 _ e3
  subst e1 e3
  exact hr
theorem OwnZ.at {w : World} {B n c i : Nat} {a : Option Addr} {l : List Int} (h : OwnZ w B (.slice a n c) l) (hn : l.length = n) (hi : i < n) (z : Int) :
    ∃ g, a = some ⟨g, 0, none⟩ ∧ B ≤ g ∧ w.frozen? ⟨g, i, none⟩ = false ∧ w.cell? ⟨g, i, none⟩ = some (.int .i64 (l.getD i 0)) ∧ OwnZ (w.setCell ⟨g, i, none⟩ (.int .i64 z)) B (.slice a n c) (l.set i z) := by
  subst hn
  have hs := h
  rcases h.2 with ⟨hv, h0⟩ | ⟨g, cap, cur, hv, hb, hg, hnc, hm, hcs, htk⟩
  · exact absurd h0 (by omega)
  · injection hv with h1 h2 h3
    subst h1 h3
    refine ⟨g, rfl, hb, World.ownsRow.frozenAt hs i, (World.ownsRow.cellAt hs i (by omega)).trans (by simp [intsZ, List.getD, hi]), ?_⟩
    have := (World.ownsRow.stored hs i (.int .i64 z)).1
    unfold OwnZ
    rw [List.length_set, ← intsZ_set]
    exact this
theorem OwnZ.calls {w w' : World} {B : Nat} {v : Value} {l : List Int} (h : OwnZ w B v l) (hb : Below w.heap.size w w') : OwnZ w' B v l := own_upto h hb (fun k hk => (World.ownsRow.lt h k hk).2)
theorem OwnZ.lower {w : World} {B B' : Nat} {v : Value} {l : List Int} (h : OwnZ w B v l) (hB : B' ≤ B) : OwnZ w B' v l := by
  refine ⟨h.1, ?_⟩
  rcases h.2 with h2 | ⟨g, cap, cur, hv, hb, r⟩
  · exact .inl h2
  · exact .inr ⟨g, cap, cur, hv, by omega, r⟩
theorem wpList_append_z {ops : Array Oper} {rest : List Oper} {o : Oper} {a : Act} {Q : Exit → Act → World → Prop} {w : World} (hgd : o.guard = none) (s x : Operand)
    (ho : o.op = .call { callee := .builtin .append, args := #[s, x], argTypes := #[22, 22] })
    {B : Nat} {v : Value} {out : List Int} (hs : a.eval s = v) (hown : OwnZ w B v out) {ao : Option Addr} {m c B2 : Nat} {l : List Int} (hx : a.eval x = .slice ao m c) (hr : RowZ .i64 w B2 ao m c l)
    (hlen : out.length + m ≤ 1000000) (hB : B ≤ w.heap.size)
    (h : ∀ v' w', OwnZ w' B v' (out ++ l) → Below B w w' → wpList Try.prog ops Q rest (a.put o.dst v') w') : wpList Try.prog ops Q (o :: rest) a w := by
  refine wpList_plain hgd fun K hK' => ?_
  obtain ⟨v', w', hrun, h1, h2⟩ := run_append_z o.type hown hr hlen hB
  unfold Oper.wp
  simp [execOp, ho, resolve, invoke, builtin, hs, hx, hrun, Result.andThen]
  exact hK' _ _ (h v' w' h1 h2)

set_option maxRecDepth 100000 in
set_option maxHeartbeats 4000000 in
theorem rgate_yes (a1 a2 a3 : Option Addr) (n c1 c2 m c3 B : Nat) (cells wants bl : List Int) (w : World) (h1 : RowZ .i64 w B a1 n c1 cells) (h2 : RowZ .i64 w B a2 n c2 wants) (h3 : RowZ .i64 w B a3 m c3 bl) (hB : B ≤ w.heap.size) (hn : n ≤ 100000) (hm : m ≤ 100000) (ht : ¬ TwiceP cells) :
    Calls Try.prog 9 #[.slice a1 n c1, .slice a2 n c2, .slice a3 m c3] w fun e w' => ∃ a c, e = .returned (.tuple #[.slice a n c, .int .i64 0]) ∧ OwnZ w' w.heap.size (.slice a n c) (gateG cells wants bl) ∧ Below w.heap.size w w' := by
  have e0 : ((n : Int) != (n : Int)) = false := by simp
  have HL := Lib.hid h1.1
  have HL2 := Lib.hid h2.1
  have HIN := Lib.hid (fun (k d m : Nat) (hk : k ≤ n) (x : Int) => in8_any a1 k c1 B (cells.take k) x ((w.drewN d).drewN m) ((h1.takes hk).below (below_drewN (below_drewN (Below.refl _ _) d) m)) (Nat.le_trans hk (Nat.le_trans hn (by decide))))
  have HCS := Lib.hid (fun h => h1.cells h)
  have hm1 := h1.2.2.1
  have hc1 := h1.2.1
  unfold maxLen at hm1
  have HT := Lib.hid ht
  have HB := Lib.hid hB
  have H1 := Lib.hid h1
  have H2 := Lib.hid h2
  have H3 := Lib.hid h3
  clear h1 h2 h3 ht hB
  go_enter Try.func9, Try.ntmps9
  go_wp2
  go_loopw [8] (fun v wr => ∃ k d : Nat, k ≤ n ∧ v = .int .i64 k ∧ wr = w.drewN d) (fun v _ => n - (intOf v).toNat)
  case atStart => exact ⟨0, 0, Nat.zero_le _, rfl, rfl⟩
  case round =>
    obtain ⟨k, d, hk, rfl, rfl⟩ := hrel
    by_cases hlt : k < n
    · obtain ⟨b, off, rfl, hb, hcs⟩ := HCS.out (by omega)
      have hcell : (w.drewN d).cell? ⟨b, off + k, none⟩ = some (.int .i64 (cells.getD k 0)) := hcs k hlt
      have hx : cells.getD k 0 ∉ cells.take k := fun h => HT.out ⟨k, by rw [HL.out]; exact hlt, h⟩
      clear hcs HCS
      generalize ez : cells.getD k 0 = z at hcell hx
      clear ez
      have HI := Lib.hid (fun m => HIN.out k d m hk z)
      have f1 : (0 : Int) ≤ (k : Int) ∧ (k : Int) ≤ (c1 : Int) ∧ k ≤ c1 ∧ ¬ c1 = 0 := by omega
      obtain ⟨f1, f2, f3, f4⟩ := f1
      clear HIN
      have HV : Hid (∃ d', w.drewN d = w.drewN d') := ⟨d, rfl⟩
      generalize w.drewN d = V at hcell HI HV ⊢
      have HV : Hid (∀ m, ∃ d', V.drewN m = w.drewN d') := fun m => by
        obtain ⟨d', e⟩ := HV.out
        exact ⟨d' + m, by rw [e, World.drewN_drewN]⟩
      rw [decide_eq_false hx] at HI
      clear hx
      go_wp2
      go_quiet ((go_at_call 18; exact Calls.quiet_of_same (HI.out _)))
      go_wp2
      go_roundw
      case rel =>
        obtain ⟨d', hd'⟩ := HV.out nq
        exact ⟨k + 1, d', by omega, by go_num, hd'⟩
      case measure => simp [intOf]; omega
    · obtain rfl : n = k := by omega
      have HBV : Hid (Below w.heap.size w (w.drewN d)) := below_drewN (Below.refl _ _) d
      generalize w.drewN d = V at HBV ⊢
      have HR2 := Lib.hid (H2.out.below ((HBV.out.mono HB.out).alloc (Nat.le_trans HB.out HBV.out.size) (.cells #[] 3)))
      go_wp2_with (at_builtin; refine wpList_append_z rfl (.tmp 32) (.tmp 33) rfl rfl (ownZ_empty V HBV.out.size) rfl HR2.out (by simp only [List.length_nil]; omega) (HBV.out.alloc HBV.out.size _).size ?_; intro v1 w1 hown1 hb1)
      rw [List.nil_append] at hown1
      obtain ⟨a9, c9, rfl, -⟩ := hown1.sliced HL2.out
      have hbw1 : Below w.heap.size w w1 := (HBV.out.alloc HBV.out.size _).trans hb1
      have HOWN := Lib.hid hown1
      have HBW := Lib.hid hbw1
      clear hown1 hb1 hbw1
      go_wp2
      go_loopg [9, 10] (2 * movers cells wants + 1) (fun gg v9 v10 wr => ∃ (now : List Int) (a9 : Option Addr) (c9 : Nat) (news : Bool), v9 = .slice a9 n c9 ∧ v10 = .bool news ∧ Hid (OnWay cells bl wants now news) ∧ Hid (2 * movers cells now + (if news = true then 1 else 0) ≤ gg) ∧ Hid (OwnZ wr w.heap.size (.slice a9 n c9) now) ∧ Hid (Below w.heap.size w wr))
      case atStart => exact ⟨wants, _, _, true, rfl, rfl, OnWay.start (by rw [HL.out, HL2.out]), by show _ ≤ _; simp, HOWN.out, HBW.out⟩
      case round =>
        obtain ⟨now, a9', c9', news, rfl, rfl, HW, HG, HO, HBB⟩ := hrel
        cases news
        · have hd : Hid (gateG cells wants bl = now) := HW.out.done
          go_wp2
          go_ret2
          exact ⟨_, _, rfl, by rw [hd.out]; exact HO.out, HBB.out⟩
        · have hln := HW.out.1
          have hRN := HO.out.rowAt (hln.trans HL.out)
          obtain ⟨W, hW⟩ : ∃ W, W = wr := ⟨_, rfl⟩
          subst hW
          obtain ⟨gg, hgg⟩ : ∃ gg, gg = gk := ⟨_, rfl⟩
          subst hgg
          have HRA := Lib.hid (hRN.below ((Below.refl W.heap.size W).alloc (Nat.le_refl _) (.cells #[] 3)))
          have HRN := Lib.hid hRN
          have hBW : B ≤ W.heap.size := Nat.le_trans HB.out HBB.out.size
          have HBW2 := Lib.hid hBW
          have HLN := Lib.hid hln
          clear hRN hln hBW
          go_wp2_with (at_builtin; refine wpList_append_z rfl (.tmp 36) (.tmp 37) rfl rfl (ownZ_empty W (Nat.le_refl _)) rfl HRA.out (by simp only [List.length_nil]; omega) ((Below.refl W.heap.size W).alloc (Nat.le_refl _) _).size ?_; intro v2 w2 hown2 hb2)
          rw [List.nil_append] at hown2
          obtain ⟨a11, c11, rfl, -⟩ := hown2.sliced (HLN.out.trans HL.out)
          have HBX := Lib.hid (((Below.refl W.heap.size W).alloc (Nat.le_refl _) _).trans hb2)
          have HOX := Lib.hid hown2
          clear hown2 hb2
          go_wp2
          go_loopg [10, 12] n (fun gg vn vi wr => ∃ i : Nat, vi = .int .i64 i ∧ i + gg = n ∧ vn = .bool (anyK cells bl now i) ∧ Hid (OwnZ wr W.heap.size (.slice a11 n c11) (partG cells bl now i)) ∧ Hid (Below W.heap.size W wr))
          case atStart => exact ⟨0, rfl, by omega, by simp [anyK], by rw [partG_zero HLN.out]; exact HOX.out, HBX.out⟩
          case round =>
            obtain ⟨i, rfl, hgi, rfl, HO2, HB2⟩ := hrel
            by_cases hin : i < n
            · have HK8 := Lib.hid (kept8_any a1 a9' a3 n c1 c9' m c3 W.heap.size i cells now bl wr ((H1.out.below ((HBB.out.mono HB.out).trans (HB2.out.mono HBW2.out))).mono HBW2.out) (HRN.out.below HB2.out) ((H3.out.below ((HBB.out.mono HB.out).trans (HB2.out.mono HBW2.out))).mono HBW2.out) hin (by omega) (by omega))
              cases hkb : keptB cells bl now i
              · rw [hkb] at HK8
                have HKB := Lib.hid hkb
                clear hkb
                go_wp2_with fail
                refine HK8.out.mono ?_
                rintro e w3 ⟨rfl, d3, rfl⟩
                have HO3 := Lib.hid (HO2.out.calls (below_drewN (Below.refl _ _) d3))
                have HB3 := Lib.hid (below_drewN HB2.out d3)
                generalize wr.drewN d3 = V3 at HO3 HB3 ⊢
                go_wp2
                go_roundg (gk - 1)
                case measure => omega
                case rel => exact ⟨i + 1, by go_num, by omega, by rw [anyK_more, HKB.out, Bool.or_false], by rw [partG_no HKB.out]; exact HO3.out, HB3.out⟩
              · rw [hkb] at HK8
                have HKB := Lib.hid hkb
                clear hkb
                go_wp2_with fail
                refine HK8.out.mono ?_
                rintro e w3 ⟨rfl, d3, rfl⟩
                have ho3 := HO2.out.calls (below_drewN (Below.refl _ _) d3)
                have hb3 := below_drewN HB2.out d3
                obtain ⟨b, off, rfl, hb, hcs⟩ := (H1.out.below ((HBB.out.mono HB.out).trans (hb3.mono HBW2.out))).cells (by omega)
                have hcell := hcs i hin
                clear hcs HCS
                generalize wr.drewN d3 = V3 at ho3 hb3 hcell ⊢
                generalize ez : cells.getD i 0 = ci at hcell
                obtain ⟨g, rfl, hg, hfz, hcl, hset⟩ := ho3.at ((partG_len _ _ _ _).trans HL.out) hin ci
                have HS3 : Hid (OwnZ (V3.setCell ⟨g, i, none⟩ (.int .i64 ci)) W.heap.size (.slice (some ⟨g, 0, none⟩) n c11) (partG cells bl now (i + 1))) := by
                  rw [partG_yes HKB.out, ez]; exact hset
                have HB3 : Hid (Below W.heap.size W (V3.setCell ⟨g, i, none⟩ (.int .i64 ci))) := hb3.setCell (p := ⟨g, i, none⟩) hg _
                generalize (partG cells bl now i).getD i 0 = old at hcl
                clear hset ho3 hb3 ez hg
                go_wp2
                go_roundg (gk - 1)
                case measure => omega
                case rel => exact ⟨i + 1, by go_num, by omega, by rw [anyK_more, HKB.out, Bool.or_true], HS3.out, HB3.out⟩
            · obtain rfl : n = i := by omega
              have HW2 : Hid (OnWay cells bl wants (nextG cells bl now) (anyK cells bl now n)) := by have := HW.out.next; rwa [HL.out] at this
              have HG2 : Hid (2 * movers cells (nextG cells bl now) + (if anyK cells bl now n = true then 1 else 0) < gg) := by
                have h1 := HW.out.less
                have h2 := HG.out
                rw [HL.out] at h1
                simp only [if_true] at h2
                exact Nat.lt_of_lt_of_le h1 h2
              have HO4 : Hid (OwnZ wr W.heap.size (.slice a11 n c11) (nextG cells bl now)) := by
                have e : partG cells bl now n = nextG cells bl now := by rw [← HL.out]; exact partG_full _ _ _
                have := HO2.out
                rwa [e] at this
              generalize anyK cells bl now n = nw at HW2 HG2 ⊢
              go_wp2
              go_roundg (2 * movers cells (nextG cells bl now) + (if nw = true then 1 else 0))
              case measure => exact HG2.out
              case rel => exact ⟨nextG cells bl now, _, _, nw, rfl, rfl, HW2.out, Nat.le_refl _, OwnZ.lower HO4.out HBB.out.size, HBB.out.trans (HB2.out.mono HBB.out.size)⟩
/-- All these are ints that a machine has. -/
def WfZ (l : List Int) : Prop := ∀ z ∈ l, (Lit.int .i64 z).wf = true
theorem WfZ.at {l : List Int} (h : WfZ l) (k : Nat) (hk : k < l.length) : (Lit.int .i64 (l.getD k 0)).wf = true := h _ (by simp [List.getD, hk])
theorem GateOut.wf {cells wants bl out : List Int} {x : Int} (h : GateOut cells wants bl out x) (hc : WfZ cells) (hw : WfZ wants) : WfZ out := by
  rcases h with ⟨_, rfl, _⟩ | ⟨_, _, rfl, _⟩ | ⟨hl, _, rfl, _⟩
  · intro z hz; cases hz
  · intro z hz; cases hz
  · intro z hz
    have hg := gateG_goes cells wants bl
    obtain ⟨i, hi, e⟩ := List.getElem_of_mem hz
    have hi' : i < cells.length := by rw [← goesTo_len hg hl.symm]; exact hi
    have e' : (gateG cells wants bl).getD i 0 = z := by simp [List.getD, hi, e]
    rcases goesTo_or hg i hi' with h1 | h1
    · rw [← e', h1]; exact hc.at i hi'
    · rw [← e', h1]; exact hw.at i (by omega)
/-- What is said of a function that resolves conflicts. -/
def SaysGate (f : Nat) : Prop := ∀ (a1 a2 a3 : Option Addr) (n1 c1 n2 c2 n3 c3 B : Nat) (cells wants bl : List Int) (w : World), RowZ .i64 w B a1 n1 c1 cells → RowZ .i64 w B a2 n2 c2 wants → RowZ .i64 w B a3 n3 c3 bl → B ≤ w.heap.size → n1 ≤ 100000 → n2 ≤ 100000 → n3 ≤ 100000 → WfZ cells → WfZ wants → WfZ bl →
  Calls Try.prog f #[.slice a1 n1 c1, .slice a2 n2 c2, .slice a3 n3 c3] w fun e w' => ∃ a n c x out, e = .returned (.tuple #[.slice a n c, .int .i64 x]) ∧ GateOut cells wants bl out x ∧ RowZ .i64 w' w'.heap.size a n c out ∧ Below w.heap.size w w'
theorem rgate_any : SaysGate 9 := by
  intro a1 a2 a3 n1 c1 n2 c2 n3 c3 B cells wants bl w h1 h2 h3 hB hn1 hn2 hn3 _ _ _
  by_cases hne : n1 = n2
  · subst hne
    have hl : cells.length = wants.length := h1.1.trans h2.1.symm
    by_cases ht : TwiceP cells
    · refine (rgate_twice a1 a2 a3 n1 c1 c2 n3 c3 B cells w h1 (by omega) ht).mono ?_
      rintro e w' ⟨rfl, d, rfl⟩
      exact ⟨none, 0, 0, 6, [], rfl, .inr (.inl ⟨hl, ht, rfl, rfl⟩), ⟨rfl, Nat.le_refl _, by simp [maxLen], fun h => absurd h (by omega)⟩, below_drewN (Below.refl _ _) d⟩
    · refine (rgate_yes a1 a2 a3 n1 c1 c2 n3 c3 B cells wants bl w h1 h2 h3 hB hn1 hn3 ht).mono ?_
      rintro e w' ⟨a, c, rfl, ho, hb⟩
      refine ⟨a, n1, c, 0, _, rfl, .inr (.inr ⟨hl, ht, rfl, rfl⟩), ho.rowAt ?_, hb⟩
      exact (goesTo_len (gateG_goes cells wants bl) hl.symm).trans h1.1
  · refine (rgate_len a1 a2 a3 n1 c1 n2 c2 n3 c3 w hne).mono ?_
    rintro e w' ⟨rfl, d, rfl⟩
    exact ⟨none, 0, 0, 1, [], rfl, .inl ⟨by rw [h1.1, h2.1]; exact hne, rfl, rfl⟩, ⟨rfl, Nat.le_refl _, by simp [maxLen], fun h => absurd h (by omega)⟩, below_drewN (Below.refl _ _) d⟩
end Go.Proofs.Ytccdblbnphmpjaa.Vm
