/- Words for the document's ReadRecord: what it keeps. The contract of the document's ReadRecord. -/
import Derived.Test.YtplnaaokapilpaaDoorPushes
import Derived.Test.YtplnaaokapilpaaDoorRefCodR
namespace Go.Proofs.YtplnaaokapilpaaDoor.Vm
open Go Go.RowKit

end Go.Proofs.YtplnaaokapilpaaDoor.Vm

namespace Go.Proofs.YtplnaaokapilpaaDoor.Vm
open Go Go.RowKit

theorem onePut_o {zs : List Nat} (hz : ∀ x ∈ zs, x < 256) (t : Tk) : ((onePut zs t).2.o = false → t.o = false ∧ t.p < (onePut zs t).2.p) ∧ (t.p ≤ zs.length → (onePut zs t).2.p ≤ zs.length) := by
  unfold onePut
  have h1 := tk_o hz t
  have h2 := tk_o hz (tk zs t).2
  have h3 := tk_o hz (tk zs (tk zs t).2).2
  have h4 := tk_o hz (tk zs (tk zs (tk zs t).2).2).2
  have h5 := sm_o hz (tk zs (tk zs (tk zs (tk zs t).2).2).2).2
  refine ⟨fun e => ?_, fun hp => h5.2 (h4.2 (h3.2 (h2.2 (h1.2 hp))))⟩
  obtain ⟨a5, b5⟩ := h5.1 e
  obtain ⟨a4, b4⟩ := h4.1 a5
  obtain ⟨a3, b3⟩ := h3.1 a4
  obtain ⟨a2, b2⟩ := h2.1 a3
  obtain ⟨a1, b1⟩ := h1.1 a2
  exact ⟨a1, Nat.lt_trans b1 (Nat.lt_trans b2 (Nat.lt_trans b3 (Nat.lt_trans b4 b5)))⟩
theorem readPut_o (zs : List Nat) (n : Nat) {t : Tk} (h : t.o = true) : readPut zs n t = ([], t) := by
  cases n with
  | zero => rfl
  | succ n => unfold readPut; rw [if_pos h]
theorem readPut_more {zs : List Nat} {n : Nat} {t : Tk} (ho : t.o = false) : readPut zs (n + 1) t = ((onePut zs t).1 :: (readPut zs n (onePut zs t).2).1, (readPut zs n (onePut zs t).2).2) := by
  show (if t.o = true then _ else _) = _
  rw [if_neg (by simp [ho])]
theorem readPut_len {zs : List Nat} (hz : ∀ x ∈ zs, x < 256) : ∀ (n : Nat) (t : Tk), t.p ≤ zs.length → (readPut zs n t).1.length + t.p ≤ zs.length + 1 ∧ (readPut zs n t).2.p ≤ zs.length
  | 0, t, h => ⟨by simp [readPut]; omega, h⟩
  | n + 1, t, h => by
    by_cases ho : t.o = true
    · rw [readPut_o zs (n + 1) ho]
      exact ⟨by simp; omega, h⟩
    · rw [readPut_more (by simpa using ho)]
      have h5 := onePut_o hz t
      have hp := h5.2 h
      obtain ⟨i1, i2⟩ := readPut_len hz n (onePut zs t).2 hp
      refine ⟨?_, i2⟩
      simp only [List.length_cons]
      by_cases ho2 : (onePut zs t).2.o = true
      · rw [readPut_o zs n ho2]
        simp
        omega
      · have := (h5.1 (by simpa using ho2)).2
        omega
theorem onePut_of {zs : List Nat} {t t1 t2 t3 t4 t5 : Tk} {a b c d e : Nat} (h1 : tk zs t = (a, t1)) (h2 : tk zs t1 = (b, t2)) (h3 : tk zs t2 = (c, t3)) (h4 : tk zs t3 = (d, t4)) (h5 : sm zs t4 = (e, t5)) : onePut zs t = ((⟨zag a, zag b, zag c, zag d⟩, (e : Int)), t5) := by
  unfold onePut
  simp only [h1, h2, h3, h4, h5]

theorem readPut_wf {zs : List Nat} (hz : ∀ x ∈ zs, x < 256) : ∀ (n : Nat) (t : Tk), ∀ p ∈ (readPut zs n t).1, InpWf p.1
  | 0, t, p, hp => by simp [readPut] at hp
  | n + 1, t, p, hp => by
    by_cases ho : t.o = true
    · rw [readPut_o zs (n + 1) ho] at hp
      simp at hp
    · rw [readPut_more (by simpa using ho)] at hp
      rcases List.mem_cons.1 hp with rfl | hp
      · unfold onePut
        exact ⟨(zig_zag (tk_lt hz _)).2, (zig_zag (tk_lt hz _)).2, (zig_zag (tk_lt hz _)).2, (zig_zag (tk_lt hz _)).2⟩
      · exact readPut_wf hz n _ p hp
theorem readW_o (zs : List Nat) (n : Nat) (ws : List Int) {t : Tk} (h : t.o = true) : readW zs n ws t = some (ws, t) := by
  cases n with
  | zero => rfl
  | succ n => unfold readW; rw [if_pos h]
theorem readW_big {zs : List Nat} {n y0 y1 : Nat} {ws : List Int} {t u1 u2 : Tk} (ho : t.o = false) (h1 : sm zs t = (y0, u1)) (h2 : sm zs u1 = (y1, u2)) (hb : 100000 < ws.length + (y1 + 1)) : readW zs (n + 1) ws t = none := by
  unfold readW
  rw [if_neg (by simp [ho]), h1]
  simp only []
  rw [h2]
  simp only []
  rw [if_pos hb]
theorem readW_odd {zs : List Nat} {n y0 y1 : Nat} {ws : List Int} {t u1 u2 : Tk} (ho : t.o = false) (h1 : sm zs t = (y0, u1)) (h2 : sm zs u1 = (y1, u2)) (hb : ¬ 100000 < ws.length + (y1 + 1)) (h3 : u2.o = true) : readW zs (n + 1) ws t = readW zs n ws u2 := by
  conv => lhs; unfold readW
  rw [if_neg (by simp [ho]), h1]
  simp only []
  rw [h2]
  simp only []
  rw [if_neg hb, if_pos h3, List.append_nil]
theorem readW_go {zs : List Nat} {n y0 y1 : Nat} {ws : List Int} {t u1 u2 : Tk} (ho : t.o = false) (h1 : sm zs t = (y0, u1)) (h2 : sm zs u1 = (y1, u2)) (hb : ¬ 100000 < ws.length + (y1 + 1)) (h3 : u2.o = false) : readW zs (n + 1) ws t = readW zs n (ws ++ List.replicate (y1 + 1) (y0 : Int)) u2 := by
  conv => lhs; unfold readW
  rw [if_neg (by simp [ho]), h1]
  simp only []
  rw [h2]
  simp only []
  rw [if_neg hb, if_neg (by simp [h3])]
theorem noRec {zs : List Nat} {n : Nat} (hz : zs.length = n) (hn : n ≤ 2000) (h : readRc zs = none) : ¬ ∃ x, CanR x ∧ WfR x ∧ x.ws.length ≤ 100000 ∧ encR x = zs := by
  rintro ⟨x, hc, hw, hl, he⟩
  obtain ⟨t, e, _⟩ := readRc_enc hc hw (Nat.le_trans (encR_ins (N := 2000) hc (by rw [he]; omega)) (by omega)) hl
  rw [he, h] at e
  cases e

end Go.Proofs.YtplnaaokapilpaaDoor.Vm
