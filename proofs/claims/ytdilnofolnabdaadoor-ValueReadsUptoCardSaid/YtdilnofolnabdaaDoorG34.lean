/-
  The document's own answers of layers 8 and 13: a text cut at a byte.
-/
import Derived.Lib.IndexLaws
import Derived.Lib.IndexBytes
import Derived.Test.YtdilnofolnabdaaDoorG33
import Derived.Test.YtdilnofolnabdaaDoorG22
namespace Go.Proofs.YtdilnofolnabdaaDoor
open Go.RowKit

theorem idx_at {l : List UInt8} {c : UInt8} {k : Nat} (h : l[k]? = some c) (hn : ∀ j, j < k → l[j]? ≠ some c) : Lib.indexByte l c = k := by
  have ge := Lib.indexByte_ge l c
  by_cases e : Lib.indexByte l c = -1
  · exact absurd h (Lib.indexByte_none e k)
  · obtain ⟨o, ho⟩ : ∃ o : Nat, Lib.indexByte l c = o := ⟨(Lib.indexByte l c).toNat, by omega⟩
    have hs := Lib.indexByte_some ho
    rw [ho]
    rcases Nat.lt_trichotomy o k with h1 | h1 | h1
    · exact absurd hs.1 (hn o h1)
    · rw [h1]
    · exact absurd h (hs.2 k h1)
theorem idx_no {l : List UInt8} {c : UInt8} (hn : ∀ j : Nat, l[j]? ≠ some c) : Lib.indexByte l c = -1 := by
  have ge := Lib.indexByte_ge l c
  by_cases e : Lib.indexByte l c = -1
  · exact e
  · obtain ⟨o, ho⟩ : ∃ o : Nat, Lib.indexByte l c = o := ⟨(Lib.indexByte l c).toNat, by omega⟩
    exact absurd (Lib.indexByte_some ho).1 (hn o)
theorem cut_at {l : List UInt8} {c : UInt8} {k : Nat} (h : l[k]? = some c) (hn : ∀ j, j < k → l[j]? ≠ some c) : Lib.cut l [c] = (l.take k, l.drop (k + 1), true) := by
  unfold Lib.cut
  rw [Lib.index_one, idx_at h hn, if_pos (by omega)]
  rfl
theorem cut_no {l : List UInt8} {c : UInt8} (hn : ∀ j : Nat, l[j]? ≠ some c) : Lib.cut l [c] = (l, [], false) := by
  unfold Lib.cut
  rw [Lib.index_one, idx_no hn, if_neg (by omega)]
set_option maxRecDepth 100000 in
set_option maxHeartbeats 8000000 in
theorem refCut_any (s : ByteArray) (hs : s.size ≤ 16777216) (c : UInt8) (w : World) :
    Calls Tryd.prog 43 #[.string s, .int .u8 (c.toNat : Int)] w fun e w' => e = .returned (.tuple #[.string ⟨(Lib.cut s.data.toList [c]).1.toArray⟩, .string ⟨(Lib.cut s.data.toList [c]).2.1.toArray⟩, .bool (Lib.cut s.data.toList [c]).2.2]) ∧ Below w.heap.size w w' := by
  go_enter Tryd.func43, Tryd.ntmps43
  go_wp2
  go_loopw [7] (fun p wr => ∃ k : Nat, p = .int .i64 k ∧ k ≤ s.size ∧ wr = w ∧ Hid (∀ j, j < k → s.data.toList[j]? ≠ some c)) (fun p _ => s.size - (intOf p).toNat)
  case atStart => exact ⟨0, rfl, Nat.zero_le _, rfl, Lib.hid (fun j hj => absurd hj (Nat.not_lt_zero j))⟩
  case round =>
    obtain ⟨k, rfl, hk, rfl, HN⟩ := hrel
    by_cases hlt : k < s.size
    · have h1 : (k : Int) < (s.size : Int) := by omega
      have h2 : (k : Int) + 1 ≤ (s.size : Int) := by omega
      have hki : (k : Int) ≤ (s.size : Int) := by omega
      by_cases hc : s[k] = c
      · have HC : Hid (Lib.cut s.data.toList [c] = (s.data.toList.take k, s.data.toList.drop (k + 1), true)) := Lib.hid (cut_at (by rw [getR hlt, hc]) HN.out)
        have z1 : (((s[k].toNat : Nat) : Int) == ((c.toNat : Nat) : Int)) = true := by rw [hc]; simp
        have HX := Lib.hid (tailR s (k + 1))
        have HX2 : Hid (s.extract 0 k = ⟨(s.data.toList.take k).toArray⟩) := Lib.hid (bytesR (by rw [headR, mk_listR]))
        have hmx : Tryd.prog.follows .mixedOrders = true := by kernel_rfl
        clear HN hc
        go_wp2
        go_region
        go_wp2
        go_ret3
        refine ⟨?_, (Below.refl _ _).drew⟩
        rw [HC.out]
        simp only
        rw [← HX.out, ← HX2.out]
        rfl
      · have hne : ¬ ((s[k].toNat : Nat) : Int) = ((c.toNat : Nat) : Int) := fun h => hc (UInt8.toNat_inj.1 (by omega))
        have z1 : (((s[k].toNat : Nat) : Int) == ((c.toNat : Nat) : Int)) = false := by rw [beq_eq_false_iff_ne]; exact hne
        have HN2 : Hid (∀ j, j < k + 1 → s.data.toList[j]? ≠ some c) := Lib.hid (fun j hj => by
          rcases Nat.lt_or_ge j k with h | h
          · exact HN.out j h
          · obtain rfl : j = k := by omega
            rw [getR hlt]
            intro e
            exact hc (Option.some.inj e))
        clear HN hc
        go_wp2
        go_round
        case rel => exact ⟨k + 1, by go_num, by omega, by trivial, HN2⟩
        case measure => simp [intOf]; omega
    · obtain rfl : k = s.size := by omega
      have HC : Hid (Lib.cut s.data.toList [c] = (s.data.toList, [], false)) := Lib.hid (cut_no (fun j e => by
        rcases Nat.lt_or_ge j s.size with h | h
        · exact HN.out j h e
        · rw [List.getElem?_eq_none (by rw [listR]; exact h)] at e; cases e))
      clear HN
      go_wp2
      go_ret3
      exact ⟨by rw [HC.out]; simp only; rw [list_mkR]; rfl, Below.refl _ _⟩
end Go.Proofs.YtdilnofolnabdaaDoor
