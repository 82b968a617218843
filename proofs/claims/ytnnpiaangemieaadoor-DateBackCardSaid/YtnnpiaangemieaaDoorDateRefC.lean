/-
  The document's own answers of layer 10: numbers with noughts ahead, days and times as texts.
-/
import Derived.Test.YtnnpiaangemieaaDoorTextLib
import Derived.Test.YtnnpiaangemieaaDoorDateText
import Derived.Test.YtnnpiaangemieaaDoorDateRefB
namespace Go.Proofs.YtnnpiaangemieaaDoor
open Go.RowKit

theorem Byt.of_litD {w : World} {e : TypeId} (l : List UInt8) (C : Array Value) (h : C.toList = l.map fun x => Value.int .u8 (x.toNat : Int)) : Byt (w.alloc (.cells C e)) w.heap.size l := by
  have hs : C.size = l.length := by rw [← Array.length_toList, h, List.length_map]
  refine ⟨C, e, 0, 0, heap_alloc_new w _, .inr rfl, by omega, fun j hj => ?_⟩
  rw [← Array.getElem?_toList, h]
  simp [hj]
theorem mk_app (a b : List UInt8) : (⟨a.toArray⟩ : ByteArray) ++ ⟨b.toArray⟩ = ⟨(a ++ b).toArray⟩ := by
  apply ByteArray.ext
  rw [ByteArray.data_append]
  simp
theorem mk_size (a : List UInt8) : (⟨a.toArray⟩ : ByteArray).size = a.length := by simp [ByteArray.size]

set_option maxRecDepth 100000 in
set_option maxHeartbeats 2000000 in
theorem refPad_any (n k : Nat) (hn : n < 1000000000000) (hk : k ≤ 16) (w : World) :
    Calls Tryd.prog 44 #[.int .i64 n, .int .i64 k] w fun e w' => e = .returned (.string ⟨(padT k n).toArray⟩) ∧ Below w.heap.size w w' := by
  go_enter Tryd.func44, Tryd.ntmps44
  go_wp2
  go_loopw [0, 5, 6] (fun s0 s5 s6 wr => ∃ i : Nat, i ≤ k ∧ s6 = .int .i64 i ∧ s0 = .int .i64 (n / 10 ^ i : Nat) ∧ s5 = .string ⟨(padT i n).toArray⟩ ∧ Hid (Below w.heap.size w wr)) (fun _ _ s6 _ => k - (intOf s6).toNat)
  case atStart => exact ⟨0, Nat.zero_le _, rfl, by simp, rfl, Lib.hid (Below.refl _ _)⟩
  case round =>
    obtain ⟨i, hi, rfl, rfl, rfl, HB⟩ := hrel
    by_cases hlt : i < k
    · have hq : n / 10 ^ i ≤ n := Nat.div_le_self _ _
      have HQ := Lib.hid (show n / 10 ^ (i + 1) = n / 10 ^ i / 10 by rw [Nat.pow_succ, Nat.div_div_eq_div_mul])
      have HC := Lib.hid (padT_cons i n)
      generalize n / 10 ^ i = q at hq HQ HC
      have m1 : Int.tmod (q : Int) 10 = (q : Int) % 10 := tmod_pos (by omega)
      have m2 : Int.tdiv (q : Int) 10 = (q : Int) / 10 := tdiv_pos (by omega)
      have hsz : (⟨(padT i n).toArray⟩ : ByteArray).size = i := by rw [mk_size, padT_length]
      have hcv := (Byt.of_litD (w := wr) (e := 5) [digC q] #[.int .u8 (48 + (q : Int) % 10)] (by simp [digC_nat])).conv (P := Tryd.prog) Tryd.underlying60 Tryd.underlying5 Tryd.underlying9 1 1 rfl
      have hno : ¬ 9223372036854775807 < (⟨[digC q].toArray⟩ : ByteArray).size + (⟨(padT i n).toArray⟩ : ByteArray).size := by rw [hsz, mk_size]; simp; omega
      have HA := Lib.hid (mk_app [digC q] (padT i n))
      generalize hs : (⟨(padT i n).toArray⟩ : ByteArray) = s at *
      generalize hc1 : (⟨[digC q].toArray⟩ : ByteArray) = c at *
      clear hs hc1
      go_wp2
      go_round
      case rel => exact ⟨i + 1, by omega, by go_num, by rw [HQ.out]; first | rfl | go_num, by rw [HA.out, ← List.singleton_append.symm, ← HC.out], Lib.hid (HB.out.alloc HB.out.size _)⟩
      case measure => simp [intOf]; omega
    · obtain rfl : i = k := by omega
      go_wp2
      go_ret
      exact ⟨rfl, HB.out⟩

end Go.Proofs.YtnnpiaangemieaaDoor
