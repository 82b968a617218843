/-
  The document's own answers of layer 13: a duration, read.
-/
import Derived.Test.YtdilnofolnabdaaGreatDoorG07
import Derived.Test.YtdilnofolnabdaaGreatDoorG10
import Derived.Test.YtdilnofolnabdaaGreatDoorG03
import Derived.Lib.Hide
namespace Go.Proofs.YtdilnofolnabdaaGreatDoor
open Go.RowKit

theorem listR (s : ByteArray) : s.data.toList.length = s.size := (bsize s).symm
theorem getR {s : ByteArray} {k : Nat} (h : k < s.size) : s.data.toList[k]? = some s[k] := get_at h
theorem dropR {s : ByteArray} {k : Nat} (h : k < s.size) : s.data.toList.drop k = s[k] :: s.data.toList.drop (k + 1) := by
  have hl : k < s.data.toList.length := by rw [listR]; exact h
  rw [List.drop_eq_getElem_cons hl]
  first | rfl | (congr 1; exact Option.some.inj ((List.getElem?_eq_getElem hl).symm.trans (getR h)))
theorem takeR {s : ByteArray} {k : Nat} (h : k < s.size) : s.data.toList.take (k + 1) = s.data.toList.take k ++ [s[k]] := by
  rw [List.take_add_one, getR h]
  first | done | rfl
theorem mk_listR (l : List UInt8) : (⟨l.toArray⟩ : ByteArray).data.toList = l := by simp
theorem list_mkR (s : ByteArray) : (⟨s.data.toList.toArray⟩ : ByteArray) = s := by apply ByteArray.ext; simp
theorem mk_sizeR (l : List UInt8) : (⟨l.toArray⟩ : ByteArray).size = l.length := by rw [← listR, mk_listR]
theorem cutR (s : ByteArray) (a b : Nat) : (s.extract a b).data.toList = (s.data.toList.drop a).take (b - a) := by
  rw [ByteArray.data_extract, Array.toList_extract, List.extract_eq_take_drop]
theorem bytesR {a b : ByteArray} (h : a.data.toList = b.data.toList) : a = b := by apply ByteArray.ext; rwa [← Array.toList_inj]
theorem tailR (s : ByteArray) (k : Nat) : s.extract k s.size = ⟨(s.data.toList.drop k).toArray⟩ := by
  apply bytesR
  rw [cutR, mk_listR, List.take_of_length_le (by rw [List.length_drop, listR]; omega)]
theorem headR (s : ByteArray) (k : Nat) : (s.extract 0 k).data.toList = s.data.toList.take k := by rw [cutR]; simp
theorem span_at {s : ByteArray} {k : Nat} (_hk : k ≤ s.size) (hd : ∀ c ∈ s.data.toList.take k, digN c.toNat = true) (hn : ∀ h : k < s.size, digN s[k].toNat = false) : spanD s.data.toList = (s.data.toList.take k, s.data.toList.drop k) := by
  have := spanD_of (s.data.toList.take k) (s.data.toList.drop k) hd (fun c r h => by
    have hlt : k < s.size := by
      rcases Nat.lt_or_ge k s.size with h1 | h1
      · exact h1
      · rw [List.drop_of_length_le (by rw [listR]; exact h1)] at h; cases h
    rw [dropR hlt] at h
    injection h with h1 h2
    rw [← h1]
    exact hn hlt)
  rwa [List.take_append_drop] at this
/-- What the document's number tells. -/
def NumSays (s : ByteArray) (c : UInt8) (e : Ending) : Prop :=
  (∃ v r, numR s.data.toList c = some (v, r) ∧ e = .returned (.tuple #[.int .i64 v, .string ⟨r.toArray⟩, .bool true])) ∨ (numR s.data.toList c = none ∧ e = .returned (.tuple #[.int .i64 0, .string s, .bool false]))
set_option maxRecDepth 100000 in
set_option maxHeartbeats 4000000 in
theorem refNum_any (s : ByteArray) (hs : s.size ≤ 1048576) (c : UInt8) (w : World) :
    Calls Tryz.prog 95 #[.string s, .int .u8 (c.toNat : Int)] w fun e w' => NumSays s c e ∧ Below w.heap.size w w' := by
  go_enter Tryz.func95, Tryz.ntmps95
  go_wp2
  go_loopw [7] (fun p wr => ∃ k : Nat, p = .int .i64 k ∧ k ≤ s.size ∧ wr = w ∧ Hid (∀ c ∈ s.data.toList.take k, digN c.toNat = true)) (fun p _ => s.size - (intOf p).toNat)
  case atStart => exact ⟨0, rfl, Nat.zero_le _, rfl, Lib.hid (fun c hc => by simp at hc)⟩
  case round =>
    obtain ⟨k, rfl, hk, rfl, HD⟩ := hrel
    have fin : (∀ h : k < s.size, digN s[k].toNat = false) → True := fun _ => trivial
    by_cases hlt : k < s.size
    · have h1 : (k : Int) < (s.size : Int) := by omega
      have hki : (k : Int) ≤ (s.size : Int) := by omega
      have cd := fun W => refDigit_any s[k].toNat s[k].toNat_lt W
      cases hg : digN s[k].toNat
      · rw [hg] at cd
        have HS := Lib.hid (span_at hk HD.out (fun _ => hg))
        have HN : Hid (numR s.data.toList c = if s.data.toList.take k ≠ [] ∧ (s.data.toList.take k).length ≤ 7 ∧ s[k] = c then some (valD (s.data.toList.take k), s.data.toList.drop (k + 1)) else none) := Lib.hid (by
          unfold numR
          rw [HS.out]
          simp only [dropR hlt])
        have htl : (s.data.toList.take k).length = k := by rw [List.length_take, listR]; omega
        have HT := Lib.hid htl
        have HDD := Lib.hid HD.out
        clear HD hg HS htl fin
        by_cases q0 : k = 0
        · subst q0
          have HR : Hid (numR s.data.toList c = none) := Lib.hid (by rw [HN.out, if_neg (fun h => h.1 (by simp))])
          clear HN HT
          go_wp2_with (go_at_call 111; refine (cd _).mono ?_; rintro e w' ⟨rfl, hw⟩; subst w')
          go_ret3
          exact ⟨.inr ⟨HR.out, rfl⟩, Below.refl _ _⟩
        · have q0b : ((k : Int) == 0) = false := by rw [beq_eq_false_iff_ne]; omega
          by_cases q7 : 7 < k
          · have q7i : (7 : Int) < (k : Int) := by omega
            have HR : Hid (numR s.data.toList c = none) := Lib.hid (by rw [HN.out, if_neg (fun h => by have := h.2.1; have := HT.out; omega)])
            clear HN HT q0 q7
            go_wp2_with (go_at_call 111; refine (cd _).mono ?_; rintro e w' ⟨rfl, hw⟩; subst w')
            go_ret3
            exact ⟨.inr ⟨HR.out, rfl⟩, Below.refl _ _⟩
          · have q7i : ¬ (7 : Int) < (k : Int) := by omega
            have qs : ((k : Int) == (s.size : Int)) = false := by rw [beq_eq_false_iff_ne]; omega
            by_cases qc : s[k] = c
            · have qb1 : (((s[k].toNat : Nat) : Int) == ((c.toNat : Nat) : Int)) = true := by rw [qc]; simp
              have qb2 : (((s[k].toNat : Nat) : Int) != ((c.toNat : Nat) : Int)) = false := by rw [qc]; simp
              have HR : Hid (numR s.data.toList c = some (valD (s.data.toList.take k), s.data.toList.drop (k + 1))) := Lib.hid (by
                rw [HN.out, if_pos ⟨fun h => by have := HT.out; rw [h] at this; simp at this; omega, by have := HT.out; omega, qc⟩])
              have hnv := numV_digs HDD.out (fun h => by have := HT.out; rw [h] at this; simp at this; omega) (by have := HT.out; omega) (Int.le_refl 9999999)
              have cn := fun W => refNumber_any (s.extract 0 k) (by rw [← listR, headR, List.length_take, listR]; omega) 9999999 W
              rw [headR, hnv.1] at cn
              have HX := Lib.hid (tailR s (k + 1))
              have hk1 : (k : Int) + 1 ≤ (s.size : Int) := by omega
              have hmx : Tryz.prog.follows .mixedOrders = true := by kernel_rfl
              generalize valD (s.data.toList.take k) = V at HR cn
              clear HN HT q0 q7 qc hnv HDD
              go_wp2_with (first
                | (go_at_call 111; refine (cd _).mono ?_; rintro e w' ⟨rfl, hw⟩; subst w')
                | (go_at_call 92; refine (cn _).mono ?_; rintro e w' ⟨rfl, hw⟩; subst w'))
              go_region
              go_wp2
              go_ret3
              refine ⟨.inl ⟨_, _, HR.out, ?_⟩, (Below.refl _ _).drew⟩
              rw [← HX.out]
              rfl
            · have hne : ¬ ((s[k].toNat : Nat) : Int) = ((c.toNat : Nat) : Int) := fun h => qc (UInt8.toNat_inj.1 (by omega))
              have qb1 : (((s[k].toNat : Nat) : Int) == ((c.toNat : Nat) : Int)) = false := by rw [beq_eq_false_iff_ne]; exact hne
              have qb2 : (((s[k].toNat : Nat) : Int) != ((c.toNat : Nat) : Int)) = true := by simpa using hne
              have HR : Hid (numR s.data.toList c = none) := Lib.hid (by rw [HN.out, if_neg (fun h => qc h.2.2)])
              clear HN HT q0 q7 qc hne
              go_wp2_with (go_at_call 111; refine (cd _).mono ?_; rintro e w' ⟨rfl, hw⟩; subst w')
              go_ret3
              exact ⟨.inr ⟨HR.out, rfl⟩, Below.refl _ _⟩
      · rw [hg] at cd
        have HD2 : Hid (∀ c ∈ s.data.toList.take (k + 1), digN c.toNat = true) := Lib.hid (fun d hd => by
          rw [takeR hlt] at hd
          rcases List.mem_append.1 hd with h | h
          · exact HD.out d h
          · simp only [List.mem_singleton] at h
            subst h
            exact hg)
        clear HD hg fin
        go_wp2_with (go_at_call 111; refine (cd _).mono ?_; rintro e w' ⟨rfl, hw⟩; subst w')
        go_round
        case rel => exact ⟨k + 1, by go_num, by omega, by first | rfl | trivial, HD2⟩
        case measure => simp [intOf]; omega
    · obtain rfl : k = s.size := by omega
      have HR : Hid (numR s.data.toList c = none) := Lib.hid (by
        have hsp := span_at (Nat.le_refl _) HD.out (fun h => absurd h hlt)
        unfold numR
        rw [hsp, List.drop_of_length_le (by rw [listR]; exact Nat.le_refl _)])
      clear HD fin
      by_cases q0 : (s.size : Int) = 0
      · have q0b : ((s.size : Int) == 0) = true := by rw [q0]; rfl
        go_wp2
        go_ret3
        exact ⟨.inr ⟨HR.out, rfl⟩, Below.refl _ _⟩
      · have q0b : ((s.size : Int) == 0) = false := by rw [beq_eq_false_iff_ne]; exact q0
        by_cases q7 : (7 : Int) < (s.size : Int)
        · clear q0
          go_wp2
          go_ret3
          exact ⟨.inr ⟨HR.out, rfl⟩, Below.refl _ _⟩
        · clear q0
          go_wp2
          go_ret3
          exact ⟨.inr ⟨HR.out, rfl⟩, Below.refl _ _⟩
end Go.Proofs.YtdilnofolnabdaaGreatDoor
