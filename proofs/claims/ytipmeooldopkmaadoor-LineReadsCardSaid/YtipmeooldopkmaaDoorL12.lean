/-
  Whether one text stands in another one, as the program and as the document tell.
-/
import Derived.Test.YtipmeooldopkmaaDoorL11
import Derived.Lib.IndexMore
import Derived.Test.YtipmeooldopkmaaDoorL07
namespace Go.Proofs.YtipmeooldopkmaaDoor
open Go.RowKit

theorem occ_eq {s t : ByteArray} {k : Nat} (_hk : k + s.size ≤ t.size) : ((t.extract k (k + s.size)).toList == s.toList) = Lib.occAt t.data.toList s.data.toList k := by
  rw [ByteArray.toList_eq, ByteArray.toList_eq, ByteArray.data_extract, Array.toList_extract, List.extract_eq_take_drop]
  have h1 : k + s.size - k = s.data.toList.length := by rw [← bsize]; omega
  rw [h1]
  unfold Lib.occAt
  rw [Bool.eq_iff_iff, beq_iff_eq, List.isPrefixOf_iff_prefix, List.prefix_iff_eq_take]
  exact eq_comm

set_option maxRecDepth 100000 in
set_option maxHeartbeats 1000000 in
theorem refAt_any (s t : ByteArray) (hs : s.size ≤ 16777216) (ht : t.size ≤ 16777216) (w : World) :
    Calls Tryd.prog 18 #[.string s, .string t] w fun e w' => e = .returned (.int .i64 (Lib.index t.data.toList s.data.toList)) ∧ w' = w := by
  go_enter Tryd.func18, Tryd.ntmps18
  go_wp2
  go_loopw [5] (fun p wr => ∃ k : Nat, p = .int .i64 k ∧ k ≤ t.size + 1 ∧ wr = w ∧ Hid (∀ j, j < k → Lib.occAt t.data.toList s.data.toList j = false)) (fun p _ => t.size + 1 - (intOf p).toNat)
  case atStart => exact ⟨0, rfl, Nat.zero_le _, rfl, Lib.hid fun j hj => absurd hj (Nat.not_lt_zero _)⟩
  case round =>
    obtain ⟨k, rfl, hk, rfl, HN⟩ := hrel
    by_cases hlt : k + s.size ≤ t.size
    · have hq := occ_eq hlt
      cases ho : Lib.occAt t.data.toList s.data.toList k
      · rw [ho] at hq
        have HN2 : Hid (∀ j, j < k + 1 → Lib.occAt t.data.toList s.data.toList j = false) := Lib.hid fun j hj => by
          by_cases e : j = k
          · subst e; exact ho
          · exact HN.out j (by omega)
        clear ho
        have hd : (k : Int) + (s.size : Int) ≤ (t.size : Int) := by omega
        go_wp2
        go_round
        case rel => exact ⟨k + 1, by go_num, by omega, by first | rfl | trivial, HN2⟩
        case measure => simp [intOf]; omega
      · rw [ho] at hq
        have HI : Hid (Lib.index t.data.toList s.data.toList = k) := Lib.hid (Lib.index_first (by rw [← bsize]; omega) ho HN.out)
        clear ho
        have hd : (k : Int) + (s.size : Int) ≤ (t.size : Int) := by omega
        go_wp2
        go_ret
        refine ⟨?_, ?_⟩
        · rw [HI.out]; rfl
        · rfl
    · have HI : Hid (Lib.index t.data.toList s.data.toList = -1) := Lib.hid (Lib.index_none fun j hj => by
        by_cases h : j < k
        · exact HN.out j h
        · cases ho : Lib.occAt t.data.toList s.data.toList j
          · rfl
          · unfold Lib.occAt at ho
            rw [List.isPrefixOf_iff_prefix] at ho
            have := ho.length_le
            rw [List.length_drop, ← bsize, ← bsize] at this
            rw [← bsize] at hj
            exfalso
            have : s.size ≠ 0 ∨ t.size < j + s.size := by omega
            omega)
      have hd : (t.size : Int) < (k : Int) + (s.size : Int) := by omega
      go_wp2
      go_ret
      exact ⟨by rw [HI.out]; rfl, rfl⟩

end Go.Proofs.YtipmeooldopkmaaDoor

/-
  The document's own answers of layer 11: a property's text.
-/
namespace Go.Proofs.YtipmeooldopkmaaDoor
open Go.RowKit

theorem mk_appL (a b : List UInt8) : (⟨a.toArray⟩ : ByteArray) ++ ⟨b.toArray⟩ = ⟨(a ++ b).toArray⟩ := by
  apply ByteArray.ext
  rw [ByteArray.data_append]
  simp
theorem mk_sizeL (a : List UInt8) : (⟨a.toArray⟩ : ByteArray).size = a.length := by simp [ByteArray.size]
theorem has_at {v : ByteArray} {c : UInt8} (h : c ∈ v.data.toList) : decide (0 ≤ Lib.index v.data.toList [c]) = true := decide_eq_true ((idx_has _ _).2 h)
theorem has_not {v : ByteArray} {c : UInt8} (h : c ∉ v.data.toList) : decide (0 ≤ Lib.index v.data.toList [c]) = false := decide_eq_false fun x => h ((idx_has _ _).1 x)

theorem vsize_le {vs : List ByteArray} {v : ByteArray} (h : v ∈ vs) : v.size + 1 ≤ vsize vs := by
  induction vs with
  | nil => cases h
  | cons x vs ih =>
    unfold vsize at *
    rw [List.map_cons, List.sum_cons]
    rcases List.mem_cons.1 h with e | h
    · subst e; omega
    · have := ih h; omega
theorem b1 (c : UInt8) : (⟨#[c]⟩ : ByteArray) = ⟨([c] : List UInt8).toArray⟩ := rfl
theorem s1 (c : UInt8) : (⟨#[c]⟩ : ByteArray).size = 1 := rfl

set_option maxRecDepth 100000 in
set_option maxHeartbeats 8000000 in
theorem refText11_any (nm vl : ByteArray) (L : Option Addr) (n c : Nat) (l : List PR) (w : World) (hR : Reads w w.heap.size 2 L n (encP l)) (hP : ∀ r ∈ l, POk w w.heap.size r) (hn : n ≤ c) (hc : c ≤ maxLen) (hsz : nm.size + psizes l + vl.size ≤ 1048576) :
    Calls Tryd.prog 44 #[.agg #[.string nm, .slice L n c, .string vl]] w fun e w' => e = .returned (.string ⟨(textL (proOf nm l vl)).toArray⟩) ∧ Below w.heap.size w w' := by
  have HA := Lib.hid (PA.new hR hP hn hc nm vl)
  have HB : Hid (Below w.heap.size w (w.alloc (.cells #[.string nm, .slice L n c, .string vl] 24))) := Lib.hid ((Below.refl _ w).alloc (Nat.le_refl _) _)
  have hnm : n ≤ 9223372036854775807 := by have := hc; unfold maxLen at this; omega
  have HPL : Hid (∀ i, (preL nm l i).length ≤ 5242880) := Lib.hid fun i => by have := preL_len nm l i; omega
  have HPS : Hid (∀ r, r ∈ l → (∀ k, (valsK r k).length ≤ 3145728) ∧ r.name.size ≤ 1048576 ∧ ∀ v ∈ r.vs, v.size ≤ 1048576) := Lib.hid fun r hr => by
    have h1 := psize_le hr
    unfold psize at h1
    refine ⟨fun k => by have := valsK_len r k; omega, by omega, fun v hv => ?_⟩
    have : v.size + 1 ≤ vsize r.vs := vsize_le hv
    omega
  have hvl : vl.size ≤ 1048576 := by omega
  clear hR hP hn hc hsz
  go_enter Tryd.func44, Tryd.ntmps44
  have HL := Lib.hid HA.out.len
  generalize hW : w.alloc (.cells #[.string nm, .slice L n c, .string vl] 24) = w1 at HA HB
  have hp0 := HA.out.bx.cells
  obtain ⟨x0, x1, x2⟩ := hp0
  go_wp2
  clear hW x0 x1 x2
  go_loopw [3, 4, 5, 6] (fun s3 s4 s5 s6 wr => ∃ i : Nat, s4 = .int .i64 i ∧ i ≤ n ∧ wr = w1 ∧ s3 = .string ⟨(preL nm l i).toArray⟩) (fun _ s4 _ _ _ => n - (intOf s4).toNat)
  case atStart => exact ⟨0, rfl, Nat.zero_le _, rfl, by rw [preL_zero, mk_toList]⟩
  case round =>
    obtain ⟨i, rfl, hi, rfl, rfl⟩ := hrel
    obtain ⟨p0, p1, p2⟩ := HA.out.bx.cells
    have hs0 := HPL.out i
    have hsz0 : (⟨(preL nm l i).toArray⟩ : ByteArray).size = (preL nm l i).length := mk_sizeL _
    by_cases hlt : i < n
    · obtain ⟨r, hr⟩ : ∃ r, l[i]? = some r := ⟨l[i]'(by have := HL.out; omega), List.getElem?_eq_getElem (by have := HL.out; omega)⟩
      obtain ⟨b, o, hLe, q0, q1⟩ := HA.out.at hr
      have hmem := List.mem_of_getElem? hr
      have HPO := Lib.hid (HA.out.vs r hmem)
      obtain ⟨hvk, hrn, hvv⟩ := HPS.out r hmem
      have HVK := Lib.hid hvk
      have HVV := Lib.hid hvv
      have HST := Lib.hid (preL_step (nm := nm) hr)
      have HKL := Lib.hid HPO.out.len
      have hkm : r.k ≤ 9223372036854775807 := by have := HPO.out.le; have := HPO.out.cap; unfold maxLen at this; omega
      clear hr hmem hvk hvv
      subst hLe
      -- the name
      have HE := Lib.hid (show (⟨(preL nm l i).toArray⟩ : ByteArray) ++ ⟨#[59]⟩ ++ r.name ++ ⟨#[61]⟩ = ⟨(preL nm l i ++ (59 :: (r.name.data.toList ++ 61 :: valsK r 0))).toArray⟩ by
        rw [show (⟨#[59]⟩ : ByteArray) = ⟨([59] : List UInt8).toArray⟩ from rfl, show (⟨#[61]⟩ : ByteArray) = ⟨([61] : List UInt8).toArray⟩ from rfl]
        conv => lhs; rw [← mk_toList r.name]
        rw [mk_appL, mk_appL, mk_appL, valsK_zero]
        simp)
      generalize hA : (⟨(preL nm l i).toArray⟩ : ByteArray) = A at *
      have HA2 := Lib.hid hA
      clear hA
      have no1 : ¬ 9223372036854775807 < A.size + (⟨#[59]⟩ : ByteArray).size := by rw [show (⟨#[59]⟩ : ByteArray).size = 1 from rfl]; omega
      have no2 : ¬ 9223372036854775807 < (A ++ (⟨#[59]⟩ : ByteArray)).size + r.name.size := by rw [ByteArray.size_append, show (⟨#[59]⟩ : ByteArray).size = 1 from rfl]; omega
      have no3 : ¬ 9223372036854775807 < (A ++ (⟨#[59]⟩ : ByteArray) ++ r.name).size + (⟨#[61]⟩ : ByteArray).size := by rw [ByteArray.size_append, ByteArray.size_append, show (⟨#[59]⟩ : ByteArray).size = 1 from rfl, show (⟨#[61]⟩ : ByteArray).size = 1 from rfl]; omega
      go_wp2
      rw [HE.out]
      clear no1 no2 no3 HE
      have hpl : (preL nm l i).length ≤ 5242880 := hs0
      go_loopw [3, 5, 6] (fun s3 s5 s6 wr2 => ∃ k : Nat, s5 = .int .i64 k ∧ k ≤ r.k ∧ wr2 = wr ∧ s3 = .string ⟨(preL nm l i ++ (59 :: (r.name.data.toList ++ 61 :: valsK r k))).toArray⟩) (fun _ s5 _ _ => r.k - (intOf s5).toNat)
      case atStart => exact ⟨0, rfl, Nat.zero_le _, rfl, rfl⟩
      case round =>
        obtain ⟨k, rfl, hk, rfl, rfl⟩ := hrel
        have hvl2 := HVK.out k
        by_cases hlt2 : k < r.k
        · obtain ⟨v, hv⟩ : ∃ v, r.vs[k]? = some v := ⟨r.vs[k]'(by have := HKL.out; omega), List.getElem?_eq_getElem (by have := HKL.out; omega)⟩
          obtain ⟨b2, o2, hKe, q2⟩ := HPO.out.at hv
          have hvs := HVV.out v (List.mem_of_getElem? hv)
          have HSP := Lib.hid (valsK_step hv)
          have a44 := fun W => refAt_any ⟨#[44]⟩ v (by decide) (by omega) W
          have a59 := fun W => refAt_any ⟨#[59]⟩ v (by decide) (by omega) W
          have a58 := fun W => refAt_any ⟨#[58]⟩ v (by decide) (by omega) W
          rw [show (⟨#[44]⟩ : ByteArray).data.toList = [44] from rfl] at a44
          rw [show (⟨#[59]⟩ : ByteArray).data.toList = [59] from rfl] at a59
          rw [show (⟨#[58]⟩ : ByteArray).data.toList = [58] from rfl] at a58
          rw [hKe] at q1
          clear hv hKe
          have hS : (⟨(preL nm l i ++ (59 :: (r.name.data.toList ++ 61 :: valsK r k))).toArray⟩ : ByteArray).size ≤ 10485760 := by
            rw [mk_sizeL]
            have := Array.length_toList (xs := r.name.data)
            have e : r.name.data.size = r.name.size := rfl
            simp only [List.length_append, List.length_cons]
            omega
          obtain ⟨S, hS2⟩ : ∃ S : ByteArray, (⟨(preL nm l i ++ (59 :: (r.name.data.toList ++ 61 :: valsK r k))).toArray⟩ : ByteArray) = S := ⟨_, rfl⟩
          rw [hS2] at hS ⊢
          have HS2 := Lib.hid hS2
          clear hS2 hvl2
          by_cases hk0 : k = 0
          · rw [if_pos hk0, List.nil_append] at HSP
            have hkg : decide ((0 : Int) < (k : Int)) = false := decide_eq_false (by omega)
            have hkg2 : decide (0 < k) = false := decide_eq_false (by omega)
            have hkg3 : ¬ 0 < k := by omega
            clear hk0
            by_cases h44 : (44 : UInt8) ∈ v.data.toList
            · have hq : quoteL v.data.toList = 34 :: (v.data.toList ++ [34]) := by unfold quoteL; rw [sep_44 h44]; rfl
              rw [hq] at HSP
              clear hq
              have HE2 := Lib.hid (show S ++ ((⟨#[34]⟩ : ByteArray) ++ v ++ (⟨#[34]⟩ : ByteArray)) = ⟨(preL nm l i ++ (59 :: (r.name.data.toList ++ 61 :: valsK r (k + 1)))).toArray⟩ by
                rw [HSP.out, ← HS2.out]
                conv => lhs; rw [← mk_toList v]
                simp only [mk_appL]
                simp)
              have no2 : ¬ 9223372036854775807 < (⟨#[34]⟩ : ByteArray).size + v.size := by rw [s1]; omega
              have no3 : ¬ 9223372036854775807 < ((⟨#[34]⟩ : ByteArray) ++ v).size + (⟨#[34]⟩ : ByteArray).size := by rw [ByteArray.size_append, s1]; omega
              have no4 : ¬ 9223372036854775807 < S.size + ((⟨#[34]⟩ : ByteArray) ++ v ++ (⟨#[34]⟩ : ByteArray)).size := by rw [ByteArray.size_append, ByteArray.size_append, s1]; omega
              have d44 := has_at h44
              generalize Lib.index v.data.toList [44] = z44 at *
              generalize Lib.index v.data.toList [59] = z59 at *
              generalize Lib.index v.data.toList [58] = z58 at *
              clear h44
              go_wp2_with (first
                | (go_at_call 18; ((with_reducible refine (a44 _).mono ?_); rintro e w' ⟨rfl, hw⟩; subst w'))
                | (go_at_call 18; ((with_reducible refine (a59 _).mono ?_); rintro e w' ⟨rfl, hw⟩; subst w'))
                | (go_at_call 18; ((with_reducible refine (a58 _).mono ?_); rintro e w' ⟨rfl, hw⟩; subst w')))
              rw [HE2.out]
              go_round
              case rel => exact ⟨k + 1, by go_num, by omega, by first | rfl | trivial, rfl⟩
              case measure => simp [intOf]; omega
            by_cases h59 : (59 : UInt8) ∈ v.data.toList
            · have hq : quoteL v.data.toList = 34 :: (v.data.toList ++ [34]) := by unfold quoteL; rw [sep_59 h59]; rfl
              rw [hq] at HSP
              clear hq
              have HE2 := Lib.hid (show S ++ ((⟨#[34]⟩ : ByteArray) ++ v ++ (⟨#[34]⟩ : ByteArray)) = ⟨(preL nm l i ++ (59 :: (r.name.data.toList ++ 61 :: valsK r (k + 1)))).toArray⟩ by
                rw [HSP.out, ← HS2.out]
                conv => lhs; rw [← mk_toList v]
                simp only [mk_appL]
                simp)
              have no2 : ¬ 9223372036854775807 < (⟨#[34]⟩ : ByteArray).size + v.size := by rw [s1]; omega
              have no3 : ¬ 9223372036854775807 < ((⟨#[34]⟩ : ByteArray) ++ v).size + (⟨#[34]⟩ : ByteArray).size := by rw [ByteArray.size_append, s1]; omega
              have no4 : ¬ 9223372036854775807 < S.size + ((⟨#[34]⟩ : ByteArray) ++ v ++ (⟨#[34]⟩ : ByteArray)).size := by rw [ByteArray.size_append, ByteArray.size_append, s1]; omega
              have d44 := has_not h44
              have d59 := has_at h59
              generalize Lib.index v.data.toList [44] = z44 at *
              generalize Lib.index v.data.toList [59] = z59 at *
              generalize Lib.index v.data.toList [58] = z58 at *
              clear h44 h59
              go_wp2_with (first
                | (go_at_call 18; ((with_reducible refine (a44 _).mono ?_); rintro e w' ⟨rfl, hw⟩; subst w'))
                | (go_at_call 18; ((with_reducible refine (a59 _).mono ?_); rintro e w' ⟨rfl, hw⟩; subst w'))
                | (go_at_call 18; ((with_reducible refine (a58 _).mono ?_); rintro e w' ⟨rfl, hw⟩; subst w')))
              rw [HE2.out]
              go_round
              case rel => exact ⟨k + 1, by go_num, by omega, by first | rfl | trivial, rfl⟩
              case measure => simp [intOf]; omega
            by_cases h58 : (58 : UInt8) ∈ v.data.toList
            · have hq : quoteL v.data.toList = 34 :: (v.data.toList ++ [34]) := by unfold quoteL; rw [sep_58 h58]; rfl
              rw [hq] at HSP
              clear hq
              have HE2 := Lib.hid (show S ++ ((⟨#[34]⟩ : ByteArray) ++ v ++ (⟨#[34]⟩ : ByteArray)) = ⟨(preL nm l i ++ (59 :: (r.name.data.toList ++ 61 :: valsK r (k + 1)))).toArray⟩ by
                rw [HSP.out, ← HS2.out]
                conv => lhs; rw [← mk_toList v]
                simp only [mk_appL]
                simp)
              have no2 : ¬ 9223372036854775807 < (⟨#[34]⟩ : ByteArray).size + v.size := by rw [s1]; omega
              have no3 : ¬ 9223372036854775807 < ((⟨#[34]⟩ : ByteArray) ++ v).size + (⟨#[34]⟩ : ByteArray).size := by rw [ByteArray.size_append, s1]; omega
              have no4 : ¬ 9223372036854775807 < S.size + ((⟨#[34]⟩ : ByteArray) ++ v ++ (⟨#[34]⟩ : ByteArray)).size := by rw [ByteArray.size_append, ByteArray.size_append, s1]; omega
              have d44 := has_not h44
              have d59 := has_not h59
              have d58 := has_at h58
              generalize Lib.index v.data.toList [44] = z44 at *
              generalize Lib.index v.data.toList [59] = z59 at *
              generalize Lib.index v.data.toList [58] = z58 at *
              clear h44 h59 h58
              go_wp2_with (first
                | (go_at_call 18; ((with_reducible refine (a44 _).mono ?_); rintro e w' ⟨rfl, hw⟩; subst w'))
                | (go_at_call 18; ((with_reducible refine (a59 _).mono ?_); rintro e w' ⟨rfl, hw⟩; subst w'))
                | (go_at_call 18; ((with_reducible refine (a58 _).mono ?_); rintro e w' ⟨rfl, hw⟩; subst w')))
              rw [HE2.out]
              go_round
              case rel => exact ⟨k + 1, by go_num, by omega, by first | rfl | trivial, rfl⟩
              case measure => simp [intOf]; omega
            have hq : quoteL v.data.toList = v.data.toList := by unfold quoteL; rw [sep_no h44 h59 h58]; rfl
            rw [hq] at HSP
            clear hq
            have HE2 := Lib.hid (show S ++ v = ⟨(preL nm l i ++ (59 :: (r.name.data.toList ++ 61 :: valsK r (k + 1)))).toArray⟩ by
              rw [HSP.out, ← HS2.out]
              conv => lhs; rw [← mk_toList v]
              simp only [mk_appL]
              simp)
            have no4 : ¬ 9223372036854775807 < S.size + v.size := by omega
            have d44 := has_not h44
            have d59 := has_not h59
            have d58 := has_not h58
            generalize Lib.index v.data.toList [44] = z44 at *
            generalize Lib.index v.data.toList [59] = z59 at *
            generalize Lib.index v.data.toList [58] = z58 at *
            clear h44 h59 h58
            go_wp2_with (first
              | (go_at_call 18; ((with_reducible refine (a44 _).mono ?_); rintro e w' ⟨rfl, hw⟩; subst w'))
              | (go_at_call 18; ((with_reducible refine (a59 _).mono ?_); rintro e w' ⟨rfl, hw⟩; subst w'))
              | (go_at_call 18; ((with_reducible refine (a58 _).mono ?_); rintro e w' ⟨rfl, hw⟩; subst w')))
            rw [HE2.out]
            go_round
            case rel => exact ⟨k + 1, by go_num, by omega, by first | rfl | trivial, rfl⟩
            case measure => simp [intOf]; omega
          · rw [if_neg hk0] at HSP
            have hkg : decide ((0 : Int) < (k : Int)) = true := decide_eq_true (by omega)
            by_cases h44 : (44 : UInt8) ∈ v.data.toList
            · have hq : quoteL v.data.toList = 34 :: (v.data.toList ++ [34]) := by unfold quoteL; rw [sep_44 h44]; rfl
              rw [hq] at HSP
              clear hq
              have HE2 := Lib.hid (show (S ++ (⟨#[44]⟩ : ByteArray)) ++ ((⟨#[34]⟩ : ByteArray) ++ v ++ (⟨#[34]⟩ : ByteArray)) = ⟨(preL nm l i ++ (59 :: (r.name.data.toList ++ 61 :: valsK r (k + 1)))).toArray⟩ by
                rw [HSP.out, ← HS2.out]
                conv => lhs; rw [← mk_toList v]
                simp only [mk_appL]
                simp)
              have no1 : ¬ 9223372036854775807 < S.size + (⟨#[44]⟩ : ByteArray).size := by rw [s1]; omega
              have no2 : ¬ 9223372036854775807 < (⟨#[34]⟩ : ByteArray).size + v.size := by rw [s1]; omega
              have no3 : ¬ 9223372036854775807 < ((⟨#[34]⟩ : ByteArray) ++ v).size + (⟨#[34]⟩ : ByteArray).size := by rw [ByteArray.size_append, s1]; omega
              have no4 : ¬ 9223372036854775807 < (S ++ (⟨#[44]⟩ : ByteArray)).size + ((⟨#[34]⟩ : ByteArray) ++ v ++ (⟨#[34]⟩ : ByteArray)).size := by rw [ByteArray.size_append, ByteArray.size_append, ByteArray.size_append, s1, s1]; omega
              have d44 := has_at h44
              generalize Lib.index v.data.toList [44] = z44 at *
              generalize Lib.index v.data.toList [59] = z59 at *
              generalize Lib.index v.data.toList [58] = z58 at *
              clear h44
              go_wp2_with (first
                | (go_at_call 18; ((with_reducible refine (a44 _).mono ?_); rintro e w' ⟨rfl, hw⟩; subst w'))
                | (go_at_call 18; ((with_reducible refine (a59 _).mono ?_); rintro e w' ⟨rfl, hw⟩; subst w'))
                | (go_at_call 18; ((with_reducible refine (a58 _).mono ?_); rintro e w' ⟨rfl, hw⟩; subst w')))
              rw [HE2.out]
              go_round
              case rel => exact ⟨k + 1, by go_num, by omega, by first | rfl | trivial, rfl⟩
              case measure => simp [intOf]; omega
            by_cases h59 : (59 : UInt8) ∈ v.data.toList
            · have hq : quoteL v.data.toList = 34 :: (v.data.toList ++ [34]) := by unfold quoteL; rw [sep_59 h59]; rfl
              rw [hq] at HSP
              clear hq
              have HE2 := Lib.hid (show (S ++ (⟨#[44]⟩ : ByteArray)) ++ ((⟨#[34]⟩ : ByteArray) ++ v ++ (⟨#[34]⟩ : ByteArray)) = ⟨(preL nm l i ++ (59 :: (r.name.data.toList ++ 61 :: valsK r (k + 1)))).toArray⟩ by
                rw [HSP.out, ← HS2.out]
                conv => lhs; rw [← mk_toList v]
                simp only [mk_appL]
                simp)
              have no1 : ¬ 9223372036854775807 < S.size + (⟨#[44]⟩ : ByteArray).size := by rw [s1]; omega
              have no2 : ¬ 9223372036854775807 < (⟨#[34]⟩ : ByteArray).size + v.size := by rw [s1]; omega
              have no3 : ¬ 9223372036854775807 < ((⟨#[34]⟩ : ByteArray) ++ v).size + (⟨#[34]⟩ : ByteArray).size := by rw [ByteArray.size_append, s1]; omega
              have no4 : ¬ 9223372036854775807 < (S ++ (⟨#[44]⟩ : ByteArray)).size + ((⟨#[34]⟩ : ByteArray) ++ v ++ (⟨#[34]⟩ : ByteArray)).size := by rw [ByteArray.size_append, ByteArray.size_append, ByteArray.size_append, s1, s1]; omega
              have d44 := has_not h44
              have d59 := has_at h59
              generalize Lib.index v.data.toList [44] = z44 at *
              generalize Lib.index v.data.toList [59] = z59 at *
              generalize Lib.index v.data.toList [58] = z58 at *
              clear h44 h59
              go_wp2_with (first
                | (go_at_call 18; ((with_reducible refine (a44 _).mono ?_); rintro e w' ⟨rfl, hw⟩; subst w'))
                | (go_at_call 18; ((with_reducible refine (a59 _).mono ?_); rintro e w' ⟨rfl, hw⟩; subst w'))
                | (go_at_call 18; ((with_reducible refine (a58 _).mono ?_); rintro e w' ⟨rfl, hw⟩; subst w')))
              rw [HE2.out]
              go_round
              case rel => exact ⟨k + 1, by go_num, by omega, by first | rfl | trivial, rfl⟩
              case measure => simp [intOf]; omega
            by_cases h58 : (58 : UInt8) ∈ v.data.toList
            · have hq : quoteL v.data.toList = 34 :: (v.data.toList ++ [34]) := by unfold quoteL; rw [sep_58 h58]; rfl
              rw [hq] at HSP
              clear hq
              have HE2 := Lib.hid (show (S ++ (⟨#[44]⟩ : ByteArray)) ++ ((⟨#[34]⟩ : ByteArray) ++ v ++ (⟨#[34]⟩ : ByteArray)) = ⟨(preL nm l i ++ (59 :: (r.name.data.toList ++ 61 :: valsK r (k + 1)))).toArray⟩ by
                rw [HSP.out, ← HS2.out]
                conv => lhs; rw [← mk_toList v]
                simp only [mk_appL]
                simp)
              have no1 : ¬ 9223372036854775807 < S.size + (⟨#[44]⟩ : ByteArray).size := by rw [s1]; omega
              have no2 : ¬ 9223372036854775807 < (⟨#[34]⟩ : ByteArray).size + v.size := by rw [s1]; omega
              have no3 : ¬ 9223372036854775807 < ((⟨#[34]⟩ : ByteArray) ++ v).size + (⟨#[34]⟩ : ByteArray).size := by rw [ByteArray.size_append, s1]; omega
              have no4 : ¬ 9223372036854775807 < (S ++ (⟨#[44]⟩ : ByteArray)).size + ((⟨#[34]⟩ : ByteArray) ++ v ++ (⟨#[34]⟩ : ByteArray)).size := by rw [ByteArray.size_append, ByteArray.size_append, ByteArray.size_append, s1, s1]; omega
              have d44 := has_not h44
              have d59 := has_not h59
              have d58 := has_at h58
              generalize Lib.index v.data.toList [44] = z44 at *
              generalize Lib.index v.data.toList [59] = z59 at *
              generalize Lib.index v.data.toList [58] = z58 at *
              clear h44 h59 h58
              go_wp2_with (first
                | (go_at_call 18; ((with_reducible refine (a44 _).mono ?_); rintro e w' ⟨rfl, hw⟩; subst w'))
                | (go_at_call 18; ((with_reducible refine (a59 _).mono ?_); rintro e w' ⟨rfl, hw⟩; subst w'))
                | (go_at_call 18; ((with_reducible refine (a58 _).mono ?_); rintro e w' ⟨rfl, hw⟩; subst w')))
              rw [HE2.out]
              go_round
              case rel => exact ⟨k + 1, by go_num, by omega, by first | rfl | trivial, rfl⟩
              case measure => simp [intOf]; omega
            have hq : quoteL v.data.toList = v.data.toList := by unfold quoteL; rw [sep_no h44 h59 h58]; rfl
            rw [hq] at HSP
            clear hq
            have HE2 := Lib.hid (show (S ++ (⟨#[44]⟩ : ByteArray)) ++ v = ⟨(preL nm l i ++ (59 :: (r.name.data.toList ++ 61 :: valsK r (k + 1)))).toArray⟩ by
              rw [HSP.out, ← HS2.out]
              conv => lhs; rw [← mk_toList v]
              simp only [mk_appL]
              simp)
            have no1 : ¬ 9223372036854775807 < S.size + (⟨#[44]⟩ : ByteArray).size := by rw [s1]; omega
            have no4 : ¬ 9223372036854775807 < (S ++ (⟨#[44]⟩ : ByteArray)).size + v.size := by rw [ByteArray.size_append, s1]; omega
            have d44 := has_not h44
            have d59 := has_not h59
            have d58 := has_not h58
            generalize Lib.index v.data.toList [44] = z44 at *
            generalize Lib.index v.data.toList [59] = z59 at *
            generalize Lib.index v.data.toList [58] = z58 at *
            clear h44 h59 h58
            go_wp2_with (first
              | (go_at_call 18; ((with_reducible refine (a44 _).mono ?_); rintro e w' ⟨rfl, hw⟩; subst w'))
              | (go_at_call 18; ((with_reducible refine (a59 _).mono ?_); rintro e w' ⟨rfl, hw⟩; subst w'))
              | (go_at_call 18; ((with_reducible refine (a58 _).mono ?_); rintro e w' ⟨rfl, hw⟩; subst w')))
            rw [HE2.out]
            go_round
            case rel => exact ⟨k + 1, by go_num, by omega, by first | rfl | trivial, rfl⟩
            case measure => simp [intOf]; omega
        · obtain rfl : k = r.k := by omega
          have HE3 := Lib.hid (show preL nm l i ++ (59 :: (r.name.data.toList ++ 61 :: valsK r r.k)) = preL nm l (i + 1) by rw [HST.out, valsK_all (by rw [HKL.out]; exact Nat.le_refl _)])
          rw [HE3.out]
          clear hvl2
          go_wp2
          go_round
          case rel => exact ⟨i + 1, by go_num, by omega, by first | rfl | trivial, rfl⟩
          case measure => simp [intOf]; omega
    · obtain rfl : i = n := by omega
      have HE := Lib.hid (show (⟨(preL nm l i).toArray⟩ : ByteArray) ++ ⟨#[58]⟩ ++ vl = ⟨(textL (proOf nm l vl)).toArray⟩ by
        rw [← preL_all (nm := nm) (vl := vl) (l := l) (i := i) (by rw [HL.out]; exact Nat.le_refl _)]
        conv => lhs; rw [← mk_toList vl]
        simp only [mk_appL]
        simp)
      generalize (⟨(preL nm l i).toArray⟩ : ByteArray) = A at *
      have no1 : ¬ 9223372036854775807 < A.size + (⟨#[58]⟩ : ByteArray).size := by rw [s1]; omega
      have no2 : ¬ 9223372036854775807 < (A ++ (⟨#[58]⟩ : ByteArray)).size + vl.size := by rw [ByteArray.size_append, s1]; omega
      go_wp2
      go_ret
      exact ⟨by rw [← HE.out]; rfl, HB.out⟩

end Go.Proofs.YtipmeooldopkmaaDoor
