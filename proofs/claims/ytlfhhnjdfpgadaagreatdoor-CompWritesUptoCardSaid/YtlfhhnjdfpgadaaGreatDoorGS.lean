/-
  Whether a component has at most 5000 parts: some answer.
-/
import Derived.Test.YtlfhhnjdfpgadaaGreatDoorG05
import Derived.Deep.DeepCutAuto
import Derived.Deep.CutBlock
namespace Go.Proofs.YtlfhhnjdfpgadaaGreatDoor
open Go.RowKit

set_option maxRecDepth 100000 in
set_option maxHeartbeats 1000000 in
theorem small_any : ∀ (N : Nat) (r : CR) (left : Int) (w : World), csize r ≤ N → COk w w.heap.size r → 0 ≤ left → left ≤ 5000 →
    Calls Tryz.prog 19 #[.agg #[(fC r).1, (fC r).2.1, (fC r).2.2], .int .i64 left] w fun e w' => (∃ v : Int, e = .returned (.int .i64 v) ∧ -9223372036854775808 ≤ v ∧ v ≤ 5000) ∧ Below w.heap.size w w'
  | 0, .mk nm A n c qs K k kc cs, left, w, hN, _, _, _ => absurd hN (by simp [csize])
  | N + 1, .mk nm A n c qs K k kc cs, left, w, hN, hC, h0, h5 => by
    have HA := Lib.hid (CA.new hC)
    have HB : Hid (Below w.heap.size w (w.alloc (.cells #[.string nm, .slice A n c, .slice K k kc] 25))) := Lib.hid ((Below.refl _ w).alloc (Nat.le_refl _) _)
    have HN : Hid (csizes cs ≤ N) := Lib.hid (by rw [csize] at hN; omega)
    have IH := Lib.hid (small_any N)
    have hn : n ≤ 9223372036854775807 := by have := hC.nle; unfold maxLen at this; omega
    have hk : k ≤ 9223372036854775807 := by have := hC.kle; unfold maxLen at this; omega
    have HLQ := Lib.hid hC.rq.len3
    have HLC := Lib.hid hC.rc.len3
    clear hC hN
    show Calls Tryz.prog 19 #[.agg #[.string nm, .slice A n c, .slice K k kc], .int .i64 left] w _
    go_enter Tryz.func19, Tryz.ntmps19
    obtain ⟨p0, p1, p2⟩ := HA.out.bx.cells
    generalize hW : w.alloc (.cells #[.string nm, .slice A n c, .slice K k kc] 25) = w1 at *
    go_upto_block 0 with fail
    clear hW
    go_cut [1] (fun s1 wc => wc = w1 ∧ ∃ v : Int, s1 = .int .i64 v ∧ -9223372036854775808 ≤ v ∧ v ≤ 5000)
    case first =>
      go_wp2
      go_loopw [1, 5, 6] (fun s1 s5 s6 wr => ∃ (v : Int) (i : Nat), s1 = .int .i64 v ∧ s5 = .int .i64 i ∧ i ≤ n ∧ -9223372036854775808 ≤ v ∧ v ≤ 5000 ∧ wr = w1) (fun _ s5 _ _ => n - (intOf s5).toNat)
      case atStart => exact ⟨left - 1, 0, by first | rfl | go_num, rfl, Nat.zero_le _, by omega, by omega, rfl⟩
      case round =>
        obtain ⟨v, i, rfl, rfl, hi, hv1, hv2, rfl⟩ := hrel
        by_cases hlt : i < n
        · by_cases hv : 0 ≤ v
          · obtain ⟨q, hq⟩ : ∃ q, qs[i]? = some q := ⟨qs[i]'(by have := HLQ.out; omega), List.getElem?_eq_getElem (by have := HLQ.out; omega)⟩
            obtain ⟨b, o, hAe, q0, q1, q2⟩ := HA.out.atQ hq
            have HQ := Lib.hid (HA.out.ok.vq q (List.mem_of_getElem? hq))
            have hqn : q.n ≤ 9223372036854775807 := by have := HQ.out.le; have := HQ.out.cap; unfold maxLen at this; omega
            clear hq
            rw [hAe] at p1
            clear hAe
            go_wp2
            go_loopw [1, 6] (fun s1 s6 wr2 => ∃ (v : Int) (j : Nat), s1 = .int .i64 v ∧ s6 = .int .i64 j ∧ j ≤ q.n ∧ -9223372036854775808 ≤ v ∧ v ≤ 5000 ∧ wr2 = wr) (fun _ s6 _ => q.n - (intOf s6).toNat)
            case atStart => exact ⟨v - 1 - q.n, 0, by first | rfl | go_num, rfl, Nat.zero_le _, by omega, by omega, rfl⟩
            case round =>
              obtain ⟨v2, j, rfl, rfl, hj, hv3, hv4, rfl⟩ := hrel
              by_cases hjl : j < q.n
              · by_cases hv5 : 0 ≤ v2
                · obtain ⟨r, hr⟩ : ∃ r, q.ps[j]? = some r := ⟨q.ps[j]'(by have := HQ.out.rd.1; rw [encP_length] at this; omega), List.getElem?_eq_getElem (by have := HQ.out.rd.1; rw [encP_length] at this; omega)⟩
                  obtain ⟨b2, o2, hLe, _, r0, r1⟩ := HQ.out.rd.par hr
                  have hPO := HQ.out.vs r (List.mem_of_getElem? hr)
                  have hrk : r.k ≤ 9223372036854775807 := by have := hPO.le; have := hPO.cap; unfold maxLen at this; omega
                  clear hr hPO
                  rw [hLe] at q1
                  clear hLe
                  go_wp2
                  go_round
                  case rel => exact ⟨v2 - r.k, j + 1, by first | rfl | go_num, by go_num, by omega, by omega, by omega, by first | rfl | trivial⟩
                  case measure => simp [intOf]; omega
                · have hv6 : v2 < 0 := by omega
                  go_wp2
                  go_round
                  case rel => exact ⟨v2, i + 1, rfl, by go_num, by omega, by omega, by omega, by first | rfl | trivial⟩
                  case measure => simp [intOf]; omega
              · go_wp2
                go_round
                case rel => exact ⟨v2, i + 1, rfl, by go_num, by omega, by omega, by omega, by first | rfl | trivial⟩
                case measure => simp [intOf]; omega
          · have hv6 : v < 0 := by omega
            go_wp2
            go_meet
            exact ⟨rfl, v, rfl, hv1, hv2⟩
        · go_wp2
          go_meet
          exact ⟨rfl, v, rfl, hv1, hv2⟩
    case rest =>
      obtain ⟨rfl, v, rfl, hv1, hv2⟩ := hcut
      have HJ := Lib.hid (And.intro HA.out HB.out)
      clear HA HB p0 p1 p2 HLQ hn
      go_wp2
      go_loopw [1, 7] (fun s1 s7 wr => ∃ (v : Int) (i : Nat), s1 = .int .i64 v ∧ s7 = .int .i64 i ∧ i ≤ k ∧ -9223372036854775808 ≤ v ∧ v ≤ 5000 ∧ Hid (CA wr w.heap.size nm A n c qs K k kc cs ∧ Below w.heap.size w wr)) (fun _ s7 _ => k - (intOf s7).toNat)
      case atStart => exact ⟨v, 0, rfl, rfl, Nat.zero_le _, hv1, hv2, HJ⟩
      case round =>
        clear HJ
        obtain ⟨v, i, rfl, rfl, hi, hv1, hv2, HJ⟩ := hrel
        obtain ⟨p0, p1, p2⟩ := HJ.out.1.bx.cells
        by_cases hlt : i < k
        · by_cases hv : 0 ≤ v
          · obtain ⟨x, hx⟩ : ∃ x, cs[i]? = some x := ⟨cs[i]'(by have := HLC.out; omega), List.getElem?_eq_getElem (by have := HLC.out; omega)⟩
            obtain ⟨b, o, hKe, q0, q1, q2⟩ := HJ.out.1.atC hx
            have hm := List.mem_of_getElem? hx
            have HX := Lib.hid (And.intro (Nat.le_trans (csize_mem hm) HN.out) (HJ.out.1.ok.vc x hm))
            clear hx hm
            rw [hKe] at p2
            clear hKe
            go_wp2_with fail
            refine (IH.out x v _ HX.out.1 HX.out.2 hv hv2).mono ?_
            rintro e w2 ⟨⟨v2, rfl, hv3, hv4⟩, hb2⟩
            have HJ2 := Lib.hid (And.intro (HJ.out.1.step hb2) (bstep HJ.out.2 hb2))
            clear hb2
            go_wp2
            go_round
            case rel => exact ⟨v2, i + 1, rfl, by go_num, by omega, hv3, hv4, HJ2⟩
            case measure => simp [intOf]; omega
          · have hv6 : v < 0 := by omega
            go_wp2
            go_ret
            exact ⟨⟨v, rfl, hv1, hv2⟩, HJ.out.2⟩
        · go_wp2
          go_ret
          exact ⟨⟨v, rfl, hv1, hv2⟩, HJ.out.2⟩

/-- Some answer, and what lay before. -/
theorem light_any (r : CR) (w : World) (hC : COk w w.heap.size r) : Calls Tryz.prog 4 #[.agg #[(fC r).1, (fC r).2.1, (fC r).2.2]] w fun e w' => (∃ b : Bool, e = .returned (.bool b)) ∧ Below w.heap.size w w' := by
  obtain ⟨nm, A, n, c, qs, K, k, kc, cs⟩ := r
  have HA := Lib.hid (CA.new hC)
  have HB : Hid (Below w.heap.size w (w.alloc (.cells #[.string nm, .slice A n c, .slice K k kc] 25))) := Lib.hid ((Below.refl _ w).alloc (Nat.le_refl _) _)
  clear hC
  show Calls Tryz.prog 4 #[.agg #[.string nm, .slice A n c, .slice K k kc]] w _
  go_enter Tryz.func4, Tryz.ntmps4
  obtain ⟨p0, p1, p2⟩ := HA.out.bx.cells
  go_wp2_with fail
  refine (small_any _ _ 5000 _ (Nat.le_refl _) HA.out.ok (by omega) (by omega)).mono ?_
  rintro e w2 ⟨⟨v2, rfl, hv3, hv4⟩, hb2⟩
  go_wp2
  go_ret
  exact ⟨⟨_, rfl⟩, bstep HB.out hb2⟩

end Go.Proofs.YtlfhhnjdfpgadaaGreatDoor
