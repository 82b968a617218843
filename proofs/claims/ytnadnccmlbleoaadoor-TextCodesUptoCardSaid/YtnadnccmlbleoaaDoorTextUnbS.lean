/-
  Base 64 taken back, as the document does it: the walk.
-/
import Derived.Test.YtnadnccmlbleoaaDoorTextUnbR
namespace Go.Proofs.YtnadnccmlbleoaaDoor
open Go.RowKit

set_option maxRecDepth 100000 in
set_option maxHeartbeats 8000000 in
theorem refUnbase64_any (s : ByteArray) (hs : s.size ≤ 16777216) (w : World) :
    Calls Tryd.prog 10 #[.string s] w fun e w' => e = .returned (.tuple #[.string ⟨(unb s.data.toList).1.toArray⟩, .int .i64 (unb s.data.toList).2]) ∧ Below w.heap.size w w' := by
  obtain ⟨i0, hi, hz0, hz1, hz2⟩ := info_parts infoB
  have hlen := Lib.hid (bsize s)
  by_cases h4 : s.size % 4 = 0
  · have t1 : ((s.size : Int) % 4 != 0) = false := by simp; omega
    have H4 := Lib.hid h4; clear h4
    go_enter Tryd.func10, Tryd.ntmps10
    go_wp2
    go_loopw [4, 5] (fun v p wr => ∃ (i q : Nat) (acc : List UInt8), p = .int .i64 i ∧ Hid (i = 4 * q) ∧ i ≤ s.size ∧ wr.ownsRow w.heap.size 5 1 v acc.length (u8s acc) ∧ Below w.heap.size w wr ∧ acc.length ≤ i ∧ Hid (∀ x, b64 x = s.data.toList → acc = x.take (3 * q))) (fun _ p _ => s.size + 3 - (intOf p).toNat)
    case atStart => exact ⟨0, 0, [], rfl, Lib.hid rfl, by omega, World.ownsRow_nil _ _ _ _, Below.refl _ _, by simp, Lib.hid fun x _ => by simp⟩
    case round =>
      obtain ⟨i, q, acc, rfl, hiq, hi2, hown, hbw, hal, HK⟩ := hrel
      by_cases hlt : i < s.size
      · have hi4 : i + 4 ≤ s.size := by have := H4.out; have := hiq.out; omega
        go_wp2
        go_loopw [6, 7, 8, 9] (fun x b p _ wq => ∃ (k n : Nat) (by' : Int), p = .int .i64 k ∧ k ≤ 4 ∧ x = .int .i64 n ∧ b = .int .i64 by' ∧ Hid (n = grpN s.data.toList q k ∧ by' = bysN s.data.toList q k) ∧ n < 16777216 ∧ -1 ≤ by' ∧ by' ≤ 3 ∧ wq = wr) (fun _ _ p _ _ => 4 - (intOf p).toNat)
        case atStart => exact ⟨0, 0, 3, rfl, Nat.zero_le _, rfl, rfl, Lib.hid ⟨rfl, rfl⟩, by decide, by decide, by decide, rfl⟩
        case round =>
          obtain ⟨k, n, by', rfl, hk, rfl, rfl, HN, hn24, hby1, hby2, hw⟩ := hrel
          subst hw
          by_cases hk4 : k < 4
          · have hin : i + k < s.size := by omega
            have hin2 : (i : Int) + (k : Int) < (s.size : Int) := by omega
            have hd : Hid (dAt s.data.toList (4 * q + k) = Lib.indexByte letters s[i + k]) := Lib.hid (by unfold dAt; rw [← hiq.out, getB hin])
            have hdl := index_at s[i + k]
            have c1 := fun w => refSextet_any s[i + k] w
            obtain ⟨d, hde⟩ : ∃ d, d = Lib.indexByte letters s[i + k] := ⟨_, rfl⟩
            rw [← hde] at hdl c1
            have HD : Hid (dAt s.data.toList (4 * q + k) = d) := Lib.hid (by rw [hd.out, hde])
            clear hde hd
            have hgl := Lib.hid (grpN_lt s.data.toList q (k + 1) (by omega))
            have hbl := Lib.hid (bysN_in s.data.toList q (k + 1) (by omega))
            by_cases hneg : d < 0
            · have HN2 : Hid (n * 64 = grpN s.data.toList q (k + 1) ∧ by' - 1 = bysN s.data.toList q (k + 1)) := Lib.hid (by
                refine ⟨?_, ?_⟩
                · show _ = grpN s.data.toList q k * 64 + (dAt s.data.toList (4 * q + k)).toNat
                  rw [HD.out, ← HN.out.1]; omega
                · show _ = bysN s.data.toList q k - (if dAt s.data.toList (4 * q + k) < 0 then 1 else 0)
                  rw [HD.out, ← HN.out.2, if_pos hneg])
              have hn64 : n * 64 < 16777216 := by rw [HN2.out.1]; exact hgl.out
              have hb1 : -1 ≤ by' - 1 := by rw [HN2.out.2]; exact hbl.out.1
              go_wp2_with (go_at_call 31; refine (c1 _).mono ?_; rintro e w' ⟨rfl, rfl⟩)
              go_round
              case rel => exact ⟨k + 1, n * 64, by' - 1, by go_num, by omega, by go_num, by go_num, HN2, hn64, hb1, by omega, by first | rfl | trivial⟩
              case measure => simp [intOf]; omega
            · obtain ⟨v, rfl⟩ : ∃ v : Nat, d = v := ⟨d.toNat, by omega⟩
              have HN2 : Hid (n * 64 + v = grpN s.data.toList q (k + 1) ∧ by' = bysN s.data.toList q (k + 1)) := Lib.hid (by
                refine ⟨?_, ?_⟩
                · show _ = grpN s.data.toList q k * 64 + (dAt s.data.toList (4 * q + k)).toNat
                  rw [HD.out, ← HN.out.1]; omega
                · show _ = bysN s.data.toList q k - (if dAt s.data.toList (4 * q + k) < 0 then 1 else 0)
                  rw [HD.out, ← HN.out.2, if_neg hneg]; omega)
              have hn64 : n * 64 + v < 16777216 := by rw [HN2.out.1]; exact hgl.out
              go_wp2_with (go_at_call 31; refine (c1 _).mono ?_; rintro e w' ⟨rfl, rfl⟩)
              go_round
              case rel => exact ⟨k + 1, n * 64 + v, by', by go_num, by omega, by go_num, rfl, HN2, hn64, hby1, hby2, by first | rfl | trivial⟩
              case measure => simp [intOf]; omega
          · obtain rfl : k = 4 := by omega
            rw [show ((4 : Nat) : Int) = 4 from rfl]
            have HG : Hid (∀ x, b64 x = s.data.toList → acc ++ (outs n).take by'.toNat = x.take (3 * (q + 1))) := Lib.hid fun x hx => by
              rw [HK.out x hx, HN.out.1, HN.out.2]
              exact group_of hx (by rw [← hlen.out, ← hiq.out]; exact hlt)
            go_wp2
            go_loopw [4, 10] (fun v p wq => ∃ k : Nat, p = .int .i64 k ∧ k ≤ 3 ∧ (k : Int) ≤ max by' 0 ∧ wq.ownsRow w.heap.size 5 1 v (acc.length + k) (u8s (acc ++ (outs n).take k)) ∧ Below w.heap.size w wq) (fun _ p _ => 3 - (intOf p).toNat)
            case atStart => exact ⟨0, rfl, by decide, by omega, by simpa using hown, hbw⟩
            case round =>
              obtain ⟨k, rfl, hk, hkb, hown2, hbw2⟩ := hrel
              have hsz2 := hbw2.size
              clear hown hbw
              by_cases hkl : (k : Int) < by'
              · have hk3 : k = 0 ∨ k = 1 ∨ k = 2 := by omega
                rcases hk3 with rfl | rfl | rfl
                · have hyb : Hid (((UInt8.ofNat (n / 65536 % 256)).toNat : Int) = (n : Int) / 65536) := Lib.hid (by rw [UInt8.toNat_ofNat']; omega)
                  have hou : Hid (u8s (acc ++ (outs n).take 1) = u8s (acc ++ (outs n).take 0) ++ [.int .u8 ((n : Int) / 65536)]) := Lib.hid (by rw [← hyb.out, u8s_app, u8s_app]; simp [outs, u8s])
                  go_wp2_with (at_builtin; refine wpList_append_own _ rfl _ _ 35 rfl w.heap.size 5 i0 (.int .u8 0) 1 1 Tryd.underlying35 hi hz0 hz1 hz2 rfl (by decide) _ _ _ rfl (hown2.alloc _) ⟨_, 0, none⟩ 1 1 [_] rfl rfl (cell_one_new _ _ _) (by simp [Value.oneCell']) (by unfold maxLen; omega) (by omega) (by simp; omega) ?_; intro v' w1 hown1 hgrow1 _)
                  go_round
                  case rel =>
                    refine ⟨1, by go_num, by omega, by omega, ?_, below_append hbw2 hsz2 hown2 hgrow1⟩
                    rw [hou.out]
                    exact hown1
                  case measure => simp [intOf]
                · have hyb : Hid (((UInt8.ofNat (n / 256 % 256)).toNat : Int) = (n : Int) / 256 % 256) := Lib.hid (by rw [UInt8.toNat_ofNat']; omega)
                  have hou : Hid (u8s (acc ++ (outs n).take 2) = u8s (acc ++ (outs n).take 1) ++ [.int .u8 ((n : Int) / 256 % 256)]) := Lib.hid (by rw [← hyb.out, u8s_app, u8s_app]; simp [outs, u8s])
                  go_wp2_with (at_builtin; refine wpList_append_own _ rfl _ _ 35 rfl w.heap.size 5 i0 (.int .u8 0) 1 1 Tryd.underlying35 hi hz0 hz1 hz2 rfl (by decide) _ _ _ rfl (hown2.alloc _) ⟨_, 0, none⟩ 1 1 [_] rfl rfl (cell_one_new _ _ _) (by simp [Value.oneCell']) (by unfold maxLen; omega) (by omega) (by simp; omega) ?_; intro v' w1 hown1 hgrow1 _)
                  go_round
                  case rel =>
                    refine ⟨2, by go_num, by omega, by omega, ?_, below_append hbw2 hsz2 hown2 hgrow1⟩
                    rw [hou.out]
                    exact hown1
                  case measure => simp [intOf]
                · have hyb : Hid (((UInt8.ofNat (n % 256)).toNat : Int) = (n : Int) % 256) := Lib.hid (by rw [UInt8.toNat_ofNat']; omega)
                  have hou : Hid (u8s (acc ++ (outs n).take 3) = u8s (acc ++ (outs n).take 2) ++ [.int .u8 ((n : Int) % 256)]) := Lib.hid (by rw [← hyb.out, u8s_app, u8s_app]; simp [outs, u8s])
                  go_wp2_with (at_builtin; refine wpList_append_own _ rfl _ _ 35 rfl w.heap.size 5 i0 (.int .u8 0) 1 1 Tryd.underlying35 hi hz0 hz1 hz2 rfl (by decide) _ _ _ rfl (hown2.alloc _) ⟨_, 0, none⟩ 1 1 [_] rfl rfl (cell_one_new _ _ _) (by simp [Value.oneCell']) (by unfold maxLen; omega) (by omega) (by simp; omega) ?_; intro v' w1 hown1 hgrow1 _)
                  go_round
                  case rel =>
                    refine ⟨3, by go_num, by omega, by omega, ?_, below_append hbw2 hsz2 hown2 hgrow1⟩
                    rw [hou.out]
                    exact hown1
                  case measure => simp [intOf]
              · have hkz : Hid (by'.toNat = k) := Lib.hid (by omega)
                have hkl2 : by' ≤ (k : Int) := by omega
                have HG2 := HG.out
                rw [hkz.out] at HG2
                have HG3 := Lib.hid HG2
                have hlk : Hid ((acc ++ (outs n).take k).length = acc.length + k) := Lib.hid (by rw [List.length_append, List.length_take]; simp [outs]; omega)
                clear HG2
                go_wp2
                go_round
                case rel => exact ⟨i + 4, q + 1, acc ++ (outs n).take k, by go_num, Lib.hid (by rw [hiq.out]; omega), hi4, by rw [hlk.out]; exact hown2, hbw2, by rw [hlk.out]; omega, HG3⟩
                case measure => simp [intOf]; omega
      · have hacc : acc.length ≤ 16777216 := by omega
        have HE := Lib.hid (unb_of (L := s.data.toList) (acc := acc) fun x hx => by
          rw [HK.out x hx]
          have h1 : full x.length = s.size := by rw [← b64_length, hx, ← hlen.out]
          have := hiq.out
          exact List.take_of_length_le (by unfold full at h1; omega))
        have hsz := hbw.size
        have hconv := own_string Tryd.underlying35 Tryd.underlying5 Tryd.underlying9 hown
        have cb := fun w => refBase64_any ⟨acc.toArray⟩ (by rw [bsize]; exact hacc) w
        simp only at cb
        obtain ⟨r, hr⟩ : ∃ r : ByteArray, r = ⟨(b64 acc).toArray⟩ := ⟨_, rfl⟩
        rw [← hr] at cb
        have HRR := Lib.hid hr; clear hr
        by_cases hbe : b64 acc = s.data.toList
        · have HV : Hid (unb s.data.toList = (acc, 0)) := Lib.hid (by rw [HE.out, if_pos hbe])
          have ht : (r.toList == s.toList) = true := by
            rw [HRR.out, hbe]; simp
          clear hbe
          go_wp2_with fail
          refine (cb _).mono ?_
          rintro e w2 ⟨rfl, hb2⟩
          have hown2 := own_below hown hb2
          have hconv2 := own_string Tryd.underlying35 Tryd.underlying5 Tryd.underlying9 hown2
          clear hconv
          go_wp2
          go_ret2
          exact ⟨by rw [HV.out]; rfl, bstepB hbw hsz hb2⟩
        · have HV : Hid (unb s.data.toList = ([], 10)) := Lib.hid (by rw [HE.out, if_neg hbe])
          have ht : (r.toList == s.toList) = false := by
            rw [beq_eq_false_iff_ne, HRR.out, ByteArray.toList_eq, ByteArray.toList_eq]
            exact hbe
          clear hbe
          go_wp2_with fail
          refine (cb _).mono ?_
          rintro e w2 ⟨rfl, hb2⟩
          go_wp2
          go_ret2
          exact ⟨by rw [HV.out]; rfl, bstepB hbw hsz hb2⟩
  · have t1 : ((s.size : Int) % 4 != 0) = true := by simp; omega
    have HV : Hid (unb s.data.toList = ([], 10)) := Lib.hid (unb_no fun x hx => by
      have h1 : full x.length = s.size := by rw [← b64_length, hx, ← hlen.out]
      unfold full at h1
      omega)
    go_enter Tryd.func10, Tryd.ntmps10
    go_wp2
    go_ret2
    exact ⟨by rw [HV.out]; rfl, Below.refl _ _⟩

end Go.Proofs.YtnadnccmlbleoaaDoor
