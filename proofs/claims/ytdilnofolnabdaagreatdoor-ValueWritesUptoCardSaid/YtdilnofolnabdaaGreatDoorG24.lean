/-
  The program's own functions of layer 13: what is escaped, and taken back.
-/
import Derived.WalkSpells
import Derived.WalkLawsBesides
import Derived.Test.YtdilnofolnabdaaGreatDoorG12
import Derived.Test.YtdilnofolnabdaaGreatDoorG10
import Derived.Test.YtdilnofolnabdaaGreatDoorG23
namespace Go.Proofs.YtdilnofolnabdaaGreatDoor
open Go.RowKit

theorem cells_newV (w : World) (vs : List Value) (t : TypeId) : ∀ j u, vs[j]? = some u → (w.alloc (.cells vs.toArray t)).cell? ((⟨w.heap.size, 0, none⟩ : Addr).add j) = some u := by
  intro j u hu
  have hh := heap_alloc_new w (.cells vs.toArray t)
  have e : ((⟨w.heap.size, 0, none⟩ : Addr).add j) = ⟨w.heap.size, j, none⟩ := by
    unfold Addr.add
    by_cases hj : j = 0
    · subst hj; rfl
    · simp [hj]
  rw [e]
  unfold World.cell?
  rw [hh]
  simp [hu]
theorem escL_snoc (l : List UInt8) (c : UInt8) : escL (l ++ [c]) = escL l ++ escB c := by simp [escL]
theorem esc_step (s : ByteArray) {k : Nat} (h : k < s.size) : escL (s.data.toList.take (k + 1)) = escL (s.data.toList.take k) ++ escB s[k] := by
  have := takeB (s := s) (f := 0) (Nat.zero_le _) h
  simp only [List.drop_zero, Nat.sub_zero] at this
  rw [this, escL_snoc]
theorem byte_of {c : UInt8} {n : Nat} (h : c.toNat = n) : c = UInt8.ofNat n := by rw [← h, UInt8.ofNat_toNat]
theorem byte_ne {c : UInt8} {d : Nat} (h : c.toNat ≠ d) : (((c.toNat : Nat) : Int) == (d : Int)) = false ∧ (((c.toNat : Nat) : Int) != (d : Int)) = true := by
  have : ¬ ((c.toNat : Nat) : Int) = (d : Int) := by omega
  exact ⟨by rw [beq_eq_false_iff_ne]; exact this, by simpa using this⟩
set_option maxRecDepth 100000 in
set_option maxHeartbeats 4000000 in
theorem pEsc_any (s : ByteArray) (hs : s.size ≤ 1048576) (w : World) :
    Calls Tryz.prog 12 #[.string s] w fun e w' => e = .returned (.string ⟨(escL s.data.toList).toArray⟩) ∧ Below w.heap.size w w' := by
  obtain ⟨i0, hi, hz0, hz1, hz2⟩ := info_parts infoB
  obtain ⟨M, hM⟩ : ∃ M, M = madeCells (Value.int .u8 0).cells ((s.size : Int).toNat * i0.size) := ⟨_, rfl⟩
  have hMs : M.size = s.size * 1 := by rw [hM, size_madeCells, hz1]; rfl
  have hmk : ∀ W : World, (Instr.makeSlice 45 (.int .i64 0) (.int .i64 s.size)).run Tryz.prog W = .ok (.slice (some ⟨W.heap.size, 0, none⟩) 0 s.size) (W.alloc (.cells M 5)) := fun W => by
    have h := run_make (P := Tryz.prog) W 45 5 i0 (.int .u8 0) Tryz.underlying45 hi hz0 .i64 .i64 0 s.size (by omega) (by omega) (by rw [hz2]; omega) (by omega)
    rw [← hM] at h
    simpa using h
  have HM := Lib.hid hM; clear hM
  have HMs := Lib.hid hMs; clear hMs
  have hlen := Lib.hid (bsize s)
  go_enter Tryz.func12, Tryz.ntmps12
  go_wp2
  go_loopw [3, 10] (fun v p wr => ∃ k : Nat, p = .int .i64 k ∧ k ≤ s.size ∧ wr.ownsRow w.heap.size 5 1 v (escL (s.data.toList.take k)).length (u8s (escL (s.data.toList.take k))) ∧ Below w.heap.size w wr) (fun _ p _ => s.size - (intOf p).toNat)
  case atStart => exact ⟨0, rfl, Nat.zero_le _, World.ownsRow_made w M s.size (Nat.le_refl _) (by unfold maxLen; omega) HMs.out, (Below.refl _ w).alloc (Nat.le_refl _) _⟩
  case round =>
    obtain ⟨k, rfl, hk, hown, hbw⟩ := hrel
    have hpl := (escL_len (s.data.toList.take k)).2
    rw [List.length_take, ← hlen.out] at hpl
    have hsz := hbw.size
    by_cases hlt : k < s.size
    · have hst := Lib.hid (esc_step s hlt)
      have h1 : (k : Int) < (s.size : Int) := by omega
      by_cases q92 : s[k].toNat = 92
      · have HE : Hid (escB s[k] = [92, 92]) := Lib.hid (by rw [byte_of q92]; rfl)
        have HST := Lib.hid (show escL (s.data.toList.take (k + 1)) = escL (s.data.toList.take k) ++ [92, 92] by rw [hst.out, HE.out])
        clear hst HE
        go_wp2_with (at_builtin; refine wpList_append_own _ rfl _ _ 45 rfl w.heap.size 5 i0 (.int .u8 0) 1 1 Tryz.underlying45 hi hz0 hz1 hz2 rfl (by decide) _ _ _ rfl (hown.alloc _) ⟨_, 0, none⟩ 2 2 [.int .u8 92, .int .u8 92] rfl rfl (cells_newV _ [.int .u8 92, .int .u8 92] _) (by simp [Value.oneCell']) (by unfold maxLen; omega) (by omega) (by simp; omega) ?_; intro v' w1 hown1 hgrow1 _)
        go_round
        case rel =>
          refine ⟨k + 1, by go_num, by omega, ?_, below_append hbw hsz hown hgrow1⟩
          rw [HST.out]
          simpa [u8s] using hown1
        case measure => simp [intOf]; omega
      · have r92 := byte_ne q92
        obtain ⟨ra92, rb92⟩ := r92
        by_cases q59 : s[k].toNat = 59
        · have HE : Hid (escB s[k] = [92, 59]) := Lib.hid (by rw [byte_of q59]; rfl)
          have HST := Lib.hid (show escL (s.data.toList.take (k + 1)) = escL (s.data.toList.take k) ++ [92, 59] by rw [hst.out, HE.out])
          clear hst HE
          clear q92
          go_wp2_with (at_builtin; refine wpList_append_own _ rfl _ _ 45 rfl w.heap.size 5 i0 (.int .u8 0) 1 1 Tryz.underlying45 hi hz0 hz1 hz2 rfl (by decide) _ _ _ rfl (hown.alloc _) ⟨_, 0, none⟩ 2 2 [.int .u8 92, .int .u8 59] rfl rfl (cells_newV _ [.int .u8 92, .int .u8 59] _) (by simp [Value.oneCell']) (by unfold maxLen; omega) (by omega) (by simp; omega) ?_; intro v' w1 hown1 hgrow1 _)
          go_round
          case rel =>
            refine ⟨k + 1, by go_num, by omega, ?_, below_append hbw hsz hown hgrow1⟩
            rw [HST.out]
            simpa [u8s] using hown1
          case measure => simp [intOf]; omega
        · have r59 := byte_ne q59
          obtain ⟨ra59, rb59⟩ := r59
          by_cases q44 : s[k].toNat = 44
          · have HE : Hid (escB s[k] = [92, 44]) := Lib.hid (by rw [byte_of q44]; rfl)
            have HST := Lib.hid (show escL (s.data.toList.take (k + 1)) = escL (s.data.toList.take k) ++ [92, 44] by rw [hst.out, HE.out])
            clear hst HE
            clear q92
            clear q59
            go_wp2_with (at_builtin; refine wpList_append_own _ rfl _ _ 45 rfl w.heap.size 5 i0 (.int .u8 0) 1 1 Tryz.underlying45 hi hz0 hz1 hz2 rfl (by decide) _ _ _ rfl (hown.alloc _) ⟨_, 0, none⟩ 2 2 [.int .u8 92, .int .u8 44] rfl rfl (cells_newV _ [.int .u8 92, .int .u8 44] _) (by simp [Value.oneCell']) (by unfold maxLen; omega) (by omega) (by simp; omega) ?_; intro v' w1 hown1 hgrow1 _)
            go_round
            case rel =>
              refine ⟨k + 1, by go_num, by omega, ?_, below_append hbw hsz hown hgrow1⟩
              rw [HST.out]
              simpa [u8s] using hown1
            case measure => simp [intOf]; omega
          · have r44 := byte_ne q44
            obtain ⟨ra44, rb44⟩ := r44
            by_cases q10 : s[k].toNat = 10
            · have HE : Hid (escB s[k] = [92, 110]) := Lib.hid (by rw [byte_of q10]; rfl)
              have HST := Lib.hid (show escL (s.data.toList.take (k + 1)) = escL (s.data.toList.take k) ++ [92, 110] by rw [hst.out, HE.out])
              clear hst HE
              clear q92
              clear q59
              clear q44
              go_wp2_with (at_builtin; refine wpList_append_own _ rfl _ _ 45 rfl w.heap.size 5 i0 (.int .u8 0) 1 1 Tryz.underlying45 hi hz0 hz1 hz2 rfl (by decide) _ _ _ rfl (hown.alloc _) ⟨_, 0, none⟩ 2 2 [.int .u8 92, .int .u8 110] rfl rfl (cells_newV _ [.int .u8 92, .int .u8 110] _) (by simp [Value.oneCell']) (by unfold maxLen; omega) (by omega) (by simp; omega) ?_; intro v' w1 hown1 hgrow1 _)
              go_round
              case rel =>
                refine ⟨k + 1, by go_num, by omega, ?_, below_append hbw hsz hown hgrow1⟩
                rw [HST.out]
                simpa [u8s] using hown1
              case measure => simp [intOf]; omega
            · have r10 := byte_ne q10
              obtain ⟨ra10, rb10⟩ := r10
              have HE : Hid (escB s[k] = [s[k]]) := Lib.hid (by
                unfold escB
                rw [if_neg, if_neg]
                · intro h; apply q10; rw [h]; rfl
                · rintro (h | h | h)
                  · apply q92; rw [h]; rfl
                  · apply q59; rw [h]; rfl
                  · apply q44; rw [h]; rfl)
              have HST := Lib.hid (show escL (s.data.toList.take (k + 1)) = escL (s.data.toList.take k) ++ [s[k]] by rw [hst.out, HE.out])
              clear hst HE q92 q59 q44 q10
              go_wp2_with (at_builtin; refine wpList_append_own _ rfl _ _ 45 rfl w.heap.size 5 i0 (.int .u8 0) 1 1 Tryz.underlying45 hi hz0 hz1 hz2 rfl (by decide) _ _ _ rfl (hown.alloc _) ⟨_, 0, none⟩ 1 1 [.int .u8 (s[k].toNat : Int)] rfl rfl (cells_newV _ [.int .u8 (s[k].toNat : Int)] _) (by simp [Value.oneCell']) (by unfold maxLen; omega) (by omega) (by simp; omega) ?_; intro v' w1 hown1 hgrow1 _)
              go_round
              case rel =>
                refine ⟨k + 1, by go_num, by omega, ?_, below_append hbw hsz hown hgrow1⟩
                rw [HST.out]
                simpa [u8s] using hown1
              case measure => simp [intOf]; omega
    · obtain rfl : k = s.size := by omega
      rw [List.take_of_length_le (by rw [← hlen.out]; exact Nat.le_refl _)] at hown
      have hconv := own_string Tryz.underlying45 Tryz.underlying5 Tryz.underlying9 hown
      go_wp2
      go_ret
      exact ⟨rfl, hbw⟩
/-- What is taken back, and why not. -/
def unV (l : List UInt8) : List UInt8 × Int := match unescL l with
  | some o => (o, 0)
  | none => ([], 10)
theorem unesc_bad {c : UInt8} (h : unB c = none) (r : List UInt8) : unescL (92 :: c :: r) = none := by rw [unescL, if_pos rfl, h]; rfl
theorem unesc_two {c x : UInt8} (h : unB c = some x) (r : List UInt8) : unescL (92 :: c :: r) = (unescL r).map (x :: ·) := by rw [unescL, if_pos rfl, h]; rfl
theorem map_app (o : Option (List UInt8)) (a : List UInt8) (x : UInt8) : (o.map (x :: ·)).map (a ++ ·) = o.map ((a ++ [x]) ++ ·) := by cases o <;> simp
theorem unB_none {c : UInt8} (h1 : c.toNat ≠ 92) (h2 : c.toNat ≠ 59) (h3 : c.toNat ≠ 44) (h4 : c.toNat ≠ 110) (h5 : c.toNat ≠ 78) : unB c = none := by
  unfold unB
  rw [if_neg, if_neg]
  · rintro (h | h)
    · apply h4; rw [h]; rfl
    · apply h5; rw [h]; rfl
  · rintro (h | h | h)
    · apply h1; rw [h]; rfl
    · apply h2; rw [h]; rfl
    · apply h3; rw [h]; rfl
set_option maxRecDepth 100000 in
set_option maxHeartbeats 4000000 in
theorem pUnesc_any (s : ByteArray) (hs : s.size ≤ 16777216) (w : World) :
    Calls Tryz.prog 32 #[.string s] w fun e w' => e = .returned (.tuple #[.string ⟨(unV s.data.toList).1.toArray⟩, .int .i64 (unV s.data.toList).2]) ∧ Below w.heap.size w w' := by
  obtain ⟨i0, hi, hz0, hz1, hz2⟩ := info_parts infoB
  obtain ⟨M, hM⟩ : ∃ M, M = madeCells (Value.int .u8 0).cells ((s.size : Int).toNat * i0.size) := ⟨_, rfl⟩
  have hMs : M.size = s.size * 1 := by rw [hM, size_madeCells, hz1]; rfl
  have hmk : ∀ W : World, (Instr.makeSlice 45 (.int .i64 0) (.int .i64 s.size)).run Tryz.prog W = .ok (.slice (some ⟨W.heap.size, 0, none⟩) 0 s.size) (W.alloc (.cells M 5)) := fun W => by
    have h := run_make (P := Tryz.prog) W 45 5 i0 (.int .u8 0) Tryz.underlying45 hi hz0 .i64 .i64 0 s.size (by omega) (by omega) (by rw [hz2]; omega) (by omega)
    rw [← hM] at h
    simpa using h
  have HM := Lib.hid hM; clear hM
  have HMs := Lib.hid hMs; clear hMs
  have hlen := Lib.hid (bsize s)
  go_enter Tryz.func32, Tryz.ntmps32
  go_wp2
  go_loopw [4, 5, 12] (fun v bv p wr => ∃ (k : Nat) (o : List UInt8) (bl : Bool), p = .int .i64 k ∧ bv = .bool bl ∧ k ≤ s.size ∧ wr.ownsRow w.heap.size 5 1 v o.length (u8s o) ∧ o.length ≤ k ∧ Below w.heap.size w wr ∧
    Hid (unescL s.data.toList = (unescL (if bl = true then 92 :: s.data.toList.drop k else s.data.toList.drop k)).map (o ++ ·))) (fun _ _ p _ => s.size - (intOf p).toNat)
  case atStart => exact ⟨0, [], false, rfl, rfl, Nat.zero_le _, World.ownsRow_made w M s.size (Nat.le_refl _) (by unfold maxLen; omega) HMs.out, Nat.le_refl _, (Below.refl _ w).alloc (Nat.le_refl _) _, Lib.hid (by simp)⟩
  case round =>
    obtain ⟨k, o, bl, rfl, rfl, hk, hown, hol, hbw, HU⟩ := hrel
    have hsz := hbw.size
    by_cases hlt : k < s.size
    · have HDR := Lib.hid (dropB hlt)
      have h1 : (k : Int) < (s.size : Int) := by omega
      cases bl
      · have HU2 : Hid (unescL s.data.toList = (unescL (s[k] :: s.data.toList.drop (k + 1))).map (o ++ ·)) := Lib.hid (by rw [HU.out, ← HDR.out]; rfl)
        clear HU
        by_cases q92 : s[k].toNat = 92
        · have HV : Hid (unescL s.data.toList = (unescL (92 :: s.data.toList.drop (k + 1))).map (o ++ ·)) := Lib.hid (by rw [HU2.out, byte_of q92]; rfl)
          clear HU2 HDR
          go_wp2
          go_round
          case rel => exact ⟨k + 1, o, true, by go_num, rfl, by omega, hown, by omega, hbw, HV⟩
          case measure => simp [intOf]; omega
        · have HV : Hid (unescL s.data.toList = (unescL (s.data.toList.drop (k + 1))).map ((o ++ [s[k]]) ++ ·)) := Lib.hid (by
            rw [HU2.out, unescL_on (fun h => q92 (by rw [h]; rfl)), map_app])
          obtain ⟨ra92, rb92⟩ := byte_ne q92
          clear HU2 HDR q92
          go_wp2_with (at_builtin; refine wpList_append_own _ rfl _ _ 45 rfl w.heap.size 5 i0 (.int .u8 0) 1 1 Tryz.underlying45 hi hz0 hz1 hz2 rfl (by decide) _ _ _ rfl (hown.alloc _) ⟨_, 0, none⟩ 1 1 [.int .u8 (s[k].toNat : Int)] rfl rfl (cells_newV _ [.int .u8 (s[k].toNat : Int)] _) (by simp [Value.oneCell']) (by unfold maxLen; omega) (by omega) (by simp; omega) ?_; intro v' w1 hown1 hgrow1 _)
          go_round
          case rel =>
            refine ⟨k + 1, o ++ [s[k]], false, by go_num, rfl, by omega, ?_, by simp; omega, below_append hbw hsz hown hgrow1, HV⟩
            simpa [u8s] using hown1
          case measure => simp [intOf]; omega
      · have HU2 : Hid (unescL s.data.toList = (unescL (92 :: s[k] :: s.data.toList.drop (k + 1))).map (o ++ ·)) := Lib.hid (by rw [HU.out, ← HDR.out]; rfl)
        clear HU HDR
        by_cases q110 : s[k].toNat = 110
        · have HV : Hid (unescL s.data.toList = (unescL (s.data.toList.drop (k + 1))).map ((o ++ [10]) ++ ·)) := Lib.hid (by
            rw [HU2.out, unesc_two (x := 10) (by rw [byte_of q110]; rfl), map_app])
          clear HU2
          go_wp2_with (at_builtin; refine wpList_append_own _ rfl _ _ 45 rfl w.heap.size 5 i0 (.int .u8 0) 1 1 Tryz.underlying45 hi hz0 hz1 hz2 rfl (by decide) _ _ _ rfl (hown.alloc _) ⟨_, 0, none⟩ 1 1 [.int .u8 10] rfl rfl (cells_newV _ [.int .u8 10] _) (by simp [Value.oneCell']) (by unfold maxLen; omega) (by omega) (by simp; omega) ?_; intro v' w1 hown1 hgrow1 _)
          go_round
          case rel =>
            refine ⟨k + 1, o ++ [10], false, by go_num, rfl, by omega, ?_, by simp; omega, below_append hbw hsz hown hgrow1, HV⟩
            simpa [u8s] using hown1
          case measure => simp [intOf]; omega
        · obtain ⟨ra110, rb110⟩ := byte_ne q110
          by_cases q78 : s[k].toNat = 78
          · have HV : Hid (unescL s.data.toList = (unescL (s.data.toList.drop (k + 1))).map ((o ++ [10]) ++ ·)) := Lib.hid (by
              rw [HU2.out, unesc_two (x := 10) (by rw [byte_of q78]; rfl), map_app])
            clear HU2
            clear q110
            go_wp2_with (at_builtin; refine wpList_append_own _ rfl _ _ 45 rfl w.heap.size 5 i0 (.int .u8 0) 1 1 Tryz.underlying45 hi hz0 hz1 hz2 rfl (by decide) _ _ _ rfl (hown.alloc _) ⟨_, 0, none⟩ 1 1 [.int .u8 10] rfl rfl (cells_newV _ [.int .u8 10] _) (by simp [Value.oneCell']) (by unfold maxLen; omega) (by omega) (by simp; omega) ?_; intro v' w1 hown1 hgrow1 _)
            go_round
            case rel =>
              refine ⟨k + 1, o ++ [10], false, by go_num, rfl, by omega, ?_, by simp; omega, below_append hbw hsz hown hgrow1, HV⟩
              simpa [u8s] using hown1
            case measure => simp [intOf]; omega
          · obtain ⟨ra78, rb78⟩ := byte_ne q78
            by_cases q92 : s[k].toNat = 92
            · have HV : Hid (unescL s.data.toList = (unescL (s.data.toList.drop (k + 1))).map ((o ++ [92]) ++ ·)) := Lib.hid (by
                rw [HU2.out, unesc_two (x := 92) (by rw [byte_of q92]; rfl), map_app])
              clear HU2
              clear q110
              clear q78
              go_wp2_with (at_builtin; refine wpList_append_own _ rfl _ _ 45 rfl w.heap.size 5 i0 (.int .u8 0) 1 1 Tryz.underlying45 hi hz0 hz1 hz2 rfl (by decide) _ _ _ rfl (hown.alloc _) ⟨_, 0, none⟩ 1 1 [.int .u8 92] rfl rfl (cells_newV _ [.int .u8 92] _) (by simp [Value.oneCell']) (by unfold maxLen; omega) (by omega) (by simp; omega) ?_; intro v' w1 hown1 hgrow1 _)
              go_round
              case rel =>
                refine ⟨k + 1, o ++ [92], false, by go_num, rfl, by omega, ?_, by simp; omega, below_append hbw hsz hown hgrow1, HV⟩
                simpa [u8s] using hown1
              case measure => simp [intOf]; omega
            · obtain ⟨ra92, rb92⟩ := byte_ne q92
              by_cases q59 : s[k].toNat = 59
              · have HV : Hid (unescL s.data.toList = (unescL (s.data.toList.drop (k + 1))).map ((o ++ [59]) ++ ·)) := Lib.hid (by
                  rw [HU2.out, unesc_two (x := 59) (by rw [byte_of q59]; rfl), map_app])
                clear HU2
                clear q110
                clear q78
                clear q92
                go_wp2_with (at_builtin; refine wpList_append_own _ rfl _ _ 45 rfl w.heap.size 5 i0 (.int .u8 0) 1 1 Tryz.underlying45 hi hz0 hz1 hz2 rfl (by decide) _ _ _ rfl (hown.alloc _) ⟨_, 0, none⟩ 1 1 [.int .u8 59] rfl rfl (cells_newV _ [.int .u8 59] _) (by simp [Value.oneCell']) (by unfold maxLen; omega) (by omega) (by simp; omega) ?_; intro v' w1 hown1 hgrow1 _)
                go_round
                case rel =>
                  refine ⟨k + 1, o ++ [59], false, by go_num, rfl, by omega, ?_, by simp; omega, below_append hbw hsz hown hgrow1, HV⟩
                  simpa [u8s] using hown1
                case measure => simp [intOf]; omega
              · obtain ⟨ra59, rb59⟩ := byte_ne q59
                by_cases q44 : s[k].toNat = 44
                · have HV : Hid (unescL s.data.toList = (unescL (s.data.toList.drop (k + 1))).map ((o ++ [44]) ++ ·)) := Lib.hid (by
                    rw [HU2.out, unesc_two (x := 44) (by rw [byte_of q44]; rfl), map_app])
                  clear HU2
                  clear q110
                  clear q78
                  clear q92
                  clear q59
                  go_wp2_with (at_builtin; refine wpList_append_own _ rfl _ _ 45 rfl w.heap.size 5 i0 (.int .u8 0) 1 1 Tryz.underlying45 hi hz0 hz1 hz2 rfl (by decide) _ _ _ rfl (hown.alloc _) ⟨_, 0, none⟩ 1 1 [.int .u8 44] rfl rfl (cells_newV _ [.int .u8 44] _) (by simp [Value.oneCell']) (by unfold maxLen; omega) (by omega) (by simp; omega) ?_; intro v' w1 hown1 hgrow1 _)
                  go_round
                  case rel =>
                    refine ⟨k + 1, o ++ [44], false, by go_num, rfl, by omega, ?_, by simp; omega, below_append hbw hsz hown hgrow1, HV⟩
                    simpa [u8s] using hown1
                  case measure => simp [intOf]; omega
                · obtain ⟨ra44, rb44⟩ := byte_ne q44
                  have HF : Hid (unV s.data.toList = ([], 10)) := Lib.hid (by
                    unfold unV
                    rw [HU2.out, unesc_bad (unB_none q92 q59 q44 q110 q78)]
                    rfl)
                  clear HU2 q92 q59 q44 q110 q78
                  go_wp2
                  go_ret2
                  exact ⟨by rw [HF.out]; rfl, hbw⟩
    · obtain rfl : k = s.size := by omega
      have hnd : s.data.toList.drop s.size = [] := List.drop_of_length_le (by rw [listB]; exact Nat.le_refl _)
      cases bl
      · have HF : Hid (unV s.data.toList = (o, 0)) := Lib.hid (by
          unfold unV
          rw [HU.out, hnd]
          simp [unescL])
        have hconv := own_string Tryz.underlying45 Tryz.underlying5 Tryz.underlying9 hown
        clear hnd HU
        go_wp2
        go_ret2
        exact ⟨by rw [HF.out]; rfl, hbw⟩
      · have HF : Hid (unV s.data.toList = ([], 10)) := Lib.hid (by
          unfold unV
          rw [HU.out, hnd]
          simp [unescL])
        clear hnd HU
        go_wp2
        go_ret2
        exact ⟨by rw [HF.out]; rfl, hbw⟩
end Go.Proofs.YtdilnofolnabdaaGreatDoor

/-
  The chapter's examples (layer 13), as the law asks them.
-/
namespace Go.Proofs.YtdilnofolnabdaaGreatDoor
open Go.RowKit

theorem ex_dur1 : durV [45, 80, 49, 68, 84, 50, 72] = (-93600, 0) := by decide +kernel
theorem ex_dur2 : durV [80, 84, 49, 72, 53, 83] = (0, 10) := by decide +kernel
theorem ex_off : offV [45, 48, 49, 51, 48] = (-5400, 0) := by decide +kernel
theorem ex_un : unV [97, 92, 44, 98] = ([97, 44, 98], 0) := by decide +kernel
theorem ex_t1 : durT 3605 = [80, 84, 49, 72, 48, 77, 53, 83] := by simp [durT, bodyT, clkQ, dec_small]
theorem ex_t2 : durT 604800 = [80, 49, 87] := by simp [durT, bodyT, dec_small]
theorem ex_t3 : durT 0 = [80, 84, 48, 83] := by simp [durT, bodyT, clkQ, dec_small]
theorem ex_tim : timV [50, 48, 50, 53, 48, 49, 48, 49, 84, 48, 48, 48, 48, 48, 48, 90] = (⟨1735689600, true, false⟩, 0) := by
  obtain ⟨h1, h2⟩ := stripZ_app [50, 48, 50, 53, 48, 49, 48, 49, 84, 48, 48, 48, 48, 48, 48]
  have hd : rdDay [50, 48, 50, 53, 48, 49, 48, 49] = (20089, 0) := by
    rw [rdDay_num (v := 20250101) rfl (by decide +kernel), if_pos (by decide +kernel)]
    decide +kernel
  have hs : rdStamp [50, 48, 50, 53, 48, 49, 48, 49, 84, 48, 48, 48, 48, 48, 48] = (1735689600, 0) := by
    rw [rdStamp_cut rfl rfl]
    rw [show ([50, 48, 50, 53, 48, 49, 48, 49, 84, 48, 48, 48, 48, 48, 48] : List UInt8).take 8 = [50, 48, 50, 53, 48, 49, 48, 49] from rfl, hd, if_pos ⟨rfl, by decide +kernel⟩]
    decide +kernel
  show timV ([50, 48, 50, 53, 48, 49, 48, 49, 84, 48, 48, 48, 48, 48, 48] ++ [90]) = _
  unfold timV
  rw [rdDay_len (by decide), if_neg (by decide), h1, h2, hs, if_pos rfl]
set_option maxRecDepth 100000 in
set_option maxHeartbeats 4000000 in
theorem awake13_any (w : World) (hv : VV w) : Calls Tryz.prog 14 #[] w fun e w' => e = .returned (.bool true) ∧ Below w.heap.size w w' := by
  have c1 := fun W (hV : VV W) => pDur_any ⟨#[45, 80, 49, 68, 84, 50, 72]⟩ (by decide) W hV
  have c2 := fun W (hV : VV W) => pOff_any ⟨#[45, 48, 49, 51, 48]⟩ (by decide) W hV
  have c3 := fun W => pUnesc_any ⟨#[97, 92, 44, 98]⟩ (by decide) W
  have c4 := fun W (hV : VV W) => pDur_any ⟨#[80, 84, 49, 72, 53, 83]⟩ (by decide) W hV
  have c5 := fun W (hV : VV W) => pTime_any ⟨#[50, 48, 50, 53, 48, 49, 48, 49, 84, 48, 48, 48, 48, 48, 48, 90]⟩ (by decide) W hV
  have c6 := fun W (hV : DV W) => pDurText_any 3605 (by decide) W hV
  have c7 := fun W (hV : DV W) => pDurText_any 604800 (by decide) W hV
  have c8 := fun W (hV : DV W) => pDurText_any 0 (by decide) W hV
  rw [show (⟨#[45, 80, 49, 68, 84, 50, 72]⟩ : ByteArray).data.toList = [45, 80, 49, 68, 84, 50, 72] from rfl, ex_dur1] at c1
  rw [show (⟨#[45, 48, 49, 51, 48]⟩ : ByteArray).data.toList = [45, 48, 49, 51, 48] from rfl, ex_off] at c2
  rw [show (⟨#[97, 92, 44, 98]⟩ : ByteArray).data.toList = [97, 92, 44, 98] from rfl, ex_un] at c3
  rw [show (⟨#[80, 84, 49, 72, 53, 83]⟩ : ByteArray).data.toList = [80, 84, 49, 72, 53, 83] from rfl, ex_dur2] at c4
  rw [show (⟨#[50, 48, 50, 53, 48, 49, 48, 49, 84, 48, 48, 48, 48, 48, 48, 90]⟩ : ByteArray).data.toList = [50, 48, 50, 53, 48, 49, 48, 49, 84, 48, 48, 48, 48, 48, 48, 90] from rfl, ex_tim] at c5
  rw [ex_t1] at c6
  rw [ex_t2] at c7
  rw [ex_t3] at c8
  unfold whV at c5
  have H0 := Lib.hid hv
  clear hv
  go_enter Tryz.func14, Tryz.ntmps14
  go_wp2_with (first
    | (go_at_call 30; ((with_reducible refine (c1 _ H0.out).mono ?_); rintro e w1 ⟨rfl, hb1⟩; clear c1; have H1 := Lib.hid (H0.out.step hb1); have B1 := Lib.hid hb1; clear hb1))
    | (go_at_call 31; ((with_reducible refine (c2 _ H1.out).mono ?_); rintro e w2 ⟨rfl, hb2⟩; clear c2; have H2 := Lib.hid (H1.out.step hb2); have B2 := Lib.hid (bstep B1.out hb2); clear hb2))
    | (go_at_call 32; ((with_reducible refine (c3 _).mono ?_); rintro e w3 ⟨rfl, hb3⟩; clear c3; have H3v := Lib.hid (H2.out.step hb3); have B3 := Lib.hid (bstep B2.out hb3); clear hb3))
    | (go_at_call 30; ((with_reducible refine (c4 _ H3v.out).mono ?_); rintro e w4 ⟨rfl, hb4⟩; clear c4; have H4v := Lib.hid (H3v.out.step hb4); have B4 := Lib.hid (bstep B3.out hb4); clear hb4))
    | (go_at_call 23; (with_reducible refine (c5 _ H4v.out).mono ?_); rintro e w5 ⟨rfl, hb5⟩; clear c5
       have ha5 : Below w5.heap.size w5 (w5.alloc (.cells #[.int .i64 1735689600, .bool true, .bool false] 23)) := (Below.refl _ w5).alloc (Nat.le_refl _) _
       have N5 := Lib.hid (H3.new w5 ⟨1735689600, true, false⟩)
       have H5v := Lib.hid (H4v.out.step (bstep hb5 ha5))
       have B5 := Lib.hid (bstep (bstep B4.out hb5) ha5)
       clear hb5 ha5)
    | (go_at_call 4; ((with_reducible refine (c6 _ H5v.out.dv).mono ?_); rintro e w6 ⟨rfl, hb6⟩; clear c6; have H6v := Lib.hid (H5v.out.step hb6); have B6 := Lib.hid (bstep B5.out hb6); have N6 := Lib.hid (N5.out.step hb6); clear hb6))
    | (go_at_call 4; ((with_reducible refine (c7 _ H6v.out.dv).mono ?_); rintro e w7 ⟨rfl, hb7⟩; clear c7; have H7v := Lib.hid (H6v.out.step hb7); have B7 := Lib.hid (bstep B6.out hb7); have N7 := Lib.hid (N6.out.step hb7); clear hb7))
    | (go_at_call 4; (with_reducible refine (c8 _ H7v.out.dv).mono ?_); rintro e w8 ⟨rfl, hb8⟩; clear c8
       have B8 := Lib.hid (bstep B7.out hb8)
       obtain ⟨y0, y1, y2⟩ := (N7.out.step hb8).cells
       simp only at y0 y1 y2
       clear hb8))
  go_ret
  exact ⟨rfl, B8.out⟩
end Go.Proofs.YtdilnofolnabdaaGreatDoor
