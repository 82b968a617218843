/-
  Base 64 taken back, as the program does it.
-/
import Derived.Test.YtnadnccmlbleoaaDoorTextB64
import Derived.Test.YtnadnccmlbleoaaDoorTextUnp
namespace Go.Proofs.YtnadnccmlbleoaaDoor
open Go.RowKit

/-- What j letters that are read tell: a bytes, and of what is held the last six bits, if this is base 64 at all. -/
def UnK (L : List UInt8) (j H : Nat) (acc : List UInt8) : Prop :=
  ∀ x, b64 x = L → (∀ t, t < acc.length → (acc.getD t 0).toNat = byt x t) ∧ j ≤ cnt x.length ∧ (0 < j → H % 64 = yAt x (j - 1))
theorem unK_start (L : List UInt8) : UnK L 0 0 [] := fun x _ => ⟨fun t h => absurd h (by simp), Nat.zero_le _, fun h => absurd h (by decide)⟩
theorem b64_at {x L : List UInt8} (h : b64 x = L) {j : Nat} (hj : j < L.length) : L.getD j 0 = b64At x j := by
  rw [← h]
  exact b64_get (by rw [← b64_length, h]; exact hj)
/-- A byte that is neither a letter nor padding. -/
theorem unK_bad {L : List UInt8} {j : Nat} (hj : j < L.length) (h1 : (L.getD j 0).toNat ≠ 61) (h2 : Lib.indexByte letters (L.getD j 0) < 0) (x : List UInt8) : b64 x ≠ L := by
  intro h
  have e := b64_at h hj
  unfold b64At at e
  by_cases hc : j < cnt x.length
  · rw [if_pos hc] at e
    rw [e, letter_index (yAt_lt x j)] at h2
    omega
  · rw [if_neg hc] at e
    rw [e] at h1
    exact h1 rfl
theorem unK_letter {L x : List UInt8} (h : b64 x = L) {j v : Nat} (hj : j < L.length) (h1 : (L.getD j 0).toNat ≠ 61) (h2 : Lib.indexByte letters (L.getD j 0) = v) : j < cnt x.length ∧ yAt x j = v := by
  have e := b64_at h hj
  unfold b64At at e
  by_cases hc : j < cnt x.length
  · rw [if_pos hc] at e
    rw [e, letter_index (yAt_lt x j)] at h2
    exact ⟨hc, by omega⟩
  · rw [if_neg hc] at e
    rw [e] at h1
    exact absurd rfl h1
/-- One letter more, and no byte. -/
theorem unK_none {L : List UInt8} {j H v G : Nat} {acc : List UInt8} (hK : UnK L j H acc) (hj : j < L.length) (h1 : (L.getD j 0).toNat ≠ 61) (h2 : Lib.indexByte letters (L.getD j 0) = v) (hG : G % 64 = v) : UnK L (j + 1) G acc := fun x hx => by
  obtain ⟨a, b, c⟩ := hK x hx
  obtain ⟨d, e⟩ := unK_letter hx hj h1 h2
  exact ⟨a, by omega, fun _ => by rw [show j + 1 - 1 = j by omega, e, hG]⟩
theorem unK_byte {L : List UInt8} {j H v b y : Nat} {acc : List UInt8} (hK : UnK L j H acc) (hj : j < L.length) (h1 : (L.getD j 0).toNat ≠ 61) (h2 : Lib.indexByte letters (L.getD j 0) = v) (hv : v < 64) (hl : 8 * acc.length + b = 6 * j) (hb : 2 ≤ b) (hb8 : b < 8)
    (hy : (b = 6 → y = (H % 67108864 * 64 + v) / 16 % 256) ∧ (b = 4 → y = (H % 67108864 * 64 + v) / 4 % 256) ∧ (b = 2 → y = (H % 67108864 * 64 + v) % 256)) : UnK L (j + 1) (H % 67108864 * 64 + v) (acc ++ [UInt8.ofNat y]) := fun x hx => by
  obtain ⟨a, b', c⟩ := hK x hx
  obtain ⟨d, e⟩ := unK_letter hx hj h1 h2
  have c' := c (by omega)
  refine ⟨fun t ht => ?_, by omega, fun _ => by rw [show j + 1 - 1 = j by omega, e]; omega⟩
  rw [List.length_append, List.length_singleton] at ht
  by_cases htl : t < acc.length
  · rw [List.getD_eq_getElem?_getD, List.getElem?_append_left htl, ← List.getD_eq_getElem?_getD]
    exact a t htl
  · obtain rfl : t = acc.length := by omega
    rw [List.getD_eq_getElem?_getD, List.getElem?_append_right (Nat.le_refl _), Nat.sub_self]
    have hy256 : y < 256 := by
      rcases (show b = 6 ∨ b = 4 ∨ b = 2 by omega) with q | q | q
      · have := hy.1 q; omega
      · have := hy.2.1 q; omega
      · have := hy.2.2 q; omega
    show (UInt8.ofNat y).toNat = _
    rw [UInt8.toNat_ofNat', Nat.mod_eq_of_lt (by omega)]
    rcases (show b = 6 ∨ b = 4 ∨ b = 2 by omega) with q | q | q
    · obtain ⟨k, hk⟩ : ∃ k, j = 4 * k + 1 := ⟨j / 4, by omega⟩
      have := (byt_sext x k).1
      have hy' := hy.1 q
      rw [hk, show 4 * k + 1 - 1 = 4 * k by omega] at c'
      rw [hk] at e
      rw [show acc.length = 3 * k by omega, this, hy']
      omega
    · obtain ⟨k, hk⟩ : ∃ k, j = 4 * k + 2 := ⟨j / 4, by omega⟩
      have := (byt_sext x k).2.1
      have hy' := hy.2.1 q
      rw [hk, show 4 * k + 2 - 1 = 4 * k + 1 by omega] at c'
      rw [hk] at e
      rw [show acc.length = 3 * k + 1 by omega, this, hy']
      omega
    · obtain ⟨k, hk⟩ : ∃ k, j = 4 * k + 3 := ⟨j / 4, by omega⟩
      have := (byt_sext x k).2.2
      have hy' := hy.2.2 q
      rw [hk, show 4 * k + 3 - 1 = 4 * k + 2 by omega] at c'
      rw [hk] at e
      rw [show acc.length = 3 * k + 2 by omega, this, hy']
      omega
/-- Where the letters end. -/
theorem unK_end {L : List UInt8} {j H b : Nat} {acc : List UInt8} (hK : UnK L j H acc) (hl : 8 * acc.length + b = 6 * j) (hb : b < 8) (he : L.length ≤ j ∨ (j < L.length ∧ (L.getD j 0).toNat = 61)) (x : List UInt8) (hx : b64 x = L) : acc = x := by
  obtain ⟨a, b', c⟩ := hK x hx
  have hf := cnt_full x.length
  have hLl : L.length = full x.length := by rw [← hx, b64_length]
  have hj : j = cnt x.length := by
    rcases he with he | ⟨he, h61⟩
    · omega
    · have e := b64_at hx he
      unfold b64At at e
      by_cases hc : j < cnt x.length
      · rw [if_pos hc] at e
        rw [e] at h61
        exact absurd (UInt8.toNat_inj.1 (show (letter (yAt x j)).toNat = (61 : UInt8).toNat from h61)) (letter_ne (yAt_lt x j))
      · omega
  have hlen : acc.length = x.length := by unfold cnt at hj; omega
  refine byt_of hlen fun i hi => ?_
  exact a i hi
/-- What comes of it. -/
theorem unb_of {L acc : List UInt8} (h : ∀ x, b64 x = L → acc = x) : unb L = if b64 acc = L then (acc, 0) else ([], 10) := by
  by_cases hb : b64 acc = L
  · rw [if_pos hb]; exact unb_yes hb
  · rw [if_neg hb]
    exact unb_no fun x hx => hb (by rw [h x hx]; exact hx)

set_option maxRecDepth 100000 in
set_option maxHeartbeats 8000000 in
theorem unbase64_any (s : ByteArray) (hs : s.size ≤ 16777216) (w : World) :
    Calls Tryd.prog 9 #[.string s] w fun e w' => e = .returned (.tuple #[.string ⟨(unb s.data.toList).1.toArray⟩, .int .i64 (unb s.data.toList).2]) ∧ Below w.heap.size w w' := by
  obtain ⟨i0, hi, hz0, hz1, hz2⟩ := info_parts infoB
  obtain ⟨c, hc⟩ : ∃ c : Nat, c = s.size / 4 * 3 := ⟨_, rfl⟩
  obtain ⟨M, hM⟩ : ∃ M, M = madeCells (Value.int .u8 0).cells ((c : Int).toNat * i0.size) := ⟨_, rfl⟩
  have hMs : M.size = c * 1 := by rw [hM, size_madeCells, hz1]; rfl
  have hmk : ∀ W : World, (Instr.makeSlice 35 (.int .i64 0) (.int .i64 (c : Int))).run Tryd.prog W = .ok (.slice (some ⟨W.heap.size, 0, none⟩) 0 c) (W.alloc (.cells M 5)) := fun W => by
    have h := run_make (P := Tryd.prog) W 35 5 i0 (.int .u8 0) Tryd.underlying35 hi hz0 .i64 .i64 0 c (by omega) (by omega) (by rw [hz2]; omega) (by omega)
    rw [← hM] at h
    simpa using h
  have hce : (s.size : Int) / 4 * 3 = (c : Int) := by omega
  have hct : (s.size : Int).tdiv 4 = (s.size : Int) / 4 := by rw [Int.tdiv_eq_ediv_of_nonneg (by omega)]
  have HM := Lib.hid hM; clear hM
  have HMs := Lib.hid hMs; clear hMs
  have hlen := Lib.hid (bsize s)
  have HCE := Lib.hid hc; clear hc
  go_enter Tryd.func9, Tryd.ntmps9
  go_wp2
  clear hmk hce hct
  go_loopw [4, 5, 6, 17] (fun v h b p wr => ∃ (j H bb : Nat) (acc : List UInt8), p = .int .i64 j ∧ j ≤ s.size ∧ h = .int .u32 H ∧ H < 4294967296 ∧ b = .int .i64 bb ∧ 8 * acc.length + bb = 6 * j ∧ bb < 8 ∧ wr.ownsRow w.heap.size 5 1 v acc.length (u8s acc) ∧ Below w.heap.size w wr ∧ Hid (UnK s.data.toList j H acc)) (fun _ _ _ p _ => s.size - (intOf p).toNat)
  case atStart => exact ⟨0, 0, 0, [], rfl, Nat.zero_le _, rfl, by decide, rfl, rfl, by decide, World.ownsRow_made w M c (Nat.le_refl _) (by unfold maxLen; have := HCE.out; omega) HMs.out, (Below.refl _ w).alloc (Nat.le_refl _) _, Lib.hid (unK_start _)⟩
  case round =>
    obtain ⟨j, H, bb, acc, rfl, hj, rfl, hH, rfl, hl, hb8, hown, hbw, HK⟩ := hrel
    have hsz := hbw.size
    have hacc : acc.length ≤ 16777216 := by omega
    by_cases hlt : j < s.size
    · have hc := s[j].toNat_lt
      have hg : Hid (s.data.toList.getD j 0 = s[j]) := Lib.hid (getB hlt)
      have hjl : Hid (j < s.data.toList.length) := Lib.hid (by rw [← hlen.out]; exact hlt)
      by_cases h61 : s[j].toNat = 61
      · have b61 : ((s[j].toNat : Int) == 61) = true := by rw [beq_iff_eq]; omega
        have HE := Lib.hid (unb_of (unK_end HK.out hl hb8 (.inr ⟨hjl.out, by rw [hg.out]; exact h61⟩)))
        have hconv := own_string Tryd.underlying35 Tryd.underlying5 Tryd.underlying9 hown
        clear h61
        have cb := fun w => base64_any ⟨acc.toArray⟩ (by rw [bsize]; exact hacc) w
        simp only at cb
        obtain ⟨r, hr⟩ : ∃ r : ByteArray, r = ⟨(b64 acc).toArray⟩ := ⟨_, rfl⟩
        rw [← hr] at cb
        have HRR := Lib.hid hr; clear hr
        by_cases hbe : b64 acc = s.data.toList
        · have HV : Hid (unb s.data.toList = (acc, 0)) := Lib.hid (by rw [HE.out, if_pos hbe])
          have ht : (r.toList == s.toList) = true := by
            rw [HRR.out, hbe]; simp
          clear hbe
          go_wp2_with fail
          refine (cb _).mono ?_
          rintro e w2 ⟨rfl, hb2⟩
          go_wp2
          go_ret2
          exact ⟨by rw [HV.out]; rfl, bstepB hbw hsz hb2⟩
        · have HV : Hid (unb s.data.toList = ([], 10)) := Lib.hid (by rw [HE.out, if_neg hbe])
          have ht : (r.toList == s.toList) = false := by
            rw [beq_eq_false_iff_ne, HRR.out, ByteArray.toList_eq, ByteArray.toList_eq]
            exact hbe
          clear hbe
          go_wp2_with fail
          refine (cb _).mono ?_
          rintro e w2 ⟨rfl, hb2⟩
          go_wp2
          go_ret2
          exact ⟨by rw [HV.out]; rfl, bstepB hbw hsz hb2⟩
      · have b61 : ((s[j].toNat : Int) == 61) = false := by rw [beq_eq_false_iff_ne]; omega
        have H61 : Hid ((s.data.toList.getD j 0).toNat ≠ 61) := Lib.hid (by rw [hg.out]; exact h61)
        have cx := fun w => Tryd.strings_IndexByte ⟨#[65, 66, 67, 68, 69, 70, 71, 72, 73, 74, 75, 76, 77, 78, 79, 80, 81, 82, 83, 84, 85, 86, 87, 88, 89, 90, 97, 98, 99, 100, 101, 102, 103, 104, 105, 106, 107, 108, 109, 110, 111, 112, 113, 114, 115, 116, 117, 118, 119, 120, 121, 122, 48, 49, 50, 51, 52, 53, 54, 55, 56, 57, 43, 47]⟩ (s[j].toNat : Int) w
        simp only [ofNat_int, UInt8.ofNat_toNat] at cx
        have hix := index_at s[j]
        obtain ⟨six, hsix⟩ : ∃ six, six = Lib.indexByte letters s[j] := ⟨_, rfl⟩
        rw [← hsix] at hix
        have cy : ∀ w, Calls Tryd.prog 30 #[.string ⟨#[65, 66, 67, 68, 69, 70, 71, 72, 73, 74, 75, 76, 77, 78, 79, 80, 81, 82, 83, 84, 85, 86, 87, 88, 89, 90, 97, 98, 99, 100, 101, 102, 103, 104, 105, 106, 107, 108, 109, 110, 111, 112, 113, 114, 115, 116, 117, 118, 119, 120, 121, 122, 48, 49, 50, 51, 52, 53, 54, 55, 56, 57, 43, 47]⟩, .int .u8 (s[j].toNat : Int)] w fun e w' => e = .returned (.int .i64 six) ∧ w' = w := by
          rw [hsix]; exact cx
        have HX := Lib.hid hsix
        clear cx hsix h61
        by_cases hneg : six < 0
        · have HV : Hid (unb s.data.toList = ([], 10)) := Lib.hid (unb_no (unK_bad hjl.out H61.out (by rw [hg.out]; exact Int.lt_of_le_of_lt (Int.le_of_eq HX.out.symm) hneg)))
          go_wp2_with (go_at_call 30; refine (cy _).mono ?_; rintro e w' ⟨rfl, rfl⟩)
          go_ret2
          exact ⟨by rw [HV.out]; rfl, hbw⟩
        · obtain ⟨v, rfl⟩ : ∃ v : Nat, six = v := ⟨six.toNat, by omega⟩
          have hv : v < 64 := by omega
          have hh := held6e H v hv
          have HX2 : Hid (Lib.indexByte letters (s.data.toList.getD j 0) = v) := Lib.hid (by rw [hg.out]; exact HX.out.symm)
          have hG : H % 67108864 * 64 + v < 4294967296 := by omega
          have HG : Hid ((H % 67108864 * 64 + v) % 64 = v) := Lib.hid (by omega)
          have hwv : IntKind.u32.wrap (v : Int) = (v : Int) := by rw [IntKind.wrap_u32]; omega
          by_cases hb0 : bb = 0
          · subst hb0
            have HK2 := Lib.hid (unK_none HK.out hjl.out H61.out HX2.out HG.out)
            generalize H % 67108864 * 64 + v = G at hh hG HK2
            clear HG HK
            go_wp2_with (go_at_call 30; refine (cy _).mono ?_; rintro e w' ⟨rfl, rfl⟩)
            go_round
            case rel => exact ⟨j + 1, G, 6, acc, by go_num, by omega, rfl, hG, by go_num, by omega, by omega, hown, hbw, HK2⟩
            case measure => simp [intOf]; omega
          · have hbs : bb = 2 ∨ bb = 4 ∨ bb = 6 := by omega
            have hb2 : 2 ≤ bb := by omega
            have HKB := fun y hy => Lib.hid (unK_byte (y := y) HK.out hjl.out H61.out HX2.out hv hl hb2 hb8 hy)
            generalize hGe : H % 67108864 * 64 + v = G at hh hG HKB
            clear hGe HG HK hb0 hb2
            rcases hbs with rfl | rfl | rfl
            · have HK2 := HKB (G % 256) ⟨fun h => absurd h (by decide), fun h => absurd h (by decide), fun h => rfl⟩
              have hyb : Hid (((UInt8.ofNat (G % 256)).toNat : Int) = (G : Int) % 256) := Lib.hid (by rw [UInt8.toNat_ofNat']; omega)
              clear HKB
              go_wp2_with (first
                | (go_at_call 30; refine (cy _).mono ?_; rintro e w' ⟨rfl, rfl⟩)
                | (at_builtin; refine wpList_append_own _ rfl _ _ 35 rfl w.heap.size 5 i0 (.int .u8 0) 1 1 Tryd.underlying35 hi hz0 hz1 hz2 rfl (by decide) _ _ _ rfl (hown.alloc _) ⟨_, 0, none⟩ 1 1 [_] rfl rfl (cell_one_new _ _ _) (by simp [Value.oneCell']) (by unfold maxLen; omega) (by omega) (by simp; omega) ?_; intro v' w1 hown1 hgrow1 _))
              go_round
              case rel =>
                refine ⟨j + 1, G, 0, acc ++ [UInt8.ofNat (G % 256)], by go_num, by omega, rfl, hG, by go_num, by rw [List.length_append, List.length_singleton]; omega, by omega, ?_, below_append hbw hsz hown hgrow1, HK2⟩
                rw [List.length_append, List.length_singleton, u8s_app, show u8s [UInt8.ofNat (G % 256)] = [.int .u8 ((UInt8.ofNat (G % 256)).toNat : Int)] from rfl, hyb.out]
                exact hown1
              case measure => simp [intOf]; omega
            · have HK2 := HKB (G / 4 % 256) ⟨fun h => absurd h (by decide), fun h => rfl, fun h => absurd h (by decide)⟩
              have hyb : Hid (((UInt8.ofNat (G / 4 % 256)).toNat : Int) = (G : Int) / 4 % 256) := Lib.hid (by rw [UInt8.toNat_ofNat']; omega)
              clear HKB
              go_wp2_with (first
                | (go_at_call 30; refine (cy _).mono ?_; rintro e w' ⟨rfl, rfl⟩)
                | (at_builtin; refine wpList_append_own _ rfl _ _ 35 rfl w.heap.size 5 i0 (.int .u8 0) 1 1 Tryd.underlying35 hi hz0 hz1 hz2 rfl (by decide) _ _ _ rfl (hown.alloc _) ⟨_, 0, none⟩ 1 1 [_] rfl rfl (cell_one_new _ _ _) (by simp [Value.oneCell']) (by unfold maxLen; omega) (by omega) (by simp; omega) ?_; intro v' w1 hown1 hgrow1 _))
              go_round
              case rel =>
                refine ⟨j + 1, G, 2, acc ++ [UInt8.ofNat (G / 4 % 256)], by go_num, by omega, rfl, hG, by go_num, by rw [List.length_append, List.length_singleton]; omega, by omega, ?_, below_append hbw hsz hown hgrow1, HK2⟩
                rw [List.length_append, List.length_singleton, u8s_app, show u8s [UInt8.ofNat (G / 4 % 256)] = [.int .u8 ((UInt8.ofNat (G / 4 % 256)).toNat : Int)] from rfl, hyb.out]
                exact hown1
              case measure => simp [intOf]; omega
            · have HK2 := HKB (G / 16 % 256) ⟨fun h => rfl, fun h => absurd h (by decide), fun h => absurd h (by decide)⟩
              have hyb : Hid (((UInt8.ofNat (G / 16 % 256)).toNat : Int) = (G : Int) / 16 % 256) := Lib.hid (by rw [UInt8.toNat_ofNat']; omega)
              clear HKB
              go_wp2_with (first
                | (go_at_call 30; refine (cy _).mono ?_; rintro e w' ⟨rfl, rfl⟩)
                | (at_builtin; refine wpList_append_own _ rfl _ _ 35 rfl w.heap.size 5 i0 (.int .u8 0) 1 1 Tryd.underlying35 hi hz0 hz1 hz2 rfl (by decide) _ _ _ rfl (hown.alloc _) ⟨_, 0, none⟩ 1 1 [_] rfl rfl (cell_one_new _ _ _) (by simp [Value.oneCell']) (by unfold maxLen; omega) (by omega) (by simp; omega) ?_; intro v' w1 hown1 hgrow1 _))
              go_round
              case rel =>
                refine ⟨j + 1, G, 4, acc ++ [UInt8.ofNat (G / 16 % 256)], by go_num, by omega, rfl, hG, by go_num, by rw [List.length_append, List.length_singleton]; omega, by omega, ?_, below_append hbw hsz hown hgrow1, HK2⟩
                rw [List.length_append, List.length_singleton, u8s_app, show u8s [UInt8.ofNat (G / 16 % 256)] = [.int .u8 ((UInt8.ofNat (G / 16 % 256)).toNat : Int)] from rfl, hyb.out]
                exact hown1
              case measure => simp [intOf]; omega
    · obtain rfl : j = s.size := by omega
      have HE := Lib.hid (unb_of (unK_end HK.out hl hb8 (.inl (by rw [← hlen.out]; exact Nat.le_refl _))))
      have hconv := own_string Tryd.underlying35 Tryd.underlying5 Tryd.underlying9 hown
      have cb := fun w => base64_any ⟨acc.toArray⟩ (by rw [bsize]; exact hacc) w
      simp only at cb
      obtain ⟨r, hr⟩ : ∃ r : ByteArray, r = ⟨(b64 acc).toArray⟩ := ⟨_, rfl⟩
      rw [← hr] at cb
      have HRR := Lib.hid hr; clear hr
      by_cases hbe : b64 acc = s.data.toList
      · have HV : Hid (unb s.data.toList = (acc, 0)) := Lib.hid (by rw [HE.out, if_pos hbe])
        have ht : (r.toList == s.toList) = true := by
          rw [HRR.out, hbe]; simp
        clear hbe
        go_wp2_with fail
        refine (cb _).mono ?_
        rintro e w2 ⟨rfl, hb2⟩
        go_wp2
        go_ret2
        exact ⟨by rw [HV.out]; rfl, bstepB hbw hsz hb2⟩
      · have HV : Hid (unb s.data.toList = ([], 10)) := Lib.hid (by rw [HE.out, if_neg hbe])
        have ht : (r.toList == s.toList) = false := by
          rw [beq_eq_false_iff_ne, HRR.out, ByteArray.toList_eq, ByteArray.toList_eq]
          exact hbe
        clear hbe
        go_wp2_with fail
        refine (cb _).mono ?_
        rintro e w2 ⟨rfl, hb2⟩
        go_wp2
        go_ret2
        exact ⟨by rw [HV.out]; rfl, bstepB hbw hsz hb2⟩

end Go.Proofs.YtnadnccmlbleoaaDoor
