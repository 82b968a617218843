/-
  The program's small functions of layer 11: which bytes may stand where, what has only such ones, names.
-/
import Derived.Test.YtipmeooldopkmaaDoorL15
import Derived.Test.YtipmeooldopkmaaDoorL06
import Derived.Test.YtipmeooldopkmaaDoorL14
import Derived.Lib.DecodeN
import Derived.Lib.OthersKept
import Derived.WalkSpells
import Derived.WalkLawsBesides
import Derived.Deep.QuietTactic
import Derived.BigQuiet
import Derived.Deep.Cut
import Derived.Test.YtipmeooldopkmaaDoorL03
import Derived.Test.YtipmeooldopkmaaDoorL04
import Derived.Test.YtipmeooldopkmaaDoorL05
namespace Go.Proofs.YtipmeooldopkmaaDoor
open Go.RowKit

/-- A byte of a name in great letters. -/
def grN (n : Nat) : Bool := (decide (65 ≤ n) && decide (n ≤ 90)) || (decide (48 ≤ n) && decide (n ≤ 57)) || decide (n = 45)
def stN (n : Nat) : Bool := (decide (32 ≤ n) || decide (n = 9)) && !decide (n = 127)
def qtN (n : Nat) : Bool := stN n && !decide (n = 34)
def brN (n : Nat) : Bool := qtN n && (!decide (n = 44) && !decide (n = 59) && !decide (n = 58))
def mkN (n : Nat) : Bool := decide (n = 44) || decide (n = 59) || decide (n = 58)
theorem st_ctl (n : Nat) : stN n = !ctlN n := by
  unfold stN ctlN
  by_cases h1 : n < 32 <;> by_cases h2 : n = 9 <;> by_cases h3 : n = 127 <;> simp [h1, h2, h3] <;> omega
theorem qt_qv (c : UInt8) : qtN c.toNat = qvC c := by unfold qtN qvC; rw [st_ctl, Bool.and_comm]
theorem br_uv (c : UInt8) : brN c.toNat = uvC c := by unfold brN uvC; rw [qt_qv]
theorem nb_gr (n : Nat) : nbN n = (grN n || (decide (97 ≤ n) && decide (n ≤ 122))) := by
  unfold nbN letN digN grN
  generalize decide (65 ≤ n) = a1
  generalize decide (n ≤ 90) = a2
  generalize decide (48 ≤ n) = a3
  generalize decide (n ≤ 57) = a4
  generalize decide (n = 45) = a5
  generalize decide (97 ≤ n) = a6
  generalize decide (n ≤ 122) = a7
  revert a1 a2 a3 a4 a5 a6 a7
  decide
set_option maxHeartbeats 1000000 in
theorem pGreat_any (n : Nat) (hn : n < 256) (w : World) :
    Calls Tryd.prog 60 #[.int .u8 n] w fun e w' => e = .returned (.bool (grN n)) ∧ w' = w := by
  by_cases h5 : n = 45
  · subst h5
    go_enter Tryd.func60, Tryd.ntmps60
    go_wp2
    go_ret
    exact ⟨rfl, rfl⟩
  have b5 : ((n : Int) == 45) = false := by rw [beq_eq_false_iff_ne]; omega
  by_cases h1 : 65 ≤ n <;> by_cases h2 : n ≤ 90 <;> by_cases h3 : 48 ≤ n <;> by_cases h4 : n ≤ 57
  all_goals first
    | (exfalso; omega)
    | (go_enter Tryd.func60, Tryd.ntmps60
       go_wp2
       go_ret
       refine ⟨?_, rfl⟩
       simp [grN, h1, h2, h3, h4, h5] <;> omega)
set_option maxHeartbeats 1000000 in
theorem pName_any1 (n : Nat) (hn : n < 256) (w : World) :
    Calls Tryd.prog 53 #[.int .u8 n] w fun e w' => e = .returned (.bool (nbN n)) ∧ w' = w := by
  have cg := fun W => pGreat_any n hn W
  have e := Lib.hid (nb_gr n)
  generalize grN n = g at *
  by_cases h1 : 97 ≤ n <;> by_cases h2 : n ≤ 122 <;> cases g
  all_goals first
    | (exfalso; omega)
    | (go_enter Tryd.func53, Tryd.ntmps53
       go_wp2_with (go_at_call 60; ((with_reducible refine (cg _).mono ?_); rintro e w' ⟨rfl, hw⟩; subst w'))
       go_ret
       refine ⟨?_, rfl⟩
       simp [e.out, h1, h2] <;> omega)
set_option maxHeartbeats 1000000 in
theorem pStand_any (n : Nat) (hn : n < 256) (w : World) :
    Calls Tryd.prog 40 #[.int .u8 n] w fun e w' => e = .returned (.bool (stN n)) ∧ w' = w := by
  by_cases h2 : n = 9
  · subst h2
    go_enter Tryd.func40, Tryd.ntmps40
    go_wp2
    go_ret
    exact ⟨rfl, rfl⟩
  by_cases h3 : n = 127
  · subst h3
    go_enter Tryd.func40, Tryd.ntmps40
    go_wp2
    go_ret
    exact ⟨rfl, rfl⟩
  have b2 : ((n : Int) == 9) = false := by rw [beq_eq_false_iff_ne]; omega
  have b3 : ((n : Int) != 127) = true := by rw [bne_iff_ne]; omega
  have b4 : ((n : Int) == 127) = false := by rw [beq_eq_false_iff_ne]; omega
  by_cases h1 : 32 ≤ n
  all_goals
    (go_enter Tryd.func40, Tryd.ntmps40
     go_wp2
     go_ret
     refine ⟨?_, rfl⟩
     simp [stN, h1, h2, h3])
set_option maxHeartbeats 1000000 in
theorem pQuote_any (n : Nat) (hn : n < 256) (w : World) :
    Calls Tryd.prog 39 #[.int .u8 n] w fun e w' => e = .returned (.bool (qtN n)) ∧ w' = w := by
  have cg := fun W => pStand_any n hn W
  have e := Lib.hid (show qtN n = (stN n && !decide (n = 34)) from rfl)
  generalize stN n = g at *
  by_cases h1 : n = 34
  · have b3 : ((n : Int) != 34) = false := by simp [h1]
    have b4 : ((n : Int) == 34) = true := by simp [h1]
    have H1 := Lib.hid h1
    clear h1
    cases g
    all_goals
      (go_enter Tryd.func39, Tryd.ntmps39
       go_wp2_with (go_at_call 40; ((with_reducible refine (cg _).mono ?_); rintro e w' ⟨rfl, hw⟩; subst w'))
       go_ret
       refine ⟨?_, rfl⟩
       rw [e.out, decide_eq_true H1.out]
       rfl)
  · have b3 : ((n : Int) != 34) = true := by rw [bne_iff_ne]; omega
    have b4 : ((n : Int) == 34) = false := by rw [beq_eq_false_iff_ne]; omega
    cases g
    all_goals
      (go_enter Tryd.func39, Tryd.ntmps39
       go_wp2_with (go_at_call 40; ((with_reducible refine (cg _).mono ?_); rintro e w' ⟨rfl, hw⟩; subst w'))
       go_ret
       refine ⟨?_, rfl⟩
       simp [e.out, h1])
/-- What IndexByte tells of the marks. -/
theorem marks_ix (n : Nat) (hn : n < 256) : (decide (Lib.indexByte [44, 59, 58] (UInt8.ofNat n) < 0) = !mkN n) ∧ (decide (0 ≤ Lib.indexByte [44, 59, 58] (UInt8.ofNat n)) = mkN n) := by
  have : ∀ x : Fin 256, (decide (Lib.indexByte [44, 59, 58] (UInt8.ofNat x.val) < 0) = !mkN x.val) ∧ (decide (0 ≤ Lib.indexByte [44, 59, 58] (UInt8.ofNat x.val)) = mkN x.val) := by decide +kernel
  exact this ⟨n, hn⟩
set_option maxHeartbeats 1000000 in
theorem pBare_any (n : Nat) (hn : n < 256) (w : World) :
    Calls Tryd.prog 54 #[.int .u8 n] w fun e w' => e = .returned (.bool (brN n)) ∧ w' = w := by
  have cg := fun W => pQuote_any n hn W
  have hx := (marks_ix n hn).1
  have ci := fun W => Tryd.strings_IndexByte ⟨#[44, 59, 58]⟩ n W
  have e : Hid (brN n = (qtN n && !mkN n)) := Lib.hid (by unfold brN mkN; simp [Bool.and_assoc])
  rw [show ((n : Int)).toNat.toUInt8 = UInt8.ofNat n from by simp] at ci
  rw [show (⟨#[44, 59, 58]⟩ : ByteArray).data.toList = [44, 59, 58] from rfl] at ci
  generalize Lib.indexByte [44, 59, 58] (UInt8.ofNat n) = ix at *
  generalize qtN n = g at *
  generalize mkN n = k at *
  cases g <;> cases k
  all_goals
    (simp only [Bool.not_true, Bool.not_false] at hx
     go_enter Tryd.func54, Tryd.ntmps54
     go_wp2_with (first
       | (go_at_call 39; ((with_reducible refine (cg _).mono ?_); rintro e w' ⟨rfl, hw⟩; subst w'))
       | (go_at_call 51; ((with_reducible refine (ci _).mono ?_); rintro e w' ⟨rfl, hw⟩; subst w')))
     go_ret
     refine ⟨?_, rfl⟩
     simp [e.out])
set_option maxHeartbeats 1000000 in
/-- Whether all bytes of a text are such ones. -/
theorem hasOnly_any (g : Nat) (p : UInt8 → Bool) (eg : ∀ args W, (callFunc g args).run Tryd.prog W = .ok (.enter g args) W) (hp : ∀ (c : UInt8) (W : World), Calls Tryd.prog g #[.int .u8 c.toNat] W fun e w' => e = .returned (.bool (p c)) ∧ w' = W) (s : ByteArray) (hs : s.size ≤ 16777216) (w : World) :
    Calls Tryd.prog 38 #[.string s, .func (.func g) #[] #[]] w fun e w' => e = .returned (.bool (s.data.toList.all p)) ∧ w' = w := by
  have hlen := Lib.hid (bsize s)
  obtain ⟨B, hB⟩ : ∃ B, B = s.data.toList.all p := ⟨_, rfl⟩
  rw [← hB]
  have HB := Lib.hid hB
  clear hB
  go_enter Tryd.func38, Tryd.ntmps38
  go_wp2
  go_loop [8] (fun q => ∃ k : Nat, q = .int .i64 k ∧ k ≤ s.size ∧ Hid (B = (s.data.toList.drop k).all p)) (fun q => s.size - (intOf q).toNat)
  case atStart => exact ⟨0, rfl, Nat.zero_le _, Lib.hid (by rw [HB.out]; simp)⟩
  case round =>
    obtain ⟨k, rfl, hk, HK⟩ := hrel
    by_cases hlt : k < s.size
    · have hd : Hid ((s.data.toList.drop k).all p = (p s[k] && (s.data.toList.drop (k + 1)).all p)) := Lib.hid (by
        rw [List.drop_eq_getElem_cons (by rw [← hlen.out]; exact hlt), List.all_cons]; rfl)
      have cp := fun W => hp s[k] W
      generalize hpk : p s[k] = b at *
      cases b
      · have HE := Lib.hid (HK.out.trans hd.out)
        simp only [Bool.false_and] at HE
        clear HK hd
        go_wp2_with (go_at_fn g; ((with_reducible refine (cp _).mono ?_); rintro e w' ⟨rfl, hw⟩; subst w'))
        go_ret
        exact ⟨by rw [HE.out]; rfl, rfl⟩
      · have HE := Lib.hid (HK.out.trans hd.out)
        simp only [Bool.true_and] at HE
        clear HK hd
        go_wp2_with (go_at_fn g; ((with_reducible refine (cp _).mono ?_); rintro e w' ⟨rfl, hw⟩; subst w'))
        go_round
        case rel => exact ⟨k + 1, by go_num, by omega, HE⟩
        case measure => simp [intOf]; omega
    · obtain rfl : k = s.size := by omega
      go_wp2
      go_ret
      refine ⟨?_, rfl⟩
      rw [HK.out, List.drop_eq_nil_of_le (by rw [← hlen.out]; exact Nat.le_refl _)]
      rfl
end Go.Proofs.YtipmeooldopkmaaDoor

/-
  Plain mathematics for layer 11: the width of the number that the model reads at a place of a text is the document's; a line cut into pieces.
-/
namespace Go.Proofs.YtipmeooldopkmaaDoor
open Go.RowKit

/-- The bytes of a number, out of its first four bytes. -/
def runeN (b0 b1 b2 b3 : Nat) : Nat :=
  if b0 < 128 then 1
  else if 194 ≤ b0 ∧ b0 < 224 then (if 128 ≤ b1 ∧ b1 < 192 then 2 else 0)
  else if 224 ≤ b0 ∧ b0 < 240 then (if (128 ≤ b1 ∧ b1 < 192) ∧ (128 ≤ b2 ∧ b2 < 192) ∧ ¬ (b0 = 224 ∧ b1 < 160) ∧ ¬ (b0 = 237 ∧ 160 ≤ b1) then 3 else 0)
  else if 240 ≤ b0 ∧ b0 < 245 then (if (128 ≤ b1 ∧ b1 < 192) ∧ (128 ≤ b2 ∧ b2 < 192) ∧ (128 ≤ b3 ∧ b3 < 192) ∧ ¬ (b0 = 240 ∧ b1 < 144) ∧ ¬ (b0 = 244 ∧ 144 ≤ b1) then 4 else 0)
  else 0
theorem runeN_eq (l : List UInt8) : runeL l = runeN (byt l 0) (byt l 1) (byt l 2) (byt l 3) := by
  unfold runeL runeN
  simp only [cont_iff]
set_option maxHeartbeats 4000000 in
theorem dec_w (n b0 b1 b2 b3 : Nat) (h0 : b0 < 256) (k1 : ¬ 1 < n → b1 = 0) (k2 : ¬ 2 < n → b2 = 0) (k3 : ¬ 3 < n → b3 = 0) : (Lib.decodeN n b0 b1 b2 b3).2 = max 1 (runeN b0 b1 b2 b3) := by
  unfold Lib.decodeN runeN
  repeat' split
  all_goals first
    | rfl
    | (exfalso; omega)
theorem get_byt (s : ByteArray) (k : Nat) : (s.get! k).toNat = byt s.data.toList k := by
  unfold byt
  show (s.data[k]!).toNat = _
  rw [List.getD_eq_getElem?_getD, Array.getElem?_toList, getElem!_def]
  cases s.data[k]? <;> rfl
theorem byt_drop2 (l : List UInt8) (k i : Nat) : byt (l.drop k) i = byt l (k + i) := by
  unfold byt; simp [List.getD_eq_getElem?_getD]
/-- THE WIDTH IS THE DOCUMENT's. -/
theorem dec_step (s : ByteArray) (k : Nat) : (Utf8.decode s k).2 = stepL (s.data.toList.drop k) := by
  have hs := bsize s
  rw [Lib.decode_at, get_byt, get_byt, get_byt, get_byt]
  have out : ∀ j, s.size ≤ k + j → byt s.data.toList (k + j) = 0 := fun j h => byt_out (by omega)
  rw [dec_w _ _ _ _ _ (byt_lt _ _) (fun h => out 1 (by omega)) (fun h => out 2 (by omega)) (fun h => out 3 (by omega))]
  unfold stepL
  rw [runeN_eq, byt_drop2, byt_drop2, byt_drop2, byt_drop2]
  rfl
theorem dec_low (n b0 b1 b2 b3 : Nat) (h0 : 128 ≤ b0) : 128 ≤ (Lib.decodeN n b0 b1 b2 b3).1 ∧ (Lib.decodeN n b0 b1 b2 b3).1 ≤ 1114111 := by
  unfold Lib.decodeN
  rw [if_neg (by omega)]
  repeat' split
  all_goals (dsimp only; omega)
/-- A number above 127 stands where a byte above 127 does. -/
theorem dec_high (s : ByteArray) (k : Nat) (h : 128 ≤ byt s.data.toList k) : 128 ≤ (Utf8.decode s k).1 ∧ (Utf8.decode s k).1 ≤ 1114111 := by
  rw [Lib.decode_at]
  exact dec_low _ _ _ _ _ (by rw [get_byt]; exact h)
theorem dec_asc (s : ByteArray) (k : Nat) (h : byt s.data.toList k < 128) : Utf8.decode s k = (byt s.data.toList k, 1) := by
  rw [Lib.decode_at]
  unfold Lib.decodeN
  rw [if_pos (by rw [get_byt]; exact h), get_byt]

/-- Where a line is cut: the last of the places where numbers begin that is no further than so many bytes. -/
def cutF : Nat → List UInt8 → Nat → Nat → Nat → Nat
  | 0, _, _, _, cut => cut
  | f + 1, l, at_, most, cut => if l = [] then cut else if most < at_ then cut else cutF f (l.drop (stepL l)) (at_ + stepL l) most at_
def cutL (l : List UInt8) (most : Nat) : Nat := if l.length ≤ most then l.length else cutF l.length l 0 most 0
/-- The pieces of a line, each with what stands ahead of it. -/
def pieF : Nat → List UInt8 → List UInt8 → List (List UInt8)
  | 0, l, ah => [ah ++ l]
  | f + 1, l, ah => if (cutL l (75 - ah.length)) = l.length then [ah ++ l] else (ah ++ l.take (cutL l (75 - ah.length))) :: pieF f (l.drop (cutL l (75 - ah.length))) [32]
def pieL (l : List UInt8) : List (List UInt8) := pieF l.length l []
theorem foldF_fuel : ∀ (f g : Nat) (l : List UInt8) (n : Nat), l.length ≤ f → l.length ≤ g → foldF f l n = foldF g l n
  | 0, g, l, n, h1, h2 => by
    have : l = [] := List.eq_nil_of_length_eq_zero (by omega)
    subst this
    cases g <;> simp [foldF]
  | f + 1, 0, l, n, h1, h2 => by
    have : l = [] := List.eq_nil_of_length_eq_zero (by omega)
    subst this
    simp [foldF]
  | f + 1, g + 1, l, n, h1, h2 => by
    by_cases h : l = []
    · subst h; simp [foldF]
    · have hp := stepL_pos l
      have h0 : 0 < l.length := List.length_pos_iff.2 h
      rw [foldF, foldF, if_neg h, if_neg h, foldF_fuel f g (l.drop (stepL l)) _ (by simp; omega) (by simp; omega), foldF_fuel f g (l.drop (stepL l)) _ (by simp; omega) (by simp; omega)]
/-- From a place of the line on: so much of it goes into the piece that is begun. -/
theorem fold_cut (most : Nat) (hm : 4 ≤ most) : ∀ (f : Nat) (l pre : List UInt8) (n cut : Nat), l.length ≤ f → n + most = 75 + pre.length → pre.length ≤ most → most < pre.length + l.length →
    ∃ k, cutF f l pre.length most cut = pre.length + k ∧ k ≤ l.length ∧ pre.length + k ≤ most ∧ most < pre.length + k + 4 ∧ foldF f l n = l.take k ++ 13 :: 10 :: 32 :: foldF l.length (l.drop k) 1
  | 0, l, pre, n, cut, h1, h2, h3, h4 => by omega
  | f + 1, l, pre, n, cut, h1, h2, h3, h4 => by
    have h0 : 0 < l.length := by omega
    have hne : l ≠ [] := List.length_pos_iff.1 h0
    have hp := stepL_pos l
    have hle := stepL_le hne
    have e : l.take (stepL l) ++ l.drop (stepL l) = l := List.take_append_drop _ _
    by_cases hb : most < pre.length + stepL l
    · refine ⟨0, ?_, by omega, by omega, by omega, ?_⟩
      · rw [cutF, if_neg hne, if_neg (by omega)]
        cases f with
        | zero => rfl
        | succ f =>
          rw [cutF]
          by_cases hd : l.drop (stepL l) = []
          · rw [if_pos hd]; rfl
          · rw [if_neg hd, if_pos hb]; rfl
      · rw [foldF, if_neg hne, if_pos (by omega)]
        simp only [List.take_zero, List.nil_append, List.drop_zero]
        congr 3
        obtain ⟨m, hm2⟩ : ∃ m, l.length = m + 1 := ⟨l.length - 1, by omega⟩
        rw [hm2, foldF, if_neg hne, if_neg (by omega), foldF_fuel f m (l.drop (stepL l)) _ (by simp; omega) (by simp; omega)]
    · have hl2 : (pre ++ l.take (stepL l)).length = pre.length + stepL l := by simp; omega
      obtain ⟨k, a1, a2, a3, a4, a5⟩ := fold_cut most hm f (l.drop (stepL l)) (pre ++ l.take (stepL l)) (n + stepL l) pre.length (by simp; omega) (by rw [hl2]; omega) (by rw [hl2]; omega) (by rw [hl2]; simp; omega)
      rw [hl2] at a1 a3 a4
      simp only [List.length_drop] at a2
      refine ⟨stepL l + k, ?_, by omega, by omega, by omega, ?_⟩
      · rw [cutF, if_neg hne, if_neg (by omega), a1]; omega
      · rw [foldF, if_neg hne, if_neg (by omega), a5, List.drop_drop, ← List.append_assoc]
        congr 1
        · rw [List.take_add]
        · congr 3
          exact foldF_fuel _ _ _ _ (by simp only [List.length_drop]; omega) (by simp only [List.length_drop]; omega)
theorem fold_all : ∀ (f : Nat) (l : List UInt8) (n : Nat), l.length ≤ f → n + l.length ≤ 75 → foldF f l n = l
  | 0, l, n, h1, h2 => by
    have : l = [] := List.eq_nil_of_length_eq_zero (by omega)
    subst this; rfl
  | f + 1, l, n, h1, h2 => by
    by_cases h : l = []
    · subst h; simp [foldF]
    · have hp := stepL_pos l
      have hle := stepL_le h
      rw [foldF, if_neg h, if_neg (by omega), fold_all f _ _ (by simp; omega) (by simp; omega), List.take_append_drop]
theorem cut_big {l : List UInt8} {most : Nat} (hm : 4 ≤ most) (hm2 : most ≤ 75) (h : most < l.length) : 0 < cutL l most ∧ cutL l most < l.length ∧ cutL l most ≤ most ∧ foldF l.length l (75 - most) = l.take (cutL l most) ++ 13 :: 10 :: 32 :: foldF l.length (l.drop (cutL l most)) 1 := by
  obtain ⟨k, a1, a2, a3, a4, a5⟩ := fold_cut most hm l.length l [] (75 - most) 0 (Nat.le_refl _) (by simp; omega) (by simp) (by simpa using h)
  have e : cutL l most = k := by
    unfold cutL
    rw [if_neg (by omega)]
    simpa using a1
  simp only [List.length_nil, Nat.zero_add] at a3 a4
  rw [e]
  exact ⟨by omega, by omega, a3, a5⟩
theorem cut_small {l : List UInt8} {most : Nat} (h : l.length ≤ most) : cutL l most = l.length := by unfold cutL; rw [if_pos h]
/-- The pieces, each ended, are the line folded. -/
theorem pie_fold : ∀ (f : Nat) (l ah : List UInt8), l.length ≤ f → ah.length ≤ 1 → (pieF f l ah).flatMap (fun x => x ++ [13, 10]) = ah ++ (foldF l.length l ah.length ++ [13, 10])
  | 0, l, ah, h1, h2 => by
    have : l = [] := List.eq_nil_of_length_eq_zero (by omega)
    subst this
    simp [pieF, foldF]
  | f + 1, l, ah, h1, h2 => by
    rw [pieF]
    by_cases h : l.length ≤ 75 - ah.length
    · rw [if_pos (cut_small h), fold_all _ _ _ (Nat.le_refl _) (by omega)]
      simp
    · obtain ⟨a1, a2, a3, a4⟩ := cut_big (l := l) (most := 75 - ah.length) (by omega) (by omega) (by omega)
      rw [if_neg (by omega), List.flatMap_cons, pie_fold f _ [32] (by simp; omega) (by simp)]
      rw [show 75 - (75 - ah.length) = ah.length from by omega] at a4
      rw [a4]
      generalize cutL l (75 - ah.length) = k at *
      rw [foldF_fuel (l.drop k).length l.length _ _ (Nat.le_refl _) (by simp)]
      simp
theorem pieL_fold (l : List UInt8) : (pieL l).flatMap (fun x => x ++ [13, 10]) = lineF l := by
  unfold pieL lineF
  rw [pie_fold _ _ _ (Nat.le_refl _) (by simp)]
  rfl
end Go.Proofs.YtipmeooldopkmaaDoor

/-
  The program's functions of layer 11: where a line is cut.
-/
namespace Go.Proofs.YtipmeooldopkmaaDoor
open Go.RowKit

theorem cutF_end (f : Nat) (pos most cut : Nat) : cutF f [] pos most cut = cut := by cases f <;> simp [cutF]
theorem below_iter (w : World) (s : ByteArray) (pos : Nat) : Below w.heap.size w (w.iter s pos) := by
  unfold World.iter
  exact (Below.refl _ w).alloc (Nat.le_refl _) _
set_option maxRecDepth 100000 in
set_option maxHeartbeats 2000000 in
theorem firstCut_any (s : ByteArray) (hs : s.size ≤ 16777216) (most : Nat) (_hm : most ≤ 75) (w : World) :
    Calls Tryd.prog 64 #[.string s, .int .i64 most] w fun e w' => e = .returned (.int .i64 (cutL s.data.toList most)) ∧ Below w.heap.size w w' := by
  have hlen := Lib.hid (bsize s)
  by_cases h1 : s.size ≤ most
  · have E := Lib.hid (show cutL s.data.toList most = s.size by rw [cut_small (by rw [← hlen.out]; exact h1), hlen.out])
    go_enter Tryd.func64, Tryd.ntmps64
    go_wp2
    go_ret
    exact ⟨by rw [E.out]; rfl, Below.refl _ _⟩
  · have E := Lib.hid (show cutL s.data.toList most = cutF s.data.toList.length s.data.toList 0 most 0 by unfold cutL; rw [if_neg (by rw [← hlen.out]; omega)])
    generalize cutL s.data.toList most = K at E ⊢
    go_enter Tryd.func64, Tryd.ntmps64
    go_wp2
    go_loopg [5] s.size (fun g c wx => ∃ pos cut f : Nat, c = .int .i64 cut ∧ pos ≤ s.size ∧ s.size ≤ pos + g ∧ s.size ≤ pos + f ∧ wx = w.iter s pos ∧ Hid (K = cutF f (s.data.toList.drop pos) pos most cut))
    case atStart => exact ⟨0, 0, s.size, rfl, by omega, by omega, by omega, rfl, Lib.hid (by rw [E.out, ← hlen.out]; simp)⟩
    case round =>
      obtain ⟨pos, cut, f, rfl, hp, hg, hf, rfl, HK⟩ := hrel
      by_cases hlt : pos < s.size
      · have hwd := dec_step s pos
        have hne : s.data.toList.drop pos ≠ [] := by
          intro h; have := congrArg List.length h; rw [List.length_drop, ← hlen.out] at this; simp at this; omega
        have hp1 := stepL_pos (s.data.toList.drop pos)
        have hp2 := stepL_le hne
        rw [List.length_drop, ← hlen.out] at hp2
        obtain ⟨f', rfl⟩ : ∃ f', f = f' + 1 := ⟨f - 1, by omega⟩
        have hnx := fun ty => run_next_any (P := Tryd.prog) w s pos ty hlt
        rw [hwd] at hnx
        have HK2 := HK.out
        rw [cutF, if_neg hne, List.drop_drop] at HK2
        generalize stepL (s.data.toList.drop pos) = k at *
        generalize (Utf8.decode s pos).1 = r at *
        by_cases hb : most < pos
        · rw [if_pos hb] at HK2
          have HK3 := Lib.hid HK2
          clear HK2 HK hne hwd
          have hbi : (most : Int) < (pos : Int) := by omega
          go_wp2
          go_ret
          exact ⟨by rw [HK3.out]; rfl, below_iter _ _ _⟩
        · rw [if_neg hb] at HK2
          have HK3 := Lib.hid HK2
          clear HK2 HK hne hwd
          have hbi : ¬ (most : Int) < (pos : Int) := by omega
          go_wp2
          go_roundg (s.size - (pos + k))
          case measure => omega
          case rel => exact ⟨pos + k, pos, f', rfl, by omega, by omega, by omega, rfl, HK3⟩
      · have hnx := fun ty => run_next_end (P := Tryd.prog) w s pos ty hlt
        have HK2 : Hid (K = cut) := Lib.hid (by rw [HK.out, List.drop_eq_nil_of_le (by rw [← hlen.out]; omega), cutF_end])
        clear HK
        go_wp2
        go_ret
        exact ⟨by rw [HK2.out]; rfl, below_iter _ _ _⟩
end Go.Proofs.YtipmeooldopkmaaDoor

/-
  Whether a text begins with a number of one form, as the program tells.
-/
namespace Go.Proofs.YtipmeooldopkmaaDoor
open Go.RowKit
theorem bdrewN {B : Nat} {w w' : World} (h : Below B w w') (n : Nat) : Below B w (w'.drewN n) := h.trans ⟨rfl, rfl, rfl, Nat.le_refl _, fun _ _ => rfl⟩

theorem bits_ori32 (a b : Nat) (ha : a < 1073741824) (hb : b < 1073741824) : bits .or .i32 (a : Int) (b : Int) = ((a ||| b : Nat) : Int) := by
  show IntKind.i32.wrap ((BitVec.ofInt 32 (a : Int) ||| BitVec.ofInt 32 (b : Int)).toNat : Int) = _
  rw [BitVec.toNat_or, BitVec.ofInt_natCast, BitVec.ofInt_natCast, BitVec.toNat_ofNat, BitVec.toNat_ofNat, Nat.mod_eq_of_lt (by omega), Nat.mod_eq_of_lt (by omega)]
  have : a ||| b < 2 ^ 30 := Nat.or_lt_two_pow ha hb
  exact IntWalk.i32_in _ (by omega)
theorem held6i (n c : Nat) (hn : n < 16777216) (hc : c < 64) : bits .or .i32 ((n : Int) * 64) (c : Int) = ((n * 64 + c : Nat) : Int) := by
  have e : (n : Int) * 64 = ((n * 64 : Nat) : Int) := by omega
  rw [e, bits_ori32 _ _ (by omega) (by omega), show n * 64 = n * 2 ^ 6 by rfl, or_low _ _ 6 (by omega)]
theorem valN_lt (l : List UInt8) (M : Nat) (hM : 0 < M) (hM2 : M ≤ 128) (i : Nat) (hi : i ≤ 3) : valN l M i < 128 * 64 ^ i := by
  have h0 := Nat.mod_lt (byt l 0) hM
  rcases (show i = 0 ∨ i = 1 ∨ i = 2 ∨ i = 3 by omega) with rfl | rfl | rfl | rfl <;> simp only [valN] <;> omega
theorem form_bits : ∀ (k : Fin 4) (c : Fin 256), bits .andNot .u8 (c.val : Int) ((formM k.val - 1 : Nat) : Int) = ((c.val - c.val % formM k.val : Nat) : Int) ∧ bits .and .u8 (c.val : Int) ((formM k.val - 1 : Nat) : Int) = ((c.val % formM k.val : Nat) : Int) := by decide +kernel
theorem cont_bits : ∀ (c : Fin 256), bits .andNot .u8 (c.val : Int) 63 = ((c.val - c.val % 64 : Nat) : Int) := by decide +kernel
theorem conts_not (l : List UInt8) (k i : Nat) (h : i < k) (hc : cont l (1 + i) = false) : conts l k = false := by
  induction k with
  | zero => omega
  | succ k ih =>
    show (conts l k && cont l (1 + k)) = false
    by_cases e : i = k
    · rw [← e, hc]; simp
    · rw [ih (by omega)]; rfl
theorem bytG {s : ByteArray} {k : Nat} (h : k < s.size) : byt s.data.toList k = s[k].toNat := by unfold byt; rw [getB h]

theorem surr_int (n lo hi : Nat) (h1 : lo ≤ n) (h2 : n ≤ hi) : (decide ((n : Int) < 55296) || decide ((57343 : Int) < (n : Int))) = (decide (lo ≤ n) && decide (n ≤ hi) && surr n) := by
  have e1 : decide ((n : Int) < 55296) = decide (n < 55296) := decide_eq_decide.2 (by omega)
  have e2 : decide ((57343 : Int) < (n : Int)) = decide (57343 < n) := decide_eq_decide.2 (by omega)
  rw [e1, e2, decide_eq_true h1, decide_eq_true h2]; rfl
theorem cell_new4 (w : World) (vs : Array Value) (t : TypeId) (j : Nat) (v : Value) (h : vs[j]? = some v) : (w.alloc (.cells vs t)).cell? ⟨w.heap.size, j, none⟩ = some v := by
  have hh := heap_alloc_new w (.cells vs t)
  simp only [World.cell?, hh]
  simpa using h

set_option maxRecDepth 100000 in
set_option maxHeartbeats 4000000 in
theorem begins_in (h m1 lo hi M : Nat) (k : Nat) (hk : k ≤ 3) (hM : 0 < M) (hM2 : M ≤ 128) (_hlo : lo ≤ 1114111) (_hhi : hi ≤ 1114111) (t : ByteArray) (ht0 : 0 < t.size) (ht : t.size ≤ 16777216)
    (hA : bits .andNot .u8 (t[0].toNat : Int) (m1 : Int) = ((t[0].toNat - t[0].toNat % M : Nat) : Int)) (hB : bits .and .u8 (t[0].toNat : Int) (m1 : Int) = ((t[0].toNat % M : Nat) : Int)) (w : World) :
    Calls Tryd.prog 52 #[.agg #[.int .u8 (h : Int), .int .u8 (m1 : Int), .int .i32 (lo : Int), .int .i32 (hi : Int)], .string t, .int .i64 (k : Int)] w fun e w' => e = .returned (.bool (begF h M lo hi t.data.toList k)) ∧ Below w.heap.size w w' := by
  have hlen := Lib.hid (bsize t)
  have hb0 := Lib.hid (bytG ht0)
  obtain ⟨X, hX⟩ : ∃ X, X = t[0].toNat - t[0].toNat % M := ⟨_, rfl⟩
  obtain ⟨n0, hn0⟩ : ∃ n, n = t[0].toNat % M := ⟨_, rfl⟩
  rw [← hX] at hA
  rw [← hn0] at hB
  have hn128 : n0 < 128 := by have := Nat.mod_lt t[0].toNat hM; omega
  have HX : Hid (X = byt t.data.toList 0 - byt t.data.toList 0 % M) := Lib.hid (by rw [hb0.out]; exact hX)
  have HN0 : Hid (n0 = valN t.data.toList M 0) := Lib.hid (by unfold valN; rw [hb0.out]; exact hn0)
  clear hX hn0
  have hi0 : (0 : Int) < (t.size : Int) := by omega
  have hw : IntKind.i32.wrap (n0 : Int) = (n0 : Int) := IntWalk.i32_in _ (by omega)
  go_enter Tryd.func52, Tryd.ntmps52
  have HB0 := Lib.hid ((Below.refl w.heap.size w).alloc (Nat.le_refl _) (.cells #[.int .u8 (h : Int), .int .u8 (m1 : Int), .int .i32 (lo : Int), .int .i32 (hi : Int)] 77))
  go_wp2_with fail
  have q0 := cell_new4 w #[.int .u8 (h : Int), .int .u8 (m1 : Int), .int .i32 (lo : Int), .int .i32 (hi : Int)] 77 0 _ rfl
  have q1 := cell_new4 w #[.int .u8 (h : Int), .int .u8 (m1 : Int), .int .i32 (lo : Int), .int .i32 (hi : Int)] 77 1 _ rfl
  have q2 := cell_new4 w #[.int .u8 (h : Int), .int .u8 (m1 : Int), .int .i32 (lo : Int), .int .i32 (hi : Int)] 77 2 _ rfl
  have q3 := cell_new4 w #[.int .u8 (h : Int), .int .u8 (m1 : Int), .int .i32 (lo : Int), .int .i32 (hi : Int)] 77 3 _ rfl
  generalize w.alloc (.cells #[.int .u8 (h : Int), .int .u8 (m1 : Int), .int .i32 (lo : Int), .int .i32 (hi : Int)] 77) = w1 at q0 q1 q2 q3 HB0 ⊢
  by_cases hXh : X = h
  · have t1 : ((X : Int) != (h : Int)) = false := by simp [hXh]
    have HXH := Lib.hid hXh; clear hXh
    by_cases hks : k < t.size
    · have t2 : decide ((t.size : Int) ≤ (k : Int)) = false := by simp; omega
      have t2n : decide (t.size ≤ k) = false := by simp; omega
      go_quiet (fail)
      have HB1 := Lib.hid (bdrewN HB0.out nq)
      replace q0 : (w1.drewN nq).cell? ⟨w.heap.size, 0, none⟩ = some (.int .u8 (h : Int)) := q0
      replace q1 : (w1.drewN nq).cell? ⟨w.heap.size, 1, none⟩ = some (.int .u8 (m1 : Int)) := q1
      replace q2 : (w1.drewN nq).cell? ⟨w.heap.size, 2, none⟩ = some (.int .i32 (lo : Int)) := q2
      replace q3 : (w1.drewN nq).cell? ⟨w.heap.size, 3, none⟩ = some (.int .i32 (hi : Int)) := q3
      generalize w1.drewN nq = w2 at q0 q1 q2 q3 HB1 ⊢
      clear HB0
      go_wp2_with fail
      go_quiet (fail)
      have HB2 := Lib.hid (bdrewN HB1.out nq)
      replace q2 : (w2.drewN nq).cell? ⟨w.heap.size, 2, none⟩ = some (.int .i32 (lo : Int)) := q2
      replace q3 : (w2.drewN nq).cell? ⟨w.heap.size, 3, none⟩ = some (.int .i32 (hi : Int)) := q3
      generalize w2.drewN nq = w3 at q2 q3 HB2 ⊢
      clear HB1 q0 q1
      go_wp2
      go_loopw [7, 31] (fun x p wr => ∃ i n : Nat, p = .int .i64 i ∧ i ≤ k ∧ x = .int .i32 n ∧ Hid (n = valN t.data.toList M i) ∧ Hid (conts t.data.toList i = true) ∧ wr = w3) (fun _ p _ => k - (intOf p).toNat)
      case atStart => exact ⟨0, n0, rfl, Nat.zero_le _, rfl, HN0, Lib.hid rfl, rfl⟩
      case round =>
        obtain ⟨i, n, rfl, hik, rfl, HN, HC, hw3⟩ := hrel
        subst hw3
        have hnl := valN_lt t.data.toList M hM hM2 i (by omega)
        rw [← HN.out] at hnl
        by_cases hlt : i < k
        · have hlt2 : 1 + i < t.size := by omega
          have hin : (1 : Int) + (i : Int) < (t.size : Int) := by omega
          have hcb := t[1 + i].toNat_lt
          have hbb := Lib.hid (bytG hlt2)
          have hx := cont_bits ⟨t[1 + i].toNat, hcb⟩
          simp only at hx
          have hn24 : n < 524288 := by rcases (show i = 0 ∨ i = 1 ∨ i = 2 by omega) with rfl | rfl | rfl <;> omega
          by_cases hct : cont t.data.toList (1 + i) = true
          · have hct2 := (cont_iff _ _).1 hct
            rw [hbb.out] at hct2
            have t3 : (((t[1 + i].toNat - t[1 + i].toNat % 64 : Nat) : Int) != 128) = false := by simp; omega
            have HC2 : Hid (conts t.data.toList (i + 1) = true) := Lib.hid (by
              show (conts t.data.toList i && cont t.data.toList (1 + i)) = true
              rw [HC.out, hct]; rfl)
            have HN2 : Hid (n * 64 + t[1 + i].toNat % 64 = valN t.data.toList M (i + 1)) := Lib.hid (by
              show _ = valN t.data.toList M i * 64 + byt t.data.toList (1 + i) % 64
              rw [← HN.out, hbb.out])
            have hor := held6i n (t[1 + i].toNat % 64) (by omega) (by omega)
            clear hct hct2
            go_wp2
            go_round
            case rel => exact ⟨i + 1, n * 64 + t[1 + i].toNat % 64, by go_num, by omega, by go_num, HN2, HC2, by first | rfl | trivial⟩
            case measure => simp [intOf]; omega
          · have HF : Hid (begF h M lo hi t.data.toList k = false) := Lib.hid (by
              have : conts t.data.toList k = false := conts_not _ _ _ hlt (by simpa using hct)
              unfold begF
              rw [this]; simp)
            have t3 : (((t[1 + i].toNat - t[1 + i].toNat % 64 : Nat) : Int) != 128) = true := by
              have hct2 := mt (cont_iff t.data.toList (1 + i)).2 hct
              rw [hbb.out] at hct2
              simp; omega
            clear hct
            go_wp2
            go_ret
            exact ⟨by rw [HF.out]; rfl, HB2.out⟩
        · obtain rfl : i = k := by omega
          have HF : Hid (begF h M lo hi t.data.toList i = (decide (lo ≤ n) && decide (n ≤ hi) && surr n)) := Lib.hid (by
            unfold begF
            rw [HC.out, ← HX.out, ← hlen.out, ← HN.out, HXH.out]
            simp [hks])
          go_wp2
          all_goals go_ret
          all_goals refine ⟨?_, HB2.out⟩
          all_goals rw [HF.out]
          · exact congrArg (fun b => Ending.returned (.bool b)) (surr_int n lo hi (by omega) (by omega))
          · exact congrArg (fun b => Ending.returned (.bool b)) (by simp [surr]; omega)
          · exact congrArg (fun b => Ending.returned (.bool b)) (by simp; omega)
          · exact congrArg (fun b => Ending.returned (.bool b)) (by simp; omega)
    · have t2 : decide ((t.size : Int) ≤ (k : Int)) = true := by simp; omega
      have HF : Hid (begF h M lo hi t.data.toList k = false) := Lib.hid (by
        unfold begF
        rw [← hlen.out]
        simp [hks])
      go_quiet (fail)
      go_wp2
      go_ret
      exact ⟨by rw [HF.out]; rfl, bdrewN HB0.out _⟩
  · have t1 : ((X : Int) != (h : Int)) = true := by simp; omega
    have HF : Hid (begF h M lo hi t.data.toList k = false) := Lib.hid (by
      unfold begF
      rw [← HX.out]
      simp [hXh])
    clear hXh
    go_quiet (fail)
    go_wp2
    go_ret
    exact ⟨by rw [HF.out]; rfl, bdrewN HB0.out _⟩

end Go.Proofs.YtipmeooldopkmaaDoor
