/-
  The program's functions of layer 11: whether a mark stands in a value (strings.ContainsAny at any text), names, values as they are written.
-/
import Derived.Test.YtlfhhnjdfpgadaaGreatDoorG18
import Derived.Test.YtlfhhnjdfpgadaaGreatDoorG05
import Derived.Laws.Cover4
import Derived.Deep.Cut
import Derived.WalkMore
import Derived.BigQuiet
namespace Go.Proofs.YtlfhhnjdfpgadaaGreatDoor
open Go.RowKit

theorem dec_val (n b0 b1 b2 b3 : Nat) (h0 : 128 ≤ b0) : (Lib.decodeN n b0 b1 b2 b3).1 < 55296 ∨ (57344 ≤ (Lib.decodeN n b0 b1 b2 b3).1 ∧ (Lib.decodeN n b0 b1 b2 b3).1 ≤ 1114111) := by
  unfold Lib.decodeN
  rw [if_neg (by omega)]
  repeat' split
  all_goals (dsimp only; omega)
theorem dec_valid (s : ByteArray) (k : Nat) (h : 128 ≤ byt s.data.toList k) : (Utf8.decode s k).1 < 55296 ∨ (57344 ≤ (Utf8.decode s k).1 ∧ (Utf8.decode s k).1 ≤ 1114111) := by
  rw [Lib.decode_at]
  exact dec_val _ _ _ _ _ (by rw [get_byt]; exact h)
/-- A number above 127 is written in two to four bytes, the last of them above 127. -/
theorem enc_last (r : Nat) (h : 128 ≤ r) (hv : r < 55296 ∨ (57344 ≤ r ∧ r ≤ 1114111)) : ∃ (L : Nat) (_hL : L + 1 < 5) (x : UInt8), 1 ≤ L ∧ (Utf8.encode r).size = L + 1 ∧ (Utf8.encode r).data.toList[L]? = some x ∧ 128 ≤ x.toNat := by
  have hval : Utf8.valid (r : Int) = true := by
    unfold Utf8.valid
    simp only [Bool.or_eq_true, Bool.and_eq_true, decide_eq_true_eq]
    omega
  have hn : ((r : Int)).toNat = r := by simp
  have hx : ∀ c : Nat, 128 ≤ (UInt8.ofNat (128 + c % 64)).toNat := fun c => by rw [UInt8.toNat_ofNat']; omega
  unfold Utf8.encode
  simp only [hval, if_true, hn]
  rw [if_neg (by omega)]
  by_cases a : r < 2048
  · rw [if_pos a]; exact ⟨1, by omega, _, by omega, rfl, rfl, hx r⟩
  · rw [if_neg a]
    by_cases b : r < 65536
    · rw [if_pos b]; exact ⟨2, by omega, _, by omega, rfl, rfl, hx r⟩
    · rw [if_neg b]; exact ⟨3, by omega, _, by omega, rfl, rfl, hx r⟩
theorem ixb_high (l : List UInt8) (hl : ∀ c ∈ l, c.toNat < 128) (x : UInt8) (h : 128 ≤ x.toNat) : Lib.indexByte l x = -1 := by
  induction l with
  | nil => rfl
  | cons c l ih =>
    have hc := hl c (by simp)
    have := ih (fun d hd => hl d (by simp [hd]))
    unfold Lib.indexByte
    rw [this]
    have : c ≠ x := fun e => by subst e; omega
    simp [this]
set_option maxRecDepth 100000 in
set_option maxHeartbeats 2000000 in
theorem idxRune_err (w : World) :
    Calls Tryz.prog 123 #[.string ⟨#[44, 59, 58]⟩, .int .i32 65533] w fun e w' => e = .returned (.int .i64 (-1)) ∧ Below w.heap.size w w' := by
  go_enter Tryz.func123, Tryz.ntmps123
  go_wp2
  go_loopg [] 3 (fun g wx => ∃ pos : Nat, pos + g = 3 ∧ wx = w.iter ⟨#[44, 59, 58]⟩ pos)
  case atStart => exact ⟨0, by omega, rfl⟩
  case round =>
    obtain ⟨pos, hp, rfl⟩ := hrel
    by_cases hlt : pos < 3
    · have hd : ∃ r : Nat, Utf8.decode ⟨#[44, 59, 58]⟩ pos = (r, 1) ∧ r ≠ 65533 := by
        have : pos = 0 ∨ pos = 1 ∨ pos = 2 := by omega
        rcases this with rfl | rfl | rfl
        · exact ⟨44, by decide +kernel, by decide⟩
        · exact ⟨59, by decide +kernel, by decide⟩
        · exact ⟨58, by decide +kernel, by decide⟩
      obtain ⟨r, hr, hne⟩ := hd
      have hnx := fun ty => run_next_any (P := Tryz.prog) w ⟨#[44, 59, 58]⟩ pos ty hlt
      rw [hr] at hnx
      have b1 : ((r : Int) == 65533) = false := by rw [beq_eq_false_iff_ne]; omega
      clear hr
      go_wp2
      go_roundg (gk - 1)
      case measure => omega
      case rel => exact ⟨pos + 1, by omega, rfl⟩
    · have hnx := fun ty => run_next_end (P := Tryz.prog) w ⟨#[44, 59, 58]⟩ pos ty hlt
      go_wp2
      go_ret
      exact ⟨rfl, below_iter _ _ _⟩
set_option maxHeartbeats 1000000 in
theorem validRune_any (r : Nat) (hv : r < 55296 ∨ (57344 ≤ r ∧ r ≤ 1114111)) (w : World) :
    Calls Tryz.prog 127 #[.int .i32 r] w fun e w' => e = .returned (.bool true) ∧ w' = w := by
  have h0 : (0 : Int) ≤ (r : Int) := by omega
  by_cases h1 : r < 55296
  · have h1i : ((r : Int) < 55296) := by omega
    clear hv
    go_enter Tryz.func127, Tryz.ntmps127
    go_wp2
    all_goals (go_ret; exact ⟨rfl, rfl⟩)
  · have h1i : ¬ ((r : Int) < 55296) := by omega
    have h2i : ((57343 : Int) < (r : Int)) := by omega
    have h3i : ((r : Int) ≤ 1114111) := by omega
    clear hv
    go_enter Tryz.func127, Tryz.ntmps127
    go_wp2
    all_goals (go_ret; exact ⟨rfl, rfl⟩)
set_option maxRecDepth 100000 in
set_option maxHeartbeats 2000000 in
theorem idxRune_w2 (r : Nat) (h : 128 ≤ r) (hv : r < 55296 ∨ (57344 ≤ r ∧ r ≤ 1114111)) (he : r ≠ 65533) (R : ByteArray) (hR : Utf8.encode (r : Int) = R) (hsz : R.size = 2) (x : UInt8) (hxs : R[1]'(by omega) = x) (hx8 : 128 ≤ x.toNat) (w : World) :
    Calls Tryz.prog 123 #[.string ⟨#[44, 59, 58]⟩, .int .i32 r] w fun e w' => e = .returned (.int .i64 (-1)) ∧ Below w.heap.size w w' := by
  have b1 : ((r : Int) == 65533) = false := by rw [beq_eq_false_iff_ne]; omega
  have cv := fun W => validRune_any r hv W
  clear hv
  have hb : ¬ ((r : Int) < 128) := by omega
  have h0 : (0 : Int) ≤ (r : Int) := by omega
  have hw3 : IntKind.i64.wrap 2 = 2 := by decide
  have hE : (⟨#[44, 59, 58]⟩ : ByteArray).extract 2 3 = ⟨#[58]⟩ := rfl
  have hi : ((⟨#[44, 59, 58]⟩ : ByteArray)[1]'(by decide)).toNat = 59 := rfl
  have hne : ((59 : Int) != (x.toNat : Int)) = true := by rw [bne_iff_ne]; omega
  have hne2 : ((59 : Int) == (x.toNat : Int)) = false := by rw [beq_eq_false_iff_ne]; omega
  have ci := fun W => Tryz.strings_IndexByte ⟨#[58]⟩ (x.toNat : Int) W
  rw [show Lib.indexByte (⟨#[58]⟩ : ByteArray).data.toList ((x.toNat : Int)).toNat.toUInt8 = -1 from ixb_high _ (by decide) _ (by simpa using hx8)] at ci
  have HX8 := Lib.hid hx8
  clear hx8 h he
  go_enter Tryz.func123, Tryz.ntmps123
  go_upto_region 1 with (go_at_call 127; ((with_reducible refine (cv _).mono ?_); rintro e w' ⟨rfl, hw⟩; subst w'))
  clear b1 hb h0 cv
  go_step3
  go_wp2
  go_loopg [9, 10] 1 (fun g i f wx => i = .int .i64 1 ∧ f = .int .i64 0 ∧ wx = w ∧ g = 1)
  case atStart => exact ⟨rfl, rfl, rfl, rfl⟩
  case round =>
    obtain ⟨rfl, rfl, hw0, rfl⟩ := hrel
    have hw1 := hw0.symm
    subst hw1
    go_wp2
    go_step3
    go_wp2
    go_quiet (fail)
    go_upto_region 7 with fail
    have HB := Lib.hid (below_drewNL (Below.refl w.heap.size w) nq)
    generalize w.drewN nq = W1 at *
    go_quiet ((go_at_call 54; refine Calls.quiet_of_same (ci _)))
    go_wp2
    rw [Exit.noGoto_ret]
    go_wp2
    rw [Exit.noGoto_ret]
    go_ret
    exact ⟨rfl, bdrewN HB.out _⟩
set_option maxRecDepth 100000 in
set_option maxHeartbeats 2000000 in
theorem idxRune_w3 (r : Nat) (h : 128 ≤ r) (hv : r < 55296 ∨ (57344 ≤ r ∧ r ≤ 1114111)) (he : r ≠ 65533) (R : ByteArray) (hR : Utf8.encode (r : Int) = R) (hsz : R.size = 3) (x : UInt8) (hxs : R[2]'(by omega) = x) (hx8 : 128 ≤ x.toNat) (w : World) :
    Calls Tryz.prog 123 #[.string ⟨#[44, 59, 58]⟩, .int .i32 r] w fun e w' => e = .returned (.int .i64 (-1)) ∧ Below w.heap.size w w' := by
  have b1 : ((r : Int) == 65533) = false := by rw [beq_eq_false_iff_ne]; omega
  have cv := fun W => validRune_any r hv W
  clear hv
  have hb : ¬ ((r : Int) < 128) := by omega
  have h0 : (0 : Int) ≤ (r : Int) := by omega
  have hw3 : IntKind.i64.wrap 3 = 3 := by decide
  have hE : (⟨#[44, 59, 58]⟩ : ByteArray).extract 3 3 = ByteArray.empty := rfl
  have hi : ((⟨#[44, 59, 58]⟩ : ByteArray)[2]'(by decide)).toNat = 58 := rfl
  have hne : ((58 : Int) != (x.toNat : Int)) = true := by rw [bne_iff_ne]; omega
  have hne2 : ((58 : Int) == (x.toNat : Int)) = false := by rw [beq_eq_false_iff_ne]; omega
  have ci := fun W => Tryz.strings_IndexByte ByteArray.empty (x.toNat : Int) W
  rw [show Lib.indexByte (ByteArray.empty : ByteArray).data.toList ((x.toNat : Int)).toNat.toUInt8 = -1 from ixb_high _ (by decide) _ (by simpa using hx8)] at ci
  have HX8 := Lib.hid hx8
  clear hx8 h he
  go_enter Tryz.func123, Tryz.ntmps123
  go_upto_region 1 with (go_at_call 127; ((with_reducible refine (cv _).mono ?_); rintro e w' ⟨rfl, hw⟩; subst w'))
  clear b1 hb h0 cv
  go_step3
  go_wp2
  go_loopg [9, 10] 1 (fun g i f wx => i = .int .i64 2 ∧ f = .int .i64 0 ∧ wx = w ∧ g = 1)
  case atStart => exact ⟨rfl, rfl, rfl, rfl⟩
  case round =>
    obtain ⟨rfl, rfl, hw0, rfl⟩ := hrel
    have hw1 := hw0.symm
    subst hw1
    go_wp2
    go_step3
    go_wp2
    go_quiet (fail)
    go_upto_region 7 with fail
    have HB := Lib.hid (below_drewNL (Below.refl w.heap.size w) nq)
    generalize w.drewN nq = W1 at *
    go_quiet ((go_at_call 54; refine Calls.quiet_of_same (ci _)))
    go_wp2
    rw [Exit.noGoto_ret]
    go_wp2
    rw [Exit.noGoto_ret]
    go_ret
    exact ⟨rfl, bdrewN HB.out _⟩
set_option maxRecDepth 100000 in
set_option maxHeartbeats 2000000 in
theorem idxRune_w4 (r : Nat) (h : 128 ≤ r) (hv : r < 55296 ∨ (57344 ≤ r ∧ r ≤ 1114111)) (he : r ≠ 65533) (R : ByteArray) (hR : Utf8.encode (r : Int) = R) (hsz : R.size = 4) (x : UInt8) (_hxs : R[3]'(by omega) = x) (_hx8 : 128 ≤ x.toNat) (w : World) :
    Calls Tryz.prog 123 #[.string ⟨#[44, 59, 58]⟩, .int .i32 r] w fun e w' => e = .returned (.int .i64 (-1)) ∧ Below w.heap.size w w' := by
  have b1 : ((r : Int) == 65533) = false := by rw [beq_eq_false_iff_ne]; omega
  have cv := fun W => validRune_any r hv W
  clear hv
  have hb : ¬ ((r : Int) < 128) := by omega
  have h0 : (0 : Int) ≤ (r : Int) := by omega
  clear _hx8 h he
  go_enter Tryz.func123, Tryz.ntmps123
  go_upto_region 1 with (go_at_call 127; ((with_reducible refine (cv _).mono ?_); rintro e w' ⟨rfl, hw⟩; subst w'))
  clear b1 hb h0 cv
  go_step3
  go_wp2
  go_loopg [9, 10] 1 (fun g i f wx => i = .int .i64 3 ∧ f = .int .i64 0 ∧ wx = w ∧ g = 1)
  case atStart => exact ⟨rfl, rfl, rfl, rfl⟩
  case round =>
    obtain ⟨rfl, rfl, hw0, rfl⟩ := hrel
    have hw1 := hw0.symm
    subst hw1
    go_wp2
    go_ret
    exact ⟨rfl, Below.refl _ _⟩
theorem three_of {L : Nat} (h : 1 ≤ L) (h5 : L + 1 < 5) : L = 1 ∨ L = 2 ∨ L = 3 := by omega
theorem enc_cases (r : Nat) (h : 128 ≤ r) (hv : r < 55296 ∨ (57344 ≤ r ∧ r ≤ 1114111)) (R : ByteArray) (hR : Utf8.encode (r : Int) = R) : ∃ x : UInt8, 128 ≤ x.toNat ∧ ((∃ hs : R.size = 2, R[1]'(by omega) = x) ∨ (∃ hs : R.size = 3, R[2]'(by omega) = x) ∨ (∃ hs : R.size = 4, R[3]'(by omega) = x)) := by
  obtain ⟨L, hL5, x, hL, hsz, hx, hx8⟩ := enc_last r h hv
  rw [hR] at hsz hx
  clear hR hv h
  refine ⟨x, hx8, ?_⟩
  rcases three_of hL hL5 with rfl | rfl | rfl
  · obtain ⟨hLR, hx⟩ := List.getElem?_eq_some_iff.1 hx
    exact Or.inl ⟨hsz, hx⟩
  · obtain ⟨hLR, hx⟩ := List.getElem?_eq_some_iff.1 hx
    exact Or.inr (Or.inl ⟨hsz, hx⟩)
  · obtain ⟨hLR, hx⟩ := List.getElem?_eq_some_iff.1 hx
    exact Or.inr (Or.inr ⟨hsz, hx⟩)
theorem idxRune_not (r : Nat) (h : 128 ≤ r) (hv : r < 55296 ∨ (57344 ≤ r ∧ r ≤ 1114111)) (he : r ≠ 65533) (w : World) :
    Calls Tryz.prog 123 #[.string ⟨#[44, 59, 58]⟩, .int .i32 r] w fun e w' => e = .returned (.int .i64 (-1)) ∧ Below w.heap.size w w' := by
  obtain ⟨R, hR⟩ : ∃ R, Utf8.encode (r : Int) = R := ⟨_, rfl⟩
  obtain ⟨x, hx8, ⟨hs, hx⟩ | ⟨hs, hx⟩ | ⟨hs, hx⟩⟩ := enc_cases r h hv R hR
  · exact idxRune_w2 r h hv he R hR hs x hx hx8 w
  · exact idxRune_w3 r h hv he R hR hs x hx hx8 w
  · exact idxRune_w4 r h hv he R hR hs x hx hx8 w
theorem idxRune_high (r : Nat) (h : 128 ≤ r) (hv : r < 55296 ∨ (57344 ≤ r ∧ r ≤ 1114111)) (w : World) :
    Calls Tryz.prog 123 #[.string ⟨#[44, 59, 58]⟩, .int .i32 r] w fun e w' => e = .returned (.int .i64 (-1)) ∧ Below w.heap.size w w' := by
  by_cases he : r = 65533
  · have e : (r : Int) = 65533 := by omega
    have := idxRune_err w
    rw [← e] at this
    exact this
  · exact idxRune_not r h hv he w
end Go.Proofs.YtlfhhnjdfpgadaaGreatDoor

/-
  The program's functions of layer 11: strings.ContainsAny at the marks, at any text; values as they are written; names.
-/
namespace Go.Proofs.YtlfhhnjdfpgadaaGreatDoor
open Go.RowKit

theorem sep_any (l : List UInt8) : hasSep l = l.any fun c => mkN c.toNat := rfl
theorem sep_ix : ∀ l : List UInt8, decide (0 ≤ Lib.indexAny l [44, 59, 58]) = hasSep l
  | [] => rfl
  | b :: l => by
    have ih := sep_ix l
    have hb : ([44, 59, 58] : List UInt8).contains b = mkN b.toNat := by
      have : ∀ x : Fin 256, ([44, 59, 58] : List UInt8).contains (UInt8.ofNat x.val) = mkN x.val := by decide +kernel
      have h2 := this ⟨b.toNat, b.toNat_lt⟩
      simpa using h2
    unfold Lib.indexAny
    rw [hb, sep_any, List.any_cons]
    rw [sep_any] at ih
    cases mkN b.toNat
    · rw [if_neg (by decide), Bool.false_or, ← ih]
      have hge := Lib.indexAny_ge [44, 59, 58] l
      by_cases h : Lib.indexAny l [44, 59, 58] = -1
      · rw [h]; rfl
      · have hne : (Lib.indexAny l [44, 59, 58] == -1) = false := by simpa using h
        rw [hne, if_neg (by decide), decide_eq_true (show (0 : Int) ≤ Lib.indexAny l [44, 59, 58] + 1 by omega), decide_eq_true (show (0 : Int) ≤ Lib.indexAny l [44, 59, 58] by omega)]
    · rfl
theorem rune_conts (l : List UInt8) (i : Nat) (h0 : 0 < i) (h : i < runeL l) : 128 ≤ byt l i := by
  unfold runeL at h
  simp only [cont_iff] at h
  repeat' split at h
  all_goals first
    | omega
    | (obtain rfl | rfl | rfl : i = 1 ∨ i = 2 ∨ i = 3 := by omega
       all_goals first | omega | (rename_i hc; omega))
theorem sep_step (l : List UInt8) (h : 128 ≤ byt l 0) : hasSep l = hasSep (l.drop (stepL l)) := by
  have e : l.take (stepL l) ++ l.drop (stepL l) = l := List.take_append_drop _ _
  conv => lhs; rw [← e]
  rw [sep_any, sep_any, List.any_append]
  have : (l.take (stepL l)).any (fun c => mkN c.toNat) = false := by
    rw [List.any_eq_false]
    intro c hc
    obtain ⟨i, hi, rfl⟩ := List.getElem_of_mem hc
    have hi2 : i < stepL l := by have := hi; rw [List.length_take] at this; omega
    have hil : i < l.length := by have := hi; rw [List.length_take] at this; omega
    have hb : 128 ≤ byt l i := by
      by_cases h0 : i = 0
      · rw [h0]; exact h
      · exact rune_conts l i (by omega) (by unfold stepL at hi2; omega)
    rw [List.getElem_take]
    unfold byt at hb
    rw [List.getD_eq_getElem?_getD, List.getElem?_eq_getElem hil] at hb
    simp only [Option.getD_some] at hb
    unfold mkN
    simp only [Bool.or_eq_true, decide_eq_true_eq]
    omega
  rw [this, Bool.false_or]
theorem asciiZero (w : World) : (zeroValue 137).run Tryz.prog w = .ok (.agg (Array.replicate 256 (.bool false))) w :=
  (zero_of_info (show (Tryz.prog.info? 137).map (fun i => (i.zero, i.size)) = some (some (.agg (Array.replicate 256 (.bool false))), 256) by kernel_rfl)).1 w

set_option maxRecDepth 1000000 in
set_option maxHeartbeats 4000000 in
theorem idxAny_short (v : ByteArray) (h8 : v.size ≤ 8) (w : World) :
    Calls Tryz.prog 118 #[.string v, .string ⟨#[44, 59, 58]⟩] w fun e w' => (∃ z : Int, e = .returned (.int .i64 z) ∧ decide (0 ≤ z) = hasSep v.data.toList) ∧ Below w.heap.size w w' := by
  have hemp : (⟨#[44, 59, 58]⟩ : ByteArray).toList.isEmpty = false := by rw [Lib.toList_data]; rfl
  have h8z : decide ((8 : Int) < (v.size : Int)) = false := decide_eq_false (by omega)
  have hlen := Lib.hid (bsize v)
  have cu := fun W => Tryz.strings_shouldUseASCIISet (v.size : Int) W
  rw [h8z] at cu
  go_enter Tryz.func118, Tryz.ntmps118
  go_wp2_with (go_at_call 124; ((with_reducible refine (cu _).mono ?_); rintro e w' ⟨rfl, hw⟩; subst w'))
  clear cu
  go_loopg [] v.size (fun g wx => ∃ pos : Nat, pos ≤ v.size ∧ v.size ≤ pos + g ∧ Hid (wx.heap[w.heap.size]? = some (.stringIter v pos)) ∧ Hid (Below w.heap.size w wx) ∧ Hid (hasSep v.data.toList = hasSep (v.data.toList.drop pos)))
  case atStart => exact ⟨0, by omega, by omega, Lib.hid (World.iter_heap w v 0), Lib.hid (below_iter _ _ _), Lib.hid (by simp)⟩
  case round =>
    obtain ⟨pos, hp, hg, HI, HB, HS⟩ := hrel
    by_cases hlt : pos < v.size
    · have hne : v.data.toList.drop pos ≠ [] := by
        intro h; have := congrArg List.length h; rw [List.length_drop, ← hlen.out] at this; simp at this; omega
      have hwd := dec_step v pos
      have hp1 := stepL_pos (v.data.toList.drop pos)
      have hp2 := stepL_le hne
      rw [List.length_drop, ← hlen.out] at hp2
      have hb0 : byt (v.data.toList.drop pos) 0 = byt v.data.toList pos := by rw [byt_drop2]; rfl
      have hnx := fun ty => Lib.run_next_any_at (P := Tryz.prog) wr w.heap.size v pos ty HI.out hlt
      by_cases ha : byt v.data.toList pos < 128
      · have hd := dec_asc v pos ha
        rw [hd] at hnx hwd
        have hs1 : stepL (v.data.toList.drop pos) = 1 := hwd.symm
        have HI2 := Lib.hid (Lib.iterAt_heap wr w.heap.size v pos (pos + 1) HI.out)
        have HB2 := Lib.hid (Lib.below_iterAt HB.out (k := w.heap.size) (Nat.le_refl _) v (pos + 1))
        have hcons : v.data.toList.drop pos = v[pos] :: v.data.toList.drop (pos + 1) := by
          rw [List.drop_eq_getElem_cons (by rw [← hlen.out]; exact hlt)]; rfl
        have hbx : byt v.data.toList pos = v[pos].toNat := by rw [← hb0, hcons]; rfl
        have HS2 := HS.out
        rw [hcons, sep_any (_ :: _), List.any_cons, ← hbx, ← sep_any] at HS2
        have hm := (marks_ix (byt v.data.toList pos) (by omega)).2
        have ci := fun W => Tryz.strings_IndexRune_ascii ⟨#[44, 59, 58]⟩ (byt v.data.toList pos : Int) W (by omega) (by omega)
        rw [show ((byt v.data.toList pos : Nat) : Int).toNat.toUInt8 = UInt8.ofNat (byt v.data.toList pos) from by simp, show (⟨#[44, 59, 58]⟩ : ByteArray).data.toList = [44, 59, 58] from rfl] at ci
        clear hd hwd hs1 hcons hbx hb0 hp1 hp2 hne HS HI HB
        generalize byt v.data.toList pos = b at *
        generalize wr.iterAt w.heap.size v (pos + 1) = w2 at *
        generalize Lib.indexByte [44, 59, 58] (UInt8.ofNat b) = ix at *
        cases hk : mkN b
        · rw [hk] at hm HS2
          rw [Bool.false_or] at HS2
          have HS3 := Lib.hid HS2
          clear HS2 hk
          go_wp2_with (go_at_call 123; ((with_reducible refine (ci _).mono ?_); rintro e w' ⟨rfl, hw⟩; subst w'))
          go_roundg (v.size - (pos + 1))
          case measure => omega
          case rel => exact ⟨pos + 1, by omega, by omega, HI2, HB2, HS3⟩
        · rw [hk] at hm HS2
          rw [Bool.true_or] at HS2
          have HS3 := Lib.hid HS2
          clear HS2 hk
          go_wp2_with (go_at_call 123; ((with_reducible refine (ci _).mono ?_); rintro e w' ⟨rfl, hw⟩; subst w'))
          go_ret
          exact ⟨⟨pos, rfl, by rw [HS3.out]; exact decide_eq_true (by omega)⟩, HB2.out⟩
      · have hr1 := (dec_high v pos (by omega)).1
        have hr2 := dec_valid v pos (by omega)
        have HS2 := HS.out
        rw [sep_step (v.data.toList.drop pos) (by rw [hb0]; omega), List.drop_drop] at HS2
        rw [hwd] at hnx
        have HI2 := Lib.iterAt_heap wr w.heap.size v pos (pos + stepL (v.data.toList.drop pos)) HI.out
        have HB2 := Lib.below_iterAt HB.out (k := w.heap.size) (Nat.le_refl _) v (pos + stepL (v.data.toList.drop pos))
        have ci := fun W => idxRune_high (Utf8.decode v pos).1 hr1 hr2 W
        have HS3 := Lib.hid HS2
        clear HS2 HS HI HB hwd hb0 ha hne hr1 hr2
        generalize stepL (v.data.toList.drop pos) = k at *
        generalize (Utf8.decode v pos).1 = r at *
        have HI3 := Lib.hid HI2
        have HB3 := Lib.hid HB2
        clear HI2 HB2
        generalize wr.iterAt w.heap.size v (pos + k) = w2 at *
        go_wp2_with fail
        refine (ci _).mono ?_
        rintro e w3 ⟨rfl, hb3⟩
        have hsz : w.heap.size < w2.heap.size := (Array.getElem?_eq_some_iff.1 HI3.out).1
        have HI4 := Lib.hid ((hb3.block _ hsz).trans HI3.out)
        have HB4 := Lib.hid (bstep HB3.out hb3)
        clear hb3 hsz
        go_wp2
        go_roundg (v.size - (pos + k))
        case measure => omega
        case rel => exact ⟨pos + k, by omega, by omega, HI4, HB4, HS3⟩
    · have hnx := fun ty => Lib.run_next_end_at (P := Tryz.prog) wr w.heap.size v pos ty HI.out hlt
      have HE : Hid (hasSep v.data.toList = false) := Lib.hid (by rw [HS.out, List.drop_eq_nil_of_le (by rw [← hlen.out]; omega)]; rfl)
      go_wp2
      go_ret
      exact ⟨⟨-1, rfl, by rw [HE.out]; rfl⟩, HB.out⟩
set_option maxRecDepth 100000 in
set_option maxHeartbeats 2000000 in
theorem hasAny_any (v : ByteArray) (hs : v.size ≤ 16777216) (w : World) :
    Calls Tryz.prog 110 #[.string v, .string ⟨#[44, 59, 58]⟩] w fun e w' => e = .returned (.bool (hasSep v.data.toList)) ∧ Below w.heap.size w w' := by
  have c : Calls Tryz.prog 118 #[.string v, .string ⟨#[44, 59, 58]⟩] w fun e w' => (∃ z : Int, e = .returned (.int .i64 z) ∧ decide (0 ≤ z) = hasSep v.data.toList) ∧ Below w.heap.size w w' := by
    by_cases h8 : v.size ≤ 8
    · exact idxAny_short v h8 w
    · refine (Tryz.strings_IndexAny_long asciiZero v ⟨#[44, 59, 58]⟩ w (by decide) (by omega) (by omega) (by decide) (fun j b h => ?_)).mono fun e w' h => ⟨⟨_, h.1, sep_ix _⟩, ?_⟩
      · have hm := List.mem_of_getElem? h
        simp at hm
        rcases hm with rfl | rfl | rfl <;> decide
      · rw [h.2]
        exact ((Below.refl _ _).alloc (Nat.le_refl _) _).alloc (by simp) _
  generalize hasSep v.data.toList = q at *
  go_enter Tryz.func110, Tryz.ntmps110
  go_wp2_with fail
  refine c.mono ?_
  rintro e w' ⟨⟨z, rfl, hz⟩, hb⟩
  have HB := Lib.hid hb
  clear c hb
  go_wp2
  go_ret
  exact ⟨rfl, HB.out⟩
set_option maxHeartbeats 1000000 in
theorem quoted_any (v : ByteArray) (hs : v.size ≤ 16777216) (w : World) :
    Calls Tryz.prog 101 #[.string v] w fun e w' => e = .returned (.string ⟨(quoteL v.data.toList).toArray⟩) ∧ Below w.heap.size w w' := by
  have c := hasAny_any v hs w
  cases hq : hasSep v.data.toList
  · have E := Lib.hid (show quoteL v.data.toList = v.data.toList by unfold quoteL; rw [hq]; rfl)
    rw [hq] at c
    go_enter Tryz.func101, Tryz.ntmps101
    go_wp2_with fail
    refine c.mono ?_
    rintro e w' ⟨rfl, hb⟩
    go_wp2
    go_ret
    exact ⟨by rw [E.out, mk_toList]; rfl, hb⟩
  · have E := Lib.hid (show quoteL v.data.toList = 34 :: (v.data.toList ++ [34]) by unfold quoteL; rw [hq]; rfl)
    rw [hq] at c
    go_enter Tryz.func101, Tryz.ntmps101
    go_wp2_with fail
    refine c.mono ?_
    rintro e w' ⟨rfl, hb⟩
    go_wp2
    go_ret
    refine ⟨?_, hb⟩
    rw [E.out]
    congr 2
theorem gr_name (l : List UInt8) : (l.all fun c => grN c.toNat) = (l.all nbC && decide (upL l = l)) := by
  induction l with
  | nil => rfl
  | cons c l ih =>
    have hc : grN c.toNat = (nbC c && decide (upC c = c)) := by
      have : ∀ x : Fin 256, grN (UInt8.ofNat x.val).toNat = (nbC (UInt8.ofNat x.val) && decide (upC (UInt8.ofNat x.val) = UInt8.ofNat x.val)) := by decide +kernel
      have h2 := this ⟨c.toNat, c.toNat_lt⟩
      simpa using h2
    rw [List.all_cons, List.all_cons, ih, hc]
    unfold upL
    simp only [List.map_cons, List.cons.injEq]
    rw [Bool.decide_and]
    cases nbC c <;> cases decide (upC c = c) <;> simp
set_option maxRecDepth 100000 in
set_option maxHeartbeats 1000000 in
theorem isName_any (s : ByteArray) (hs : s.size ≤ 16777216) (w : World) :
    Calls Tryz.prog 88 #[.string s] w fun e w' => e = .returned (.bool (nameB s.data.toList)) ∧ w' = w := by
  have hlen := bsize s
  have eg : ∀ args W, (callFunc 96 args).run Tryz.prog W = .ok (.enter 96 args) W := enters_of Tryz.func96 (by kernel_rfl) rfl
  have c := fun W => hasOnly_any 96 (fun c => grN c.toNat) eg (fun c W => pGreat_any c.toNat c.toNat_lt W) s hs W
  have E : nameB s.data.toList = ((decide (0 < s.size) && decide (s.size ≤ 64)) && s.data.toList.all fun c => grN c.toNat) := by
    rw [gr_name]
    unfold nameB
    rw [show decide (s.data.toList ≠ []) = decide (0 < s.size) from decide_eq_decide.2 (by rw [hlen]; exact (List.length_pos_iff (l := s.data.toList)).symm), ← hlen]
    cases decide (0 < s.size) <;> cases decide (s.size ≤ 64) <;> cases s.data.toList.all nbC <;> simp
  generalize (s.data.toList.all fun c => grN c.toNat) = q at *
  rw [E]
  clear E hlen eg
  by_cases h1 : 0 < s.size
  · by_cases h2 : s.size ≤ 64
    · cases q
      all_goals
        (go_enter Tryz.func88, Tryz.ntmps88
         go_wp2_with (go_at_call 89; ((with_reducible refine (c _).mono ?_); rintro e w' ⟨rfl, hw⟩; subst w'))
         go_ret
         refine ⟨?_, rfl⟩
         simp [h1, h2])
    · go_enter Tryz.func88, Tryz.ntmps88
      go_wp2
      go_ret
      refine ⟨?_, rfl⟩
      simp []
  · have h0 : s.size = 0 := by omega
    go_enter Tryz.func88, Tryz.ntmps88
    go_wp2
    go_ret
    refine ⟨?_, rfl⟩
    first | done | simp [h0]
end Go.Proofs.YtlfhhnjdfpgadaaGreatDoor
