/-
  Plain mathematics of layer 8's laws: percent coding taken back, a text within a text, and the chapter's examples.
-/
import Derived.Test.YtnadnccmlbleoaaDoorTextMath
import Derived.Test.YtnadnccmlbleoaaDoorTextB64M
import Derived.Test.YtnadnccmlbleoaaDoorTextUtfM
import Derived.Test.YtnadnccmlbleoaaDoorTextUnp
import Derived.Test.YtnadnccmlbleoaaDoorTextTrim
import Derived.Test.YtnadnccmlbleoaaDoorTextWithin
import Derived.Test.YtnadnccmlbleoaaDoorTextUnb
namespace Go.Proofs.YtnadnccmlbleoaaDoor

theorem hex_pair : ∀ (i : Fin 256), ¬ (hexN (UInt8.ofNat (hexL (i.val / 16))).toNat < 0 ∨ hexN (UInt8.ofNat (hexL (i.val % 16))).toNat < 0) ∧ (hexN (UInt8.ofNat (hexL (i.val / 16))).toNat * 16 + hexN (UInt8.ofNat (hexL (i.val % 16))).toNat).toNat = i.val := by decide +kernel
theorem keep37 : keepN 37 = false := by decide
theorem unp_pct (l : List UInt8) : unp (pct l) = some l := by
  induction l with
  | nil => simp [pct, unp]
  | cons c l ih =>
    show unp ((if keepN c.toNat then [c] else [37, UInt8.ofNat (hexL (c.toNat / 16)), UInt8.ofNat (hexL (c.toNat % 16))]) ++ pct l) = _
    by_cases hk : keepN c.toNat = true
    · rw [if_pos hk]
      have hc : c.toNat ≠ 37 := fun e => by rw [e, keep37] at hk; cases hk
      show unp (c :: pct l) = _
      rw [unp_other hc, ih]; rfl
    · rw [if_neg hk]
      have ht := hex_pair ⟨c.toNat, c.toNat_lt⟩
      simp only at ht
      show unp (37 :: UInt8.ofNat (hexL (c.toNat / 16)) :: UInt8.ofNat (hexL (c.toNat % 16)) :: pct l) = _
      rw [unp_hex (by rfl) _ ht.1, ih, ht.2]
      show some (UInt8.ofNat c.toNat :: l) = _
      rw [UInt8.ofNat_toNat]
theorem unpV_pct (l : List UInt8) : unpV (pct l) = (l, 0) := by unfold unpV; rw [unp_pct]

theorem occ_iff (s sub : List UInt8) (i : Nat) : Lib.occAt s sub i = true ↔ sub <+: s.drop i := by
  unfold Lib.occAt
  exact List.isPrefixOf_iff_prefix
theorem contains_iff (s sub : List UInt8) : Lib.contains s sub = true ↔ sub <:+: s := by
  unfold Lib.contains
  rw [decide_eq_true_eq]
  constructor
  · intro h
    rcases Lib.index_spec s sub with ⟨h1, _⟩ | ⟨i, _, _, h3, _⟩
    · rw [h1] at h; omega
    · exact ((occ_iff _ _ _).1 h3).isInfix.trans (List.drop_suffix _ _).isInfix
  · rintro ⟨p, q, rfl⟩
    rcases Lib.index_spec (p ++ sub ++ q) sub with ⟨_, h2⟩ | ⟨i, h1, _⟩
    · have := h2 p.length (by simp only [List.length_append]; omega)
      have h3 : Lib.occAt (p ++ sub ++ q) sub p.length = true := (occ_iff _ _ _).2 (by
        rw [List.append_assoc, List.drop_left]
        exact ⟨q, rfl⟩)
      rw [this] at h3; cases h3
    · rw [h1]; omega
theorem contains_self (a : List UInt8) : Lib.contains a a = true := (contains_iff _ _).2 List.infix_rfl
theorem contains_trans {a b c : List UInt8} (h1 : Lib.contains b a = true) (h2 : Lib.contains c b = true) : Lib.contains c a = true :=
  (contains_iff _ _).2 (((contains_iff _ _).1 h1).trans ((contains_iff _ _).1 h2))
theorem contains_mid (a b c : List UInt8) : Lib.contains (lowL (c ++ a ++ b)) (lowL a) = true := by
  rw [contains_iff, lowL_append, lowL_append]
  exact ⟨lowL c, lowL b, rfl⟩

/-- The chapter's examples. -/
theorem ex_unb : unb [89, 87, 74, 61] = ([], 10) := unb_no fun x hx => by
  have hl := congrArg List.length hx
  rw [b64_length] at hl
  simp only [List.length_cons, List.length_nil] at hl
  unfold full at hl
  have hlen : x.length = 1 ∨ x.length = 2 ∨ x.length = 3 := by omega
  rcases hlen with h | h | h
  · match x, h with
    | [a], _ =>
      have : (b64 _).getD 2 0 = (74 : UInt8) := congrArg (fun l => l.getD 2 0) hx
      rw [b64_get (by simp [full])] at this
      revert this
      show b64At [a] 2 = 74 → False
      simp [b64At, cnt]
  · match x, h with
    | [a, b], _ =>
      have : (b64 _).getD 2 0 = (74 : UInt8) := congrArg (fun l => l.getD 2 0) hx
      rw [b64_get (by simp [full])] at this
      revert this
      show b64At [a, b] 2 = 74 → False
      intro h2
      have h3 : letter (yAt [a, b] (4 * 0 + 2)) = letter 9 := by
        have e : b64At [a, b] 2 = letter (yAt [a, b] 2) := if_pos (by simp [cnt])
        rw [e] at h2; exact h2
      have h4 := letter_inj (yAt_lt _ _) (by omega) h3
      rw [y2] at h4
      have : byt [a, b] (3 * 0 + 2) = 0 := rfl
      omega
  · match x, h with
    | [a, b, c], _ =>
      have : (b64 _).getD 3 0 = (61 : UInt8) := congrArg (fun l => l.getD 3 0) hx
      rw [b64_get (by simp [full])] at this
      revert this
      show b64At [a, b, c] 3 = 61 → False
      intro h2
      have e : b64At [a, b, c] 3 = letter (yAt [a, b, c] 3) := if_pos (by simp [cnt])
      rw [e] at h2
      exact letter_ne (yAt_lt [a, b, c] 3) h2
theorem ex_num7 : numV [48, 48, 55] 9 = (7, true) := by decide +kernel
theorem ex_num10 : numV [49, 48] 9 = (0, false) := by decide +kernel
theorem ex_pct : pct [97, 32, 98, 47, 195, 169] = [97, 37, 50, 48, 98, 47, 37, 67, 51, 37, 65, 57] := by decide +kernel
theorem ex_b64 : b64 [97, 98] = [89, 87, 73, 61] := by decide +kernel
theorem ex_vld0 : vld [192, 128] = false := vld_bad (by decide) (by decide +kernel)
theorem ex_vld1 : vld [195, 169] = true := by
  rw [vld_step (by decide) (by decide +kernel), show runeL [195, 169] = 2 from by decide +kernel]
  exact vld_nil
theorem ex_low : lowL [65, 90] = [97, 122] := by decide +kernel
theorem ex_trim : trimL [32, 97, 9] = [97] := by decide +kernel

end Go.Proofs.YtnadnccmlbleoaaDoor
