/-
  The document's small functions of layer 11: controls, bytes of names, great letters.
-/
import Derived.Test.YtlfhhnjdfpgadaaGreatDoorG04
import Derived.Test.YtlfhhnjdfpgadaaGreatDoorG02
namespace Go.Proofs.YtlfhhnjdfpgadaaGreatDoor
open Go.RowKit

theorem upN_lt {n : Nat} (h : n < 256) : upN n < 256 := by unfold upN; split <;> omega
theorem upC_nat (c : UInt8) : (upC c).toNat = upN c.toNat := by
  have := upN_lt c.toNat_lt
  unfold upC
  rw [UInt8.toNat_ofNat']; omega
theorem upL_append (a b : List UInt8) : upL (a ++ b) = upL a ++ upL b := by simp [upL]
/-- The first k with great letters. -/
def upK (l : List UInt8) (k : Nat) : List UInt8 := upL (l.take k) ++ l.drop k
theorem upK_zero (l : List UInt8) : upK l 0 = l := by simp [upK, upL]
theorem upK_all {l : List UInt8} {k : Nat} (h : l.length ≤ k) : upK l k = upL l := by simp [upK, List.take_of_length_le h, List.drop_eq_nil_of_le h]
theorem upK_length (l : List UInt8) (k : Nat) : (upK l k).length = l.length := by simp [upK, upL]; omega
theorem upK_get {l : List UInt8} {k : Nat} : (upK l k).getD k 0 = l.getD k 0 := by
  unfold upK
  rw [List.getD_eq_getElem?_getD, List.getD_eq_getElem?_getD]
  by_cases hk : k < l.length
  · rw [List.getElem?_append_right (by simp [upL]; omega)]
    simp [upL, Nat.min_eq_left (Nat.le_of_lt hk)]
  · rw [List.getElem?_eq_none (by simp [upL]; omega), List.getElem?_eq_none (by omega)]
theorem upK_set {l : List UInt8} {k : Nat} (hk : k < l.length) : (upK l k).set k (upC (l.getD k 0)) = upK l (k + 1) := by
  unfold upK
  have e1 : (upL (l.take k)).length = k := by simp [upL]; omega
  rw [List.set_append_right k _ (by omega), e1, Nat.sub_self, List.drop_eq_getElem_cons hk, List.set_cons_zero, List.take_succ_eq_append_getElem hk, upL_append]
  simp [upL, List.getD_eq_getElem?_getD, hk]

theorem upK_keep {l : List UInt8} {k : Nat} (hk : k < l.length) (h : upC (l.getD k 0) = l.getD k 0) : upK l k = upK l (k + 1) := by
  rw [← upK_set hk, h, ← upK_get (l := l) (k := k)]
  have hk' : k < (upK l k).length := by rw [upK_length]; exact hk
  rw [List.getD_eq_getElem?_getD, List.getElem?_eq_getElem hk']
  simp
theorem upC_keep {x : UInt8} (h : ¬ (97 ≤ x.toNat ∧ x.toNat ≤ 122)) : upC x = x := by
  apply UInt8.toNat_inj.1
  rw [upC_nat]
  unfold upN
  rw [if_neg h]
theorem upC_turn {x : UInt8} (h : 97 ≤ x.toNat ∧ x.toNat ≤ 122) : (upC x).toNat = x.toNat - 32 := by
  rw [upC_nat]
  unfold upN
  rw [if_pos h]

set_option maxRecDepth 100000 in
set_option maxHeartbeats 2000000 in
theorem refUpper_any (s : ByteArray) (hs : s.size ≤ 16777216) (w : World) :
    Calls Tryz.prog 62 #[.string s] w fun e w' => e = .returned (.string ⟨(upL s.data.toList).toArray⟩) ∧ Below w.heap.size w w' := by
  have hcv := run_bytes_of_string (P := Tryz.prog) w 9 73 5 s Tryz.underlying9 Tryz.underlying73 Tryz.underlying5
  have hb0 := Byt.of_text w 5 s (grownCap w s.size 0 5)
  have hl0 := Byt.of_text_below w 5 s (grownCap w s.size 0 5)
  generalize hC : grownCap w s.size 0 5 = C at hcv hb0 hl0
  generalize w.drew.alloc (.cells (bytesRow s C) 5 ((bytesRow s C).size, (bytesRow s C).size + 1)) = w1 at hcv hb0 hl0
  generalize hg : w.heap.size = g at hcv hb0 hl0 ⊢
  have HG := Lib.hid hg; clear hg
  have hlen := Lib.hid (bsize s)
  have HB := Lib.hid hb0; have HL := Lib.hid hl0
  clear hb0 hl0 hC
  go_enter Tryz.func62, Tryz.ntmps62
  go_wp2
  clear hcv
  go_loopw [4] (fun p wr => ∃ k : Nat, p = .int .i64 k ∧ k ≤ s.size ∧ Hid (Byt wr g (upK s.data.toList k)) ∧ Hid (Below g w wr)) (fun p _ => s.size - (intOf p).toNat)
  case atStart => exact ⟨0, rfl, Nat.zero_le _, Lib.hid (by rw [upK_zero]; exact HB.out), HL⟩
  case round =>
    obtain ⟨k, rfl, hk, HB1, HL1⟩ := hrel
    by_cases hlt : k < s.size
    · have hce := HB1.out.cell k (by rw [upK_length, ← hlen.out]; exact hlt)
      have hfr := HB1.out.free k (by rw [upK_length, ← hlen.out]; exact hlt)
      rw [upK_get] at hce
      obtain ⟨x, hx⟩ : ∃ x, x = s.data.toList.getD k 0 := ⟨_, rfl⟩
      rw [← hx] at hce
      have HX := Lib.hid hx; clear hx
      have hxb := x.toNat_lt
      by_cases h1 : 97 ≤ x.toNat
      · by_cases h2 : x.toNat ≤ 122
        · go_wp2
          have HB2 := Lib.hid (HB1.out.set k (upC x))
          have HL2 := Lib.hid (HL1.out.setCell (p := ⟨g, k, none⟩) (Nat.le_refl _) (.int .u8 ((upC x).toNat : Int)))
          rw [HX.out, upK_set (by rw [← hlen.out]; exact hlt), ← HX.out, upC_turn ⟨h1, h2⟩] at HB2
          rw [upC_turn ⟨h1, h2⟩] at HL2
          rw [show ((x.toNat - 32 : Nat) : Int) = (x.toNat : Int) - 32 by omega] at HB2 HL2
          go_round
          case rel => exact ⟨k + 1, by go_num, by omega, HB2, HL2⟩
          case measure => simp [intOf]; omega
        · have HB2 : Hid (Byt wr g (upK s.data.toList (k + 1))) := Lib.hid (by rw [← upK_keep (by rw [← hlen.out]; exact hlt) (by rw [← HX.out]; exact upC_keep (by omega))]; exact HB1.out)
          go_wp2
          go_round
          case rel => exact ⟨k + 1, by go_num, by omega, HB2, HL1⟩
          case measure => simp [intOf]; omega
      · have HB2 : Hid (Byt wr g (upK s.data.toList (k + 1))) := Lib.hid (by rw [← upK_keep (by rw [← hlen.out]; exact hlt) (by rw [← HX.out]; exact upC_keep (by omega))]; exact HB1.out)
        go_wp2
        go_round
        case rel => exact ⟨k + 1, by go_num, by omega, HB2, HL1⟩
        case measure => simp [intOf]; omega
    · obtain rfl : k = s.size := by omega
      have hcv2 := HB1.out.conv (P := Tryz.prog) Tryz.underlying73 Tryz.underlying5 Tryz.underlying9 C s.size (by rw [upK_length, ← hlen.out])
      rw [upK_all (by rw [← hlen.out]; exact Nat.le_refl _)] at hcv2
      go_wp2
      go_ret
      exact ⟨rfl, HL1.out⟩


set_option maxHeartbeats 1000000 in
theorem refControl_any (n : Nat) (hn : n < 256) (w : World) :
    Calls Tryz.prog 85 #[.int .u8 n] w fun e w' => e = .returned (.bool (ctlN n)) ∧ w' = w := by
  by_cases h1 : n < 32 <;> by_cases h2 : n = 9 <;> by_cases h3 : n = 127
  all_goals first
    | (exfalso; omega)
    | (have e : Hid (ctlN n = true) := Lib.hid (by unfold ctlN; simp [h1, h2, h3])
       go_enter Tryz.func85, Tryz.ntmps85
       go_wp2
       go_ret
       exact ⟨by rw [e.out]; rfl, rfl⟩)
    | (have e : Hid (ctlN n = false) := Lib.hid (by unfold ctlN; simp [h1, h2, h3])
       have b3 : ((n : Int) == 127) = false := by rw [beq_eq_false_iff_ne]; omega
       go_enter Tryz.func85, Tryz.ntmps85
       go_wp2
       go_ret
       exact ⟨by rw [e.out]; rfl, rfl⟩)

set_option maxHeartbeats 1000000 in
theorem refNameByte_any (n : Nat) (hn : n < 256) (w : World) :
    Calls Tryz.prog 61 #[.int .u8 n] w fun e w' => e = .returned (.bool (nbN n)) ∧ w' = w := by
  have cl := fun W => refLetter_any n hn W
  have cd := fun W => refDigit_any n hn W
  have e : Hid (nbN n = (letN n || digN n || decide (n = 45))) := Lib.hid rfl
  generalize letN n = a at *
  generalize digN n = b at *
  cases hq : decide (n = 45)
  · have b3 : ((n : Int) == 45) = false := by rw [beq_eq_false_iff_ne]; have := of_decide_eq_false hq; omega
    rw [hq] at e
    clear hq
    cases a <;> cases b
    all_goals
    (go_enter Tryz.func61, Tryz.ntmps61
     go_wp2_with (first
       | (go_at_call 83; ((with_reducible refine (cl _).mono ?_); rintro e w' ⟨rfl, hw⟩; subst w'))
       | (go_at_call 84; ((with_reducible refine (cd _).mono ?_); rintro e w' ⟨rfl, hw⟩; subst w')))
     go_ret
     exact ⟨by rw [e.out]; rfl, rfl⟩)
  · have b3 : ((n : Int) == 45) = true := by rw [beq_iff_eq]; have := of_decide_eq_true hq; omega
    rw [hq] at e
    clear hq
    cases a <;> cases b
    all_goals
    (go_enter Tryz.func61, Tryz.ntmps61
     go_wp2_with (first
       | (go_at_call 83; ((with_reducible refine (cl _).mono ?_); rintro e w' ⟨rfl, hw⟩; subst w'))
       | (go_at_call 84; ((with_reducible refine (cd _).mono ?_); rintro e w' ⟨rfl, hw⟩; subst w')))
     go_ret
     exact ⟨by rw [e.out]; rfl, rfl⟩)

end Go.Proofs.YtlfhhnjdfpgadaaGreatDoor

/-
  Plain mathematics for layer 11 (line): a property as a line, and that line read.
-/
namespace Go.Proofs.YtlfhhnjdfpgadaaGreatDoor
open Go.RowKit

def hasSep (v : List UInt8) : Bool := v.any fun c => decide (c.toNat = 44) || decide (c.toNat = 59) || decide (c.toNat = 58)
/-- A value as it is written. -/
def quoteL (v : List UInt8) : List UInt8 := if hasSep v = true then 34 :: (v ++ [34]) else v
def moreL (vs : List (List UInt8)) : List UInt8 := vs.flatMap fun v => 44 :: quoteL v
def valsL : List (List UInt8) → List UInt8
  | [] => []
  | v :: vs => quoteL v ++ moreL vs
def parT (x : Par) : List UInt8 := 59 :: (x.name ++ 61 :: valsL x.vals)
def textL (p : Pro) : List UInt8 := p.name ++ (p.pars.flatMap parT ++ 58 :: p.value)
/-- A name in great letters. -/
def nameOk (n : List UInt8) : Prop := n.all nbC = true ∧ n ≠ [] ∧ n.length ≤ 64 ∧ upL n = n
def plainOk (v : List UInt8) : Prop := v.all qvC = true ∧ vld v = true
def valueOk (v : List UInt8) : Prop := v.all (fun c => !ctlN c.toNat) = true ∧ vld v = true
def parOk (x : Par) : Prop := nameOk x.name ∧ x.vals ≠ [] ∧ ∀ v ∈ x.vals, plainOk v
def proOk (p : Pro) : Prop := nameOk p.name ∧ p.pars.length ≤ 16 ∧ valueOk p.value ∧ (∀ x ∈ p.pars, parOk x) ∧ (textL p).length ≤ 1024

theorem tw_all {f : UInt8 → Bool} : ∀ {a : List UInt8} {b : List UInt8}, a.all f = true → (∀ c, b.head? = some c → f c = false) → (a ++ b).takeWhile f = a
  | [], [], _, _ => rfl
  | [], c :: b, _, h => by
    have := h c rfl
    simp [this]
  | x :: a, b, ha, h => by
    simp only [List.all_cons, Bool.and_eq_true] at ha
    simp [ha.1, tw_all ha.2 h]
theorem rdName_ok {n : List UInt8} (h : nameOk n) {c : UInt8} (r : List UInt8) (hc : nbC c = false) : rdName (n ++ c :: r) = .ok n (c :: r) := by
  obtain ⟨h1, h2, h3, h4⟩ := h
  have e : (n ++ c :: r).takeWhile nbC = n := tw_all h1 (fun x hx => by simp at hx; subst hx; exact hc)
  unfold rdName
  rw [e, if_neg (by omega), if_neg h2, h4]
  simp
theorem uv_of {v : List UInt8} (h : plainOk v) (hs : hasSep v = false) : v.all uvC = true := by
  rw [List.all_eq_true]
  intro c hc
  have h1 := List.all_eq_true.1 h.1 c hc
  unfold hasSep at hs
  rw [List.any_eq_false] at hs
  have h2 := hs c hc
  unfold uvC
  simp only [Bool.or_eq_true, decide_eq_true_eq, not_or] at h2
  simp [h1, h2]
theorem rdVal_ok {v : List UInt8} (h : plainOk v) {c : UInt8} (r : List UInt8) (hc : c.toNat = 44 ∨ c.toNat = 59 ∨ c.toNat = 58) : rdVal (quoteL v ++ c :: r) = .ok v (c :: r) := by
  have hu : uvC c = false := by unfold uvC; rcases hc with h | h | h <;> simp [h]
  have hc34 : c ≠ 34 := by intro e; subst e; rcases hc with h | h | h <;> exact absurd h (by decide)
  unfold quoteL
  cases hs : hasSep v
  · rw [if_neg (by decide)]
    have e : (v ++ c :: r).takeWhile uvC = v := tw_all (uv_of h hs) (fun x hx => by simp at hx; subst hx; exact hu)
    have hh : (v ++ c :: r).head? ≠ some 34 := by
      cases v with
      | nil => simpa using hc34
      | cons x v =>
        simp only [List.cons_append, List.head?_cons, ne_eq, Option.some.injEq]
        intro e
        have := h.1
        simp only [List.all_cons, Bool.and_eq_true] at this
        have h1 := this.1
        subst e
        exact absurd h1 (by decide)
    unfold rdVal
    rw [if_neg hh, e]
    simp
  · rw [if_pos rfl]
    have e0 : (34 :: (v ++ [34]) ++ c :: r) = 34 :: (v ++ 34 :: c :: r) := by simp
    have e : (v ++ 34 :: c :: r).takeWhile qvC = v := tw_all h.1 (fun x hx => by simp at hx; subst hx; decide)
    unfold rdVal
    rw [e0, if_pos (by rfl)]
    show rdQuoted (v ++ 34 :: c :: r) = _
    unfold rdQuoted
    rw [e, if_pos (by simp)]
    congr 1
    simp [List.drop_append]
theorem moreL_cons (v : List UInt8) (vs : List (List UInt8)) : moreL (v :: vs) = 44 :: (quoteL v ++ moreL vs) := by simp [moreL]
/-- What stands behind a value: a comma, or what stands behind them all. -/
theorem more_head (vs : List (List UInt8)) {c : UInt8} (r : List UInt8) (hc : c.toNat = 59 ∨ c.toNat = 58) : ∃ c' r', moreL vs ++ c :: r = c' :: r' ∧ (c'.toNat = 44 ∨ c'.toNat = 59 ∨ c'.toNat = 58) := by
  cases vs with
  | nil => exact ⟨c, r, rfl, .inr hc⟩
  | cons v vs => exact ⟨44, _, by rw [moreL_cons]; rfl, .inl rfl⟩
theorem rdMore_ok : ∀ (vs : List (List UInt8)) (f : Nat) (acc : List (List UInt8)) {c : UInt8} (r : List UInt8), (∀ v ∈ vs, plainOk v) → (c.toNat = 59 ∨ c.toNat = 58) → (moreL vs ++ c :: r).length ≤ f →
    rdMore f (moreL vs ++ c :: r) acc = .ok (acc ++ vs) (c :: r)
  | [], f, acc, c, r, _, hc, _ => by
    have hne : ¬ (c :: r).head? = some 44 := by
      simp only [List.head?_cons, Option.some.injEq]
      intro e; subst e
      rcases hc with h | h <;> exact absurd h (by decide)
    cases f with
    | zero => simp [rdMore, moreL]
    | succ f => simp only [moreL, List.flatMap_nil, List.nil_append, rdMore]; rw [if_neg hne]; simp
  | v :: vs, 0, acc, c, r, _, _, hf => by simp at hf
  | v :: vs, f + 1, acc, c, r, hv, hc, hf => by
    have e : moreL (v :: vs) ++ c :: r = 44 :: (quoteL v ++ (moreL vs ++ c :: r)) := by rw [moreL_cons]; simp
    rw [e] at hf ⊢
    obtain ⟨c', r', e', hc'⟩ := more_head vs r hc
    rw [rdMore, if_pos (by rfl)]
    show (match rdVal (quoteL v ++ (moreL vs ++ c :: r)) with | .ok v r => rdMore f r (acc ++ [v]) | .bad e => .bad e) = _
    rw [e', rdVal_ok (hv v (by simp)) r' hc', ← e']
    dsimp only
    rw [rdMore_ok vs f (acc ++ [v]) r (fun u hu => hv u (by simp [hu])) hc (by simp at hf ⊢; omega)]
    simp
theorem rdPar_ok {x : Par} (h : parOk x) {c : UInt8} (r : List UInt8) (hc : c.toNat = 59 ∨ c.toNat = 58) : rdPar (x.name ++ 61 :: (valsL x.vals ++ c :: r)) = .ok x (c :: r) := by
  obtain ⟨hn, hv, hp⟩ := h
  unfold rdPar
  rw [rdName_ok hn _ (by decide)]
  obtain ⟨n, vals⟩ := x
  cases vals with
  | nil => exact absurd rfl hv
  | cons v vs =>
    dsimp only
    rw [if_pos (by rfl)]
    obtain ⟨c', r', e', hc'⟩ := more_head vs r hc
    have e : (61 :: (valsL (v :: vs) ++ c :: r)).drop 1 = quoteL v ++ (moreL vs ++ c :: r) := by simp [valsL]
    rw [e, e', rdVal_ok (hp v (by simp)) r' hc', ← e']
    dsimp only
    rw [rdMore_ok vs _ [v] r (fun u hu => hp u (by simp [hu])) hc (Nat.le_refl _)]
    rfl
theorem pars_head (ps : List Par) (r : List UInt8) : ∃ c' r', ps.flatMap parT ++ 58 :: r = c' :: r' ∧ (c'.toNat = 59 ∨ c'.toNat = 58) := by
  cases ps with
  | nil => exact ⟨58, r, rfl, .inr rfl⟩
  | cons p ps => exact ⟨59, _, by simp only [List.flatMap_cons, parT]; rfl, .inl rfl⟩
theorem rdPars_ok : ∀ (ps : List Par) (f : Nat) (acc : List Par) (r : List UInt8), (∀ x ∈ ps, parOk x) → acc.length + ps.length ≤ 16 → (ps.flatMap parT ++ 58 :: r).length ≤ f → rdPars f (ps.flatMap parT ++ 58 :: r) acc = .ok (acc ++ ps) (58 :: r)
  | [], f, acc, r, _, _, _ => by
    have hne : ¬ ((58 : UInt8) :: r).head? = some 59 := by simp
    cases f with
    | zero => simp [rdPars]
    | succ f => simp only [List.flatMap_nil, List.nil_append, rdPars]; rw [if_neg hne]; simp
  | x :: ps, 0, acc, r, _, _, hf => by simp at hf
  | x :: ps, f + 1, acc, r, hx, hl, hf => by
    have e : (x :: ps).flatMap parT ++ 58 :: r = 59 :: (x.name ++ 61 :: (valsL x.vals ++ (ps.flatMap parT ++ 58 :: r))) := by
      simp [parT]
    rw [e] at hf ⊢
    obtain ⟨c', r', e', hc'⟩ := pars_head ps r
    rw [rdPars, if_pos (by rfl), if_neg (by simp at hl; omega)]
    show (match rdPar (x.name ++ 61 :: (valsL x.vals ++ (ps.flatMap parT ++ 58 :: r))) with | .bad e => Got.bad e | .ok p r => rdPars f r (acc ++ [p])) = _
    rw [e', rdPar_ok (hx x (by simp)) r' hc', ← e']
    dsimp only
    rw [rdPars_ok ps f (acc ++ [x]) r (fun y hy => hx y (by simp [hy])) (by simp at hl ⊢; omega) (by simp at hf ⊢; omega)]
    simp
theorem rdRest_ok {p : Pro} (h : proOk p) : rdRest (textL p) = .ok p [] := by
  obtain ⟨hn, hl, hv, hp, _⟩ := h
  obtain ⟨c', r', e', hc'⟩ := pars_head p.pars p.value
  have hnb : nbC c' = false := by
    unfold nbC nbN letN digN
    rcases hc' with h | h <;> rw [h] <;> decide
  unfold rdRest textL
  rw [e', rdName_ok hn r' hnb, ← e']
  dsimp only
  rw [rdPars_ok p.pars _ [] p.value hp (by simpa using hl) (Nat.le_refl _)]
  dsimp only
  rw [if_pos (by rfl)]
  show (if p.value.all (fun c => !ctlN c.toNat) = true then Got.ok (Pro.mk p.name ([] ++ p.pars) p.value) [] else Got.bad 10) = _
  rw [if_pos hv.1]
  rfl

theorem vld_ascii : ∀ (l : List UInt8), (∀ c ∈ l, c.toNat < 128) → vld l = true
  | [], _ => vld_nil
  | c :: l, h => by
    have h1 := vld_ascii l (fun x hx => h x (by simp [hx]))
    have hr : runeL (c :: l) = 1 := by
      unfold runeL
      rw [if_pos (by simpa [byt] using h c (by simp))]
    rw [vld_step (by simp) (by rw [hr]; decide), hr]
    exact h1
theorem vld_join {a b : List UInt8} (ha : vld a = true) (hb : vld b = true) : vld (a ++ b) = true := vld_app a.length a b (Nat.le_refl _) ha hb
theorem nb_ascii {c : UInt8} (h : nbC c = true) : c.toNat < 128 := by
  unfold nbC nbN letN digN at h
  simp only [Bool.or_eq_true, Bool.and_eq_true, decide_eq_true_eq] at h
  omega
theorem vld_name {n : List UInt8} (h : nameOk n) : vld n = true := vld_ascii n fun c hc => nb_ascii (List.all_eq_true.1 h.1 c hc)
theorem vld_cons {c : UInt8} {l : List UInt8} (hc : c.toNat < 128) (h : vld l = true) : vld (c :: l) = true := vld_join (a := [c]) (vld_ascii _ (by simpa using hc)) h
theorem vld_quote {v : List UInt8} (h : vld v = true) : vld (quoteL v) = true := by
  unfold quoteL
  split
  · exact vld_cons (by decide) (vld_join h (vld_ascii _ (by decide)))
  · exact h
theorem vld_more : ∀ (vs : List (List UInt8)), (∀ v ∈ vs, plainOk v) → vld (moreL vs) = true
  | [], _ => vld_nil
  | v :: vs, h => by
    rw [moreL_cons]
    exact vld_cons (by decide) (vld_join (vld_quote (h v (by simp)).2) (vld_more vs fun u hu => h u (by simp [hu])))
theorem vld_par {x : Par} (h : parOk x) : vld (parT x) = true := by
  obtain ⟨hn, hv, hp⟩ := h
  obtain ⟨n, vals⟩ := x
  refine vld_cons (by decide) (vld_join (vld_name hn) (vld_cons (by decide) ?_))
  cases vals with
  | nil => exact vld_nil
  | cons v vs => exact vld_join (vld_quote (hp v (by simp)).2) (vld_more vs fun u hu => hp u (by simp [hu]))
theorem vld_pars : ∀ (ps : List Par), (∀ x ∈ ps, parOk x) → vld (ps.flatMap parT) = true
  | [], _ => vld_nil
  | x :: ps, h => by
    rw [List.flatMap_cons]
    exact vld_join (vld_par (h x (by simp))) (vld_pars ps fun y hy => h y (by simp [hy]))
/-- What is written is read as it was. -/
theorem parse_print {p : Pro} (h : proOk p) : parL (textL p) = (p, 0) := by
  have hv : vld (textL p) = true := vld_join (vld_name h.1) (vld_join (vld_pars _ h.2.2.2.1) (vld_cons (by decide) h.2.2.1.2))
  unfold parL
  rw [if_neg (by have := h.2.2.2.2; omega), if_pos hv, rdRest_ok h]

end Go.Proofs.YtlfhhnjdfpgadaaGreatDoor

/-
  The document's own answers of layer 11: names, and values as they may be.
-/
namespace Go.Proofs.YtlfhhnjdfpgadaaGreatDoor
open Go.RowKit

/-- A name in great letters, told. -/
def nameB (l : List UInt8) : Bool := l.all nbC && (decide (l ≠ []) && (decide (l.length ≤ 64) && decide (upL l = l)))
def pvC (q : Bool) (c : UInt8) : Bool := !ctlN c.toNat && (q || !decide (c.toNat = 34))
/-- A value's bytes, told; q: a " may be there. -/
def plainB (l : List UInt8) (q : Bool) : Bool := l.all (pvC q) && vld l
theorem nameB_iff (l : List UInt8) : nameB l = true ↔ nameOk l := by
  unfold nameB nameOk
  simp [Bool.and_eq_true]
theorem plainB_iff (l : List UInt8) : plainB l false = true ↔ plainOk l := by
  unfold plainB plainOk
  have e : (pvC false : UInt8 → Bool) = qvC := by
    funext c; unfold pvC qvC
    simp [Bool.and_comm]
  rw [Bool.and_eq_true, e]
theorem valueB_iff (l : List UInt8) : plainB l true = true ↔ valueOk l := by
  unfold plainB valueOk
  have e : (pvC true : UInt8 → Bool) = fun c => !ctlN c.toNat := by
    funext c; unfold pvC; simp
  rw [Bool.and_eq_true, e]
theorem all_drop {f : UInt8 → Bool} {s : ByteArray} {k : Nat} (hk : k < s.size) : (s.data.toList.drop k).all f = (f s[k] && (s.data.toList.drop (k + 1)).all f) := by
  have h' : k < s.data.toList.length := by rw [← bsize]; exact hk
  rw [List.drop_eq_getElem_cons h', List.all_cons]
  rfl
theorem strEqL (a b : ByteArray) : (a.toList == b.toList) = decide (a.data.toList = b.data.toList) := by
  rw [ByteArray.toList_eq, ByteArray.toList_eq]
  by_cases h : a.data.toList = b.data.toList
  · rw [h]; simp
  · rw [decide_eq_false h]; simpa using h
theorem list_mk (l : List UInt8) : (⟨l.toArray⟩ : ByteArray).data.toList = l := by simp

set_option maxRecDepth 100000 in
set_option maxHeartbeats 4000000 in
theorem refNameOf_any (s : ByteArray) (hs : s.size ≤ 16777216) (w : World) :
    Calls Tryz.prog 40 #[.string s] w fun e w' => e = .returned (.bool (nameB s.data.toList)) ∧ Below w.heap.size w w' := by
  have E0 := Lib.hid (show nameB s.data.toList = (s.data.toList.all nbC && (decide (s.data.toList ≠ []) && (decide (s.data.toList.length ≤ 64) && decide (upL s.data.toList = s.data.toList)))) from rfl)
  have HS := Lib.hid (bsize s)
  go_enter Tryz.func40, Tryz.ntmps40
  go_wp2
  go_loopw [3] (fun p wr => ∃ k : Nat, p = .int .i64 k ∧ k ≤ s.size ∧ wr = w ∧ Hid (s.data.toList.all nbC = (s.data.toList.drop k).all nbC)) (fun p _ => s.size - (intOf p).toNat)
  case atStart => exact ⟨0, rfl, Nat.zero_le _, rfl, Lib.hid rfl⟩
  case round =>
    obtain ⟨k, rfl, hk, rfl, HA⟩ := hrel
    by_cases hlt : k < s.size
    · have hcb := s[k].toNat_lt
      have cc := fun W => refNameByte_any s[k].toNat hcb W
      have ha := all_drop (f := nbC) hlt
      cases hb : nbN s[k].toNat
      · rw [hb] at cc
        have E : Hid (nameB s.data.toList = false) := Lib.hid (by rw [E0.out, HA.out, ha]; show (nbN s[k].toNat && _ && _) = false; rw [hb]; rfl)
        clear ha hb
        go_wp2_with (go_at_call 61; ((with_reducible refine (cc _).mono ?_); rintro e w' ⟨rfl, hw⟩; subst w'))
        go_ret
        exact ⟨by rw [E.out]; rfl, Below.refl _ _⟩
      · rw [hb] at cc
        have HA2 : Hid (s.data.toList.all nbC = (s.data.toList.drop (k + 1)).all nbC) := Lib.hid (by rw [HA.out, ha]; show (nbN s[k].toNat && _) = _; rw [hb]; rfl)
        clear ha hb
        go_wp2_with (go_at_call 61; ((with_reducible refine (cc _).mono ?_); rintro e w' ⟨rfl, hw⟩; subst w'))
        go_round
        case rel => exact ⟨k + 1, by go_num, by omega, by first | rfl | trivial, HA2⟩
        case measure => simp [intOf]; omega
    · obtain rfl : k = s.size := by omega
      have hall : s.data.toList.all nbC = true := by rw [HA.out, List.drop_eq_nil_of_le (by rw [← HS.out]; exact Nat.le_refl _)]; rfl
      rw [hall, Bool.true_and] at E0
      clear hall HA
      have hne := strEqL s ⟨#[]⟩
      by_cases h0 : s.data.toList = []
      · have E : Hid (nameB s.data.toList = false) := Lib.hid (by rw [E0.out, decide_eq_false (by simpa using h0)]; rfl)
        rw [decide_eq_true (by rw [h0])] at hne
        have hn2 : (s.toList != (⟨#[]⟩ : ByteArray).toList) = false := by unfold bne; rw [hne]; rfl
        obtain rfl : s = ⟨#[]⟩ := by rw [← mk_toList s, h0]
        clear h0
        go_wp2
        go_ret
        exact ⟨by rw [E.out]; rfl, Below.refl _ _⟩
      · rw [decide_eq_false h0] at hne
        have hn0 : (s.toList == []) = false := by rw [beq_eq_false_iff_ne, ByteArray.toList_eq]; exact h0
        have hn2 : (s.toList != []) = true := by unfold bne; rw [hn0]; rfl
        clear hne
        rw [decide_eq_true (show s.data.toList ≠ [] from h0), Bool.true_and, ← HS.out] at E0
        clear h0
        by_cases h64 : s.size ≤ 64
        · rw [decide_eq_true h64, Bool.true_and] at E0
          have cu := fun W => refUpper_any s hs W
          have he := strEqL ⟨(upL s.data.toList).toArray⟩ s
          rw [list_mk] at he
          generalize decide (upL s.data.toList = s.data.toList) = b at *
          generalize (⟨(upL s.data.toList).toArray⟩ : ByteArray) = u at *
          go_wp2_with (go_at_call 62; ((with_reducible refine (cu _).mono ?_); rintro e w1 ⟨rfl, hb1⟩))
          go_ret
          exact ⟨by rw [E0.out]; rfl, hb1⟩
        · have E : Hid (nameB s.data.toList = false) := Lib.hid (by rw [E0.out, decide_eq_false h64]; rfl)
          have h64b : decide ((s.size : Int) ≤ 64) = false := decide_eq_false (by omega)
          go_wp2
          go_ret
          exact ⟨by rw [E.out]; rfl, Below.refl _ _⟩

set_option maxRecDepth 100000 in
set_option maxHeartbeats 4000000 in
theorem refPlain_any (s : ByteArray) (hs : s.size ≤ 16777216) (q : Bool) (w : World) :
    Calls Tryz.prog 63 #[.string s, .bool q] w fun e w' => e = .returned (.bool (plainB s.data.toList q)) ∧ w' = w := by
  have E0 := Lib.hid (show plainB s.data.toList q = (s.data.toList.all (pvC q) && vld s.data.toList) from rfl)
  have HS := Lib.hid (bsize s)
  have cv := fun W => refValid_any s hs W
  go_enter Tryz.func63, Tryz.ntmps63
  go_wp2
  go_loopw [5] (fun p wr => ∃ k : Nat, p = .int .i64 k ∧ k ≤ s.size ∧ wr = w ∧ Hid (s.data.toList.all (pvC q) = (s.data.toList.drop k).all (pvC q))) (fun p _ => s.size - (intOf p).toNat)
  case atStart => exact ⟨0, rfl, Nat.zero_le _, rfl, Lib.hid rfl⟩
  case round =>
    obtain ⟨k, rfl, hk, rfl, HA⟩ := hrel
    by_cases hlt : k < s.size
    · have hcb := s[k].toNat_lt
      have cc := fun W => refControl_any s[k].toNat hcb W
      have ha := all_drop (f := pvC q) hlt
      have HP := Lib.hid (show pvC q s[k] = (!ctlN s[k].toNat && (q || !decide (s[k].toNat = 34))) from rfl)
      clear cv
      cases hb : ctlN s[k].toNat
      · rw [hb] at cc HP
        cases q
        · by_cases h34 : s[k].toNat = 34
          · have E : Hid (plainB s.data.toList false = false) := Lib.hid (by rw [E0.out, HA.out, ha, HP.out, decide_eq_true h34]; rfl)
            have m34 : ((s[k].toNat : Int) == 34) = true := by rw [beq_iff_eq]; omega
            clear ha hb h34
            go_wp2_with (go_at_call 85; ((with_reducible refine (cc _).mono ?_); rintro e w' ⟨rfl, hw⟩; subst w'))
            go_ret
            exact ⟨by rw [E.out]; rfl, rfl⟩
          · have m34 : ((s[k].toNat : Int) == 34) = false := by rw [beq_eq_false_iff_ne]; omega
            have HA2 : Hid (s.data.toList.all (pvC false) = (s.data.toList.drop (k + 1)).all (pvC false)) := Lib.hid (by rw [HA.out, ha, HP.out, decide_eq_false h34]; rfl)
            clear ha hb h34
            go_wp2_with (go_at_call 85; ((with_reducible refine (cc _).mono ?_); rintro e w' ⟨rfl, hw⟩; subst w'))
            go_round
            case rel => exact ⟨k + 1, by go_num, by omega, by first | rfl | trivial, HA2⟩
            case measure => simp [intOf]; omega
        · have HA2 : Hid (s.data.toList.all (pvC true) = (s.data.toList.drop (k + 1)).all (pvC true)) := Lib.hid (by rw [HA.out, ha, HP.out]; rfl)
          clear ha hb
          go_wp2_with (go_at_call 85; ((with_reducible refine (cc _).mono ?_); rintro e w' ⟨rfl, hw⟩; subst w'))
          go_round
          case rel => exact ⟨k + 1, by go_num, by omega, by first | rfl | trivial, HA2⟩
          case measure => simp [intOf]; omega
      · rw [hb] at cc HP
        have E : Hid (plainB s.data.toList q = false) := Lib.hid (by rw [E0.out, HA.out, ha, HP.out]; rfl)
        clear ha hb
        go_wp2_with (go_at_call 85; ((with_reducible refine (cc _).mono ?_); rintro e w' ⟨rfl, hw⟩; subst w'))
        go_ret
        exact ⟨by rw [E.out]; rfl, rfl⟩
    · obtain rfl : k = s.size := by omega
      have hall : s.data.toList.all (pvC q) = true := by rw [HA.out, List.drop_eq_nil_of_le (by rw [← HS.out]; exact Nat.le_refl _)]; rfl
      rw [hall, Bool.true_and] at E0
      clear hall HA
      generalize vld s.data.toList = b at *
      go_wp2_with (go_at_call 86; ((with_reducible refine (cv _).mono ?_); rintro e w' ⟨rfl, hw⟩; subst w'))
      go_ret
      exact ⟨by rw [E0.out]; rfl, rfl⟩

end Go.Proofs.YtlfhhnjdfpgadaaGreatDoor

/-
  The document's own answers of layer 11: a parameter's first value.
-/
namespace Go.Proofs.YtlfhhnjdfpgadaaGreatDoor
open Go.RowKit

/-- The block g is a property's variable. -/
def P3 (w : World) (g : Nat) (nm vl : ByteArray) (L : Option Addr) (n c : Nat) : Prop := w.heap[g]? = some (.cells #[.string nm, .slice L n c, .string vl] 30 (0, 0))
section
variable {w w' : World} {g n c : Nat} {nm vl : ByteArray} {L : Option Addr}
theorem P3.lt (h : P3 w g nm vl L n c) : g < w.heap.size := by
  rcases Nat.lt_or_ge g w.heap.size with hlt | hge
  · exact hlt
  · unfold P3 at h; rw [Array.getElem?_eq_none hge] at h; cases h
theorem P3.cells (h : P3 w g nm vl L n c) : w.cell? ⟨g, 0, none⟩ = some (.string nm) ∧ w.cell? ⟨g, 1, none⟩ = some (.slice L n c) ∧ w.cell? ⟨g, 2, none⟩ = some (.string vl) := by
  unfold P3 at h
  exact ⟨by simp [World.cell?, h], by simp [World.cell?, h], by simp [World.cell?, h]⟩
theorem P3.new (w : World) (nm vl : ByteArray) (L : Option Addr) (n c : Nat) : P3 (w.alloc (.cells #[.string nm, .slice L n c, .string vl] 30)) w.heap.size nm vl L n c := heap_alloc_new w _
theorem P3.step (h : P3 w g nm vl L n c) (hb : Below w.heap.size w w') : P3 w' g nm vl L n c := (hb.block g h.lt).trans h
end
/-- A property as it reads: its variable, its parameters, their values. -/
structure PA (w : World) (g : Nat) (nm vl : ByteArray) (L : Option Addr) (n c : Nat) (l : List PR) : Prop where
  bx : P3 w g nm vl L n c
  rd : Reads w w.heap.size 2 L n (encP l)
  vs : ∀ r ∈ l, POk w w.heap.size r
  le : n ≤ c
  cap : c ≤ maxLen
section
variable {w w' : World} {g n c : Nat} {nm vl : ByteArray} {L : Option Addr} {l : List PR}
theorem POk.step {r : PR} (h : POk w w.heap.size r) (hb : Below w.heap.size w w') : POk w' w'.heap.size r := ⟨h.rd.step hb, h.le, h.cap⟩
theorem PA.step (h : PA w g nm vl L n c l) (hb : Below w.heap.size w w') : PA w' g nm vl L n c l := ⟨h.bx.step hb, h.rd.step hb, fun r hr => (h.vs r hr).step hb, h.le, h.cap⟩
theorem PA.new (hR : Reads w w.heap.size 2 L n (encP l)) (hP : ∀ r ∈ l, POk w w.heap.size r) (hn : n ≤ c) (hc : c ≤ maxLen) (nm vl : ByteArray) : PA (w.alloc (.cells #[.string nm, .slice L n c, .string vl] 30)) w.heap.size nm vl L n c l :=
  have hb : Below w.heap.size w (w.alloc (.cells #[.string nm, .slice L n c, .string vl] 30)) := (Below.refl _ w).alloc (Nat.le_refl _) _
  ⟨P3.new w nm vl L n c, hR.step hb, fun r hr => (hP r hr).step hb, hn, hc⟩
theorem PA.len (h : PA w g nm vl L n c l) : l.length = n := by
  have := h.rd.1
  rw [encP_length] at this
  omega
/-- The place of a parameter. -/
theorem PA.at (h : PA w g nm vl L n c l) {i : Nat} {r : PR} (hr : l[i]? = some r) :
    ∃ b o, L = some ⟨b, o, none⟩ ∧ w.cell? ⟨b, o + i * 2, none⟩ = some (.string r.name) ∧ w.cell? ⟨b, o + i * 2 + 1, none⟩ = some (.slice r.K r.k r.kc) := by
  obtain ⟨b, o, e, _, c0, c1⟩ := h.rd.par hr
  exact ⟨b, o, e, c0, c1⟩
/-- The place of a parameter's value. -/
theorem POk.at {B : Nat} {r : PR} (h : POk w B r) {j : Nat} {v : ByteArray} (hv : r.vs[j]? = some v) : ∃ b o, r.K = some ⟨b, o, none⟩ ∧ w.cell? ⟨b, o + j, none⟩ = some (.string v) := by
  have hl := h.rd.1
  rw [encS_length] at hl
  have hj := (List.getElem?_eq_some_iff.1 hv).1
  obtain ⟨b, o, e, _, hc⟩ := h.rd.2 (by omega)
  refine ⟨b, o, e, hc j _ ?_⟩
  unfold encS
  rw [List.getElem?_map, hv]; rfl
theorem POk.len {B : Nat} {r : PR} (h : POk w B r) : r.vs.length = r.k := by
  have := h.rd.1
  rw [encS_length] at this
  omega
end
/-- What Param tells. -/
def prmV : List PR → ByteArray → ByteArray × Bool
  | [], _ => (⟨#[]⟩, false)
  | r :: l, nm => if r.name.data.toList = nm.data.toList then (match r.vs with | [] => (⟨#[]⟩, false) | v :: _ => (v, true)) else prmV l nm
theorem prm_step {l : List PR} {i : Nat} {r : PR} (hr : l[i]? = some r) (nm : ByteArray) : prmV (l.drop i) nm = if r.name.data.toList = nm.data.toList then (match r.vs with | [] => (⟨#[]⟩, false) | v :: _ => (v, true)) else prmV (l.drop (i + 1)) nm := by
  obtain ⟨hi, e⟩ := List.getElem?_eq_some_iff.1 hr
  rw [List.drop_eq_getElem_cons hi, prmV, e]

end Go.Proofs.YtlfhhnjdfpgadaaGreatDoor

/-
  A component's variable in memory.
-/
namespace Go.Proofs.YtlfhhnjdfpgadaaGreatDoor
open Go.RowKit

/-- The block g is a component's variable. -/
def C3 (w : World) (g : Nat) (nm : ByteArray) (A : Option Addr) (n c : Nat) (K : Option Addr) (k kc : Nat) : Prop := w.heap[g]? = some (.cells #[.string nm, .slice A n c, .slice K k kc] 25 (0, 0))
section
variable {w w' : World} {g n c k kc : Nat} {nm : ByteArray} {A K : Option Addr}
theorem C3.lt (h : C3 w g nm A n c K k kc) : g < w.heap.size := by
  rcases Nat.lt_or_ge g w.heap.size with hlt | hge
  · exact hlt
  · unfold C3 at h; rw [Array.getElem?_eq_none hge] at h; cases h
theorem C3.cells (h : C3 w g nm A n c K k kc) : w.cell? ⟨g, 0, none⟩ = some (.string nm) ∧ w.cell? ⟨g, 1, none⟩ = some (.slice A n c) ∧ w.cell? ⟨g, 2, none⟩ = some (.slice K k kc) := by
  unfold C3 at h
  exact ⟨by simp [World.cell?, h], by simp [World.cell?, h], by simp [World.cell?, h]⟩
theorem C3.frozen (h : C3 w g nm A n c K k kc) (o : Nat) : w.frozen? ⟨g, o, none⟩ = false := by
  unfold C3 at h
  simp [World.frozen?, h]
theorem C3.new (w : World) (nm : ByteArray) (A : Option Addr) (n c : Nat) (K : Option Addr) (k kc : Nat) : C3 (w.alloc (.cells #[.string nm, .slice A n c, .slice K k kc] 25)) w.heap.size nm A n c K k kc := heap_alloc_new w _
theorem C3.step (h : C3 w g nm A n c K k kc) (hb : Below w.heap.size w w') : C3 w' g nm A n c K k kc := (hb.block g h.lt).trans h
end
/-- A component as it reads: its variable, its properties, its components. -/
structure CA (w : World) (g : Nat) (nm : ByteArray) (A : Option Addr) (n c : Nat) (qs : List QR) (K : Option Addr) (k kc : Nat) (cs : List CR) : Prop where
  bx : C3 w g nm A n c K k kc
  ok : COk w w.heap.size (.mk nm A n c qs K k kc cs)
section
variable {w w' : World} {g n c k kc : Nat} {nm : ByteArray} {A K : Option Addr} {qs : List QR} {cs : List CR}
theorem COk.rq {B : Nat} (h : COk w B (.mk nm A n c qs K k kc cs)) : Reads w B 3 A n (enc3 fQ qs) := by cases h; assumption
theorem COk.vq {B : Nat} (h : COk w B (.mk nm A n c qs K k kc cs)) : ∀ q ∈ qs, QOk w B q := by cases h; assumption
theorem COk.nle {B : Nat} (h : COk w B (.mk nm A n c qs K k kc cs)) : n ≤ c ∧ c ≤ maxLen := by cases h; exact ⟨by assumption, by assumption⟩
theorem COk.rc {B : Nat} (h : COk w B (.mk nm A n c qs K k kc cs)) : Reads w B 3 K k (enc3 fC cs) := by cases h; assumption
theorem COk.vc {B : Nat} (h : COk w B (.mk nm A n c qs K k kc cs)) : ∀ x ∈ cs, COk w B x := by cases h; assumption
theorem COk.kle {B : Nat} (h : COk w B (.mk nm A n c qs K k kc cs)) : k ≤ kc ∧ kc ≤ maxLen := by cases h; exact ⟨by assumption, by assumption⟩
theorem CA.step (h : CA w g nm A n c qs K k kc cs) (hb : Below w.heap.size w w') : CA w' g nm A n c qs K k kc cs := ⟨h.bx.step hb, h.ok.step hb⟩
theorem CA.new (h : COk w w.heap.size (.mk nm A n c qs K k kc cs)) : CA (w.alloc (.cells #[.string nm, .slice A n c, .slice K k kc] 25)) w.heap.size nm A n c qs K k kc cs :=
  ⟨C3.new w nm A n c K k kc, h.step ((Below.refl _ w).alloc (Nat.le_refl _) _)⟩
/-- The place of a property. -/
theorem CA.atQ (h : CA w g nm A n c qs K k kc cs) {i : Nat} {q : QR} (hq : qs[i]? = some q) :
    ∃ b o, A = some ⟨b, o, none⟩ ∧ w.cell? ⟨b, o + i * 3, none⟩ = some (.string q.name) ∧ w.cell? ⟨b, o + i * 3 + 1, none⟩ = some (.slice q.L q.n q.c) ∧ w.cell? ⟨b, o + i * 3 + 2, none⟩ = some (.string q.vl) := by
  obtain ⟨b, o, e, _, h0, h1, h2⟩ := h.ok.rq.tri hq
  exact ⟨b, o, e, h0, h1, h2⟩
/-- The place of a component. -/
theorem CA.atC (h : CA w g nm A n c qs K k kc cs) {i : Nat} {x : CR} (hx : cs[i]? = some x) :
    ∃ b o, K = some ⟨b, o, none⟩ ∧ w.cell? ⟨b, o + i * 3, none⟩ = some (fC x).1 ∧ w.cell? ⟨b, o + i * 3 + 1, none⟩ = some (fC x).2.1 ∧ w.cell? ⟨b, o + i * 3 + 2, none⟩ = some (fC x).2.2 := by
  obtain ⟨b, o, e, _, h0, h1, h2⟩ := h.ok.rc.tri hx
  exact ⟨b, o, e, h0, h1, h2⟩
end
theorem csize_mem {x : CR} : ∀ {cs : List CR}, x ∈ cs → csize x ≤ csizes cs
  | [], h => by cases h
  | y :: cs, h => by
    rw [csizes]
    rcases List.mem_cons.1 h with e | e
    · subst e; omega
    · have := csize_mem e; omega

end Go.Proofs.YtlfhhnjdfpgadaaGreatDoor
