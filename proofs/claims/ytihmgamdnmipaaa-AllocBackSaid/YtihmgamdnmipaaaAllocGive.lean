/-
  Blocks given back: as the document tells it, and as the program does.
-/
import Derived.Test.YtihmgamdnmipaaaAllocRefE
import Derived.Deep.QuietTactic
namespace Go.Proofs.Ytihmgamdnmipaaa
open Go.RowKit

def encI (l : List Int) : List Value := l.map (Value.int .i64)
theorem encI_length (l : List Int) : (encI l).length = l.length := by simp [encI]
theorem encI_nat (l : List Nat) : encI (l.map fun k : Nat => (k : Int)) = encN l := by simp [encI, encN]
theorem encI_get {l : List Int} {k : Nat} (hk : k < l.length) : (encI l)[k]? = some (.int .i64 (l.getD k 0)) := by simp [encI, hk]
theorem Reads.lenI {w : World} {B n : Nat} {A : Option Addr} {l : List Int} (h : Reads w B 1 A n (encI l)) : l.length = n := by have := h.1; rw [encI_length] at this; omega
theorem Reads.int {w : World} {B n : Nat} {A : Option Addr} {l : List Int} (h : Reads w B 1 A n (encI l)) {k : Nat} (hk : k < n) : ∃ b o, A = some ⟨b, o, none⟩ ∧ b < B ∧ w.cell? ⟨b, o + k, none⟩ = some (.int .i64 (l.getD k 0)) := by
  obtain ⟨b, o, e, hb, hc⟩ := h.2 (by omega)
  exact ⟨b, o, e, hb, hc k _ (encI_get (by rw [h.lenI]; exact hk))⟩
theorem int_get {l : List Int} {k : Nat} (hk : k < l.length) : l[k]? = some (l.getD k 0) := by simp [hk]
theorem int_mem {l : List Int} {k : Nat} (hk : k < l.length) : l.getD k 0 ∈ l := List.mem_of_getElem? (int_get hk)
theorem int_take {l : List Int} {k : Nat} (hk : k < l.length) : l.take (k + 1) = l.take k ++ [l.getD k 0] := by
  rw [List.take_add_one, int_get hk]; rfl
theorem gave_app : ∀ (a b : List Int) (c : List ByteArray), gaveA c (a ++ b) = (gaveA c a).bind fun c => gaveA c b
  | [], b, c => rfl
  | x :: a, b, c => by
    rw [List.cons_append, gaveA, gaveA]
    by_cases h : bitA (blk c 1) x.toNat = true
    · rw [if_pos h, if_pos h, gave_app a b]
    · rw [if_neg h, if_neg h]; rfl
theorem gave_yes {img c : List ByteArray} {l : List Int} {i : Nat} (h : gaveA img (l.take i) = some c) (hi : i < l.length) (hb : bitA (blk c 1) (l.getD i 0).toNat = true) : gaveA img (l.take (i + 1)) = some (turn1A c (l.getD i 0).toNat) := by
  rw [int_take hi, gave_app, h]
  show gaveA c [l.getD i 0] = _
  rw [gaveA, if_pos hb]; rfl
theorem gave_no {img c : List ByteArray} {l : List Int} {i : Nat} (h : gaveA img (l.take i) = some c) (hi : i < l.length) (hb : bitA (blk c 1) (l.getD i 0).toNat = false) : gaveA img l = none := by
  rw [← List.take_append_drop (i + 1) l, gave_app, int_take hi, gave_app, h]
  show ((gaveA c [l.getD i 0]).bind _) = none
  rw [gaveA, if_neg (by rw [hb]; decide)]; rfl
theorem gave_MapP : ∀ (l : List Int) {img c : List ByteArray}, MapP img → gaveA img l = some c → MapP c ∧ c.length = img.length
  | [], img, c, hm, h => by rw [gaveA] at h; injection h with h; subst h; exact ⟨hm, rfl⟩
  | x :: l, img, c, hm, h => by
    rw [gaveA] at h
    by_cases hb : bitA (blk img 1) x.toNat = true
    · rw [if_pos hb] at h
      have := gave_MapP l (turn1_MapP hm _) h
      exact ⟨this.1, by rw [this.2, turn1_length]⟩
    · rw [if_neg hb] at h; cases h
theorem giveA_out {img : List ByteArray} {l : List Int} {x : Int} (hx : x ∈ l) (ho : outA img x) : giveA img l = (img, 15) := by unfold giveA; rw [if_pos ⟨x, hx, ho⟩]
theorem giveA_in {img : List ByteArray} {l : List Int} (h : ∀ x ∈ l, ¬ outA img x) : giveA img l = match gaveA img l with | none => (img, 20) | some c => (c, 0) := by
  unfold giveA; rw [if_neg (fun ⟨x, hx, ho⟩ => h x hx ho)]; rfl

set_option maxRecDepth 100000 in
set_option maxHeartbeats 4000000 in
theorem refGive_any (A B : Option Addr) (n c m cm : Nat) (img : List ByteArray) (l : List Int) (w : World) (h : Reads w w.heap.size 1 A n (encS img)) (hf : MapP img) (hB : Reads w w.heap.size 1 B m (encI l)) (hm : m ≤ 17592186044416) :
    Calls Try.prog 20 #[.slice A n c, .slice B m cm] w fun e w' => ImgsA w w' (giveA img l).1 (giveA img l).2 e := by
  have hl := h.lenS
  have hlm := hB.lenI
  have h8 : 8 ≤ n := by have := hf.1; omega
  have h5 : n ≤ 512 := by have := hf.1; omega
  obtain ⟨F, hF⟩ : ∃ F, F = firstA n := ⟨_, rfl⟩
  have cf := fun A c W => refFirst_any A n c (by unfold maxLen; omega) W
  have co := fun W hW => refOwn_any A n c img W hW (by omega)
  rw [← hF] at cf
  have HO : Hid (∀ x, outA img x ↔ (x < (F : Int) ∨ (n : Int) ≤ x)) := Lib.hid (fun x => by unfold outA; rw [hl, hF])
  have hF34 : F ≤ 34 := by have := first_le h8 h5; omega
  have HL := Lib.hid (And.intro hl hlm)
  have HM := Lib.hid hf
  have H := Lib.hid (And.intro h hB)
  have ct := fun (A : Option Addr) (c : Nat) (ci : List ByteArray) (i : Int) W hW hc => refTaken_any A n c ci i W hW hc
  clear h hB hl hlm hF hf
  go_enter Try.func20, Try.ntmps20
  go_wp2
  go_loopg [6] m (fun gk s6 wr => ∃ i : Nat, i ≤ m ∧ m - i ≤ gk ∧ s6 = .int .i64 i ∧ Hid (Below w.heap.size w wr) ∧ Hid (∀ k, k < i → ¬ outA img (l.getD k 0)))
  case atStart => exact ⟨0, Nat.zero_le _, by omega, rfl, Lib.hid (Below.refl _ _), Lib.hid fun k hk => absurd hk (Nat.not_lt_zero _)⟩
  case round =>
    obtain ⟨i, hi, hgk, rfl, B0, J⟩ := hrel
    by_cases hlt : i < m
    · have hil : (i : Int) < (m : Int) := by omega
      obtain ⟨b, o, rfl, hbb, g0⟩ := H.out.2.int hlt
      have g1 := (B0.out.cell (p := ⟨b, o + i, none⟩) hbb).trans g0
      clear g0 hbb
      have HLX : Hid (i < l.length) := Lib.hid (by rw [HL.out.2]; exact hlt)
      obtain ⟨x, hx⟩ : ∃ x, x = l.getD i 0 := ⟨_, rfl⟩
      rw [← hx] at g1
      have HX := Lib.hid hx
      clear hx
      by_cases d1 : x < (F : Int)
      · have d1d : decide (x < (F : Int)) = true := decide_eq_true d1
        have HE := Lib.hid (giveA_out (img := img) (l := l) (x := x) (by rw [HX.out]; exact int_mem HLX.out) ((HO.out x).2 (.inl d1)))
        go_wp2
        go_quiet ((go_at_call 27; refine Calls.quiet_of_same ((cf _ _ _).mono fun e w' h => ⟨h.1, h.2.symm⟩)))
        go_wp2_with fail
        refine (co _ (H.out.1.step (below_drewN B0.out nq))).mono ?_
        rintro e w1 ⟨A1, c1, rfl, ho1, hb1⟩
        have HR := Lib.hid (And.intro (Reads.of_own ho1) (bstep (below_drewN B0.out nq) hb1))
        clear ho1 hb1
        go_wp2
        go_ret2
        rw [HE.out]
        exact ⟨A1, n, c1, rfl, HR.out.1, h5, HR.out.2⟩
      · have d1d : decide (x < (F : Int)) = false := decide_eq_false d1
        by_cases d2 : (n : Int) ≤ x
        · have d2d : decide ((n : Int) ≤ x) = true := decide_eq_true d2
          have HE := Lib.hid (giveA_out (img := img) (l := l) (x := x) (by rw [HX.out]; exact int_mem HLX.out) ((HO.out x).2 (.inr d2)))
          go_wp2
          go_quiet ((go_at_call 27; refine Calls.quiet_of_same ((cf _ _ _).mono fun e w' h => ⟨h.1, h.2.symm⟩)))
          go_wp2_with fail
          refine (co _ (H.out.1.step (below_drewN B0.out nq))).mono ?_
          rintro e w1 ⟨A1, c1, rfl, ho1, hb1⟩
          have HR := Lib.hid (And.intro (Reads.of_own ho1) (bstep (below_drewN B0.out nq) hb1))
          clear ho1 hb1
          go_wp2
          go_ret2
          rw [HE.out]
          exact ⟨A1, n, c1, rfl, HR.out.1, h5, HR.out.2⟩
        · have d2d : decide ((n : Int) ≤ x) = false := decide_eq_false d2
          have JN : Hid (∀ k, k < i + 1 → ¬ outA img (l.getD k 0)) := Lib.hid fun k hk => by
            by_cases e : k = i
            · rw [e, ← HX.out, HO.out]; omega
            · exact J.out k (by omega)
          go_wp2
          go_quiet ((go_at_call 27; refine Calls.quiet_of_same ((cf _ _ _).mono fun e w' h => ⟨h.1, h.2.symm⟩)))
          go_wp2
          go_roundg (m - (i + 1))
          case measure => omega
          case rel => exact ⟨i + 1, by omega, by omega, by go_num, Lib.hid (below_drewN B0.out nq), JN⟩
    · have : i = m := by omega
      subst this
      have HIN : Hid (∀ x ∈ l, ¬ outA img x) := Lib.hid fun x hx => by
        obtain ⟨k, hk, e⟩ := List.mem_iff_getElem.1 hx
        have := J.out k (by rw [← HL.out.2]; exact hk)
        rw [List.getD_eq_getElem?_getD, List.getElem?_eq_getElem hk] at this
        rw [← e]; exact this
      have HG := Lib.hid (giveA_in HIN.out)
      clear J
      go_wp2_with fail
      refine (co _ (H.out.1.step B0.out)).mono ?_
      rintro e w1 ⟨A1, c1, rfl, ho1, hb1⟩
      have J1 : Hid (Reads w1 w1.heap.size 1 A1 n (encS img) ∧ Below w.heap.size w w1) := Lib.hid ⟨.of_own ho1, bstep B0.out hb1⟩
      clear ho1 hb1 B0
      go_wp2
      go_loopg [7, 8] i (fun gk s7 s8 wr => ∃ (j : Nat) (A2 : Option Addr) (c2 : Nat) (ci : List ByteArray), j ≤ i ∧ i - j ≤ gk ∧ s8 = .int .i64 j ∧ s7 = .slice A2 n c2 ∧ Hid (gaveA img (l.take j) = some ci) ∧ Hid (Reads wr wr.heap.size 1 A2 n (encS ci) ∧ Below w.heap.size w wr))
      case atStart => exact ⟨0, A1, c1, img, Nat.zero_le _, by omega, rfl, rfl, Lib.hid rfl, J1⟩
      case round =>
        clear J1
        obtain ⟨j, A2, c2, ci, hj, hgk, rfl, rfl, K, J⟩ := hrel
        by_cases hlt : j < i
        · have hil : (j : Int) < (i : Int) := by omega
          obtain ⟨b, o, rfl, hbb, g0⟩ := H.out.2.int hlt
          have HLX : Hid (j < l.length) := Lib.hid (by rw [HL.out.2]; exact hlt)
          have g1 := (J.out.2.cell (p := ⟨b, o + j, none⟩) hbb).trans g0
          have HNO := Lib.hid (HIN.out _ (int_mem HLX.out))
          obtain ⟨x, hx⟩ : ∃ x, x = l.getD j 0 := ⟨_, rfl⟩
          rw [← hx] at g1 HNO
          have HX := Lib.hid hx
          have hxr : (F : Int) ≤ x ∧ x < (n : Int) := by
            have := HNO.out
            rw [HO.out] at this
            omega
          obtain ⟨X, hX⟩ : ∃ X : Nat, x = X := ⟨x.toNat, by omega⟩
          subst hX
          have hXn : X < n := by omega
          have MC := Lib.hid (gave_MapP _ HM.out K.out)
          have cti := ct A2 c2 ci X _ J.out.1 MC.out.1
          rw [takenA_in (by rw [MC.out.2, HL.out.1]; exact hXn)] at cti
          obtain ⟨t, ht⟩ : ∃ t, t = bitA (blk ci 1) X := ⟨_, rfl⟩
          rw [← ht] at cti
          have HT := Lib.hid ht
          have HB := Lib.hid hbb
          clear hx ht g0 hbb hxr
          cases t with
          | true =>
            have KN := Lib.hid (gave_yes K.out HLX.out (by rw [← HX.out, Int.toNat_natCast]; exact HT.out.symm))
            rw [← HX.out, Int.toNat_natCast] at KN
            have cset := refSet_any A2 n c2 ci X false _ J.out.1 MC.out.1 (by omega)
            rw [setI_back HT.out.symm] at cset
            go_wp2_with (go_at_call 23; refine cti.mono ?_; rintro e w3 ⟨rfl, rfl⟩)
            refine cset.mono ?_
            rintro e w8 ⟨g8, c9, rfl, hO8, hb8⟩
            have JN := Lib.hid (And.intro hO8.reads (bstep J.out.2 hb8))
            clear hO8 hb8 J g1 cset cti
            go_wp2
            go_roundg (i - (j + 1))
            case measure => omega
            case rel => exact ⟨j + 1, _, c9, _, by omega, by omega, by go_num, rfl, KN, JN⟩
          | false =>
            have HE : Hid (giveA img l = (img, 20)) := Lib.hid (by rw [HG.out, gave_no K.out HLX.out (by rw [← HX.out, Int.toNat_natCast]; exact HT.out.symm)])
            have cown := co _ (H.out.1.step J.out.2)
            go_wp2_with (go_at_call 23; refine cti.mono ?_; rintro e w3 ⟨rfl, rfl⟩)
            refine cown.mono ?_
            rintro e w8 ⟨A8, c8, rfl, hO8, hb8⟩
            have HR := Lib.hid (And.intro (Reads.of_own hO8) (bstep J.out.2 hb8))
            clear hO8 hb8
            go_wp2
            go_ret2
            rw [HE.out]
            exact ⟨A8, n, c8, rfl, HR.out.1, h5, HR.out.2⟩
        · have : j = i := by omega
          subst this
          have HE : Hid (giveA img l = (ci, 0)) := Lib.hid (by
            have := K.out
            rw [List.take_of_length_le (by rw [HL.out.2]; exact Nat.le_refl _)] at this
            rw [HG.out, this])
          go_wp2
          go_ret2
          rw [HE.out]
          exact ⟨A2, n, c2, rfl, J.out.1, h5, J.out.2⟩

set_option maxRecDepth 100000 in
set_option maxHeartbeats 4000000 in
theorem giveA_any (A B : Option Addr) (n c m cm : Nat) (img : List ByteArray) (l : List Int) (w : World) (h : Reads w w.heap.size 1 A n (encS img)) (hf : MapP img) (hB : Reads w w.heap.size 1 B m (encI l)) (hm : m ≤ 17592186044416) :
    Calls Try.prog 19 #[.slice A n c, .slice B m cm] w fun e w' => ImgsA w w' (giveA img l).1 (giveA img l).2 e := by
  have hl := h.lenS
  have hlm := hB.lenI
  have h8 : 8 ≤ n := by have := hf.1; omega
  have h5 : n ≤ 512 := by have := hf.1; omega
  obtain ⟨F, hF⟩ : ∃ F, F = firstA n := ⟨_, rfl⟩
  have cf := fun A c W => first_any A n c (by unfold maxLen; omega) W
  have co := fun W hW => cloneS_any A n c img W hW (by omega)
  rw [← hF] at cf
  have HO : Hid (∀ x, outA img x ↔ (x < (F : Int) ∨ (n : Int) ≤ x)) := Lib.hid (fun x => by unfold outA; rw [hl, hF])
  have hF34 : F ≤ 34 := by have := first_le h8 h5; omega
  have HL := Lib.hid (And.intro hl hlm)
  have HM := Lib.hid hf
  have H := Lib.hid (And.intro h hB)
  have ct := fun (A : Option Addr) (c : Nat) (ci : List ByteArray) (i : Int) W hW hc => takenA_any A n c ci i W hW hc
  have cm := fun (A : Option Addr) (c : Nat) (ci : List ByteArray) W hW hc => mapped_any A n c ci W hW hc
  clear h hB hl hlm hF hf
  go_enter Try.func19, Try.ntmps19
  go_wp2_with fail
  refine (co _ H.out.1).mono ?_
  rintro e w1 ⟨A1, c1, rfl, ho1, hb1⟩
  obtain ⟨g, rfl, hO1⟩ := OwI.of ho1 (by omega)
  have J1 := Lib.hid (And.intro hO1 hb1)
  have HA := H
  have H1 := Lib.hid (And.intro (H.out.1.step hb1) (H.out.2.step hb1))
  clear ho1 hb1 hO1
  go_wp2
  go_loopg [15] m (fun gk s15 wr => ∃ i : Nat, i ≤ m ∧ m - i ≤ gk ∧ s15 = .int .i64 i ∧ w1 = wr ∧ Hid (∀ k, k < i → ¬ outA img (l.getD k 0)))
  case atStart => exact ⟨0, Nat.zero_le _, by omega, rfl, rfl, Lib.hid fun k hk => absurd hk (Nat.not_lt_zero _)⟩
  case round =>
    obtain ⟨i, hi, hgk, rfl, rfl, J⟩ := hrel
    by_cases hlt : i < m
    · have hil : (i : Int) < (m : Int) := by omega
      obtain ⟨b, o, rfl, _, g1⟩ := H1.out.2.int hlt
      have HLX : Hid (i < l.length) := Lib.hid (by rw [HL.out.2]; exact hlt)
      obtain ⟨x, hx⟩ : ∃ x, x = l.getD i 0 := ⟨_, rfl⟩
      rw [← hx] at g1
      have HX := Lib.hid hx
      clear hx
      by_cases d1 : x < (F : Int)
      · have HE := Lib.hid (giveA_out (img := img) (l := l) (x := x) (by rw [HX.out]; exact int_mem HLX.out) ((HO.out x).2 (.inl d1)))
        go_wp2_with (go_at_call 26; refine (cf _ _ _).mono ?_; rintro e w8 ⟨rfl, rfl⟩)
        go_ret2
        rw [HE.out]
        exact ⟨_, n, c1, rfl, J1.out.1.reads, h5, J1.out.2⟩
      · by_cases d2 : (n : Int) ≤ x
        · have HE := Lib.hid (giveA_out (img := img) (l := l) (x := x) (by rw [HX.out]; exact int_mem HLX.out) ((HO.out x).2 (.inr d2)))
          go_wp2_with (first | (go_at_call 26; refine (cf _ _ _).mono ?_; rintro e w8 ⟨rfl, rfl⟩) | (go_at_call 54; refine (cm _ _ img _ H1.out.1 HM.out).mono ?_; rintro e w8 ⟨rfl, rfl⟩))
          go_ret2
          rw [HE.out]
          exact ⟨_, n, c1, rfl, J1.out.1.reads, h5, J1.out.2⟩
        · have JN : Hid (∀ k, k < i + 1 → ¬ outA img (l.getD k 0)) := Lib.hid fun k hk => by
            by_cases e : k = i
            · rw [e, ← HX.out, HO.out]; omega
            · exact J.out k (by omega)
          go_wp2_with (first | (go_at_call 26; refine (cf _ _ _).mono ?_; rintro e w8 ⟨rfl, rfl⟩) | (go_at_call 54; refine (cm _ _ img _ H1.out.1 HM.out).mono ?_; rintro e w8 ⟨rfl, rfl⟩))
          go_roundg (m - (i + 1))
          case measure => omega
          case rel => exact ⟨i + 1, by omega, by omega, by go_num, rfl, JN⟩
    · have : i = m := by omega
      subst this
      have HIN : Hid (∀ x ∈ l, ¬ outA img x) := Lib.hid fun x hx => by
        obtain ⟨k, hk, e⟩ := List.mem_iff_getElem.1 hx
        have := J.out k (by rw [← HL.out.2]; exact hk)
        rw [List.getD_eq_getElem?_getD, List.getElem?_eq_getElem hk] at this
        rw [← e]; exact this
      have HG := Lib.hid (giveA_in HIN.out)
      clear J
      go_wp2
      go_loopg [33] i (fun gk s33 wr => ∃ (j : Nat) (ci : List ByteArray), j ≤ i ∧ i - j ≤ gk ∧ s33 = .int .i64 j ∧ Hid (gaveA img (l.take j) = some ci) ∧ Hid (OwI wr w.heap.size g n c1 ci ∧ Below w.heap.size w wr ∧ Reads wr wr.heap.size 1 A n (encS img) ∧ Reads wr wr.heap.size 1 B i (encI l)))
      case atStart => exact ⟨0, img, Nat.zero_le _, by omega, rfl, Lib.hid rfl, Lib.hid ⟨J1.out.1, J1.out.2, H1.out.1, H1.out.2⟩⟩
      case round =>
        clear J1 H1
        obtain ⟨j, ci, hj, hgk, rfl, K, J⟩ := hrel
        by_cases hlt : j < i
        · have hil : (j : Int) < (i : Int) := by omega
          obtain ⟨b, o, rfl, hbb, g1⟩ := J.out.2.2.2.int hlt
          have HLX : Hid (j < l.length) := Lib.hid (by rw [HL.out.2]; exact hlt)
          have HNO := Lib.hid (HIN.out _ (int_mem HLX.out))
          obtain ⟨x, hx⟩ : ∃ x, x = l.getD j 0 := ⟨_, rfl⟩
          rw [← hx] at g1 HNO
          have HX := Lib.hid hx
          have hxr : (F : Int) ≤ x ∧ x < (n : Int) := by
            have := HNO.out
            rw [HO.out] at this
            omega
          obtain ⟨X, hX⟩ : ∃ X : Nat, x = X := ⟨x.toNat, by omega⟩
          subst hX
          have hXn : X < n := by omega
          have MC := Lib.hid (gave_MapP _ HM.out K.out)
          have cti := ct (some ⟨g, 0, none⟩) c1 ci X _ J.out.1.reads MC.out.1
          rw [takenA_in (by rw [MC.out.2, HL.out.1]; exact hXn)] at cti
          obtain ⟨t, ht⟩ : ∃ t, t = bitA (blk ci 1) X := ⟨_, rfl⟩
          rw [← ht] at cti
          have HT := Lib.hid ht
          have HNG : Hid (∀ q, q < wr.heap.size → q < w.heap.size → q ≠ g) := Lib.hid fun q _ hq e => by have := J.out.1.ge; omega
          clear hx ht hxr
          cases t with
          | true =>
            have KN := Lib.hid (gave_yes K.out HLX.out (by rw [← HX.out, Int.toNat_natCast]; exact HT.out.symm))
            rw [← HX.out, Int.toNat_natCast] at KN
            have h1n : 1 < n := by omega
            have c1' := J.out.1.cell 1 h1n
            have hms := MC.out.1.2
            have ctu := turned_any (blk ci 1) X (by omega) (by omega) (by omega)
            obtain ⟨mp, hmp⟩ : ∃ mp, mp = blk ci 1 := ⟨_, rfl⟩
            have HMP : Hid (ci.set 1 (flipA mp X) = turn1A ci X) := Lib.hid (by rw [hmp]; rfl)
            rw [← hmp] at c1' ctu hms
            clear hmp
            go_wp2_with (go_at_call 22; refine cti.mono ?_; rintro e w3 ⟨rfl, rfl⟩)
            refine (ctu _).mono ?_
            rintro e w8 ⟨rfl, hb8⟩
            have J8 := Lib.hid (And.intro (J.out.1.step hb8) (bstep J.out.2.1 hb8))
            clear c1' hb8 J g1 ctu cti
            have c1' := J8.out.1.cell 1 h1n
            have f1' := J8.out.1.free 1
            have hs8 := J8.out.1.set 1 (flipA mp X)
            rw [HMP.out] at hs8
            have hbe := J8.out.1.below_set 1 (.string (flipA mp X)) (Nat.le_refl _) J8.out.2
            have JN := Lib.hid (And.intro hs8 (And.intro hbe (And.intro (HA.out.1.step hbe) (HA.out.2.step hbe))))
            clear hs8 hbe J8
            go_wp2
            go_roundg (i - (j + 1))
            case measure => omega
            case rel => exact ⟨j + 1, _, by omega, by omega, by go_num, KN, JN⟩
          | false =>
            have HE : Hid (giveA img l = (img, 20)) := Lib.hid (by rw [HG.out, gave_no K.out HLX.out (by rw [← HX.out, Int.toNat_natCast]; exact HT.out.symm)])
            have cown := co _ J.out.2.2.1
            go_wp2_with (go_at_call 22; refine cti.mono ?_; rintro e w3 ⟨rfl, rfl⟩)
            refine cown.mono ?_
            rintro e w8 ⟨A8, c8, rfl, hO8, hb8⟩
            have HR := Lib.hid (And.intro (Reads.of_own hO8) (bstep J.out.2.1 hb8))
            clear hO8 hb8
            go_wp2
            go_ret2
            rw [HE.out]
            exact ⟨A8, n, c8, rfl, HR.out.1, h5, HR.out.2⟩
        · have : j = i := by omega
          subst this
          have HE : Hid (giveA img l = (ci, 0)) := Lib.hid (by
            have := K.out
            rw [List.take_of_length_le (by rw [HL.out.2]; exact Nat.le_refl _)] at this
            rw [HG.out, this])
          go_wp2
          go_ret2
          rw [HE.out]
          exact ⟨_, n, c1, rfl, J.out.1.reads, h5, J.out.2.1⟩

end Go.Proofs.Ytihmgamdnmipaaa
