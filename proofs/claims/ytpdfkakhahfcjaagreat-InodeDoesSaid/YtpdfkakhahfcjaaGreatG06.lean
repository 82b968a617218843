/-
  Blocks given back: as the document tells it, and as the program does.
-/
import Derived.Test.YtpdfkakhahfcjaaGreatG05
import Derived.Deep.QuietTactic
import Derived.Test.YtpdfkakhahfcjaaGreatG01
import Derived.Carry
import Derived.Test.YtpdfkakhahfcjaaGreatG03
import Derived.Test.YtpdfkakhahfcjaaGreatG04
import Derived.Test.YtpdfkakhahfcjaaGreatG02
namespace Go.Proofs.YtpdfkakhahfcjaaGreat
open Go.RowKit

def encI (l : List Int) : List Value := l.map (Value.int .i64)
theorem encI_length (l : List Int) : (encI l).length = l.length := by simp [encI]
theorem encI_nat (l : List Nat) : encI (l.map fun k : Nat => (k : Int)) = encN l := by simp [encI, encN]
theorem encI_get {l : List Int} {k : Nat} (hk : k < l.length) : (encI l)[k]? = some (.int .i64 (l.getD k 0)) := by simp [encI, hk]
theorem Reads.lenI {w : World} {B n : Nat} {A : Option Addr} {l : List Int} (h : Reads w B 1 A n (encI l)) : l.length = n := by have := h.1; rw [encI_length] at this; omega
theorem Reads.int {w : World} {B n : Nat} {A : Option Addr} {l : List Int} (h : Reads w B 1 A n (encI l)) {k : Nat} (hk : k < n) : ∃ b o, A = some ⟨b, o, none⟩ ∧ b < B ∧ w.cell? ⟨b, o + k, none⟩ = some (.int .i64 (l.getD k 0)) := by
  obtain ⟨b, o, e, hb, hc⟩ := h.2 (by omega)
  exact ⟨b, o, e, hb, hc k _ (encI_get (by rw [h.lenI]; exact hk))⟩
theorem int_get {l : List Int} {k : Nat} (hk : k < l.length) : l[k]? = some (l.getD k 0) := by simp [hk]
theorem int_mem {l : List Int} {k : Nat} (hk : k < l.length) : l.getD k 0 ∈ l := List.mem_of_getElem? (int_get hk)
theorem int_take {l : List Int} {k : Nat} (hk : k < l.length) : l.take (k + 1) = l.take k ++ [l.getD k 0] := by
  rw [List.take_add_one, int_get hk]; rfl
theorem gave_app : ∀ (a b : List Int) (c : List ByteArray), gaveA c (a ++ b) = (gaveA c a).bind fun c => gaveA c b
  | [], b, c => rfl
  | x :: a, b, c => by
    rw [List.cons_append, gaveA, gaveA]
    by_cases h : bitA (blk c 1) x.toNat = true
    · rw [if_pos h, if_pos h, gave_app a b]
    · rw [if_neg h, if_neg h]; rfl
theorem gave_yes {img c : List ByteArray} {l : List Int} {i : Nat} (h : gaveA img (l.take i) = some c) (hi : i < l.length) (hb : bitA (blk c 1) (l.getD i 0).toNat = true) : gaveA img (l.take (i + 1)) = some (turn1A c (l.getD i 0).toNat) := by
  rw [int_take hi, gave_app, h]
  show gaveA c [l.getD i 0] = _
  rw [gaveA, if_pos hb]; rfl
theorem gave_no {img c : List ByteArray} {l : List Int} {i : Nat} (h : gaveA img (l.take i) = some c) (hi : i < l.length) (hb : bitA (blk c 1) (l.getD i 0).toNat = false) : gaveA img l = none := by
  rw [← List.take_append_drop (i + 1) l, gave_app, int_take hi, gave_app, h]
  show ((gaveA c [l.getD i 0]).bind _) = none
  rw [gaveA, if_neg (by rw [hb]; decide)]; rfl
theorem gave_MapP : ∀ (l : List Int) {img c : List ByteArray}, MapP img → gaveA img l = some c → MapP c ∧ c.length = img.length
  | [], img, c, hm, h => by rw [gaveA] at h; injection h with h; subst h; exact ⟨hm, rfl⟩
  | x :: l, img, c, hm, h => by
    rw [gaveA] at h
    by_cases hb : bitA (blk img 1) x.toNat = true
    · rw [if_pos hb] at h
      have := gave_MapP l (turn1_MapP hm _) h
      exact ⟨this.1, by rw [this.2, turn1_length]⟩
    · rw [if_neg hb] at h; cases h
theorem giveA_out {img : List ByteArray} {l : List Int} {x : Int} (hx : x ∈ l) (ho : outA img x) : giveA img l = (img, 15) := by unfold giveA; rw [if_pos ⟨x, hx, ho⟩]
theorem giveA_in {img : List ByteArray} {l : List Int} (h : ∀ x ∈ l, ¬ outA img x) : giveA img l = match gaveA img l with | none => (img, 20) | some c => (c, 0) := by
  unfold giveA; rw [if_neg (fun ⟨x, hx, ho⟩ => h x hx ho)]; rfl

set_option maxRecDepth 100000 in
set_option maxHeartbeats 4000000 in
theorem refGive_any (A B : Option Addr) (n c m cm : Nat) (img : List ByteArray) (l : List Int) (w : World) (h : Reads w w.heap.size 1 A n (encS img)) (hf : MapP img) (hB : Reads w w.heap.size 1 B m (encI l)) (hm : m ≤ 17592186044416) :
    Calls Tryz.prog 42 #[.slice A n c, .slice B m cm] w fun e w' => ImgsA w w' (giveA img l).1 (giveA img l).2 e := by
  have hl := h.lenS
  have hlm := hB.lenI
  have h8 : 8 ≤ n := by have := hf.1; omega
  have h5 : n ≤ 512 := by have := hf.1; omega
  obtain ⟨F, hF⟩ : ∃ F, F = firstA n := ⟨_, rfl⟩
  have cf := fun A c W => refFirst_any A n c (by unfold maxLen; omega) W
  have co := fun W hW => refOwn_any A n c img W hW (by omega)
  rw [← hF] at cf
  have HO : Hid (∀ x, outA img x ↔ (x < (F : Int) ∨ (n : Int) ≤ x)) := Lib.hid (fun x => by unfold outA; rw [hl, hF])
  have hF34 : F ≤ 34 := by have := first_le h8 h5; omega
  have HL := Lib.hid (And.intro hl hlm)
  have HM := Lib.hid hf
  have H := Lib.hid (And.intro h hB)
  have ct := fun (A : Option Addr) (c : Nat) (ci : List ByteArray) (i : Int) W hW hc => refTaken_any A n c ci i W hW hc
  clear h hB hl hlm hF hf
  go_enter Tryz.func42, Tryz.ntmps42
  go_wp2
  go_loopg [6] m (fun gk s6 wr => ∃ i : Nat, i ≤ m ∧ m - i ≤ gk ∧ s6 = .int .i64 i ∧ Hid (Below w.heap.size w wr) ∧ Hid (∀ k, k < i → ¬ outA img (l.getD k 0)))
  case atStart => exact ⟨0, Nat.zero_le _, by omega, rfl, Lib.hid (Below.refl _ _), Lib.hid fun k hk => absurd hk (Nat.not_lt_zero _)⟩
  case round =>
    obtain ⟨i, hi, hgk, rfl, B0, J⟩ := hrel
    by_cases hlt : i < m
    · have hil : (i : Int) < (m : Int) := by omega
      obtain ⟨b, o, rfl, hbb, g0⟩ := H.out.2.int hlt
      have g1 := (B0.out.cell (p := ⟨b, o + i, none⟩) hbb).trans g0
      clear g0 hbb
      have HLX : Hid (i < l.length) := Lib.hid (by rw [HL.out.2]; exact hlt)
      obtain ⟨x, hx⟩ : ∃ x, x = l.getD i 0 := ⟨_, rfl⟩
      rw [← hx] at g1
      have HX := Lib.hid hx
      clear hx
      by_cases d1 : x < (F : Int)
      · have d1d : decide (x < (F : Int)) = true := decide_eq_true d1
        have HE := Lib.hid (giveA_out (img := img) (l := l) (x := x) (by rw [HX.out]; exact int_mem HLX.out) ((HO.out x).2 (.inl d1)))
        go_wp2
        go_quiet ((go_at_call 22; refine Calls.quiet_of_same ((cf _ _ _).mono fun e w' h => ⟨h.1, h.2.symm⟩)))
        go_wp2_with fail
        refine (co _ (H.out.1.step (below_drewN B0.out nq))).mono ?_
        rintro e w1 ⟨A1, c1, rfl, ho1, hb1⟩
        have HR := Lib.hid (And.intro (Reads.of_own ho1) (bstep (below_drewN B0.out nq) hb1))
        clear ho1 hb1
        go_wp2
        go_ret2
        rw [HE.out]
        exact ⟨A1, n, c1, rfl, HR.out.1, h5, HR.out.2⟩
      · have d1d : decide (x < (F : Int)) = false := decide_eq_false d1
        by_cases d2 : (n : Int) ≤ x
        · have d2d : decide ((n : Int) ≤ x) = true := decide_eq_true d2
          have HE := Lib.hid (giveA_out (img := img) (l := l) (x := x) (by rw [HX.out]; exact int_mem HLX.out) ((HO.out x).2 (.inr d2)))
          go_wp2
          go_quiet ((go_at_call 22; refine Calls.quiet_of_same ((cf _ _ _).mono fun e w' h => ⟨h.1, h.2.symm⟩)))
          go_wp2_with fail
          refine (co _ (H.out.1.step (below_drewN B0.out nq))).mono ?_
          rintro e w1 ⟨A1, c1, rfl, ho1, hb1⟩
          have HR := Lib.hid (And.intro (Reads.of_own ho1) (bstep (below_drewN B0.out nq) hb1))
          clear ho1 hb1
          go_wp2
          go_ret2
          rw [HE.out]
          exact ⟨A1, n, c1, rfl, HR.out.1, h5, HR.out.2⟩
        · have d2d : decide ((n : Int) ≤ x) = false := decide_eq_false d2
          have JN : Hid (∀ k, k < i + 1 → ¬ outA img (l.getD k 0)) := Lib.hid fun k hk => by
            by_cases e : k = i
            · rw [e, ← HX.out, HO.out]; omega
            · exact J.out k (by omega)
          go_wp2
          go_quiet ((go_at_call 22; refine Calls.quiet_of_same ((cf _ _ _).mono fun e w' h => ⟨h.1, h.2.symm⟩)))
          go_wp2
          go_roundg (m - (i + 1))
          case measure => omega
          case rel => exact ⟨i + 1, by omega, by omega, by go_num, Lib.hid (below_drewN B0.out nq), JN⟩
    · have : i = m := by omega
      subst this
      have HIN : Hid (∀ x ∈ l, ¬ outA img x) := Lib.hid fun x hx => by
        obtain ⟨k, hk, e⟩ := List.mem_iff_getElem.1 hx
        have := J.out k (by rw [← HL.out.2]; exact hk)
        rw [List.getD_eq_getElem?_getD, List.getElem?_eq_getElem hk] at this
        rw [← e]; exact this
      have HG := Lib.hid (giveA_in HIN.out)
      clear J
      go_wp2_with fail
      refine (co _ (H.out.1.step B0.out)).mono ?_
      rintro e w1 ⟨A1, c1, rfl, ho1, hb1⟩
      have J1 : Hid (Reads w1 w1.heap.size 1 A1 n (encS img) ∧ Below w.heap.size w w1) := Lib.hid ⟨.of_own ho1, bstep B0.out hb1⟩
      clear ho1 hb1 B0
      go_wp2
      go_loopg [7, 8] i (fun gk s7 s8 wr => ∃ (j : Nat) (A2 : Option Addr) (c2 : Nat) (ci : List ByteArray), j ≤ i ∧ i - j ≤ gk ∧ s8 = .int .i64 j ∧ s7 = .slice A2 n c2 ∧ Hid (gaveA img (l.take j) = some ci) ∧ Hid (Reads wr wr.heap.size 1 A2 n (encS ci) ∧ Below w.heap.size w wr))
      case atStart => exact ⟨0, A1, c1, img, Nat.zero_le _, by omega, rfl, rfl, Lib.hid rfl, J1⟩
      case round =>
        clear J1
        obtain ⟨j, A2, c2, ci, hj, hgk, rfl, rfl, K, J⟩ := hrel
        by_cases hlt : j < i
        · have hil : (j : Int) < (i : Int) := by omega
          obtain ⟨b, o, rfl, hbb, g0⟩ := H.out.2.int hlt
          have HLX : Hid (j < l.length) := Lib.hid (by rw [HL.out.2]; exact hlt)
          have g1 := (J.out.2.cell (p := ⟨b, o + j, none⟩) hbb).trans g0
          have HNO := Lib.hid (HIN.out _ (int_mem HLX.out))
          obtain ⟨x, hx⟩ : ∃ x, x = l.getD j 0 := ⟨_, rfl⟩
          rw [← hx] at g1 HNO
          have HX := Lib.hid hx
          have hxr : (F : Int) ≤ x ∧ x < (n : Int) := by
            have := HNO.out
            rw [HO.out] at this
            omega
          obtain ⟨X, hX⟩ : ∃ X : Nat, x = X := ⟨x.toNat, by omega⟩
          subst hX
          have hXn : X < n := by omega
          have MC := Lib.hid (gave_MapP _ HM.out K.out)
          have cti := ct A2 c2 ci X _ J.out.1 MC.out.1
          rw [takenA_in (by rw [MC.out.2, HL.out.1]; exact hXn)] at cti
          obtain ⟨t, ht⟩ : ∃ t, t = bitA (blk ci 1) X := ⟨_, rfl⟩
          rw [← ht] at cti
          have HT := Lib.hid ht
          have HB := Lib.hid hbb
          clear hx ht g0 hbb hxr
          cases t with
          | true =>
            have KN := Lib.hid (gave_yes K.out HLX.out (by rw [← HX.out, Int.toNat_natCast]; exact HT.out.symm))
            rw [← HX.out, Int.toNat_natCast] at KN
            have cset := refSet_any A2 n c2 ci X false _ J.out.1 MC.out.1 (by omega)
            rw [setI_back HT.out.symm] at cset
            go_wp2_with (go_at_call 23; refine cti.mono ?_; rintro e w3 ⟨rfl, rfl⟩)
            refine cset.mono ?_
            rintro e w8 ⟨g8, c9, rfl, hO8, hb8⟩
            have JN := Lib.hid (And.intro hO8.reads (bstep J.out.2 hb8))
            clear hO8 hb8 J g1 cset cti
            go_wp2
            go_roundg (i - (j + 1))
            case measure => omega
            case rel => exact ⟨j + 1, _, c9, _, by omega, by omega, by go_num, rfl, KN, JN⟩
          | false =>
            have HE : Hid (giveA img l = (img, 20)) := Lib.hid (by rw [HG.out, gave_no K.out HLX.out (by rw [← HX.out, Int.toNat_natCast]; exact HT.out.symm)])
            have cown := co _ (H.out.1.step J.out.2)
            go_wp2_with (go_at_call 23; refine cti.mono ?_; rintro e w3 ⟨rfl, rfl⟩)
            refine cown.mono ?_
            rintro e w8 ⟨A8, c8, rfl, hO8, hb8⟩
            have HR := Lib.hid (And.intro (Reads.of_own hO8) (bstep J.out.2 hb8))
            clear hO8 hb8
            go_wp2
            go_ret2
            rw [HE.out]
            exact ⟨A8, n, c8, rfl, HR.out.1, h5, HR.out.2⟩
        · have : j = i := by omega
          subst this
          have HE : Hid (giveA img l = (ci, 0)) := Lib.hid (by
            have := K.out
            rw [List.take_of_length_le (by rw [HL.out.2]; exact Nat.le_refl _)] at this
            rw [HG.out, this])
          go_wp2
          go_ret2
          rw [HE.out]
          exact ⟨A2, n, c2, rfl, J.out.1, h5, J.out.2⟩

set_option maxRecDepth 100000 in
set_option maxHeartbeats 4000000 in
theorem giveA_any (A B : Option Addr) (n c m cm : Nat) (img : List ByteArray) (l : List Int) (w : World) (h : Reads w w.heap.size 1 A n (encS img)) (hf : MapP img) (hB : Reads w w.heap.size 1 B m (encI l)) (hm : m ≤ 17592186044416) :
    Calls Tryz.prog 39 #[.slice A n c, .slice B m cm] w fun e w' => ImgsA w w' (giveA img l).1 (giveA img l).2 e := by
  have hl := h.lenS
  have hlm := hB.lenI
  have h8 : 8 ≤ n := by have := hf.1; omega
  have h5 : n ≤ 512 := by have := hf.1; omega
  obtain ⟨F, hF⟩ : ∃ F, F = firstA n := ⟨_, rfl⟩
  have cf := fun A c W => first_any A n c (by unfold maxLen; omega) W
  have co := fun W hW => cloneS_any A n c img W hW (by omega)
  rw [← hF] at cf
  have HO : Hid (∀ x, outA img x ↔ (x < (F : Int) ∨ (n : Int) ≤ x)) := Lib.hid (fun x => by unfold outA; rw [hl, hF])
  have hF34 : F ≤ 34 := by have := first_le h8 h5; omega
  have HL := Lib.hid (And.intro hl hlm)
  have HM := Lib.hid hf
  have H := Lib.hid (And.intro h hB)
  have ct := fun (A : Option Addr) (c : Nat) (ci : List ByteArray) (i : Int) W hW hc => takenA_any A n c ci i W hW hc
  have cm := fun (A : Option Addr) (c : Nat) (ci : List ByteArray) W hW hc => mapped_any A n c ci W hW hc
  clear h hB hl hlm hF hf
  go_enter Tryz.func39, Tryz.ntmps39
  go_wp2_with fail
  refine (co _ H.out.1).mono ?_
  rintro e w1 ⟨A1, c1, rfl, ho1, hb1⟩
  obtain ⟨g, rfl, hO1⟩ := OwI.of ho1 (by omega)
  have J1 := Lib.hid (And.intro hO1 hb1)
  have HA := H
  have H1 := Lib.hid (And.intro (H.out.1.step hb1) (H.out.2.step hb1))
  clear ho1 hb1 hO1
  go_wp2
  go_loopg [15] m (fun gk s15 wr => ∃ i : Nat, i ≤ m ∧ m - i ≤ gk ∧ s15 = .int .i64 i ∧ w1 = wr ∧ Hid (∀ k, k < i → ¬ outA img (l.getD k 0)))
  case atStart => exact ⟨0, Nat.zero_le _, by omega, rfl, rfl, Lib.hid fun k hk => absurd hk (Nat.not_lt_zero _)⟩
  case round =>
    obtain ⟨i, hi, hgk, rfl, rfl, J⟩ := hrel
    by_cases hlt : i < m
    · have hil : (i : Int) < (m : Int) := by omega
      obtain ⟨b, o, rfl, _, g1⟩ := H1.out.2.int hlt
      have HLX : Hid (i < l.length) := Lib.hid (by rw [HL.out.2]; exact hlt)
      obtain ⟨x, hx⟩ : ∃ x, x = l.getD i 0 := ⟨_, rfl⟩
      rw [← hx] at g1
      have HX := Lib.hid hx
      clear hx
      by_cases d1 : x < (F : Int)
      · have HE := Lib.hid (giveA_out (img := img) (l := l) (x := x) (by rw [HX.out]; exact int_mem HLX.out) ((HO.out x).2 (.inl d1)))
        go_wp2_with (go_at_call 58; refine (cf _ _ _).mono ?_; rintro e w8 ⟨rfl, rfl⟩)
        go_ret2
        rw [HE.out]
        exact ⟨_, n, c1, rfl, J1.out.1.reads, h5, J1.out.2⟩
      · by_cases d2 : (n : Int) ≤ x
        · have HE := Lib.hid (giveA_out (img := img) (l := l) (x := x) (by rw [HX.out]; exact int_mem HLX.out) ((HO.out x).2 (.inr d2)))
          go_wp2_with (first | (go_at_call 58; refine (cf _ _ _).mono ?_; rintro e w8 ⟨rfl, rfl⟩) | (go_at_call 73; refine (cm _ _ img _ H1.out.1 HM.out).mono ?_; rintro e w8 ⟨rfl, rfl⟩))
          go_ret2
          rw [HE.out]
          exact ⟨_, n, c1, rfl, J1.out.1.reads, h5, J1.out.2⟩
        · have JN : Hid (∀ k, k < i + 1 → ¬ outA img (l.getD k 0)) := Lib.hid fun k hk => by
            by_cases e : k = i
            · rw [e, ← HX.out, HO.out]; omega
            · exact J.out k (by omega)
          go_wp2_with (first | (go_at_call 58; refine (cf _ _ _).mono ?_; rintro e w8 ⟨rfl, rfl⟩) | (go_at_call 73; refine (cm _ _ img _ H1.out.1 HM.out).mono ?_; rintro e w8 ⟨rfl, rfl⟩))
          go_roundg (m - (i + 1))
          case measure => omega
          case rel => exact ⟨i + 1, by omega, by omega, by go_num, rfl, JN⟩
    · have : i = m := by omega
      subst this
      have HIN : Hid (∀ x ∈ l, ¬ outA img x) := Lib.hid fun x hx => by
        obtain ⟨k, hk, e⟩ := List.mem_iff_getElem.1 hx
        have := J.out k (by rw [← HL.out.2]; exact hk)
        rw [List.getD_eq_getElem?_getD, List.getElem?_eq_getElem hk] at this
        rw [← e]; exact this
      have HG := Lib.hid (giveA_in HIN.out)
      clear J
      go_wp2
      go_loopg [33] i (fun gk s33 wr => ∃ (j : Nat) (ci : List ByteArray), j ≤ i ∧ i - j ≤ gk ∧ s33 = .int .i64 j ∧ Hid (gaveA img (l.take j) = some ci) ∧ Hid (OwI wr w.heap.size g n c1 ci ∧ Below w.heap.size w wr ∧ Reads wr wr.heap.size 1 A n (encS img) ∧ Reads wr wr.heap.size 1 B i (encI l)))
      case atStart => exact ⟨0, img, Nat.zero_le _, by omega, rfl, Lib.hid rfl, Lib.hid ⟨J1.out.1, J1.out.2, H1.out.1, H1.out.2⟩⟩
      case round =>
        clear J1 H1
        obtain ⟨j, ci, hj, hgk, rfl, K, J⟩ := hrel
        by_cases hlt : j < i
        · have hil : (j : Int) < (i : Int) := by omega
          obtain ⟨b, o, rfl, hbb, g1⟩ := J.out.2.2.2.int hlt
          have HLX : Hid (j < l.length) := Lib.hid (by rw [HL.out.2]; exact hlt)
          have HNO := Lib.hid (HIN.out _ (int_mem HLX.out))
          obtain ⟨x, hx⟩ : ∃ x, x = l.getD j 0 := ⟨_, rfl⟩
          rw [← hx] at g1 HNO
          have HX := Lib.hid hx
          have hxr : (F : Int) ≤ x ∧ x < (n : Int) := by
            have := HNO.out
            rw [HO.out] at this
            omega
          obtain ⟨X, hX⟩ : ∃ X : Nat, x = X := ⟨x.toNat, by omega⟩
          subst hX
          have hXn : X < n := by omega
          have MC := Lib.hid (gave_MapP _ HM.out K.out)
          have cti := ct (some ⟨g, 0, none⟩) c1 ci X _ J.out.1.reads MC.out.1
          rw [takenA_in (by rw [MC.out.2, HL.out.1]; exact hXn)] at cti
          obtain ⟨t, ht⟩ : ∃ t, t = bitA (blk ci 1) X := ⟨_, rfl⟩
          rw [← ht] at cti
          have HT := Lib.hid ht
          have HNG : Hid (∀ q, q < wr.heap.size → q < w.heap.size → q ≠ g) := Lib.hid fun q _ hq e => by have := J.out.1.ge; omega
          clear hx ht hxr
          cases t with
          | true =>
            have KN := Lib.hid (gave_yes K.out HLX.out (by rw [← HX.out, Int.toNat_natCast]; exact HT.out.symm))
            rw [← HX.out, Int.toNat_natCast] at KN
            have h1n : 1 < n := by omega
            have c1' := J.out.1.cell 1 h1n
            have hms := MC.out.1.2
            have ctu := turned_any (blk ci 1) X (by omega) (by omega) (by omega)
            obtain ⟨mp, hmp⟩ : ∃ mp, mp = blk ci 1 := ⟨_, rfl⟩
            have HMP : Hid (ci.set 1 (flipA mp X) = turn1A ci X) := Lib.hid (by rw [hmp]; rfl)
            rw [← hmp] at c1' ctu hms
            clear hmp
            go_wp2_with (go_at_call 64; refine cti.mono ?_; rintro e w3 ⟨rfl, rfl⟩)
            refine (ctu _).mono ?_
            rintro e w8 ⟨rfl, hb8⟩
            have J8 := Lib.hid (And.intro (J.out.1.step hb8) (bstep J.out.2.1 hb8))
            clear c1' hb8 J g1 ctu cti
            have c1' := J8.out.1.cell 1 h1n
            have f1' := J8.out.1.free 1
            have hs8 := J8.out.1.set 1 (flipA mp X)
            rw [HMP.out] at hs8
            have hbe := J8.out.1.below_set 1 (.string (flipA mp X)) (Nat.le_refl _) J8.out.2
            have JN := Lib.hid (And.intro hs8 (And.intro hbe (And.intro (HA.out.1.step hbe) (HA.out.2.step hbe))))
            clear hs8 hbe J8
            go_wp2
            go_roundg (i - (j + 1))
            case measure => omega
            case rel => exact ⟨j + 1, _, by omega, by omega, by go_num, KN, JN⟩
          | false =>
            have HE : Hid (giveA img l = (img, 20)) := Lib.hid (by rw [HG.out, gave_no K.out HLX.out (by rw [← HX.out, Int.toNat_natCast]; exact HT.out.symm)])
            have cown := co _ J.out.2.2.1
            go_wp2_with (go_at_call 64; refine cti.mono ?_; rintro e w3 ⟨rfl, rfl⟩)
            refine cown.mono ?_
            rintro e w8 ⟨A8, c8, rfl, hO8, hb8⟩
            have HR := Lib.hid (And.intro (Reads.of_own hO8) (bstep J.out.2.1 hb8))
            clear hO8 hb8
            go_wp2
            go_ret2
            rw [HE.out]
            exact ⟨A8, n, c8, rfl, HR.out.1, h5, HR.out.2⟩
        · have : j = i := by omega
          subst this
          have HE : Hid (giveA img l = (ci, 0)) := Lib.hid (by
            have := K.out
            rw [List.take_of_length_le (by rw [HL.out.2]; exact Nat.le_refl _)] at this
            rw [HG.out, this])
          go_wp2
          go_ret2
          rw [HE.out]
          exact ⟨_, n, c1, rfl, J.out.1.reads, h5, J.out.2.1⟩

end Go.Proofs.YtpdfkakhahfcjaaGreat

/-
  A list of numbers that came in.
-/
namespace Go.Proofs.YtpdfkakhahfcjaaGreat
open Go.ChangeShapes Go.WideShapes Go.ChangeAt Go.RowKit Go.ChangeMaps

theorem int_hi {x : Int} (h : (Lit.int .i64 x).wf = true) : x ≤ 9223372036854775807 := by
  simp only [Lit.wf, Bool.and_eq_true, decide_eq_true_eq] at h
  have : IntKind.i64.max = 9223372036854775807 := by decide
  omega

section
variable {H : Type} {enc : TypeId × Value → H} {W : World} {base : Nat} {spare : Nat → Bool} {held : Bool} {fuel : Nat}
set_option maxRecDepth 100000 in
theorem open_nums {v : Value} {y : DataW H × List MemPlace} (h : DataW.trod enc Tryz.prog W base spare held fuel 49 [v] = some y) (hw : ∀ x ∈ DataW.weights Tryz.prog 49 y.1, x ≤ reachBytes) :
    ∃ A n c l, v = .slice A n c ∧ n ≤ c ∧ c ≤ maxLen ∧ Reads W W.heap.size 1 A n (encI l) ∧ n ≤ 17592186044416 := by
  rcases open_ints Tryz.underlying49 Tryz.underlying3 (by kernel_rfl) h with ⟨hcs, hx⟩ | ⟨a, len, cap, zs, hcs, _, hl, hm, hz, hx, hcell, _⟩
  · injection hcs with hcs _
    exact ⟨none, 0, 0, [], hcs, Nat.le_refl _, by simp only [maxLen]; omega, Reads.nil, by omega⟩
  · injection hcs with hcs _
    subst hx
    have hlen : len ≤ zs.length := by rw [hz]; split <;> omega
    have hbytes := hw ((List.length (lits (H := H) .i64 (zs.take len)) + List.length (lits (H := H) .i64 (zs.drop len))) * Tryz.prog.bytesOf 3) (by simp [DataW.weights, Tryz.underlying49])
    have hb8 : Tryz.prog.bytesOf 3 = 8 := by kernel_rfl
    rw [hb8] at hbytes
    have hlen2 : (lits (H := H) .i64 (zs.take len)).length = len := by simp [lits]; omega
    have hre : reachBytes = 140737488351232 := by decide
    rw [hlen2, hre] at hbytes
    refine ⟨some a, len, cap, zs.take len, hcs, hl, hm, ⟨by rw [encI_length, List.length_take]; omega, fun hn => ?_⟩, by omega⟩
    obtain ⟨b, o, rfl⟩ := slice_addr (hcell 0 (by omega))
    refine ⟨b, o, rfl, ?_, fun j u hu => ?_⟩
    · have := World.block_lt_of_cell? W _ (hcell 0 (by omega))
      rw [add_plain] at this
      exact this
    · have hj := (List.getElem?_eq_some_iff.1 hu).1
      rw [encI_length, List.length_take] at hj
      rw [encI_get (by rw [List.length_take]; omega)] at hu
      injection hu with hu
      rw [← hu, ← add_plain, hcell j (by omega)]
      have e : zs.getD j 0 = (zs.take len).getD j 0 := by
        rw [List.getD_eq_getElem?_getD, List.getD_eq_getElem?_getD, List.getElem?_take, if_pos (by omega)]
      rw [e]
end
end Go.Proofs.YtpdfkakhahfcjaaGreat

/-
  Five arguments at once; a number's lower bound.
-/
namespace Go.Proofs.YtpdfkakhahfcjaaGreat
open Go.ChangeShapes Go.WideShapes Go.ChangeAt Go.RowKit Go.ChangeMaps

theorem int_lo {x : Int} (h : (Lit.int .i64 x).wf = true) : -9223372036854775808 ≤ x := by
  simp only [Lit.wf, Bool.and_eq_true, decide_eq_true_eq] at h
  have : IntKind.i64.min = -9223372036854775808 := by decide
  omega

section
variable {H : Type} {enc : TypeId × Value → H} {P : Program} {w : World} {base : Nat} {spare : Nat → Bool} {held : Bool}
theorem trodAll_five {t0 t1 t2 t3 t4 : TypeId} {args : Array Value} {ds : List (DataW H)} {ps : List MemPlace} (h : DataW.TrodAll enc P w base spare held [t0, t1, t2, t3, t4] args.toList ds ps) :
    ∃ v0 v1 v2 v3 v4 d0 d1 d2 d3 d4 p0 p1 p2 p3 p4, args = #[v0, v1, v2, v3, v4] ∧ ds = [d0, d1, d2, d3, d4] ∧ ps = p0 ++ p1 ++ p2 ++ p3 ++ p4 ∧ DataW.Trod enc P w base spare held t0 v0 d0 p0 ∧ DataW.Trod enc P w base spare held t1 v1 d1 p1 ∧ DataW.Trod enc P w base spare held t2 v2 d2 p2 ∧ DataW.Trod enc P w base spare held t3 v3 d3 p3 ∧ DataW.Trod enc P w base spare held t4 v4 d4 p4 := by
  obtain ⟨v0, vs0, d0, ds0, p0, q0, hargs, rfl, rfl, h0, r0⟩ := trodAll_cons h
  obtain ⟨v1, vs1, d1, ds1, p1, q1, rfl, rfl, rfl, h1, r1⟩ := trodAll_cons r0
  obtain ⟨v2, vs2, d2, ds2, p2, q2, rfl, rfl, rfl, h2, r2⟩ := trodAll_cons r1
  obtain ⟨v3, vs3, d3, ds3, p3, q3, rfl, rfl, rfl, h3, r3⟩ := trodAll_cons r2
  obtain ⟨v4, vs4, d4, ds4, p4, q4, rfl, rfl, rfl, h4, r4⟩ := trodAll_cons r3
  obtain ⟨rfl, rfl, rfl⟩ := trodAll_nil r4
  exact ⟨v0, v1, v2, v3, v4, d0, d1, d2, d3, d4, p0, p1, p2, p3, p4, by cases args; simp_all, rfl, by simp, h0, h1, h2, h3, h4⟩
theorem trodAll_mk5 {t0 t1 t2 t3 t4 : TypeId} {v0 v1 v2 v3 v4 : Value} {d0 d1 d2 d3 d4 : DataW H} {p0 p1 p2 p3 p4 : List MemPlace} (h0 : DataW.Trod enc P w base spare held t0 v0 d0 p0) (h1 : DataW.Trod enc P w base spare held t1 v1 d1 p1)
    (h2 : DataW.Trod enc P w base spare held t2 v2 d2 p2) (h3 : DataW.Trod enc P w base spare held t3 v3 d3 p3) (h4 : DataW.Trod enc P w base spare held t4 v4 d4 p4) : DataW.TrodAll enc P w base spare held [t0, t1, t2, t3, t4] [v0, v1, v2, v3, v4] [d0, d1, d2, d3, d4] (p0 ++ (p1 ++ (p2 ++ (p3 ++ p4)))) :=
  ⟨p0, p1 ++ (p2 ++ (p3 ++ p4)), h0, trodAll_mk4 h1 h2 h3 h4, rfl⟩
end

end Go.Proofs.YtpdfkakhahfcjaaGreat

/-
  The small words of the program's inodes: how many blocks so many bytes need, whether an image has a block, where an inode lies, so many zeros, what a block holds.
-/
namespace Go.Proofs.YtpdfkakhahfcjaaGreat
open Go.RowKit

/-- How many data blocks so many bytes need. -/
def needN (n : Nat) : Nat := (n + 127) / 128
/-- The same with the indirect block. -/
def needAllN (n : Nat) : Nat := if 4 < needN n then needN n + 1 else needN n
/-- So many zeros. -/
def zeroN (k : Nat) : ByteArray := ⟨(Lib.repeatL [0] k).toArray⟩
/-- What a block holds; zeros, where an image has none of that size. -/
def blkI (img : List ByteArray) (i : Nat) : ByteArray := if i < img.length ∧ (blk img i).size = 128 then blk img i else zeroN 128

set_option maxRecDepth 100000 in
theorem needsI_any (n : Nat) (hn : n ≤ 4611686018427387904) (w : World) : Calls Tryz.prog 78 #[.int .i64 n] w fun e w' => e = .returned (.int .i64 (needN n : Nat)) ∧ w = w' := by
  go_enter Tryz.func78, Tryz.ntmps78
  go_wp2
  go_ret
  exact ⟨congrArg (fun z => Ending.returned (Value.int .i64 z)) (by unfold needN; omega), rfl⟩

set_option maxRecDepth 100000 in
theorem needsAllI_any (n : Nat) (hn : n ≤ 4611686018427387904) (w : World) : Calls Tryz.prog 81 #[.int .i64 n] w fun e w' => e = .returned (.int .i64 (needAllN n : Nat)) ∧ w = w' := by
  have cn := fun W => needsI_any n hn W
  have hk : needN n ≤ 4611686018427387904 := by unfold needN; omega
  have hd : needAllN n = if 4 < needN n then needN n + 1 else needN n := rfl
  have HD := Lib.hid hd
  clear hd
  generalize needN n = k at cn hk HD
  by_cases h4 : 4 < k
  · have h4i : (4 : Int) < (k : Int) := by omega
    go_enter Tryz.func81, Tryz.ntmps81
    go_wp2_with (go_at_call 78; refine (cn _).mono ?_; rintro e w1 ⟨rfl, rfl⟩)
    go_ret
    exact ⟨congrArg (fun z => Ending.returned (Value.int .i64 z)) (by rw [HD.out, if_pos h4]; omega), rfl⟩
  · have h4i : ¬ (4 : Int) < (k : Int) := by omega
    go_enter Tryz.func81, Tryz.ntmps81
    go_wp2_with (go_at_call 78; refine (cn _).mono ?_; rintro e w1 ⟨rfl, rfl⟩)
    go_ret
    exact ⟨congrArg (fun z => Ending.returned (Value.int .i64 z)) (by rw [HD.out, if_neg h4]), rfl⟩

set_option maxRecDepth 100000 in
theorem isBlock_any (A : Option Addr) (n c : Nat) (x : Int) (w : World) : Calls Tryz.prog 79 #[.slice A n c, .int .i64 x] w fun e w' => e = .returned (.bool (decide (0 ≤ x ∧ x < n))) ∧ w = w' := by
  by_cases h : 0 ≤ x
  · by_cases h2 : x < n
    · have e : decide (0 ≤ x ∧ x < n) = true := decide_eq_true ⟨h, h2⟩
      rw [e]
      go_enter Tryz.func79, Tryz.ntmps79
      go_wp2
      go_ret
      exact ⟨rfl, rfl⟩
    · have e : decide (0 ≤ x ∧ x < n) = false := decide_eq_false fun hh => h2 hh.2
      rw [e]
      go_enter Tryz.func79, Tryz.ntmps79
      go_wp2
      go_ret
      exact ⟨rfl, rfl⟩
  · have e : decide (0 ≤ x ∧ x < n) = false := decide_eq_false fun hh => h hh.1
    rw [e]
    go_enter Tryz.func79, Tryz.ntmps79
    go_wp2
    go_ret
    exact ⟨rfl, rfl⟩

set_option maxRecDepth 100000 in
theorem numBlock_any (i : Nat) (hi : i ≤ 1099511627776) (w : World) : Calls Tryz.prog 68 #[.int .i64 i] w fun e w' => e = .returned (.int .i64 (2 + i / 4 : Nat)) ∧ w = w' := by
  go_enter Tryz.func68, Tryz.ntmps68
  go_wp2
  go_ret
  exact ⟨congrArg (fun z => Ending.returned (Value.int .i64 z)) (by omega), rfl⟩

set_option maxRecDepth 100000 in
theorem numStart_any (i : Nat) (hi : i ≤ 1099511627776) (w : World) : Calls Tryz.prog 69 #[.int .i64 i] w fun e w' => e = .returned (.int .i64 (32 * (i % 4) : Nat)) ∧ w = w' := by
  have h4 : (i : Int) % 4 = ((i % 4 : Nat) : Int) := by omega
  have h4t : (i : Int).tmod 4 = ((i % 4 : Nat) : Int) := by rw [Int.tmod_eq_emod_of_nonneg (by omega)]; omega
  have h5 : i % 4 < 4 := Nat.mod_lt _ (by omega)
  generalize i % 4 = k at h4 h4t h5 ⊢
  go_enter Tryz.func69, Tryz.ntmps69
  go_wp2
  go_ret
  exact ⟨congrArg (fun z => Ending.returned (Value.int .i64 z)) (by omega), rfl⟩

set_option maxRecDepth 100000 in
theorem zerosI_any (k : Nat) (hk : k ≤ 1048576) (w : World) : Calls Tryz.prog 83 #[.int .i64 k] w fun e w' => e = .returned (.string (zeroN k)) ∧ Below w.heap.size w w' := by
  have cr := fun W => Tryz.strings_Repeat ⟨#[0]⟩ k W (by omega) (by show 1 * k ≤ _; omega)
  have cr : ∀ W : World, Calls Tryz.prog 88 #[.string ⟨#[0]⟩, .int .i64 k] W fun e w' => e = .returned (.string (zeroN k)) ∧ Below W.heap.size W w' := cr
  go_enter Tryz.func83, Tryz.ntmps83
  go_wp2_with (go_at_call 88; refine (cr _).mono ?_; rintro e w1 ⟨rfl, hb1⟩)
  go_ret
  exact ⟨rfl, hb1⟩

set_option maxRecDepth 100000 in
theorem blockI_any (A : Option Addr) (n c : Nat) (img : List ByteArray) (i : Nat) (w : World) (h : Reads w w.heap.size 1 A n (encS img)) :
    Calls Tryz.prog 67 #[.slice A n c, .int .i64 i] w fun e w' => e = .returned (.string (blkI img i)) ∧ Below w.heap.size w w' := by
  have hl := h.lenS
  have ci := fun W => isBlock_any A n c (i : Int) W
  have cz := fun W => zerosI_any 128 (by omega) W
  by_cases hi : i < n
  · rw [decide_eq_true (by omega : (0 : Int) ≤ (i : Int) ∧ (i : Int) < n)] at ci
    obtain ⟨b, o, rfl, hb, g⟩ := h.str (k := i) (by omega)
    by_cases hs : (blk img i).size = 128
    · have f1 : (((blk img i).size : Int) != 128) = false := by rw [hs]; rfl
      have hr : blkI img i = blk img i := if_pos ⟨by omega, hs⟩
      rw [hr]
      clear hr hs hl h
      have hii : (i : Int) < (n : Int) := by omega
      generalize blk img i = s at g f1 ⊢
      go_enter Tryz.func67, Tryz.ntmps67
      go_wp2_with (go_at_call 79; refine (ci _).mono ?_; rintro e w1 ⟨rfl, rfl⟩)
      go_ret
      exact ⟨rfl, Below.refl _ _⟩
    · have f1 : (((blk img i).size : Int) != 128) = true := by rw [bne_iff_ne]; omega
      have hr : blkI img i = zeroN 128 := if_neg fun hh => hs hh.2
      rw [hr]
      clear hr hs hl h
      have hii : (i : Int) < (n : Int) := by omega
      generalize blk img i = s at g f1
      generalize zeroN 128 = z at cz ⊢
      go_enter Tryz.func67, Tryz.ntmps67
      go_wp2_with first | (go_at_call 79; refine (ci _).mono ?_; rintro e w1 ⟨rfl, rfl⟩) | (go_at_call 83; refine (cz _).mono ?_; rintro e w1 ⟨rfl, hb1⟩)
      go_ret
      exact ⟨rfl, hb1⟩
  · rw [decide_eq_false (by omega : ¬ ((0 : Int) ≤ (i : Int) ∧ (i : Int) < n))] at ci
    have hr : blkI img i = zeroN 128 := if_neg fun hh => hi (by omega)
    rw [hr]
    clear hr hl h hi
    generalize zeroN 128 = z at cz ⊢
    go_enter Tryz.func67, Tryz.ntmps67
    go_wp2_with first | (go_at_call 79; refine (ci _).mono ?_; rintro e w1 ⟨rfl, rfl⟩) | (go_at_call 83; refine (cz _).mono ?_; rintro e w1 ⟨rfl, hb1⟩)
    go_ret
    exact ⟨rfl, hb1⟩

end Go.Proofs.YtpdfkakhahfcjaaGreat

/-
  The 32 bytes of an inode, as the program cuts them out of its block.
-/
namespace Go.Proofs.YtpdfkakhahfcjaaGreat
open Go.RowKit

theorem zeroN_eq : zeroN 128 = zeroB := by decide +kernel
theorem blkI_size (img : List ByteArray) (i : Nat) : (blkI img i).size = 128 := by
  unfold blkI
  split
  · next h => exact h.2
  · rw [zeroN_eq]; exact zeroB_size
/-- The 32 bytes of an inode. -/
def rawI (img : List ByteArray) (i : Nat) : ByteArray := (blkI img (2 + i / 4)).extract (32 * (i % 4)) (32 * (i % 4) + 32)
theorem rawI_size (img : List ByteArray) (i : Nat) : (rawI img i).size = 32 := by
  have := blkI_size img (2 + i / 4)
  unfold rawI
  rw [ByteArray.size_extract]
  have : i % 4 < 4 := Nat.mod_lt _ (by omega)
  omega

set_option maxRecDepth 100000 in
theorem numBytes_any (A : Option Addr) (n c : Nat) (img : List ByteArray) (i : Nat) (hi : i ≤ 1099511627776) (w : World) (h : Reads w w.heap.size 1 A n (encS img)) :
    Calls Tryz.prog 65 #[.int .i64 i, .slice A n c] w fun e w' => e = .returned (.string (rawI img i)) ∧ Below w.heap.size w w' := by
  have cn := fun W => numBlock_any i hi W
  have cs := fun W => numStart_any i hi W
  have cb := blockI_any A n c img (2 + i / 4) w h
  have hsz := blkI_size img (2 + i / 4)
  have hr : rawI img i = (blkI img (2 + i / 4)).extract (32 * (i % 4)) (32 * (i % 4) + 32) := rfl
  have h4 : i % 4 < 4 := Nat.mod_lt _ (by omega)
  rw [hr]
  clear hr
  generalize blkI img (2 + i / 4) = s at cb hsz ⊢
  generalize 2 + i / 4 = kb at cn cb
  obtain ⟨st, hst⟩ : ∃ st, st = 32 * (i % 4) := ⟨_, rfl⟩
  rw [← hst] at cs ⊢
  have h96 : st ≤ 96 := by omega
  have h96i : (st : Int) ≤ (s.size : Int) := by omega
  have h0i : (0 : Int) ≤ (st : Int) := by omega
  have hxs : (s.extract st s.size).size = 128 - st := by rw [ByteArray.size_extract]; omega
  have h32 : (32 : Int) ≤ ((s.extract st s.size).size : Int) := by omega
  have hE : (s.extract st 128).extract 0 32 = s.extract st (st + 32) := by
    rw [ByteArray.extract_extract, Nat.add_zero, Nat.min_eq_left (by omega)]
  have HE := Lib.hid hE
  clear hst hE hi h
  go_enter Tryz.func65, Tryz.ntmps65
  go_wp2_with first | (go_at_call 68; refine (cn _).mono ?_; rintro e w1 ⟨rfl, rfl⟩) | (go_at_call 67; refine cb.mono ?_; rintro e w1 ⟨rfl, hb1⟩) | (go_at_call 69; refine (cs _).mono ?_; rintro e w2 ⟨rfl, rfl⟩)
  go_ret
  rw [HE.out]
  exact ⟨rfl, hb1⟩

end Go.Proofs.YtpdfkakhahfcjaaGreat

/-
  The document's own answers for a log: numbers as bytes and back, and blocks filled up with zeros.
-/
namespace Go.Proofs.YtpdfkakhahfcjaaGreat
open Go.RowKit
theorem own_eq_vals {w : World} {base n : Nat} {e : TypeId} {v : Value} {xs ys : List Value} (h : w.ownsRow base e 1 v n xs) (he : xs = ys) : w.ownsRow base e 1 v n ys := he ▸ h

theorem infoU : (Tryz.prog.info? 5).map (fun i => (i.zero, i.size, i.bytes)) = some (some (.int .u8 0), 1, 1) := by kernel_rfl

theorem beL_length (n k : Nat) : (beL n k).length = k := by simp [beL]
theorem beL_get {n k j : Nat} (h : j < k) : (beL n k)[j]? = some (UInt8.ofNat (n / 256 ^ (k - 1 - j))) := by simp [beL, h]
theorem take_snoc_get {α : Type} {l : List α} {j : Nat} {x : α} (h : l[j]? = some x) : l.take (j + 1) = l.take j ++ [x] := by
  rw [List.take_add_one, h]; rfl
theorem be_byte (n i : Nat) : (n : Int) / 2 ^ (8 * i) % 256 = ((UInt8.ofNat (n / 256 ^ i)).toNat : Int) := by
  have e : (256 : Nat) ^ i = 2 ^ (8 * i) := by rw [show (256 : Nat) = 2 ^ 8 by decide, ← Nat.pow_mul]
  rw [e]
  have h2 : (UInt8.ofNat (n / 2 ^ (8 * i))).toNat = n / 2 ^ (8 * i) % 256 := by simp
  rw [h2]
  simp
theorem u8s_be {n k j : Nat} (h : j < k) : u8s ((beL n k).take j) ++ [Value.int .u8 ((n : Int) / 2 ^ (8 * (k - 1 - j)) % 256)] = u8s ((beL n k).take (j + 1)) := by
  rw [take_snoc_get (beL_get h), be_byte]
  simp [u8s]

set_option maxRecDepth 100000 in
set_option maxHeartbeats 1000000 in
theorem refBe_any (n k : Nat) (w : World) (_hn : n < 18446744073709551616) (hk : k ≤ 8) (hk1 : 0 < k) : Calls Tryz.prog 86 #[.int .u64 n, .int .i64 k] w fun e w' => e = .returned (.string (mkB (beL n k))) ∧ Below w.heap.size w w' := by
  obtain ⟨i0, hi0, hz0, hz1, hz2⟩ := info_parts infoU
  go_enter Tryz.func86, Tryz.ntmps86
  go_wp2
  go_loopg [5, 6] k (fun g s5 s6 wr => ∃ (j : Nat) (A : Option Addr) (c : Nat), j ≤ k ∧ k - j ≤ g ∧ s6 = .int .i64 ((k : Int) - 1 - j) ∧ s5 = .slice A j c ∧ Hid (wr.ownsRow w.heap.size 5 1 (.slice A j c) j (u8s ((beL n k).take j)) ∧ Below w.heap.size w wr))
  case atStart => exact ⟨0, none, 0, Nat.zero_le _, by omega, by go_num, rfl, Lib.hid ⟨own_nil, Below.refl _ _⟩⟩
  case round =>
    obtain ⟨j, A, c, hj, hg, rfl, rfl, J⟩ := hrel
    by_cases hlt : j < k
    · have h0 : (0 : Int) ≤ (k : Int) - 1 - j := by omega
      have hi2 : (k : Int) - 1 - j = ((k - 1 - j : Nat) : Int) := by omega
      have HV := Lib.hid (u8s_be (n := n) hlt)
      rw [hi2]
      go_wp2_with (at_builtin; refine wpList_append_reads _ rfl (.tmp 13) (.tmp 19) 53 rfl w.heap.size 5 i0 _ 1 1 Tryz.underlying53 hi0 hz0 hz1 hz2 rfl (by omega) (.slice A j c) j (u8s ((beL n k).take j)) rfl (own_alloc J.out.1 _) _ (some ⟨wr.heap.size, 0, none⟩) 1 1 [.int .u8 ((n : Int) / 2 ^ (8 * (k - 1 - j)) % 256)] rfl (reads_new wr #[.int .u8 ((n : Int) / 2 ^ (8 * (k - 1 - j)) % 256)] 5 1 1 rfl) (by simp [Value.oneCell']) (by simp only [maxLen]; omega) (by omega) (by have := J.out.2.size; simp; omega) ?_; intro A6 c6 w6 ho6 hg6 _)
      have JN : Hid (w6.ownsRow w.heap.size 5 1 (.slice A6 (j + 1) c6) (j + 1) (u8s ((beL n k).take (j + 1))) ∧ Below w.heap.size w w6) :=
        Lib.hid ⟨own_eq_vals ho6 HV.out, (J.out.2.alloc J.out.2.size _).grown hg6 (by have := J.out.2.size; simp; omega) (fun q hq => by have := own_row_ge J.out.1 _ hq; omega)⟩
      go_roundg (k - (j + 1))
      case measure => omega
      case rel => exact ⟨j + 1, A6, c6, by omega, by omega, by go_num, rfl, JN⟩
    · have : j = k := by omega
      subst this
      have hT : (beL n j).take j = beL n j := List.take_of_length_le (by rw [beL_length]; exact Nat.le_refl _)
      have hO := J.out.1
      rw [hT] at hO
      have hconv := own_string Tryz.underlying53 Tryz.underlying5 Tryz.underlying9 hO (by omega)
      clear hT hO
      go_wp2
      go_ret
      exact ⟨rfl, J.out.2⟩

theorem neL_snoc (l : List UInt8) (b : UInt8) : neL (l ++ [b]) = neL l * 256 + b.toNat := by simp [neL]
theorem neL_go : ∀ (l : List UInt8) (n : Nat), l.foldl (fun n b => n * 256 + b.toNat) n < (n + 1) * 256 ^ l.length
  | [], n => by simp
  | b :: l, n => by
    have h := neL_go l (n * 256 + b.toNat)
    have hb := b.toNat_lt
    have h2 : (n * 256 + b.toNat + 1) * 256 ^ l.length ≤ ((n + 1) * 256) * 256 ^ l.length := Nat.mul_le_mul_right _ (by omega)
    show l.foldl (fun n b => n * 256 + b.toNat) (n * 256 + b.toNat) < _
    rw [List.length_cons, Nat.pow_succ, Nat.mul_comm (256 ^ l.length) 256, ← Nat.mul_assoc]
    omega
theorem neL_lt (l : List UInt8) : neL l < 256 ^ l.length := by
  have := neL_go l 0
  simpa [neL] using this
set_option maxRecDepth 100000 in
set_option maxHeartbeats 1000000 in
theorem refNe_any (s : ByteArray) (w : World) (hs : s.size ≤ 8) : Calls Tryz.prog 53 #[.string s] w fun e w' => e = .returned (.int .u64 (neL s.data.toList : Nat)) ∧ w = w' := by
  go_enter Tryz.func53, Tryz.ntmps53
  go_wp2
  go_loopg [3, 4] s.size (fun g s3 s4 wr => ∃ i : Nat, i ≤ s.size ∧ s.size - i ≤ g ∧ s4 = .int .i64 i ∧ s3 = .int .u64 (neL (s.data.toList.take i) : Nat) ∧ w = wr)
  case atStart => exact ⟨0, Nat.zero_le _, by omega, rfl, rfl, rfl⟩
  case round =>
    obtain ⟨i, hi, hg, rfl, rfl, rfl⟩ := hrel
    by_cases hlt : i < s.size
    · have hin : (i : Int) < (s.size : Int) := by omega
      have hb := s[i].toNat_lt
      have hlt7 : neL (s.data.toList.take i) < 72057594037927936 := by
        have h1 := neL_lt (s.data.toList.take i)
        have h2 : (s.data.toList.take i).length ≤ 7 := by rw [List.length_take]; omega
        exact Nat.lt_of_lt_of_le h1 (Nat.le_trans (Nat.pow_le_pow_right (by decide) h2) (by decide))
      have HW : Hid (IntKind.u64.wrap (IntKind.u64.wrap ((neL (s.data.toList.take i) : Nat) * 256) + IntKind.u64.wrap (s[i].toNat : Int)) = ((neL (s.data.toList.take (i + 1)) : Nat) : Int)) := Lib.hid (by
        rw [take_snoc s i hlt, neL_snoc, IntKind.wrap_u64, IntKind.wrap_u64, IntKind.wrap_u64]
        omega)
      clear hlt7 hb
      go_wp2
      go_roundg (s.size - (i + 1))
      case measure => omega
      case rel => exact ⟨i + 1, by omega, by omega, by go_num, by rw [HW.out], rfl⟩
    · have : i = s.size := by omega
      subst this
      have ht : Hid (neL (s.data.toList.take s.size) = neL s.data.toList) := Lib.hid (by rw [List.take_of_length_le (by simp)])
      go_wp2
      go_ret
      rw [ht.out]
      exact ⟨rfl, rfl⟩

theorem padL_of (s : ByteArray) : s ++ strOfNums (List.replicate (128 - s.size) 0) = padL s.data.toList := by
  apply ByteArray.ext
  rw [ByteArray.data_append]
  have hl : s.data.toList.length = s.size := by simp
  unfold padL mkB strOfNums
  rw [hl, List.map_replicate]
  apply Array.ext'
  simp
end Go.Proofs.YtpdfkakhahfcjaaGreat
