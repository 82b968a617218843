/-
  Chapter 11's examples: the statements' last part returns true.
-/
import Derived.Test.YtipmeooldopkmaaDoorL25
namespace Go.Proofs.YtipmeooldopkmaaDoor
open Go.RowKit

def exP : Pro := ⟨[68, 84, 83, 84, 65, 82, 84], [⟨[84, 90, 73, 68], [[97, 58, 98]]⟩], [50, 48, 50, 53, 48, 49, 48, 49]⟩
theorem ex_par1 : parL [100, 116, 115, 116, 97, 114, 116, 59, 116, 122, 105, 100, 61, 34, 97, 58, 98, 34, 58, 50, 48, 50, 53, 48, 49, 48, 49] = (exP, 0) := by decide +kernel
theorem ex_par2 : parL [97] = (noPro, 11) := by decide +kernel
theorem ex_par3 : parL [97, 32, 98, 58] = (noPro, 10) := by decide +kernel
theorem ex_prn : prnL exP = [68, 84, 83, 84, 65, 82, 84, 59, 84, 90, 73, 68, 61, 34, 97, 58, 98, 34, 58, 50, 48, 50, 53, 48, 49, 48, 49] := by decide +kernel
theorem ex_unf1 : unfQ [65, 58, 98, 13, 10, 32, 99, 10, 68, 58, 101] = ([[65, 58, 98, 99], [68, 58, 101]], 0) := by decide +kernel
theorem ex_unf2 : unfQ [32, 97] = ([], 10) := by decide +kernel

theorem bytes_of {v : ByteArray} {a : List UInt8} (h : v.data.toList = a) : v = ⟨a.toArray⟩ := by subst h; simp
abbrev exR (K : Option Addr) (k kc : Nat) : PR := ⟨⟨#[84, 90, 73, 68]⟩, K, k, kc, [⟨#[97, 58, 98]⟩]⟩
theorem exR_pro (K : Option Addr) (k kc : Nat) : proOf ⟨#[68, 84, 83, 84, 65, 82, 84]⟩ [exR K k kc] ⟨#[50, 48, 50, 53, 48, 49, 48, 49]⟩ = exP := rfl
/-- The first example. -/
theorem cParse1 (w : World) (hv : LV w) : Calls Tryd.prog 6 #[.string ⟨#[100, 116, 115, 116, 97, 114, 116, 59, 116, 122, 105, 100, 61, 34, 97, 58, 98, 34, 58, 50, 48, 50, 53, 48, 49, 48, 49]⟩] w fun e w' => ∃ (L : Option Addr) (n c : Nat) (K : Option Addr) (k kc : Nat), e = .returned (.tuple #[.agg #[.string ⟨#[68, 84, 83, 84, 65, 82, 84]⟩, .slice L n c, .string ⟨#[50, 48, 50, 53, 48, 49, 48, 49]⟩], .int .i64 0]) ∧
    Reads w' w'.heap.size 2 L n (encP [exR K k kc]) ∧ (∀ r ∈ [exR K k kc], POk w' w'.heap.size r) ∧ n ≤ c ∧ c ≤ maxLen ∧ Below w.heap.size w w' := by
  refine (pParse_any ⟨#[100, 116, 115, 116, 97, 114, 116, 59, 116, 122, 105, 100, 61, 34, 97, 58, 98, 34, 58, 50, 48, 50, 53, 48, 49, 48, 49]⟩ (by decide) w hv).mono fun e w' h => ?_
  obtain ⟨nm, vl, L, n, c, l, he, hp, hR, hP, hn, hc, hb⟩ := h
  rw [show (⟨#[100, 116, 115, 116, 97, 114, 116, 59, 116, 122, 105, 100, 61, 34, 97, 58, 98, 34, 58, 50, 48, 50, 53, 48, 49, 48, 49]⟩ : ByteArray).data.toList = [100, 116, 115, 116, 97, 114, 116, 59, 116, 122, 105, 100, 61, 34, 97, 58, 98, 34, 58, 50, 48, 50, 53, 48, 49, 48, 49] from rfl, ex_par1] at he hp
  dsimp only at he hp
  injection hp with h1 h2 h3
  obtain rfl := bytes_of h1.symm
  obtain rfl := bytes_of h3.symm
  obtain ⟨r, rfl, h6⟩ := List.map_eq_singleton_iff.1 h2.symm
  obtain ⟨rn, K, k, kc, vs⟩ := r
  have h4 : rn.data.toList = [84, 90, 73, 68] := by have := congrArg Par.name h6; exact this
  have h5 : vs.map (fun v => v.data.toList) = [[97, 58, 98]] := by have := congrArg Par.vals h6; exact this
  obtain rfl := bytes_of h4
  obtain ⟨v, rfl, h7⟩ := List.map_eq_singleton_iff.1 h5
  obtain rfl := bytes_of h7
  exact ⟨L, n, c, K, k, kc, he, hR, hP, hn, hc, hb⟩
/-- An example that is none. -/
theorem cParseE (s : ByteArray) (k : Int) (hs : s.size ≤ 16777216) (h : parL s.data.toList = (noPro, k)) (w : World) (hv : LV w) : Calls Tryd.prog 6 #[.string s] w fun e w' => ∃ (nm vl : ByteArray) (L : Option Addr) (n c : Nat), e = .returned (.tuple #[.agg #[.string nm, .slice L n c, .string vl], .int .i64 k]) ∧ Below w.heap.size w w' := by
  refine (pParse_any s hs w hv).mono fun e w' h' => ?_
  obtain ⟨nm, vl, L, n, c, l, he, _, _, _, _, _, hb⟩ := h'
  rw [h] at he
  exact ⟨nm, vl, L, n, c, he, hb⟩
theorem cUnf1 (w : World) (hv : LV w) : Calls Tryd.prog 19 #[.string ⟨#[65, 58, 98, 13, 10, 32, 99, 10, 68, 58, 101]⟩] w fun e w' => ∃ (A : Option Addr) (n c : Nat), e = .returned (.tuple #[.slice A n c, .int .i64 0]) ∧ Reads w' w'.heap.size 1 A n (encS [⟨#[65, 58, 98, 99]⟩, ⟨#[68, 58, 101]⟩]) ∧ n ≤ c ∧ c ≤ maxLen ∧ Below w.heap.size w w' := by
  refine (pUnfold_any ⟨#[65, 58, 98, 13, 10, 32, 99, 10, 68, 58, 101]⟩ (by decide) w hv).mono fun e w' h => ?_
  obtain ⟨A, n, c, bs, he, h2, hR, hn, hc, hb⟩ := h
  rw [show (⟨#[65, 58, 98, 13, 10, 32, 99, 10, 68, 58, 101]⟩ : ByteArray).data.toList = [65, 58, 98, 13, 10, 32, 99, 10, 68, 58, 101] from rfl, ex_unf1] at he h2
  dsimp only at he h2
  obtain ⟨a, l, rfl, h3, h4⟩ := List.map_eq_cons_iff.1 h2
  obtain ⟨b, rfl, h5⟩ := List.map_eq_singleton_iff.1 h4
  obtain rfl := bytes_of h3
  obtain rfl := bytes_of h5
  exact ⟨A, n, c, he, hR, hn, hc, hb⟩
theorem cUnf2 (w : World) (hv : LV w) : Calls Tryd.prog 19 #[.string ⟨#[32, 97]⟩] w fun e w' => ∃ (A : Option Addr) (n c : Nat), e = .returned (.tuple #[.slice A n c, .int .i64 10]) ∧ Below w.heap.size w w' := by
  refine (pUnfold_any ⟨#[32, 97]⟩ (by decide) w hv).mono fun e w' h => ?_
  obtain ⟨A, n, c, bs, he, h2, hR, hn, hc, hb⟩ := h
  rw [show (⟨#[32, 97]⟩ : ByteArray).data.toList = [32, 97] from rfl, ex_unf2] at he
  exact ⟨A, n, c, he, hb⟩
theorem ex_prm (K : Option Addr) (k kc : Nat) : prmV [exR K k kc] ⟨#[84, 90, 73, 68]⟩ = (⟨#[97, 58, 98]⟩, true) := rfl
theorem ex_weigh (K : Option Addr) (k kc : Nat) : (⟨#[68, 84, 83, 84, 65, 82, 84]⟩ : ByteArray).size + psizes [exR K k kc] + (⟨#[50, 48, 50, 53, 48, 49, 48, 49]⟩ : ByteArray).size ≤ 1048576 := by
  have : psizes [exR K k kc] = 9 := rfl
  rw [this]
  decide

set_option maxRecDepth 100000 in
set_option maxHeartbeats 4000000 in
theorem awake11_any (w : World) (hv : LV w) : Calls Tryd.prog 9 #[] w fun e w' => e = .returned (.bool true) ∧ Below w.heap.size w w' := by
  have HV := Lib.hid hv
  clear hv
  go_enter Tryd.func9, Tryd.ntmps9
  go_wp2_with fail
  refine (cParse1 w HV.out).mono ?_
  rintro e w1 ⟨L, n, c, K, k, kc, rfl, hR, hP, hn, hc, hb1⟩
  have HA := Lib.hid (PA.new hR hP hn hc ⟨#[68, 84, 83, 84, 65, 82, 84]⟩ ⟨#[50, 48, 50, 53, 48, 49, 48, 49]⟩)
  have B1 := Lib.hid (hb1.alloc hb1.size (.cells #[.string ⟨#[68, 84, 83, 84, 65, 82, 84]⟩, .slice L n c, .string ⟨#[50, 48, 50, 53, 48, 49, 48, 49]⟩] 24))
  clear hR hP hn hc hb1
  go_wp2_with fail
  have cp := pParam_any ⟨#[68, 84, 83, 84, 65, 82, 84]⟩ ⟨#[50, 48, 50, 53, 48, 49, 48, 49]⟩ ⟨#[84, 90, 73, 68]⟩ L n c [exR K k kc] _ HA.out.rd HA.out.vs HA.out.le HA.out.cap (ex_weigh K k kc) (HV.out.step B1.out)
  rw [ex_prm] at cp
  refine cp.mono ?_
  rintro e w2 ⟨rfl, hb2⟩
  have A2 := Lib.hid (HA.out.step hb2)
  have B2 := Lib.hid (bstep B1.out hb2)
  clear cp hb2 HA B1
  go_wp2_with fail
  refine (cParseE ⟨#[97]⟩ 11 (by decide) ex_par2 w2 (HV.out.step B2.out)).mono ?_
  rintro e w3 ⟨nm3, vl3, L3, n3, c3, rfl, hb3⟩
  have hb3 := hb3.alloc hb3.size (.cells #[.string nm3, .slice L3 n3 c3, .string vl3] 24)
  have A3 := Lib.hid (A2.out.step hb3)
  have B3 := Lib.hid (bstep B2.out hb3)
  clear hb3 A2 B2
  go_wp2_with fail
  refine (cParseE ⟨#[97, 32, 98, 58]⟩ 10 (by decide) ex_par3 _ (HV.out.step B3.out)).mono ?_
  rintro e w4 ⟨nm4, vl4, L4, n4, c4, rfl, hb4⟩
  have hb4 := hb4.alloc hb4.size (.cells #[.string nm4, .slice L4 n4 c4, .string vl4] 24)
  have A4 := Lib.hid (A3.out.step hb4)
  have B4 := Lib.hid (bstep B3.out hb4)
  clear hb4 A3 B3
  go_wp2_with fail
  refine (cUnf1 _ (HV.out.step B4.out)).mono ?_
  rintro e w5 ⟨A5, n5, c5, rfl, hR5, hn5, hc5, hb5⟩
  have A5h := Lib.hid (A4.out.step hb5)
  have B5 := Lib.hid (bstep B4.out hb5)
  have R5 := Lib.hid (And.intro hR5 (And.intro hn5 hc5))
  clear hb5 A4 B4 hR5 hn5 hc5
  go_wp2_with fail
  refine (cUnf2 _ (HV.out.step B5.out)).mono ?_
  rintro e w6 ⟨A6, n6, c6, rfl, hb6⟩
  have A7 := Lib.hid (A5h.out.step hb6)
  have B7 := Lib.hid (bstep B5.out hb6)
  have R7 := Lib.hid (And.intro (R5.out.1.step hb6) R5.out.2)
  clear hb6 A5h B5 R5
  obtain ⟨x0, x1, x2⟩ := A7.out.bx.cells
  have cpr := pPrint_any ⟨#[68, 84, 83, 84, 65, 82, 84]⟩ ⟨#[50, 48, 50, 53, 48, 49, 48, 49]⟩ L n c [exR K k kc] w6 A7.out.rd A7.out.vs A7.out.le A7.out.cap (ex_weigh K k kc) (HV.out.step B7.out)
  rw [exR_pro, ex_prn] at cpr
  go_wp2_with fail
  refine cpr.mono ?_
  rintro e w7 ⟨rfl, hb7⟩
  have B8 := Lib.hid (bstep B7.out hb7)
  have hb8 : Below w7.heap.size w7 (w7.alloc (.cells #[.string ⟨#[65, 58, 98, 99]⟩, .string ⟨#[68, 58, 101]⟩] 9)) := (Below.refl _ _).alloc (Nat.le_refl _) _
  have R8 := Lib.hid ((R7.out.1.step hb7).step hb8)
  have R9 : Reads (w7.alloc (.cells #[.string ⟨#[65, 58, 98, 99]⟩, .string ⟨#[68, 58, 101]⟩] 9)) (w7.alloc (.cells #[.string ⟨#[65, 58, 98, 99]⟩, .string ⟨#[68, 58, 101]⟩] 9)).heap.size 1 (some ⟨w7.heap.size, 0, none⟩) 2 (encS [⟨#[65, 58, 98, 99]⟩, ⟨#[68, 58, 101]⟩]) := reads_new w7 _ _ 2 1 rfl
  have ct := refTexts8_any A5 (some ⟨w7.heap.size, 0, none⟩) n5 c5 2 2 _ _ _ R8.out R9 (by have := R7.out.2; unfold maxLen at this; omega) (by omega)
  rw [decide_eq_true rfl] at ct
  have B9 := Lib.hid (bstep B8.out hb8)
  clear hb7 hb8 cpr R9
  go_wp2_with fail
  refine ct.mono ?_
  rintro e w8 ⟨rfl, qq, rfl⟩
  go_wp2
  go_ret
  exact ⟨rfl, bstep B9.out ⟨rfl, rfl, rfl, Nat.le_refl _, fun _ _ => rfl⟩⟩

end Go.Proofs.YtipmeooldopkmaaDoor

/-
  Layer 11's laws, the first two: each returns true.
-/
namespace Go.Proofs.YtipmeooldopkmaaDoor
open Go.RowKit

set_option maxRecDepth 100000 in
set_option maxHeartbeats 4000000 in
theorem reads_any (s : ByteArray) (w : World) (hv : LV w) :
    Calls Tryd.prog 3 #[.string s] w fun e w' => e = .returned (.bool true) ∧ Below w.heap.size w w' := by
  have HV := Lib.hid hv
  clear hv
  go_enter Tryd.func3, Tryd.ntmps3
  go_wp2_with fail
  refine (pParse_free s w HV.out).mono ?_
  rintro e w1 ⟨nm, vl, L, n, c, l, rfl, hp, hR, hP, hn, hc, hb1⟩
  have HA := Lib.hid (PA.new hR hP hn hc nm vl)
  have B1 := Lib.hid (hb1.alloc hb1.size (.cells #[.string nm, .slice L n c, .string vl] 24))
  have HP := Lib.hid hp
  clear hR hP hn hc hb1 hp
  obtain ⟨k, hk⟩ : ∃ k, (parL s.data.toList).2 = k := ⟨_, rfl⟩
  rw [hk]
  have HK := Lib.hid hk
  clear hk
  go_wp2_with fail
  refine (refParse_free s _).mono ?_
  rintro e w2 ⟨nm2, vl2, L2, n2, c2, l2, rfl, hp2, hR2, hP2, hn2, hc2, hb2⟩
  rw [HK.out]
  have HA2 := Lib.hid (PA.new hR2 hP2 hn2 hc2 nm2 vl2)
  have hb2 := hb2.alloc hb2.size (.cells #[.string nm2, .slice L2 n2 c2, .string vl2] 24)
  have HA1 := Lib.hid (HA.out.step hb2)
  have B2 := Lib.hid (bstep B1.out hb2)
  have HE := Lib.hid (show proOf nm l vl = proOf nm2 l2 vl2 from HP.out.symm.trans hp2)
  clear hR2 hP2 hn2 hc2 hb2 hp2 HA B1 HP
  obtain ⟨x0, x1, x2⟩ := HA1.out.bx.cells
  obtain ⟨y0, y1, y2⟩ := HA2.out.bx.cells
  have cs := refSame11_any nm vl nm2 vl2 L L2 n c n2 c2 l l2 _ HA1.out.rd HA1.out.vs HA1.out.le HA1.out.cap HA2.out.rd HA2.out.vs HA2.out.le HA2.out.cap
  rw [decide_eq_true HE.out] at cs
  have hkk : (k == k) = true := by simp
  go_wp2_with fail
  refine cs.mono ?_
  rintro e w3 ⟨rfl, hb3⟩
  have B3 := Lib.hid (bstep B2.out hb3)
  clear hb3 x0 x1 x2 y0 y1 y2 cs
  go_wp2_with fail
  refine (awake11_any w3 (HV.out.step B3.out)).mono ?_
  rintro e w4 ⟨rfl, hb4⟩
  go_wp2
  go_ret
  exact ⟨rfl, bstep B3.out hb4⟩

/-- The world between two calls: the two properties' variables, what the listed variables hold, what was before. -/
structure W2 (w W : World) (g g2 : Nat) (nm vl : ByteArray) (L : Option Addr) (n c : Nat) (l : List PR) (nm2 vl2 : ByteArray) (L2 : Option Addr) (n2 c2 : Nat) (l2 : List PR) : Prop where
  a : PA W g nm vl L n c l
  b : PA W g2 nm2 vl2 L2 n2 c2 l2
  v : LV W
  bel : Below w.heap.size w W
theorem W2.step {w W W' : World} {g g2 : Nat} {nm vl : ByteArray} {L : Option Addr} {n c : Nat} {l : List PR} {nm2 vl2 : ByteArray} {L2 : Option Addr} {n2 c2 : Nat} {l2 : List PR} (h : W2 w W g g2 nm vl L n c l nm2 vl2 L2 n2 c2 l2) (hb : Below W.heap.size W W') : W2 w W' g g2 nm vl L n c l nm2 vl2 L2 n2 c2 l2 :=
  ⟨h.a.step hb, h.b.step hb, h.v.step hb, bstep h.bel hb⟩
theorem sameSelf (a : ByteArray) : (a.toList == a.toList) = true := by simp
set_option maxRecDepth 100000 in
set_option maxHeartbeats 4000000 in
theorem writes_any (nm vl nm2 vl2 name : ByteArray) (L L2 : Option Addr) (n c n2 c2 : Nat) (l l2 : List PR) (w : World) (hR : Reads w w.heap.size 2 L n (encP l)) (hP : ∀ r ∈ l, POk w w.heap.size r) (hn : n ≤ c) (hc : c ≤ maxLen)
    (hR2 : Reads w w.heap.size 2 L2 n2 (encP l2)) (hP2 : ∀ r ∈ l2, POk w w.heap.size r) (hn2 : n2 ≤ c2) (hc2 : c2 ≤ maxLen) (hsz : nm.size + psizes l + vl.size ≤ 1048576) (hsz2 : nm2.size + psizes l2 + vl2.size ≤ 1048576) (hv : LV w) :
    Calls Tryd.prog 4 #[.agg #[.string nm, .slice L n c, .string vl], .agg #[.string nm2, .slice L2 n2 c2, .string vl2], .string name] w fun e w' => e = .returned (.bool true) ∧ Below w.heap.size w w' := by
  have hb1 : Below w.heap.size w (w.alloc (.cells #[.string nm, .slice L n c, .string vl] 24)) := (Below.refl _ w).alloc (Nat.le_refl _) _
  have hb2 := (Below.refl _ (w.alloc (.cells #[.string nm, .slice L n c, .string vl] 24))).alloc (Nat.le_refl _) (.cells #[.string nm2, .slice L2 n2 c2, .string vl2] 24)
  have K0 : Hid (W2 w ((w.alloc (.cells #[.string nm, .slice L n c, .string vl] 24)).alloc (.cells #[.string nm2, .slice L2 n2 c2, .string vl2] 24)) w.heap.size (w.heap.size + 1) nm vl L n c l nm2 vl2 L2 n2 c2 l2) := Lib.hid
    ⟨(PA.new hR hP hn hc nm vl).step hb2, by simpa using PA.new (hR2.step hb1) (fun r hr => (hP2 r hr).step hb1) hn2 hc2 nm2 vl2, hv.step (bstep hb1 hb2), bstep hb1 hb2⟩
  have HS := Lib.hid (And.intro hsz hsz2)
  clear hR hP hn hc hR2 hP2 hn2 hc2 hb1 hb2 hv hsz hsz2
  have hmx : Tryd.prog.follows .mixedOrders = true := by kernel_rfl
  have c1 := fun W (h : W2 w W w.heap.size (w.heap.size + 1) nm vl L n c l nm2 vl2 L2 n2 c2 l2) => pParam_any nm vl name L n c l W h.a.rd h.a.vs h.a.le h.a.cap HS.out.1 h.v
  have c2' := fun W (h : W2 w W w.heap.size (w.heap.size + 1) nm vl L n c l nm2 vl2 L2 n2 c2 l2) => refParam_any nm vl name L n c l W h.a.rd h.a.vs h.a.le h.a.cap
  have c3 := fun W (h : W2 w W w.heap.size (w.heap.size + 1) nm vl L n c l nm2 vl2 L2 n2 c2 l2) => pFit_any nm vl L n c l W h.a.rd h.a.vs h.a.le h.a.cap HS.out.1 h.v
  have c4 := fun W (h : W2 w W w.heap.size (w.heap.size + 1) nm vl L n c l nm2 vl2 L2 n2 c2 l2) => refFit11_any nm vl L n c l W h.a.rd h.a.vs h.a.le h.a.cap HS.out.1
  have c5 := fun W (h : W2 w W w.heap.size (w.heap.size + 1) nm vl L n c l nm2 vl2 L2 n2 c2 l2) => pPrint_any nm vl L n c l W h.a.rd h.a.vs h.a.le h.a.cap HS.out.1 h.v
  have c6 := fun W (h : W2 w W w.heap.size (w.heap.size + 1) nm vl L n c l nm2 vl2 L2 n2 c2 l2) => refPrint11_any nm vl L n c l W h.a.rd h.a.vs h.a.le h.a.cap HS.out.1
  have c7 := fun W (h : W2 w W w.heap.size (w.heap.size + 1) nm vl L n c l nm2 vl2 L2 n2 c2 l2) => pSame_any nm vl nm2 vl2 L L2 n c n2 c2 l l2 W h.a.rd h.a.vs h.a.le h.a.cap h.b.rd h.b.vs h.b.le h.b.cap HS.out.1 HS.out.2 h.v
  have c8 := fun W (h : W2 w W w.heap.size (w.heap.size + 1) nm vl L n c l nm2 vl2 L2 n2 c2 l2) => refSame11_any nm vl nm2 vl2 L L2 n c n2 c2 l l2 W h.a.rd h.a.vs h.a.le h.a.cap h.b.rd h.b.vs h.b.le h.b.cap
  have c9 := fun W (h : W2 w W w.heap.size (w.heap.size + 1) nm vl L n c l nm2 vl2 L2 n2 c2 l2) => pSame_any nm vl nm vl L L n c n c l l W h.a.rd h.a.vs h.a.le h.a.cap h.a.rd h.a.vs h.a.le h.a.cap HS.out.1 HS.out.1 h.v
  have c10 := fun W (h : W2 w W w.heap.size (w.heap.size + 1) nm vl L n c l nm2 vl2 L2 n2 c2 l2) => awake11_any W h.v
  have hself : decide (proOf nm l vl = proOf nm l vl) = true := decide_eq_true rfl
  simp only [] at c9
  clear hself
  generalize prmV l name = vp at c1 c2'
  obtain ⟨va, vb⟩ := vp
  dsimp only at c1 c2'
  generalize fitB (proOf nm l vl) = bf at c3 c4
  generalize (⟨(prnL (proOf nm l vl)).toArray⟩ : ByteArray) = T at c5 c6
  generalize decide (proOf nm l vl = proOf nm2 l2 vl2) = bs at c7 c8
  have t1 := sameSelf va
  have t2 := sameSelf T
  have t3 : (vb == vb) = true := by simp
  have t4 : (bf == bf) = true := by simp
  have t5 : (bs == bs) = true := by simp
  have H1 := Lib.hid c1
  have H2 := Lib.hid c2'
  have H3 := Lib.hid c3
  have H4 := Lib.hid c4
  have H5 := Lib.hid c5
  have H6 := Lib.hid c6
  have H7 := Lib.hid c7
  have H8 := Lib.hid c8
  have H9 := Lib.hid c9
  have H10 := Lib.hid c10
  clear c1 c2' c3 c4 c5 c6 c7 c8 c9 c10 HS
  go_enter Tryd.func4, Tryd.ntmps4
  obtain ⟨x0, x1, x2⟩ := K0.out.a.bx.cells
  obtain ⟨y0, y1, y2⟩ := K0.out.b.bx.cells
  go_wp2_with fail
  refine (H1.out _ K0.out).mono ?_
  rintro e w1 ⟨rfl, hb1⟩
  have K1 := Lib.hid (K0.out.step hb1)
  clear hb1 x0 x1 x2 y0 y1 y2 K0
  obtain ⟨x0, x1, x2⟩ := K1.out.a.bx.cells
  obtain ⟨y0, y1, y2⟩ := K1.out.b.bx.cells
  go_wp2_with fail
  refine (H2.out _ K1.out).mono ?_
  rintro e w2 ⟨rfl, hb2⟩
  have K2 := Lib.hid (K1.out.step hb2)
  clear hb2 x0 x1 x2 y0 y1 y2 K1
  go_wp2_with fail
  refine region_heldL (C := fun W => W2 w W w.heap.size (w.heap.size + 1) nm vl L n c l nm2 vl2 L2 n2 c2 l2) hmx (by kernel_rfl) (K2.out.step ((Below.refl _ _).drew)) ?_
  repeat (first
    | go_big_quiet_skip
    | (go_big_quiet_want; go_big_quiet_op; first
        | go_big_quiet_on
        | (refine ⟨_, fun _ _ => rfl, ?_⟩; go_big_quiet_on)
        | (apply Exists.intro
           refine ⟨fun w5 hw5 => ?_, ?_⟩
           · obtain ⟨x0, x1, x2⟩ := hw5.a.bx.cells
             have fx := fun o => hw5.a.bx.frozen o
             simp only [x0, x1, x2, Result.andThen_ok]
             first | exact ⟨trivial, rfl⟩ | exact ⟨rfl, rfl⟩
           go_big_quiet_on)
        | (apply Exists.intro
           refine ⟨fun w5 hw5 => ?_, ?_⟩
           · obtain ⟨x0, x1, x2⟩ := hw5.b.bx.cells
             have fx := fun o => hw5.b.bx.frozen o
             simp only [x0, x1, x2, Result.andThen_ok]
             first | exact ⟨trivial, rfl⟩ | exact ⟨rfl, rfl⟩
           go_big_quiet_on)
        | (apply Exists.intro
           refine ⟨fun w5 hw5 => ?_, ?_⟩
           · (with_reducible refine (H3.out w5 hw5).mono ?_); rintro e w6 ⟨rfl, hbx⟩; exact ⟨rfl, W2.step hw5 hbx⟩
           go_big_quiet_on)
        | (apply Exists.intro
           refine ⟨fun w5 hw5 => ?_, ?_⟩
           · (with_reducible refine (H4.out w5 hw5).mono ?_); rintro e w6 ⟨rfl, hbx⟩; exact ⟨rfl, W2.step hw5 hbx⟩
           go_big_quiet_on)
        | (apply Exists.intro
           refine ⟨fun w5 hw5 => ?_, ?_⟩
           · (with_reducible refine (H5.out w5 hw5).mono ?_); rintro e w6 ⟨rfl, hbx⟩; exact ⟨rfl, W2.step hw5 hbx⟩
           go_big_quiet_on)
        | (apply Exists.intro
           refine ⟨fun w5 hw5 => ?_, ?_⟩
           · (with_reducible refine (H6.out w5 hw5).mono ?_); rintro e w6 ⟨rfl, hbx⟩; exact ⟨rfl, W2.step hw5 hbx⟩
           go_big_quiet_on)
        | (apply Exists.intro
           refine ⟨fun w5 hw5 => ?_, ?_⟩
           · (with_reducible refine (H7.out w5 hw5).mono ?_); rintro e w6 ⟨rfl, hbx⟩; exact ⟨rfl, W2.step hw5 hbx⟩
           go_big_quiet_on)
        | (apply Exists.intro
           refine ⟨fun w5 hw5 => ?_, ?_⟩
           · (with_reducible refine (H8.out w5 hw5).mono ?_); rintro e w6 ⟨rfl, hbx⟩; exact ⟨rfl, W2.step hw5 hbx⟩
           go_big_quiet_on)
        | (apply Exists.intro
           refine ⟨fun w5 hw5 => ?_, ?_⟩
           · (with_reducible refine (H9.out w5 hw5).mono ?_); rintro e w6 ⟨rfl, hbx⟩; exact ⟨rfl, W2.step hw5 hbx⟩
           go_big_quiet_on)
        | (apply Exists.intro
           refine ⟨fun w5 hw5 => ?_, ?_⟩
           · (with_reducible refine (H10.out w5 hw5).mono ?_); rintro e w6 ⟨rfl, hbx⟩; exact ⟨rfl, W2.step hw5 hbx⟩
           go_big_quiet_on)))
  refine wpQuiet_nil ?_
  intro w7 hw7
  go_wp2
  go_ret
  exact ⟨rfl, hw7.bel⟩

end Go.Proofs.YtipmeooldopkmaaDoor
