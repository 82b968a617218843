/-
  Layer 11's law of there and back: it returns true.
-/
import Derived.Test.YtipmeooldopkmaaDoorL26
import Derived.Test.YtipmeooldopkmaaDoorCards
import Derived.Test.YtipmeooldopkmaaDoorTie
import Derived.SizedLaws
import Derived.ProofKit
import Derived.OpenShut
import Derived.ChangeMaps5
import Derived.Deep.DeepHandedRow
import Derived.Deep.DeepWitnessRowRef
import Derived.Deep.DeepLaidRun
import Derived.Lay
import Derived.LaidMore
import Derived.Lib.LaidU8
import Derived.Shelf.Vars
namespace Go.Proofs.YtipmeooldopkmaaDoor
open Go.RowKit

/-- The world between two calls: the property's variable, the lines, what the listed variables hold, what was before. -/
structure B2 (w W : World) (g : Nat) (nm vl : ByteArray) (L : Option Addr) (n c : Nat) (l : List PR) (A : Option Addr) (m : Nat) (bs : List ByteArray) : Prop where
  a : PA W g nm vl L n c l
  r : Reads W W.heap.size 1 A m (encS bs)
  v : LV W
  bel : Below w.heap.size w W
theorem B2.step {w W W' : World} {g : Nat} {nm vl : ByteArray} {L : Option Addr} {n c : Nat} {l : List PR} {A : Option Addr} {m : Nat} {bs : List ByteArray} (h : B2 w W g nm vl L n c l A m bs) (hb : Below W.heap.size W W') : B2 w W' g nm vl L n c l A m bs :=
  ⟨h.a.step hb, h.r.step hb, h.v.step hb, bstep h.bel hb⟩
theorem foldF_len : ∀ (f : Nat) (l : List UInt8) (n : Nat), (foldF f l n).length ≤ 4 * l.length
  | 0, l, n => by simp [foldF]
  | f + 1, l, n => by
    rw [foldF]
    split
    · simp
    · rename_i h
      have h1 := stepL_pos l
      have h2 := stepL_le h
      have h3 := foldF_len f (l.drop (stepL l)) (1 + stepL l)
      have h4 := foldF_len f (l.drop (stepL l)) (n + stepL l)
      simp only [List.length_drop] at h3 h4
      split <;> simp only [List.length_cons, List.length_append, List.length_take] <;> omega
theorem foldL_len : ∀ bs : List ByteArray, (foldL (bs.map fun b => b.data.toList)).length ≤ 4 * vsize bs
  | [] => by simp [foldL]
  | b :: bs => by
    have ih := foldL_len bs
    have h := foldF_len b.data.toList.length b.data.toList 0
    have hs := bsize b
    have e : foldL ((b :: bs).map fun b => b.data.toList) = lineF b.data.toList ++ foldL (bs.map fun b => b.data.toList) := by simp [foldL]
    have e2 : vsize (b :: bs) = b.size + 1 + vsize bs := by simp [vsize]
    rw [e, e2, List.length_append]
    have e3 : (lineF b.data.toList).length = (foldF b.data.toList.length b.data.toList 0).length + 2 := by simp [lineF]
    omega
theorem blk_le : ∀ (bs : List ByteArray) (k : Nat), (blk bs k).size ≤ vsize bs
  | [], k => Nat.zero_le _
  | b :: bs, 0 => by simp [blk, vsize]; omega
  | b :: bs, k + 1 => by
    have h := blk_le bs k
    have e : blk (b :: bs) (k + 1) = blk bs k := by simp [blk]
    have e2 : vsize (b :: bs) = b.size + 1 + vsize bs := by simp [vsize]
    rw [e, e2]; omega
theorem ne_empty (T : ByteArray) : (!T.toList.isEmpty) = (T.toList != (⟨#[]⟩ : ByteArray).toList) := by
  have e : (⟨#[]⟩ : ByteArray).toList = [] := by simp
  rw [e]
  cases T.toList <;> rfl
theorem nil_of {x : ByteArray} (h : x.size = 0) : (!x.toList.isEmpty) = false := by
  have e : x = ⟨#[]⟩ := by rw [← mk_toList x, List.length_eq_zero_iff.1 ((bsize x).symm.trans h)]
  rw [ne_empty, e]; simp
theorem full_of {x : ByteArray} (h : ¬ x.size = 0) : (!x.toList.isEmpty) = true := by
  rw [ne_empty, strNe]
  have : x.data.toList ≠ [] := fun e => h (by rw [bsize x, e]; rfl)
  simpa using this
/-- One byte of the scan. -/
theorem scan_step {s : ByteArray} {i q : Nat} (hlt : i < s.size) (h : scanL (s.data.toList.drop i) q = true) : (s[i].toNat = 10 → q + 1 ≤ 77 ∧ scanL (s.data.toList.drop (i + 1)) 0 = true) ∧ (s[i].toNat ≠ 10 → scanL (s.data.toList.drop (i + 1)) (q + 1) = true) := by
  have hl : i < s.data.toList.length := by rw [bsize s] at *; exact hlt
  rw [List.drop_eq_getElem_cons hl, scanL] at h
  have e : s.data.toList[i] = s[i] := rfl
  rw [e] at h
  constructor
  · intro h1
    have h2 : s[i] = 10 := UInt8.toNat_inj.1 h1
    rw [if_pos h2, Bool.and_eq_true, decide_eq_true_eq] at h
    exact h
  · intro h1
    rw [if_neg (fun h2 => h1 (by rw [h2]; rfl))] at h
    exact h
/-- A line that comes back, from what the law looks at. -/
theorem line_of {x : ByteArray} (h0 : 0 < x.size) (h1 : x.size ≤ 1024) (h2 : x[0].toNat ≠ 32) (h3 : x[0].toNat ≠ 9) (h4 : (10 : UInt8) ∉ x.data.toList) (h5 : (13 : UInt8) ∉ x.data.toList) : lineOk x.data.toList := by
  have hl : 0 < x.data.toList.length := by rw [← bsize x] at *; exact h0
  refine ⟨fun e => by rw [e] at hl; exact absurd hl (Nat.lt_irrefl _), by rw [← bsize x] at *; exact h1, ?_, fun c hc => ⟨fun e => h4 (e ▸ hc), fun e => h5 (e ▸ hc)⟩⟩
  have e : x.data.toList.head? = some x[0] := by rw [List.head?_eq_getElem?, List.getElem?_eq_getElem hl]; rfl
  unfold goesL
  rw [e]
  have a1 : (some x[0] == some 32) = false := by rw [beq_eq_false_iff_ne]; intro h; injection h with h; exact h2 (by rw [h]; rfl)
  have a2 : (some x[0] == some 9) = false := by rw [beq_eq_false_iff_ne]; intro h; injection h with h; exact h3 (by rw [h]; rfl)
  rw [a1, a2]; rfl

set_option maxRecDepth 100000 in
set_option maxHeartbeats 4000000 in
theorem back_any (nm vl : ByteArray) (L : Option Addr) (n c : Nat) (l : List PR) (A : Option Addr) (m c' : Nat) (bs : List ByteArray) (w : World) (hR : Reads w w.heap.size 2 L n (encP l)) (hP : ∀ r ∈ l, POk w w.heap.size r) (hn : n ≤ c) (hc : c ≤ maxLen)
    (hR2 : Reads w w.heap.size 1 A m (encS bs)) (hm : m ≤ c') (hc' : c' ≤ maxLen) (hsz : nm.size + psizes l + vl.size ≤ 1048576) (hsz2 : vsize bs ≤ 1048576) (hv : LV w) :
    Calls Tryd.prog 5 #[.agg #[.string nm, .slice L n c, .string vl], .slice A m c'] w fun e w' => e = .returned (.bool true) ∧ Below w.heap.size w w' := by
  have hb1 : Below w.heap.size w (w.alloc (.cells #[.string nm, .slice L n c, .string vl] 24)) := (Below.refl _ w).alloc (Nat.le_refl _) _
  have K0 : Hid (B2 w (w.alloc (.cells #[.string nm, .slice L n c, .string vl] 24)) w.heap.size nm vl L n c l A m bs) := Lib.hid
    ⟨PA.new hR hP hn hc nm vl, hR2.step hb1, hv.step hb1, hb1⟩
  have HS := Lib.hid (And.intro hsz hsz2)
  have HM := Lib.hid (And.intro hm hc')
  clear hR hP hn hc hR2 hb1 hv hsz hsz2 hm hc'
  have hmx : Tryd.prog.follows .mixedOrders = true := by kernel_rfl
  go_enter Tryd.func5, Tryd.ntmps5
  obtain ⟨x0, x1, x2⟩ := K0.out.a.bx.cells
  go_wp2_with fail
  have cp := pPrint_any nm vl L n c l _ K0.out.a.rd K0.out.a.vs K0.out.a.le K0.out.a.cap HS.out.1 K0.out.v
  have ht : (⟨(prnL (proOf nm l vl)).toArray⟩ : ByteArray).data.toList = prnL (proOf nm l vl) := list_mk _
  generalize (⟨(prnL (proOf nm l vl)).toArray⟩ : ByteArray) = T at cp ht
  refine cp.mono ?_
  rintro e w1 ⟨rfl, hb1⟩
  have HT := Lib.hid ht
  have K1 := Lib.hid (K0.out.step hb1)
  clear hb1 x0 x1 x2 K0 cp ht
  go_upto_if 19 with fail
  go_cut [] (fun wc => Hid (B2 w wc w.heap.size nm vl L n c l A m bs))
  case first =>
    generalize hz : (!T.toList.isEmpty) = z
    rw [ne_empty] at hz
    by_cases hf : fitB (proOf nm l vl) = true
    · have hT2 : T.data.toList = textL (proOf nm l vl) := by rw [HT.out]; unfold prnL; rw [if_pos hf]
      have hok := (fitB_iff _).1 hf
      have hlen : T.size ≤ 1024 := by rw [bsize T, hT2]; exact hok.2.2.2.2
      have hpar : parL T.data.toList = (proOf nm l vl, 0) := by rw [hT2]; exact parse_print hok
      have hne : (T.toList != (⟨#[]⟩ : ByteArray).toList) = true := by
        rw [strNe, hT2]
        simp [textL]
      rw [hne] at hz
      subst hz
      have HQ := Lib.hid hpar
      have hlen2 := hlen
      clear hf hT2 hok hlen2 hpar HT hne
      go_wp2_with fail
      refine (pParse_any T (by omega) _ K1.out.v).mono ?_
      rintro e w2 ⟨nm2, vl2, L2, n2, c2, l2, rfl, hp2, hR2, hP2, hn2, hc2, hb2⟩
      rw [HQ.out] at hp2 ⊢
      have HE := Lib.hid (show proOf nm l vl = proOf nm2 l2 vl2 from hp2)
      have HA2 := Lib.hid (PA.new hR2 hP2 hn2 hc2 nm2 vl2)
      have K2 := Lib.hid (K1.out.step (hb2.alloc hb2.size (.cells #[.string nm2, .slice L2 n2 c2, .string vl2] 24)))
      clear hp2 hR2 hP2 hn2 hc2 hb2 K1 HQ
      obtain ⟨x0, x1, x2⟩ := K2.out.a.bx.cells
      obtain ⟨y0, y1, y2⟩ := HA2.out.bx.cells
      have cs := refSame11_any nm vl nm2 vl2 L L2 n c n2 c2 l l2 _ K2.out.a.rd K2.out.a.vs K2.out.a.le K2.out.a.cap HA2.out.rd HA2.out.vs HA2.out.le HA2.out.cap
      rw [decide_eq_true HE.out] at cs
      go_wp2_with fail
      refine cs.mono ?_
      rintro e w3 ⟨rfl, hb3⟩
      go_wp2_with fail
      go_meet
      exact Lib.hid (K2.out.step hb3)
    · have hT2 : T = ⟨#[]⟩ := by
        rw [← mk_toList T, HT.out]; unfold prnL; rw [if_neg hf]
      have hne : (T.toList != (⟨#[]⟩ : ByteArray).toList) = false := by
        rw [strNe, hT2]; simp
      rw [hne] at hz
      subst hz
      clear hf hT2 hne
      go_wp2_with fail
      go_meet
      exact K1
  case rest =>
    clear HT K1
    have K1 := hcut
    clear hcut
    have cf := pFold_any A m c' bs _ K1.out.r HM.out.1 HM.out.2 HS.out.2 K1.out.v
    have hsc := scan_lines (bs.map fun b => b.data.toList)
    have hfl := foldL_len bs
    have ht : (⟨(foldL (bs.map fun b => b.data.toList)).toArray⟩ : ByteArray).data.toList = foldL (bs.map fun b => b.data.toList) := list_mk _
    rw [← ht, ← bsize] at hfl
    rw [← ht] at hsc
    generalize (⟨(foldL (bs.map fun b => b.data.toList)).toArray⟩ : ByteArray) = S at cf ht hfl hsc
    have HF := Lib.hid ht
    have HC := Lib.hid hsc
    have HS2 : S.size ≤ 4194304 := by have := HS.out.2; omega
    clear hsc ht hfl
    go_wp2_with fail
    refine cf.mono ?_
    rintro e w3 ⟨rfl, hb3⟩
    have K3 := Lib.hid (K1.out.step hb3)
    clear cf hb3 K1
    go_upto_region 7 with fail
    have hml : m ≤ 9223372036854775807 := by have := HM.out; unfold maxLen at this; omega
    go_cut [9, 10] (fun s9 s10 wc => s9 = .int .i64 0 ∧ wc = w3 ∧ ∃ b : Bool, s10 = .bool b ∧ Hid (b = true → m ≤ 400 ∧ S.size ≤ 8192))
    case first =>
      by_cases h400 : m ≤ 400
      · have d1 : decide ((m : Int) ≤ 400) = true := decide_eq_true (by omega)
        by_cases h8 : S.size ≤ 8192
        · have d2 : decide ((S.size : Int) ≤ 8192) = true := decide_eq_true (by omega)
          go_wp2_with fail
          go_meet
          exact ⟨rfl, rfl, true, rfl, Lib.hid fun _ => ⟨h400, h8⟩⟩
        · have d2 : decide ((S.size : Int) ≤ 8192) = false := decide_eq_false (by omega)
          go_wp2_with fail
          go_meet
          exact ⟨rfl, rfl, false, rfl, Lib.hid fun h => absurd h (by simp)⟩
      · have d1 : decide ((m : Int) ≤ 400) = false := decide_eq_false (by omega)
        go_wp2_with fail
        go_meet
        exact ⟨rfl, rfl, false, rfl, Lib.hid fun h => absurd h (by simp)⟩
    case rest =>
    obtain ⟨rfl, rfl, b1, rfl, HB1⟩ := hcut
    go_wp2_with fail
    go_loopw [9, 45] (fun s9 s45 wr => ∃ i q : Nat, s9 = .int .i64 q ∧ s45 = .int .i64 i ∧ i ≤ S.size ∧ q ≤ i ∧ wr = wc ∧ Hid (scanL (S.data.toList.drop i) q = true)) (fun _ s45 _ => S.size - (intOf s45).toNat)
    case atStart => exact ⟨0, 0, rfl, rfl, Nat.zero_le _, Nat.le_refl _, rfl, HC⟩
    case round =>
      obtain ⟨i, q, rfl, rfl, hi, hq, rfl, HI⟩ := hrel
      by_cases hlt : i < S.size
      · have hst := scan_step hlt HI.out
        by_cases h10 : S[i].toNat = 10
        · have t10 : ((S[i].toNat : Int) == 10) = true := by rw [h10]; rfl
          obtain ⟨h77, hn2⟩ := hst.1 h10
          have HN := Lib.hid hn2
          have d77 : ¬ ((77 : Int) < (q : Int) + 1) := by omega
          clear hst h10 hn2
          go_wp2_with fail
          go_round
          case rel => exact ⟨i + 1, 0, rfl, by go_num, by omega, Nat.zero_le _, by first | rfl | trivial, HN⟩
          case measure => simp [intOf]; omega
        · have t10 : ((S[i].toNat : Int) == 10) = false := by rw [beq_eq_false_iff_ne]; omega
          have HN := Lib.hid (hst.2 h10)
          clear hst h10
          go_wp2_with fail
          go_round
          case rel => exact ⟨i + 1, q + 1, by go_num, by go_num, by omega, by omega, by first | rfl | trivial, HN⟩
          case measure => simp [intOf]; omega
      · obtain rfl : i = S.size := by omega
        clear HI HC hlt
        go_wp2_with fail
        go_loopw [10, 59] (fun s10 s59 wr2 => ∃ (i : Nat) (b : Bool), s10 = .bool b ∧ s59 = .int .i64 i ∧ i ≤ m ∧ wr2 = wr ∧ Hid (b = true → m ≤ 400 ∧ S.size ≤ 8192 ∧ ∀ k, k < i → lineOk (blk bs k).data.toList)) (fun _ s59 _ => m - (intOf s59).toNat)
        case atStart => exact ⟨0, b1, rfl, rfl, Nat.zero_le _, rfl, Lib.hid fun h => ⟨(HB1.out h).1, (HB1.out h).2, fun k hk => absurd hk (Nat.not_lt_zero _)⟩⟩
        case round =>
          obtain ⟨i, b, rfl, rfl, hi2, rfl, HI⟩ := hrel
          by_cases hlt : i < m
          · obtain ⟨b0, o0, rfl, hb0, hx⟩ := K3.out.r.str hlt
            have hxs : (blk bs i).size ≤ 1048576 := Nat.le_trans (blk_le bs i) HS.out.2
            obtain ⟨x, hbx⟩ : ∃ x, blk bs i = x := ⟨_, rfl⟩
            rw [hbx] at hx hxs
            have HX := Lib.hid hbx
            clear hbx hb0
            have a10 := fun W => refAt_any ⟨#[10]⟩ x (by decide) (by omega) W
            have a13 := fun W => refAt_any ⟨#[13]⟩ x (by decide) (by omega) W
            have i10 : (0 ≤ Lib.index x.data.toList [10]) ↔ (10 : UInt8) ∈ x.data.toList := idx_has _ _
            have i13 : (0 ≤ Lib.index x.data.toList [13]) ↔ (13 : UInt8) ∈ x.data.toList := idx_has _ _
            have l10 : (⟨#[10]⟩ : ByteArray).data.toList = [10] := rfl
            have l13 : (⟨#[13]⟩ : ByteArray).data.toList = [13] := rfl
            rw [l10] at a10
            rw [l13] at a13
            generalize Lib.index x.data.toList [10] = z10 at *
            generalize Lib.index x.data.toList [13] = z13 at *
            have I10 := Lib.hid i10
            have I13 := Lib.hid i13
            clear i10 i13 l10 l13
            go_upto_region 20 with fail
            go_cut [10] (fun s10 wc2 => wc2 = wr ∧ ∃ b2 : Bool, s10 = .bool b2 ∧ Hid (b2 = true → b = true ∧ lineOk x.data.toList))
            case first =>
              cases b
              · go_wp2_with (first
                  | (go_at_call 18; ((with_reducible refine (a10 _).mono ?_); rintro e w' ⟨rfl, hw⟩; subst w'))
                  | (go_at_call 18; ((with_reducible refine (a13 _).mono ?_); rintro e w' ⟨rfl, hw⟩; subst w')))
                go_meet
                exact ⟨rfl, false, rfl, Lib.hid fun h => absurd h (by simp)⟩
              · have hbt := True.intro
                by_cases hx0 : x.size = 0
                · have hi := nil_of hx0
                  go_wp2_with (first
                    | (go_at_call 18; ((with_reducible refine (a10 _).mono ?_); rintro e w' ⟨rfl, hw⟩; subst w'))
                    | (go_at_call 18; ((with_reducible refine (a13 _).mono ?_); rintro e w' ⟨rfl, hw⟩; subst w')))
                  go_meet
                  exact ⟨rfl, false, rfl, Lib.hid fun h => absurd h (by simp)⟩
                · have hi := full_of hx0
                  obtain ⟨k, hk⟩ : ∃ k, x.size = k + 1 := ⟨x.size - 1, by omega⟩
                  have hk1 : k < x.size := by omega
                  have hp0 : 0 < x.size := by omega
                  have hw1 : IntKind.i64.wrap ((x.size : Int) - 1) = (k : Int) := by rw [IntWalk.i64_in _ (by omega)]; omega
                  have hs1 : (x.size : Int) - 1 = (k : Int) := by omega
                  have HK := Lib.hid hk
                  clear hk hx0
                  by_cases h1 : x.size ≤ 1024
                  · have d1 : decide ((x.size : Int) ≤ 1024) = true := decide_eq_true (by omega)
                    by_cases h2 : x[0].toNat = 32
                    · have d2 : ((x[0].toNat : Int) != 32) = false := by rw [h2]; rfl
                      go_wp2_with (first
                        | (go_at_call 18; ((with_reducible refine (a10 _).mono ?_); rintro e w' ⟨rfl, hw⟩; subst w'))
                        | (go_at_call 18; ((with_reducible refine (a13 _).mono ?_); rintro e w' ⟨rfl, hw⟩; subst w')))
                      go_meet
                      exact ⟨rfl, false, rfl, Lib.hid fun h => absurd h (by simp)⟩
                    · have d2 : ((x[0].toNat : Int) != 32) = true := by rw [bne_iff_ne]; omega
                      by_cases h3 : x[0].toNat = 9
                      · have d3 : ((x[0].toNat : Int) != 9) = false := by rw [h3]; rfl
                        go_wp2_with (first
                          | (go_at_call 18; ((with_reducible refine (a10 _).mono ?_); rintro e w' ⟨rfl, hw⟩; subst w'))
                          | (go_at_call 18; ((with_reducible refine (a13 _).mono ?_); rintro e w' ⟨rfl, hw⟩; subst w')))
                        go_meet
                        exact ⟨rfl, false, rfl, Lib.hid fun h => absurd h (by simp)⟩
                      · have d3 : ((x[0].toNat : Int) != 9) = true := by rw [bne_iff_ne]; omega
                        by_cases h4 : x[k].toNat = 13
                        · have d4 : ((x[k].toNat : Int) != 13) = false := by rw [h4]; rfl
                          go_wp2_with (first
                            | (go_at_call 18; ((with_reducible refine (a10 _).mono ?_); rintro e w' ⟨rfl, hw⟩; subst w'))
                            | (go_at_call 18; ((with_reducible refine (a13 _).mono ?_); rintro e w' ⟨rfl, hw⟩; subst w')))
                          go_meet
                          exact ⟨rfl, false, rfl, Lib.hid fun h => absurd h (by simp)⟩
                        · have d4 : ((x[k].toNat : Int) != 13) = true := by rw [bne_iff_ne]; omega
                          by_cases h5 : z10 < 0
                          · have d5 : decide (z10 < 0) = true := decide_eq_true h5
                            by_cases h6 : z13 < 0
                            · have d6 : decide (z13 < 0) = true := decide_eq_true h6
                              go_wp2_with (first
                                | (go_at_call 18; ((with_reducible refine (a10 _).mono ?_); rintro e w' ⟨rfl, hw⟩; subst w'))
                                | (go_at_call 18; ((with_reducible refine (a13 _).mono ?_); rintro e w' ⟨rfl, hw⟩; subst w')))
                              go_meet
                              exact ⟨rfl, true, rfl, Lib.hid fun _ => ⟨by first | trivial | rfl, line_of hp0 h1 h2 h3 (fun h => absurd (I10.out.2 h) (by omega)) (fun h => absurd (I13.out.2 h) (by omega))⟩⟩
                            · have d6 : decide (z13 < 0) = false := decide_eq_false h6
                              go_wp2_with (first
                                | (go_at_call 18; ((with_reducible refine (a10 _).mono ?_); rintro e w' ⟨rfl, hw⟩; subst w'))
                                | (go_at_call 18; ((with_reducible refine (a13 _).mono ?_); rintro e w' ⟨rfl, hw⟩; subst w')))
                              go_meet
                              exact ⟨rfl, false, rfl, Lib.hid fun h => absurd h (by simp)⟩
                          · have d5 : decide (z10 < 0) = false := decide_eq_false h5
                            go_wp2_with (first
                              | (go_at_call 18; ((with_reducible refine (a10 _).mono ?_); rintro e w' ⟨rfl, hw⟩; subst w'))
                              | (go_at_call 18; ((with_reducible refine (a13 _).mono ?_); rintro e w' ⟨rfl, hw⟩; subst w')))
                            go_meet
                            exact ⟨rfl, false, rfl, Lib.hid fun h => absurd h (by simp)⟩
                  · have d1 : decide ((x.size : Int) ≤ 1024) = false := decide_eq_false (by omega)
                    go_wp2_with (first
                      | (go_at_call 18; ((with_reducible refine (a10 _).mono ?_); rintro e w' ⟨rfl, hw⟩; subst w'))
                      | (go_at_call 18; ((with_reducible refine (a13 _).mono ?_); rintro e w' ⟨rfl, hw⟩; subst w')))
                    go_meet
                    exact ⟨rfl, false, rfl, Lib.hid fun h => absurd h (by simp)⟩
            case rest =>
              obtain ⟨rfl, b2, rfl, HB2⟩ := hcut
              by_cases h10 : 0 ≤ z10
              · have d10 : decide (0 ≤ z10) = true := decide_eq_true h10
                go_wp2_with (go_at_call 18; ((with_reducible refine (a10 _).mono ?_); rintro e w' ⟨rfl, hw⟩; subst w'))
                refine (awake11_any _ K3.out.v).mono ?_
                rintro e w9 ⟨rfl, hb9⟩
                go_wp2
                go_ret
                exact ⟨rfl, bstep K3.out.bel hb9⟩
              · have d10 : decide (0 ≤ z10) = false := decide_eq_false h10
                have HI2 : Hid (b2 = true → m ≤ 400 ∧ S.size ≤ 8192 ∧ ∀ k, k < i + 1 → lineOk (blk bs k).data.toList) := Lib.hid fun h => by
                  obtain ⟨g1, g2⟩ := HB2.out h
                  obtain ⟨g3, g4, g5⟩ := HI.out g1
                  refine ⟨g3, g4, fun k hk => ?_⟩
                  by_cases e : k = i
                  · rw [e, HX.out]; exact g2
                  · exact g5 k (by omega)
                go_wp2_with (go_at_call 18; ((with_reducible refine (a10 _).mono ?_); rintro e w' ⟨rfl, hw⟩; subst w'))
                go_round
                case rel => exact ⟨i + 1, b2, rfl, by go_num, by omega, by first | rfl | trivial, HI2⟩
                case measure => simp [intOf]; omega
          · obtain rfl : i = m := by omega
            cases b
            · go_wp2_with fail
              refine (awake11_any _ K3.out.v).mono ?_
              rintro e w9 ⟨rfl, hb9⟩
              go_wp2
              go_ret
              exact ⟨rfl, bstep K3.out.bel hb9⟩
            · obtain ⟨g3, g4, g5⟩ := HI.out rfl
              have hlen := K3.out.r.lenS
              have hu : unfQ S.data.toList = (bs.map fun b => b.data.toList, 0) := unfQ_of (by
                rw [HF.out]
                refine unfold_fold ?_ (by rw [List.length_map]; omega) (by rw [← HF.out, ← bsize]; exact g4)
                intro x hx
                obtain ⟨b, hb, rfl⟩ := List.mem_map.1 hx
                obtain ⟨k, hk, rfl⟩ := List.getElem_of_mem hb
                have := g5 k (by omega)
                have e : blk bs k = bs[k] := by simp [blk, hk]
                rw [e] at this
                exact this)
              have HU := Lib.hid hu
              clear g3 g4 g5 hlen hu HI HB1 hlt
              go_wp2_with fail
              refine (pUnfold_any S (by omega) _ K3.out.v).mono ?_
              rintro e w5 ⟨A2, n2, c2, bs2, rfl, hbs, hR2, hn2, hc2, hb5⟩
              rw [HU.out] at hbs ⊢
              dsimp only at hbs
              have hbb : bs = bs2 := by
                refine (List.map_inj_right (f := fun b : ByteArray => b.data.toList) (fun a b h => ?_)).1 hbs.symm
                have h : a.data.toList = b.data.toList := h
                rw [← mk_toList a, ← mk_toList b, h]
              subst hbb
              have K5 := Lib.hid (K3.out.step hb5)
              have ct := refTexts8_any A A2 i c' n2 c2 bs bs w5 K5.out.r hR2 (by have := HM.out; unfold maxLen at this; omega) (by unfold maxLen at hc2; omega)
              rw [decide_eq_true rfl] at ct
              clear hbs hR2 hn2 hc2 hb5 K3
              go_wp2_with fail
              refine ct.mono ?_
              rintro e w6 ⟨rfl, q6, rfl⟩
              have K6 := Lib.hid (K5.out.step (below_dr (Below.refl _ w5) q6))
              clear ct K5
              go_wp2_with fail
              refine (awake11_any _ K6.out.v).mono ?_
              rintro e w9 ⟨rfl, hb9⟩
              go_wp2
              go_ret
              exact ⟨rfl, bstep K6.out.bel hb9⟩

end Go.Proofs.YtipmeooldopkmaaDoor

/-
  What every statement of layer 11 says of its arguments and of the world: a property, a slice of texts; what the listed variables hold; a world that fits.
-/
namespace Go.Proofs.YtipmeooldopkmaaDoor
open Go.ChangeShapes Go.WideShapes Go.ChangeAt Go.RowKit Go.ChangeMaps

section
variable {H : Type} {enc : TypeId × Value → H} {W : World} {base : Nat} {spare : Nat → Bool} {held : Bool}
set_option maxRecDepth 100000 in
/-- A property that is handed in. -/
theorem open_propV {r : Reach} {b0 : Nat} {v : Value} {d : DataW H} {p : List MemPlace} (hv : Value.okWide Tryd.prog W r b0 24 v) (h : DataW.Trod enc Tryd.prog W base spare held 24 v d p) :
    ∃ nm L n c vl l, v = .agg #[.string nm, .slice L n c, .string vl] ∧ n ≤ c ∧ c ≤ maxLen ∧ Reads W W.heap.size 2 L n (encP l) ∧ (∀ r ∈ l, POk W W.heap.size r) ∧ nm.size + psizes l + vl.size ≤ Rows.uptoBulk d := by
  obtain ⟨cs, rfl, _⟩ := okWide_struct Tryd.underlying24 hv
  obtain ⟨fu, hf⟩ := h
  obtain ⟨nm, L, n, c, vl, l, he, hn, hc, hR, hP, hb⟩ := open_prop (by simpa [Value.cells] using hf)
  refine ⟨nm, L, n, c, vl, l, ?_, hn, hc, hR, hP, hb⟩
  congr 1
  rw [← Array.toList_inj]
  exact he
set_option maxRecDepth 100000 in
/-- A slice of texts that is handed in. -/
theorem open_textsV {r : Reach} {b0 : Nat} {v : Value} {d : DataW H} {p : List MemPlace} (hv : Value.okWide Tryd.prog W r b0 38 v) (h : DataW.Trod enc Tryd.prog W base spare held 38 v d p) :
    ∃ A n c bs, v = .slice A n c ∧ n ≤ c ∧ c ≤ maxLen ∧ Reads W W.heap.size 1 A n (encS bs) ∧ vsize bs ≤ Rows.uptoBulk d := by
  obtain ⟨A, n, c, rfl⟩ := okWide_slice Tryd.underlying38 hv
  obtain ⟨fu, hf⟩ := h
  obtain ⟨A', n', c', bs, he, hn, hc, hR, hb⟩ := open_textsB (by simpa [Value.cells] using hf)
  injection he with e1 e2 e3
  subst e1; subst e2; subst e3
  exact ⟨A, n, c, bs, rfl, hn, hc, hR, hb⟩
end

theorem gForms : Tryd.prog.globalNamed "almanac/text.forms" = some 0 := by kernel_rfl
theorem gFormsT : (Tryd.prog.globals[0]?).map (·.type) = some 78 := by kernel_rfl
theorem cellsForm : Tryd.prog.cellsOf 77 = 4 := by kernel_rfl
theorem cellsU8 : Tryd.prog.cellsOf 5 = 1 := by kernel_rfl
theorem cellsI32 : Tryd.prog.cellsOf 21 = 1 := by kernel_rfl
theorem undForms : Tryd.prog.underlying 78 = some (.array 4 77) := by kernel_rfl
theorem at_take {cs : List Value} {k : Nat} {v : Value} (h : (cs.drop k).take 1 = [v]) : cs[k]? = some v := by
  have := congrArg (·[0]?) h
  simpa [List.getElem?_take, List.getElem?_drop] using this
/-- One form of the table, as the program holds it. -/
theorem form_cells {H : Type} {enc : TypeId × Value → H} {w : World} {base : Nat} {sp : Nat → Bool} {held : Bool} {fuel : Nat} {cs : List Value} {a b c d : Int} {p : List MemPlace}
    (h : DataW.trod enc Tryd.prog w base sp held fuel 77 cs = some (.agg [.lit (.int .u8 a), .lit (.int .u8 b), .lit (.int .i32 c), .lit (.int .i32 d)], p)) :
    cs[0]? = some (.int .u8 a) ∧ cs[1]? = some (.int .u8 b) ∧ cs[2]? = some (.int .i32 c) ∧ cs[3]? = some (.int .i32 d) := by
  obtain ⟨xs, n, rfl, hx, hl, hxl, hall⟩ := DataW.trod_struct Tryd.underlying77 h
  have hx4 : xs.map (·.1) = [.lit (.int .u8 a), .lit (.int .u8 b), .lit (.int .i32 c), .lit (.int .i32 d)] := by
    have := congrArg Prod.fst hx
    simpa using this.symm
  obtain ⟨x0, x1, x2, x3, rfl⟩ : ∃ x0 x1 x2 x3, xs = [x0, x1, x2, x3] := by
    match xs, hx4 with
    | [x0, x1, x2, x3], _ => exact ⟨x0, x1, x2, x3, rfl⟩
  simp only [List.map_cons, List.map_nil, List.cons.injEq, and_true] at hx4
  obtain ⟨e0, e1, e2, e3⟩ := hx4
  have f0 := hall 0 _ rfl
  have f1 := hall 1 _ rfl
  have f2 := hall 2 _ rfl
  have f3 := hall 3 _ rfl
  change DataW.trod _ _ _ _ _ _ _ 5 ((cs.drop 0).take (Tryd.prog.cellsOf 5)) = some x0 at f0
  change DataW.trod _ _ _ _ _ _ _ 5 ((cs.drop 1).take (Tryd.prog.cellsOf 5)) = some x1 at f1
  change DataW.trod _ _ _ _ _ _ _ 21 ((cs.drop 2).take (Tryd.prog.cellsOf 21)) = some x2 at f2
  change DataW.trod _ _ _ _ _ _ _ 21 ((cs.drop 3).take (Tryd.prog.cellsOf 21)) = some x3 at f3
  rw [cellsU8] at f0 f1
  rw [cellsI32] at f2 f3
  refine ⟨?_, ?_, ?_, ?_⟩
  · obtain ⟨z, hz, hx', _⟩ := DataW.trod_int Tryd.underlying5 f0
    rw [hx'] at e0; cases e0; exact at_take hz
  · obtain ⟨z, hz, hx', _⟩ := DataW.trod_int Tryd.underlying5 f1
    rw [hx'] at e1; cases e1; exact at_take hz
  · obtain ⟨z, hz, hx', _⟩ := DataW.trod_int Tryd.underlying21 f2
    rw [hx'] at e2; cases e2; exact at_take hz
  · obtain ⟨z, hz, hx', _⟩ := DataW.trod_int Tryd.underlying21 f3
    rw [hx'] at e3; cases e3; exact at_take hz
theorem four_at {cs : List Value} {i : Nat} {v0 v1 v2 v3 : Value} (h : ((cs.drop (i * 4)).take 4)[0]? = some v0 ∧ ((cs.drop (i * 4)).take 4)[1]? = some v1 ∧ ((cs.drop (i * 4)).take 4)[2]? = some v2 ∧ ((cs.drop (i * 4)).take 4)[3]? = some v3) :
    cs[i * 4 + 0]? = some v0 ∧ cs[i * 4 + 1]? = some v1 ∧ cs[i * 4 + 2]? = some v2 ∧ cs[i * 4 + 3]? = some v3 := by
  simpa [List.getElem?_take, List.getElem?_drop] using h
/-- What reads as the table of forms holds it. -/
theorem forms_of {W : World} (h : Lib.VarReads Tryd.prog W "almanac/text.forms" Rows.laid_almanac_text_forms) : Forms W := by
  obtain ⟨g, t, cs, fuel, p, k1, k2, k3, k4⟩ := h
  obtain rfl := Option.some.inj (gForms.symm.trans k1)
  obtain rfl := Option.some.inj (gFormsT.symm.trans k2)
  have hc := World.var?_cell gForms k3
  have el : ∀ i, i < 4 → ∃ fuel' d q, ([.agg [.lit (.int .u8 0), .lit (.int .u8 127), .lit (.int .i32 0), .lit (.int .i32 127)], .agg [.lit (.int .u8 192), .lit (.int .u8 31), .lit (.int .i32 128), .lit (.int .i32 2047)], .agg [.lit (.int .u8 224), .lit (.int .u8 15), .lit (.int .i32 2048), .lit (.int .i32 65535)], .agg [.lit (.int .u8 240), .lit (.int .u8 7), .lit (.int .i32 65536), .lit (.int .i32 1114111)]] : List (DataW Unit))[i]? = some d ∧
      DataW.trod (fun _ => ()) Tryd.prog W 0 (fun _ => true) false fuel' 77 ((cs.toList.drop (i * Tryd.prog.cellsOf 77)).take (Tryd.prog.cellsOf 77)) = some (d, q) := fun i hi => Go.Lib.array_elem undForms k4 i hi
  rw [cellsForm] at el
  obtain ⟨_, _, _, a1, a2⟩ := el 0 (by omega)
  obtain ⟨_, _, _, b1, b2⟩ := el 1 (by omega)
  obtain ⟨_, _, _, c1, c2⟩ := el 2 (by omega)
  obtain ⟨_, _, _, d1, d2⟩ := el 3 (by omega)
  simp only [List.getElem?_cons_zero, List.getElem?_cons_succ, Option.some.injEq] at a1 b1 c1 d1
  subst a1 b1 c1 d1
  obtain ⟨a0, a1, a2, a3⟩ := four_at (form_cells a2)
  obtain ⟨b0, b1, b2, b3⟩ := four_at (form_cells b2)
  obtain ⟨c0, c1, c2, c3⟩ := four_at (form_cells c2)
  obtain ⟨d0, d1, d2, d3⟩ := four_at (form_cells d2)
  have hx : ∀ i v, cs.toList[i]? = some v → W.cell? ⟨0, i, none⟩ = some v := fun i v h => by rw [hc i]; simpa using h
  exact ⟨hx 0 _ a0, hx 1 _ a1, hx 2 _ a2, hx 3 _ a3, hx 4 _ b0, hx 5 _ b1, hx 6 _ b2, hx 7 _ b3, hx 8 _ c0, hx 9 _ c1, hx 10 _ c2, hx 11 _ c3, hx 12 _ d0, hx 13 _ d1, hx 14 _ d2, hx 15 _ d3⟩
/-- The library's own variable holds some number: out of the world's shape. -/
theorem maxn_of {W : World} (h : W.ShapedOpen Tryd.prog) : MaxLn W :=
  cell_of_shapedOpen_int (zero := #[.int .i64 0]) (t := 3) (k := .i64) h (of_decide_eq_true (by kernel_rfl)) (by kernel_rfl) rfl (by kernel_rfl) (by kernel_rfl) Tryd.underlying3
/-- What the rows list. -/
abbrev laidL : List (String × DataW Unit) := Rows.lineReadsUptoRow.laid
theorem lv_of {W : World} (h : laidMetH Tryd.prog laidL W) (hs : W.ShapedOpen Tryd.prog) : LV W := by
  rw [MakeChecks.laidMetH_plain _ _ _ (by kernel_rfl)] at h
  exact ⟨forms_of (Lib.laidMet.reads h (n := "almanac/text.forms") (d := Rows.laid_almanac_text_forms) (by simp [laidL, Rows.lineReadsUptoRow])), maxn_of hs⟩
/-- A world for the witness: the listed variables laid. -/
noncomputable def laidWorld (os : Os) : World := World.laidAll Tryd.prog os laidL
theorem laid_met (os : Os) (args : Array Value) : laidMet Tryd.prog laidL ((laidWorld os).forCall (fun _ _ => 0) ⟨#[], args, []⟩).memory :=
  laidMet_laidAll _ (by kernel_rfl) (by kernel_rfl)
end Go.Proofs.YtipmeooldopkmaaDoor
