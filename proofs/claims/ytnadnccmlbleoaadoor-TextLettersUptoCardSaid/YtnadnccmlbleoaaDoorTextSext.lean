/-
  The sextets of a text, handed out one after another.
-/
import Derived.RangeFuncNested
import Derived.RangeFuncBound
import Derived.RangeFuncCalls
import Derived.RangeFuncLeaves
import Derived.RangeFuncBox
import Derived.Shelf.Abstract
import Derived.Shelf.RegionOpen
import Derived.OwnWalkIn
import Derived.TacticsInMore
import Derived.LoopNIn
import Derived.LoopIn
import Derived.Test.YtnadnccmlbleoaaDoorTextLib
import Derived.Test.YtnadnccmlbleoaaDoorTextB64M
namespace Go.Proofs.YtnadnccmlbleoaaDoor
open Go.RowKit Go.Shelf
attribute [local go_sem] Oper.semAt_some

/-- The first m sextets. -/
def yF (l : List UInt8) (m : Nat) : Fin 64 := ⟨yAt l m, yAt_lt l m⟩
def sxs (l : List UInt8) (m : Nat) : List (Fin 64) := (List.range m).map (yF l)
theorem sxs_succ (l : List UInt8) (m : Nat) : sxs l m ++ [yF l m] = sxs l (m + 1) := by simp [sxs, List.range_succ]
theorem sxs_length (l : List UInt8) (m : Nat) : (sxs l m).length = m := by simp [sxs]
/-- What a round keeps: what lay below n₀, and the box of the iterator. -/
structure KpS (n₀ Bs : Nat) (A B : World) : Prop where
  below : Below n₀ A B
  bs : B.heap[Bs]? = A.heap[Bs]?
theorem KpS.trans {n₀ Bs : Nat} {A B C : World} (h : KpS n₀ Bs A B) (k : KpS n₀ Bs B C) : KpS n₀ Bs A C := ⟨h.below.trans k.below, k.bs.trans h.bs⟩
/-- The value that is handed out: of what is held, H, the bits from b - 6 on. -/
theorem sext_val {l : List UInt8} {k m bb H : Nat} (hm : 6 * m + bb = 8 * (k + 1)) (hH : H % 256 = byt l k) (hp : 0 < k → H / 256 % 256 = byt l (k - 1)) :
    (bb = 6 → H % 64 = yAt l m) ∧ (bb = 8 → H / 4 % 64 = yAt l m) ∧ (bb = 10 → H / 16 % 64 = yAt l m) ∧ (bb = 12 → H / 64 % 64 = yAt l m) := by
  refine ⟨fun e => ?_, fun e => ?_, fun e => ?_, fun e => ?_⟩
  · obtain ⟨q, rfl⟩ : ∃ q, k = 3 * q + 2 := ⟨k / 3, by omega⟩
    obtain rfl : m = 4 * q + 3 := by omega
    rw [y3]; omega
  · obtain ⟨q, rfl⟩ : ∃ q, k = 3 * q := ⟨k / 3, by omega⟩
    obtain rfl : m = 4 * q := by omega
    rw [y0]; omega
  · obtain ⟨q, rfl⟩ : ∃ q, k = 3 * q + 1 := ⟨k / 3, by omega⟩
    obtain rfl : m = 4 * q + 1 := by omega
    have := hp (by omega)
    rw [show 3 * q + 1 - 1 = 3 * q by omega] at this
    rw [y1]; omega
  · obtain ⟨q, rfl⟩ : ∃ q, k = 3 * q + 2 := ⟨k / 3, by omega⟩
    obtain rfl : m = 4 * q + 2 := by omega
    have := hp (by omega)
    rw [show 3 * q + 2 - 1 = 3 * q + 1 by omega] at this
    rw [y2]; omega
theorem sext_last {l : List UInt8} {n m bb H : Nat} (hn : l.length = n) (hm : 6 * m + bb = 8 * n) (hp : 0 < n → H % 256 = byt l (n - 1)) :
    (bb = 2 → H * 16 % 64 = yAt l m) ∧ (bb = 4 → H * 4 % 64 = yAt l m) := by
  refine ⟨fun e => ?_, fun e => ?_⟩
  · obtain ⟨q, rfl⟩ : ∃ q, n = 3 * q + 1 := ⟨n / 3, by omega⟩
    obtain rfl : m = 4 * q + 1 := by omega
    have := hp (by omega)
    rw [show 3 * q + 1 - 1 = 3 * q by omega] at this
    rw [y1, byt_out (i := 3 * q + 1) (by omega)]; omega
  · obtain ⟨q, rfl⟩ : ∃ q, n = 3 * q + 2 := ⟨n / 3, by omega⟩
    obtain rfl : m = 4 * q + 2 := by omega
    have := hp (by omega)
    rw [show 3 * q + 2 - 1 = 3 * q + 1 by omega] at this
    rw [y2, byt_out (i := 3 * q + 2) (by omega)]; omega
theorem and63e (X : Int) (v : Nat) (h0 : 0 ≤ X) (h : X % 64 = v) : bits .and .u8 (X % 256) 63 = (v : Int) := by
  obtain ⟨n, rfl⟩ : ∃ n : Nat, X = n := ⟨X.toNat, by omega⟩
  have e : (n : Int) % 256 = ((n % 256 : Nat) : Int) := by omega
  rw [e, and63 _ (by omega)]
  omega

set_option maxRecDepth 100000 in
set_option maxHeartbeats 4000000 in
theorem sextets1_in (F : Fence) (n : Nat) (h6 : F.fn 46) (hro : F.round = none) (hn : 1 ≤ n) (l Bs n₀ : Nat) (s : ByteArray) (hs : s.size ≤ 16777216) (J Jx : List (Fin 64) → World → Prop)
    (hY : ∀ (pre : List (Fin 64)) (v : Fin 64) (W : World), J pre W → pre.length < cnt s.size → YieldAt F (n - 1) Tryd.prog l #[.int .u8 (v.val : Int)] W fun e W' =>
      (e = .returned (.bool true) ∧ J (pre ++ [v]) W' ∧ KpS n₀ Bs W W') ∨ (e = .returned (.bool false) ∧ Jx (pre ++ [v]) W'))
    (W : World) (hBs : W.cell? ⟨Bs, 0, none⟩ = some (.string s)) (h0 : J [] W) :
    CallsIn F n Tryd.prog 46 #[.func (.yield l) #[] #[], .pointer (some ⟨Bs, 0, none⟩)] W fun e W' => (∃ v, e = .returned v) ∧
      ((∃ ys, ys = sxs s.data.toList (cnt s.size) ∧ J ys W') ∨ (∃ pre, (∃ k, k ≤ cnt s.size ∧ pre = sxs s.data.toList k) ∧ Jx pre W')) := by
  have hlen := Lib.hid (bsize s)
  refine callsIn_of_wp Tryd.func46 rfl h6 ?_ hro
  simp only [Tryd.ntmps46, List.size_toArray, List.length_cons, List.length_nil, Nat.reduceAdd, Nat.reduceSub, Array.replicate_succ, Array.replicate_zero, List.push_toArray, List.append_toArray, List.nil_append, List.cons_append]
  gi_wp2
  gi_loopw [3, 4, 8] (fun h b p wr => ∃ k H c m : Nat, p = .int .i64 k ∧ k ≤ s.size ∧ h = .int .u32 H ∧ H < 4294967296 ∧ b = .int .i64 c ∧ 6 * m + c = 8 * k ∧ c < 6 ∧ Hid (0 < k → H % 256 = byt s.data.toList (k - 1)) ∧ J (sxs s.data.toList m) wr ∧ wr.cell? ⟨Bs, 0, none⟩ = some (.string s)) (fun _ _ p _ => s.size - (intOf p).toNat)
  case atStart => exact ⟨0, 0, 0, 0, rfl, Nat.zero_le _, rfl, by decide, rfl, rfl, by decide, Lib.hid (fun h => absurd h (by decide)), h0, hBs⟩
  case round =>
    obtain ⟨k, H, c0, m0, rfl, hk, rfl, hH, rfl, hm0, hc0, HP, hJ, hcs⟩ := hrel
    by_cases hlt : k < s.size
    · have hc := s[k].toNat_lt
      have hh := held8e H s[k].toNat hc
      have HH : Hid ((H % 16777216 * 256 + s[k].toNat) % 256 = byt s.data.toList k ∧ (0 < k → (H % 16777216 * 256 + s[k].toNat) / 256 % 256 = byt s.data.toList (k - 1))) := Lib.hid (by
        have h' : k < s.data.size := hlt
        have e : byt s.data.toList k = s[k].toNat := by
          unfold byt
          rw [List.getD_eq_getElem?_getD, Array.getElem?_toList, Array.getElem?_eq_getElem h']; rfl
        refine ⟨by rw [e]; omega, fun h => ?_⟩
        have := HP.out h
        omega)
      have hH2 : H % 16777216 * 256 + s[k].toNat < 4294967296 := by omega
      have hcn : cnt s.size = (8 * s.size + 5) / 6 := rfl
      generalize H % 16777216 * 256 + s[k].toNat = G at HH hH2 hh
      gi_wp2
      gi_loopw [4] (fun b wq => ∃ m bb : Nat, b = .int .i64 bb ∧ 6 * m + bb = 8 * (k + 1) ∧ bb ≤ 12 ∧ J (sxs s.data.toList m) wq ∧ wq.cell? ⟨Bs, 0, none⟩ = some (.string s)) (fun b _ => (intOf b).toNat)
      case atStart => exact ⟨m0, c0 + 8, by go_num, by omega, by omega, hJ, hcs⟩
      case round =>
        obtain ⟨m, bb, rfl, hm, hb12, hJ2, hcs2⟩ := hrel
        clear hJ hcs hh HP
        by_cases hb6 : bb < 6
        · gi_wp2
          go_roundw
          case rel =>
            refine ⟨k + 1, G, bb, m, by go_num, by omega, rfl, hH2, rfl, hm, hb6, Lib.hid fun _ => ?_, hJ2, hcs2⟩
            rw [show k + 1 - 1 = k by omega]; exact HH.out.1
          case measure => simp [intOf]; omega
        · have hv : (bb = 6 → G % 64 = (yF s.data.toList m).val) ∧ (bb = 8 → G / 4 % 64 = (yF s.data.toList m).val) ∧ (bb = 10 → G / 16 % 64 = (yF s.data.toList m).val) ∧ (bb = 12 → G / 64 % 64 = (yF s.data.toList m).val) := sext_val hm HH.out.1 HH.out.2
          have hmc : (sxs s.data.toList m).length < cnt s.size := by rw [sxs_length]; omega
          obtain ⟨fn, tmps, assign, body, hy, hR⟩ := hY (sxs s.data.toList m) (yF s.data.toList m) wr hJ2 hmc
          have HSX := Lib.hid (sxs_succ s.data.toList m)
          rw [HSX.out] at hR
          have HV := Lib.hid hv; clear hv
          generalize yF s.data.toList m = vf at hy HV HSX
          have hvb := vf.isLt
          obtain ⟨v, hve⟩ : ∃ v, v = vf.val := ⟨_, rfl⟩
          rw [← hve] at HV hy
          have HVE := Lib.hid hve; clear hve hvb
          rcases (show bb = 6 ∨ bb = 8 ∨ bb = 10 ∨ bb = 12 by omega) with rfl | rfl | rfl | rfl
          · have hq := and63e (G : Int) v (by omega) (by have := HV.out.1 rfl; omega)
            gi_wp2
            refine hR.mono ?_
            rintro e W3 (⟨rfl, hJ3, hk3⟩ | ⟨rfl, hJx3⟩)
            · have hcs3 := (World.cell?_of_block hk3.bs).trans hcs2
              gi_wp2
              go_roundw
              case rel => exact ⟨m + 1, 0, by go_num, by omega, by omega, hJ3, hcs3⟩
              case measure => simp [intOf]
            · gi_wp2
              refine bodyPost_ret (results_none rfl _ _ _) rfl ?_
              exact ⟨⟨_, rfl⟩, .inr ⟨_, ⟨m + 1, by omega, rfl⟩, hJx3⟩⟩
          · have hq := and63e ((G : Int) / 4) v (by omega) (by have := HV.out.2.1 rfl; omega)
            gi_wp2
            refine hR.mono ?_
            rintro e W3 (⟨rfl, hJ3, hk3⟩ | ⟨rfl, hJx3⟩)
            · have hcs3 := (World.cell?_of_block hk3.bs).trans hcs2
              gi_wp2
              go_roundw
              case rel => exact ⟨m + 1, 2, by go_num, by omega, by omega, hJ3, hcs3⟩
              case measure => simp [intOf]
            · gi_wp2
              refine bodyPost_ret (results_none rfl _ _ _) rfl ?_
              exact ⟨⟨_, rfl⟩, .inr ⟨_, ⟨m + 1, by omega, rfl⟩, hJx3⟩⟩
          · have hq := and63e ((G : Int) / 16) v (by omega) (by have := HV.out.2.2.1 rfl; omega)
            gi_wp2
            refine hR.mono ?_
            rintro e W3 (⟨rfl, hJ3, hk3⟩ | ⟨rfl, hJx3⟩)
            · have hcs3 := (World.cell?_of_block hk3.bs).trans hcs2
              gi_wp2
              go_roundw
              case rel => exact ⟨m + 1, 4, by go_num, by omega, by omega, hJ3, hcs3⟩
              case measure => simp [intOf]
            · gi_wp2
              refine bodyPost_ret (results_none rfl _ _ _) rfl ?_
              exact ⟨⟨_, rfl⟩, .inr ⟨_, ⟨m + 1, by omega, rfl⟩, hJx3⟩⟩
          · have hq := and63e ((G : Int) / 64) v (by omega) (by have := HV.out.2.2.2 rfl; omega)
            gi_wp2
            refine hR.mono ?_
            rintro e W3 (⟨rfl, hJ3, hk3⟩ | ⟨rfl, hJx3⟩)
            · have hcs3 := (World.cell?_of_block hk3.bs).trans hcs2
              gi_wp2
              go_roundw
              case rel => exact ⟨m + 1, 6, by go_num, by omega, by omega, hJ3, hcs3⟩
              case measure => simp [intOf]
            · gi_wp2
              refine bodyPost_ret (results_none rfl _ _ _) rfl ?_
              exact ⟨⟨_, rfl⟩, .inr ⟨_, ⟨m + 1, by omega, rfl⟩, hJx3⟩⟩
    · obtain rfl : k = s.size := by omega
      have hcn : cnt s.size = (8 * s.size + 5) / 6 := rfl
      by_cases hb0 : c0 = 0
      · subst hb0
        obtain rfl : m0 = cnt s.size := by omega
        gi_wp2
        go_end0
        exact ⟨⟨_, rfl⟩, .inl ⟨_, rfl, hJ⟩⟩
      · have hv : (c0 = 2 → H * 16 % 64 = (yF s.data.toList m0).val) ∧ (c0 = 4 → H * 4 % 64 = (yF s.data.toList m0).val) := sext_last (l := s.data.toList) (n := s.size) (m := m0) (bb := c0) (H := H) hlen.out.symm hm0 HP.out
        have hmc : (sxs s.data.toList m0).length < cnt s.size := by rw [sxs_length]; omega
        obtain ⟨fn, tmps, assign, body, hy, hR⟩ := hY (sxs s.data.toList m0) (yF s.data.toList m0) wr hJ hmc
        rw [sxs_succ, show m0 + 1 = cnt s.size by omega] at hR
        have HV := Lib.hid hv; clear hv
        generalize yF s.data.toList m0 = vf at hy HV
        obtain ⟨v, hve⟩ : ∃ v, v = vf.val := ⟨_, rfl⟩
        rw [← hve] at HV hy
        have HVE := Lib.hid hve; clear hve
        rcases (show c0 = 2 ∨ c0 = 4 by omega) with rfl | rfl
        · have hq : (H : Int) * 16 % 64 = (v : Int) := by have := HV.out.1 rfl; omega
          clear hb0 hJ hmc
          gi_wp2
          refine hR.mono ?_
          rintro e W3 (⟨rfl, hJ3, hk3⟩ | ⟨rfl, hJx3⟩)
          · gi_wp2
            go_end0
            exact ⟨⟨_, rfl⟩, .inl ⟨_, rfl, hJ3⟩⟩
          · gi_wp2
            go_end0
            exact ⟨⟨_, rfl⟩, .inr ⟨_, ⟨_, Nat.le_refl _, rfl⟩, hJx3⟩⟩
        · have hq : (H : Int) * 4 % 64 = (v : Int) := by have := HV.out.2 rfl; omega
          clear hb0 hJ hmc
          gi_wp2
          refine hR.mono ?_
          rintro e W3 (⟨rfl, hJ3, hk3⟩ | ⟨rfl, hJx3⟩)
          · gi_wp2
            go_end0
            exact ⟨⟨_, rfl⟩, .inl ⟨_, rfl, hJ3⟩⟩
          · gi_wp2
            go_end0
            exact ⟨⟨_, rfl⟩, .inr ⟨_, ⟨_, Nat.le_refl _, rfl⟩, hJx3⟩⟩

set_option maxHeartbeats 1000000 in
theorem sextets_in (F : Fence) (n : Nat) (h5 : F.fn 37) (hro : F.round = none) (s : ByteArray) (w : World) :
    CallsIn F n Tryd.prog 37 #[.string s] w fun e w' => e = .returned (.func (.func 46) #[] #[.pointer (some ⟨w.heap.size, 0, none⟩)]) ∧ w' = w.alloc (.cells #[.string s] 9) := by
  refine callsIn_of_wp Tryd.func37 rfl h5 ?_ hro
  simp only [Tryd.ntmps37, List.size_toArray, List.length_cons, List.length_nil, Nat.reduceAdd, Nat.reduceSub, Array.replicate_succ, Array.replicate_zero, List.push_toArray, List.append_toArray, List.nil_append, List.cons_append]
  gi_wp2
  go_ret
  exact ⟨rfl, rfl⟩

theorem sextets_stops (F : Fence) (n : Nat) (h6 : F.fn 46) (hro : F.round = none) (hn : 1 ≤ n) (Bs n₀ : Nat) (s : ByteArray) (hs : s.size ≤ 16777216) (w : World) (hBs : Bs < w.heap.size)
    (hcs : w.cell? ⟨Bs, 0, none⟩ = some (.string s)) :
    SeqStopsK F n Tryd.prog 46 #[.pointer (some ⟨Bs, 0, none⟩)] (fun v : Fin 64 => #[Value.int .u8 (v.val : Int)]) (KpS n₀ Bs) (fun ys => ys = sxs s.data.toList (cnt s.size)) (fun pre => ∃ k, k ≤ cnt s.size ∧ pre = sxs s.data.toList k) (cnt s.size) w := fun l J Jx W hW _ _ hY h0 =>
  sextets1_in F n h6 hro hn l Bs n₀ s hs J Jx hY W ((hW.cell (p := ⟨Bs, 0, none⟩) hBs).trans hcs) h0

end Go.Proofs.YtnadnccmlbleoaaDoor
