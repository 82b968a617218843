/-
  The program's own functions of layer 14: which rules can be.
-/
import Derived.Test.YtnidkcedomhofaaGreatDoorG30
namespace Go.Proofs.YtnidkcedomhofaaGreatDoor
open Go.RowKit

/-- A rule as a value, its rows by what they hold. -/
structure RuS (W : World) (r : RuV) (v1 v2 v3 v4 : Value) : Prop where
  s1 : Sl W v1 r.mon.length 1 (intC r.mon)
  s2 : Sl W v2 r.md.length 1 (intC r.md)
  s3 : Sl W v3 r.dys.length 2 (wdC r.dys)
  s4 : Sl W v4 r.pos.length 1 (intC r.pos)
  l1 : r.mon.length ≤ 100000000
  l2 : r.md.length ≤ 100000000
  l3 : r.dys.length ≤ 100000000
  l4 : r.pos.length ≤ 100000000
theorem RuS.step {W W' : World} {r : RuV} {v1 v2 v3 v4 : Value} (h : RuS W r v1 v2 v3 v4) (hb : Below W.heap.size W W') : RuS W' r v1 v2 v3 v4 :=
  ⟨h.s1.step hb, h.s2.step hb, h.s3.step hb, h.s4.step hb, h.l1, h.l2, h.l3, h.l4⟩
def ruV (r : RuV) (v1 v2 v3 v4 : Value) : Value := .agg #[.int .i64 r.freq, .int .i64 r.intv, .int .i64 r.cnt, .bool r.has, .int .i64 r.unt.secs, .bool r.unt.utc, .bool r.unt.date, v1, v2, v3, v4, .int .i64 r.wk]
theorem cell_of {W : World} {g j : Nat} {C : Array Value} {T : TypeId} {f : Nat × Nat} {v : Value} (h : W.heap[g]? = some (.cells C T f)) (hj : C[j]? = some v) : W.cell? ⟨g, j, none⟩ = some v := by simp [World.cell?, h, hj]
theorem Sl.lit {W : World} {v : Value} {k size : Nat} {cs : List Value} (h : Sl W v k size cs) : ∃ a c, v = .slice a k c := by
  rcases h.2 with ⟨h0, a, c, rfl⟩ | ⟨b, o, c, rfl, _, _⟩
  · exact ⟨a, c, by rw [h0]⟩
  · exact ⟨_, _, rfl⟩
noncomputable def untB (r : RuV) : Bool := if r.has = true then decide (r.cnt = 0) && decide (timT r.unt ≠ []) else decide (r.unt = Wh.zero)
def lstB (r : RuV) : Bool :=
  (decide (r.mon.length ≤ 24) && r.mon.all fun x => cntB x 12) && ((decide (r.md.length ≤ 24) && r.md.all fun x => eitB x 31) && ((decide (r.dys.length ≤ 24) && r.dys.all wdOk) && ((decide (r.pos.length ≤ 24) && r.pos.all fun x => eitB x 366) &&
    (!(decide (r.freq = 2) && decide (0 < r.md.length)) && (!(decide (r.freq ≤ 2) && r.dys.any fun d => d.1 != 0) && (decide (r.pos.length = 0) || decide (0 < r.mon.length + r.md.length + r.dys.length)))))))
noncomputable def fitB (r : RuV) : Bool := decide (0 < r.freq) && (decide (r.freq < 5) && (cntB r.intv 1000 && ((decide (r.cnt = 0) || cntB r.cnt 1000) && (untB r && (lstB r && dayOk r.wk)))))
theorem allI {l : List Int} {lo hi : Int} {p : Int → Bool} (hp : ∀ x, p x = true ↔ x ≠ 0 ∧ lo ≤ x ∧ x ≤ hi) : (decide (l.length ≤ 24) && l.all p) = true ↔ OkI l lo hi := by
  unfold OkI
  rw [Bool.and_eq_true, decide_eq_true_iff, List.all_eq_true]
  exact ⟨fun h => ⟨h.1, fun n hn => (hp n).1 (h.2 n hn)⟩, fun h => ⟨h.1, fun n hn => (hp n).2 (h.2 n hn)⟩⟩
theorem cntB_iff (x m : Int) : cntB x m = true ↔ x ≠ 0 ∧ 1 ≤ x ∧ x ≤ m := by unfold cntB; simp; omega
theorem eitB_iff (x m : Int) : eitB x m = true ↔ x ≠ 0 ∧ -m ≤ x ∧ x ≤ m := by unfold eitB; simp
theorem allD {l : List (Int × Int)} : (decide (l.length ≤ 24) && l.all wdOk) = true ↔ OkD l := by
  unfold OkD
  rw [Bool.and_eq_true, decide_eq_true_iff, List.all_eq_true]
  have h : ∀ d : Int × Int, wdOk d = true ↔ 0 ≤ d.2 ∧ d.2 ≤ 6 ∧ -53 ≤ d.1 ∧ d.1 ≤ 53 := fun d => by
    unfold wdOk dayOk eitB
    simp only [Bool.and_eq_true, Bool.or_eq_true, decide_eq_true_iff]
    omega
  exact ⟨fun k => ⟨k.1, fun d hd => (h d).1 (k.2 d hd)⟩, fun k => ⟨k.1, fun d hd => (h d).2 (k.2 d hd)⟩⟩
theorem fitB_iff (r : RuV) : fitB r = true ↔ FitV r := by
  unfold fitB lstB untB
  simp only [Bool.and_eq_true, allI (cntB_iff · 12), allI (eitB_iff · 31), allI (eitB_iff · 366)]
  constructor
  · rintro ⟨h1, h2, h3, h4, h5, ⟨h6, h7, h8, h9, h10, h11, h12⟩, h13⟩
    simp only [decide_eq_true_iff, Bool.or_eq_true, cntB_iff] at h1 h2 h3 h4
    simp only [dayOk, Bool.and_eq_true, decide_eq_true_iff] at h13
    simp only [Bool.not_eq_true', Bool.and_eq_false_iff, decide_eq_false_iff_not] at h10 h11
    simp only [Bool.or_eq_true, decide_eq_true_iff] at h12
    refine ⟨by omega, by omega, by omega, fun hy => ?_, fun hn => ?_, h6, h7, allD.1 (by rw [Bool.and_eq_true]; exact h8), h9, fun hf d hd => ?_, fun hf => ?_, fun hp => ?_, by omega⟩
    · rw [if_pos hy] at h5; simpa using h5
    · rw [if_neg (by rw [hn]; decide)] at h5; simpa using h5
    · rcases h11 with h | h
      · omega
      · rw [List.any_eq_false] at h
        have := h d hd
        simpa using this
    · rcases h10 with h | h
      · exact absurd hf h
      · exact List.eq_nil_of_length_eq_zero (by omega)
    · have hpl : r.pos.length ≠ 0 := fun e => hp (List.eq_nil_of_length_eq_zero e)
      by_cases a : r.mon = []
      · by_cases b : r.md = []
        · by_cases c : r.dys = []
          · rw [a, b, c] at h12; simp at h12; exact absurd h12 hp
          · exact .inr (.inr c)
        · exact .inr (.inl b)
      · exact .inl a
  · intro h
    have a := h.freq; have b := h.intv; have c := h.cnt; have d := h.wk
    refine ⟨by simp; omega, by simp; omega, by rw [cntB_iff]; omega, ?_, ?_, ⟨h.mon, h.md, (by have := allD.2 h.dys; rwa [Bool.and_eq_true] at this), h.pos, ?_, ?_, ?_⟩, by unfold dayOk; simp; omega⟩
    · by_cases e : r.cnt = 0
      · simp [e]
      · rw [Bool.or_eq_true, cntB_iff]; right; omega
    · split
      · rename_i hy; simpa using h.yes hy
      · rename_i hy; simpa using h.no (by simpa using hy)
    · by_cases e : r.freq = 2
      · rw [h.week e]; simp
      · simp [e]
    · by_cases e : r.freq < 3
      · have : (r.dys.any fun d => d.1 != 0) = false := by rw [List.any_eq_false]; intro d hd; simp [h.few e d hd]
        rw [this]; simp
      · have : ¬ r.freq ≤ 2 := by omega
        simp [this]
    · by_cases e : r.pos = []
      · simp [e]
      · rcases h.alone e with k | k | k
        · have := List.length_pos_iff.2 k; rw [Bool.or_eq_true]; right; simp; omega
        · have := List.length_pos_iff.2 k; rw [Bool.or_eq_true]; right; simp; omega
        · have := List.length_pos_iff.2 k; rw [Bool.or_eq_true]; right; simp; omega
theorem fitB_fitV (r : RuV) : fitB r = fitV r := by
  cases h : fitB r
  · exact ((fitV_not r).2 (fun k => by rw [(fitB_iff r).2 k] at h; cases h)).symm
  · exact ((fitV_iff r).2 ((fitB_iff r).1 h)).symm
set_option maxRecDepth 100000 in
set_option maxHeartbeats 4000000 in
theorem untilFit_any (r : RuV) (v1 v2 v3 v4 : Value) (w : World) (hv : VV w) (hu : -9223372036854775808 ≤ r.unt.secs ∧ r.unt.secs < 9223372036854775808) (h : RuS w r v1 v2 v3 v4) :
    Calls Tryz.prog 29 #[ruV r v1 v2 v3 v4] w fun e w' => e = .returned (.bool (untB r)) ∧ Below w.heap.size w w' := by
  obtain ⟨a1, c1, rfl⟩ := h.s1.lit
  obtain ⟨a2, c2, rfl⟩ := h.s2.lit
  obtain ⟨a3, c3, rfl⟩ := h.s3.lit
  obtain ⟨a4, c4, rfl⟩ := h.s4.lit
  obtain ⟨f, i, c, hs, ⟨us, uu, ud⟩, mo, md, dy, po, wk⟩ := r
  have HS := Lib.hid h
  clear h
  have HB1 : Hid (Below w.heap.size w (w.alloc (.cells #[.int .i64 f, .int .i64 i, .int .i64 c, .bool hs, .int .i64 us, .bool uu, .bool ud, .slice a1 mo.length c1, .slice a2 md.length c2, .slice a3 dy.length c3, .slice a4 po.length c4, .int .i64 wk] 27))) := Lib.hid ((Below.refl _ _).alloc (Nat.le_refl _) _)
  have H : Hid (untB ⟨f, i, c, hs, ⟨us, uu, ud⟩, mo, md, dy, po, wk⟩ = if hs = true then decide (c = 0) && decide (timT ⟨us, uu, ud⟩ ≠ []) else decide ((⟨us, uu, ud⟩ : Wh) = Wh.zero)) := Lib.hid rfl
  unfold ruV
  simp only at hu ⊢
  cases hs
  · by_cases hz : us = 0 ∧ uu = false ∧ ud = false
    · obtain ⟨rfl, rfl, rfl⟩ := hz
      go_enter Tryz.func29, Tryz.ntmps29
      go_wp2
      go_ret
      exact ⟨by rw [H.out]; rfl, HB1.out⟩
    · have H2 : Hid (untB ⟨f, i, c, false, ⟨us, uu, ud⟩, mo, md, dy, po, wk⟩ = false) := Lib.hid (by
        rw [H.out, if_neg (by decide)]
        exact decide_eq_false (fun e => hz (by injection e with e1 e2 e3; exact ⟨e1, e2, e3⟩)))
      have hc : (¬ us = 0) ∨ (us = 0 ∧ uu = true) ∨ (us = 0 ∧ uu = false ∧ ud = true) := by
        by_cases e1 : us = 0
        · cases uu
          · cases ud
            · exact absurd ⟨e1, rfl, rfl⟩ hz
            · exact .inr (.inr ⟨e1, rfl, rfl⟩)
          · exact .inr (.inl ⟨e1, rfl⟩)
        · exact .inl e1
      clear hz H
      rcases hc with e1 | ⟨rfl, rfl⟩ | ⟨rfl, rfl, rfl⟩
      · go_enter Tryz.func29, Tryz.ntmps29
        go_wp2
        go_ret
        exact ⟨by rw [H2.out]; first | rfl | simp [e1], HB1.out⟩
      · go_enter Tryz.func29, Tryz.ntmps29
        go_wp2
        go_ret
        exact ⟨by rw [H2.out]; rfl, HB1.out⟩
      · go_enter Tryz.func29, Tryz.ntmps29
        go_wp2
        go_ret
        exact ⟨by rw [H2.out]; rfl, HB1.out⟩
  · by_cases h0 : c = 0
    · subst h0
      have ct := fun W (hV : VV W) => pTimeText_any ⟨us, uu, ud⟩ hu W hV
      unfold whV at ct
      simp only at ct
      have HV := Lib.hid hv
      have H2 : Hid (untB ⟨f, i, 0, true, ⟨us, uu, ud⟩, mo, md, dy, po, wk⟩ = decide (timT ⟨us, uu, ud⟩ ≠ [])) := Lib.hid (by rw [H.out, if_pos rfl]; simp)
      have hT : (⟨(timT ⟨us, uu, ud⟩).toArray⟩ : ByteArray).data.toList = timT ⟨us, uu, ud⟩ := by simp
      obtain ⟨T, hTT⟩ : ∃ T : ByteArray, (⟨(timT ⟨us, uu, ud⟩).toArray⟩ : ByteArray) = T := ⟨_, rfl⟩
      rw [hTT] at ct hT
      generalize timT ⟨us, uu, ud⟩ = L at hT H2
      subst hT
      clear hTT H
      obtain ⟨z, hz⟩ : ∃ z, T.data.toList.isEmpty = z := ⟨_, rfl⟩
      have hz1 : T.toList.isEmpty = z := by rw [ByteArray.toList_eq]; exact hz
      have H3 : Hid (untB ⟨f, i, 0, true, ⟨us, uu, ud⟩, mo, md, dy, po, wk⟩ = !z) := Lib.hid (by rw [H2.out, ← hz]; cases T.data.toList <;> simp)
      clear hz H2
      go_enter Tryz.func29, Tryz.ntmps29
      go_wp2_with (go_at_call 38; refine (ct _ (HV.out.step HB1.out)).mono ?_; rintro e w2 ⟨rfl, hb2⟩)
      go_ret
      exact ⟨by rw [H3.out, ← hz1]; first | rfl | (cases T.toList <;> rfl), bstep HB1.out hb2⟩
    · have h0b : (c == 0) = false := by rw [beq_eq_false_iff_ne]; exact h0
      have H2 : Hid (untB ⟨f, i, c, true, ⟨us, uu, ud⟩, mo, md, dy, po, wk⟩ = false) := Lib.hid (by rw [H.out, if_pos rfl, decide_eq_false h0]; rfl)
      clear H h0
      go_enter Tryz.func29, Tryz.ntmps29
      go_wp2
      go_ret
      exact ⟨by rw [H2.out]; rfl, HB1.out⟩
set_option maxRecDepth 100000 in
set_option maxHeartbeats 4000000 in
theorem listsFit_any (r : RuV) (v1 v2 v3 v4 : Value) (w : World) (h : RuS w r v1 v2 v3 v4) :
    Calls Tryz.prog 30 #[ruV r v1 v2 v3 v4] w fun e w' => e = .returned (.bool (lstB r)) ∧ Below w.heap.size w w' := by
  obtain ⟨a1, c1, rfl⟩ := h.s1.lit
  obtain ⟨a2, c2, rfl⟩ := h.s2.lit
  obtain ⟨a3, c3, rfl⟩ := h.s3.lit
  obtain ⟨a4, c4, rfl⟩ := h.s4.lit
  obtain ⟨f, i, c, hs, ⟨us, uu, ud⟩, mo, md, dy, po, wk⟩ := r
  have HS := Lib.hid h
  clear h
  have HB1 : Hid (Below w.heap.size w (w.alloc (.cells #[.int .i64 f, .int .i64 i, .int .i64 c, .bool hs, .int .i64 us, .bool uu, .bool ud, .slice a1 mo.length c1, .slice a2 md.length c2, .slice a3 dy.length c3, .slice a4 po.length c4, .int .i64 wk] 27))) := Lib.hid ((Below.refl _ _).alloc (Nat.le_refl _) _)
  have q1 : ∀ W, Below w.heap.size w W → _ := fun W hb => areAllMon (.slice a1 mo.length c1) mo W HS.out.l1 (HS.out.s1.step hb)
  have q2 : ∀ W, Below w.heap.size w W → _ := fun W hb => areAllMd (.slice a2 md.length c2) md W HS.out.l2 (HS.out.s2.step hb)
  have q3 : ∀ W, Below w.heap.size w W → _ := fun W hb => areAllWd (.slice a3 dy.length c3) dy W HS.out.l3 (HS.out.s3.step hb)
  have q4 : ∀ W, Below w.heap.size w W → _ := fun W hb => areAllPos (.slice a4 po.length c4) po W HS.out.l4 (HS.out.s4.step hb)
  have q5 : ∀ W, Below w.heap.size w W → _ := fun W hb => contFunc_any (.slice a3 dy.length c3) dy 66 #[] (fun d => d.1 != 0) W HS.out.l3 (HS.out.s3.step hb) (enters_of Tryz.func66 (by kernel_rfl) rfl) (fun W' x _ => hasNumber_any x W')
  have H : Hid (lstB ⟨f, i, c, hs, ⟨us, uu, ud⟩, mo, md, dy, po, wk⟩ = ((decide (mo.length ≤ 24) && mo.all fun x => cntB x 12) && ((decide (md.length ≤ 24) && md.all fun x => eitB x 31) && ((decide (dy.length ≤ 24) && dy.all wdOk) && ((decide (po.length ≤ 24) && po.all fun x => eitB x 366) &&
    (!(decide (f = 2) && decide (0 < md.length)) && (!(decide (f ≤ 2) && dy.any fun d => d.1 != 0) && (decide (po.length = 0) || decide (0 < mo.length + md.length + dy.length))))))))) := Lib.hid rfl
  generalize (decide (mo.length ≤ 24) && mo.all fun x => cntB x 12) = m1 at q1 H
  generalize (decide (md.length ≤ 24) && md.all fun x => eitB x 31) = m2 at q2 H
  generalize (decide (dy.length ≤ 24) && dy.all wdOk) = m3 at q3 H
  generalize (decide (po.length ≤ 24) && po.all fun x => eitB x 366) = m4 at q4 H
  generalize (dy.any fun d => d.1 != 0) = m5 at q5 H
  have z1 := HS.out.l1
  have z2 := HS.out.l2
  have z3 := HS.out.l3
  have z4 := HS.out.l4
  simp only at z1 z2 z3 z4
  have Q1 := Lib.hid q1
  have Q2 := Lib.hid q2
  have Q3 := Lib.hid q3
  have Q4 := Lib.hid q4
  have Q5 := Lib.hid q5
  clear q1 q2 q3 q4 q5
  unfold ruV
  simp only
  have HC0 := HB1
  have K0 : Hid (∀ j : Nat, (w.alloc (.cells #[.int .i64 f, .int .i64 i, .int .i64 c, .bool hs, .int .i64 us, .bool uu, .bool ud, .slice a1 mo.length c1, .slice a2 md.length c2, .slice a3 dy.length c3, .slice a4 po.length c4, .int .i64 wk] 27)).cell? ⟨w.heap.size, j, none⟩ = (w.alloc (.cells #[.int .i64 f, .int .i64 i, .int .i64 c, .bool hs, .int .i64 us, .bool uu, .bool ud, .slice a1 mo.length c1, .slice a2 md.length c2, .slice a3 dy.length c3, .slice a4 po.length c4, .int .i64 wk] 27)).cell? ⟨w.heap.size, j, none⟩) := Lib.hid (fun _ => rfl)
  have HLT0 : Hid (w.heap.size < (w.alloc (.cells #[.int .i64 f, .int .i64 i, .int .i64 c, .bool hs, .int .i64 us, .bool uu, .bool ud, .slice a1 mo.length c1, .slice a2 md.length c2, .slice a3 dy.length c3, .slice a4 po.length c4, .int .i64 wk] 27)).heap.size) := Lib.hid (by simp)
  have T0 : Hid ((w.alloc (.cells #[.int .i64 f, .int .i64 i, .int .i64 c, .bool hs, .int .i64 us, .bool uu, .bool ud, .slice a1 mo.length c1, .slice a2 md.length c2, .slice a3 dy.length c3, .slice a4 po.length c4, .int .i64 wk] 27)).cell? ⟨w.heap.size, 0, none⟩ = some (.int .i64 f)) := Lib.hid (by simp)
  have T7 : Hid ((w.alloc (.cells #[.int .i64 f, .int .i64 i, .int .i64 c, .bool hs, .int .i64 us, .bool uu, .bool ud, .slice a1 mo.length c1, .slice a2 md.length c2, .slice a3 dy.length c3, .slice a4 po.length c4, .int .i64 wk] 27)).cell? ⟨w.heap.size, 7, none⟩ = some (.slice a1 mo.length c1)) := Lib.hid (by simp)
  have T8 : Hid ((w.alloc (.cells #[.int .i64 f, .int .i64 i, .int .i64 c, .bool hs, .int .i64 us, .bool uu, .bool ud, .slice a1 mo.length c1, .slice a2 md.length c2, .slice a3 dy.length c3, .slice a4 po.length c4, .int .i64 wk] 27)).cell? ⟨w.heap.size, 8, none⟩ = some (.slice a2 md.length c2)) := Lib.hid (by simp)
  have T9 : Hid ((w.alloc (.cells #[.int .i64 f, .int .i64 i, .int .i64 c, .bool hs, .int .i64 us, .bool uu, .bool ud, .slice a1 mo.length c1, .slice a2 md.length c2, .slice a3 dy.length c3, .slice a4 po.length c4, .int .i64 wk] 27)).cell? ⟨w.heap.size, 9, none⟩ = some (.slice a3 dy.length c3)) := Lib.hid (by simp)
  have T10 : Hid ((w.alloc (.cells #[.int .i64 f, .int .i64 i, .int .i64 c, .bool hs, .int .i64 us, .bool uu, .bool ud, .slice a1 mo.length c1, .slice a2 md.length c2, .slice a3 dy.length c3, .slice a4 po.length c4, .int .i64 wk] 27)).cell? ⟨w.heap.size, 10, none⟩ = some (.slice a4 po.length c4)) := Lib.hid (by simp)
  cases m1
  · go_enter Tryz.func30, Tryz.ntmps30
    go_wp2_with (first
    | (go_at_call 59; ((with_reducible refine (Q1.out _ HC0.out).mono ?_)); rintro e W1 ⟨rfl, hb⟩; have HC1 := Lib.hid (bstep HC0.out hb); have K1 := Lib.hid (fun (j : Nat) => (hb.cell (p := ⟨w.heap.size, j, none⟩) HLT0.out).trans (K0.out j)); have HLT1 := Lib.hid (Nat.lt_of_lt_of_le HLT0.out hb.size); clear hb; have k0 := K1.out 0; have k5 := K1.out 7; have k6 := K1.out 8; have k7 := K1.out 9; have k8 := K1.out 10; rw [T0.out] at k0; rw [T7.out] at k5; rw [T8.out] at k6; rw [T9.out] at k7; rw [T10.out] at k8))
    go_ret
    exact ⟨by rw [H.out]; simp, HC1.out⟩
  · skip
    cases m2
    · go_enter Tryz.func30, Tryz.ntmps30
      go_wp2_with (first
    | (go_at_call 59; ((with_reducible refine (Q1.out _ HC0.out).mono ?_)); rintro e W1 ⟨rfl, hb⟩; have HC1 := Lib.hid (bstep HC0.out hb); have K1 := Lib.hid (fun (j : Nat) => (hb.cell (p := ⟨w.heap.size, j, none⟩) HLT0.out).trans (K0.out j)); have HLT1 := Lib.hid (Nat.lt_of_lt_of_le HLT0.out hb.size); clear hb; have k0 := K1.out 0; have k5 := K1.out 7; have k6 := K1.out 8; have k7 := K1.out 9; have k8 := K1.out 10; rw [T0.out] at k0; rw [T7.out] at k5; rw [T8.out] at k6; rw [T9.out] at k7; rw [T10.out] at k8)
    | (go_at_call 59; ((with_reducible refine (Q2.out _ HC1.out).mono ?_)); rintro e W2 ⟨rfl, hb⟩; have HC2 := Lib.hid (bstep HC1.out hb); have K2 := Lib.hid (fun (j : Nat) => (hb.cell (p := ⟨w.heap.size, j, none⟩) HLT1.out).trans (K1.out j)); have HLT2 := Lib.hid (Nat.lt_of_lt_of_le HLT1.out hb.size); clear hb; have k0 := K2.out 0; have k5 := K2.out 7; have k6 := K2.out 8; have k7 := K2.out 9; have k8 := K2.out 10; rw [T0.out] at k0; rw [T7.out] at k5; rw [T8.out] at k6; rw [T9.out] at k7; rw [T10.out] at k8))
      go_ret
      exact ⟨by rw [H.out]; simp, HC2.out⟩
    · skip
      cases m3
      · go_enter Tryz.func30, Tryz.ntmps30
        go_wp2_with (first
    | (go_at_call 59; ((with_reducible refine (Q1.out _ HC0.out).mono ?_)); rintro e W1 ⟨rfl, hb⟩; have HC1 := Lib.hid (bstep HC0.out hb); have K1 := Lib.hid (fun (j : Nat) => (hb.cell (p := ⟨w.heap.size, j, none⟩) HLT0.out).trans (K0.out j)); have HLT1 := Lib.hid (Nat.lt_of_lt_of_le HLT0.out hb.size); clear hb; have k0 := K1.out 0; have k5 := K1.out 7; have k6 := K1.out 8; have k7 := K1.out 9; have k8 := K1.out 10; rw [T0.out] at k0; rw [T7.out] at k5; rw [T8.out] at k6; rw [T9.out] at k7; rw [T10.out] at k8)
    | (go_at_call 59; ((with_reducible refine (Q2.out _ HC1.out).mono ?_)); rintro e W2 ⟨rfl, hb⟩; have HC2 := Lib.hid (bstep HC1.out hb); have K2 := Lib.hid (fun (j : Nat) => (hb.cell (p := ⟨w.heap.size, j, none⟩) HLT1.out).trans (K1.out j)); have HLT2 := Lib.hid (Nat.lt_of_lt_of_le HLT1.out hb.size); clear hb; have k0 := K2.out 0; have k5 := K2.out 7; have k6 := K2.out 8; have k7 := K2.out 9; have k8 := K2.out 10; rw [T0.out] at k0; rw [T7.out] at k5; rw [T8.out] at k6; rw [T9.out] at k7; rw [T10.out] at k8)
    | (go_at_call 62; ((with_reducible refine (Q3.out _ HC2.out).mono ?_)); rintro e W3 ⟨rfl, hb⟩; have HC3 := Lib.hid (bstep HC2.out hb); have K3 := Lib.hid (fun (j : Nat) => (hb.cell (p := ⟨w.heap.size, j, none⟩) HLT2.out).trans (K2.out j)); have HLT3 := Lib.hid (Nat.lt_of_lt_of_le HLT2.out hb.size); clear hb; have k0 := K3.out 0; have k5 := K3.out 7; have k6 := K3.out 8; have k7 := K3.out 9; have k8 := K3.out 10; rw [T0.out] at k0; rw [T7.out] at k5; rw [T8.out] at k6; rw [T9.out] at k7; rw [T10.out] at k8))
        go_ret
        exact ⟨by rw [H.out]; simp, HC3.out⟩
      · skip
        cases m4
        · go_enter Tryz.func30, Tryz.ntmps30
          go_wp2_with (first
    | (go_at_call 59; ((with_reducible refine (Q1.out _ HC0.out).mono ?_)); rintro e W1 ⟨rfl, hb⟩; have HC1 := Lib.hid (bstep HC0.out hb); have K1 := Lib.hid (fun (j : Nat) => (hb.cell (p := ⟨w.heap.size, j, none⟩) HLT0.out).trans (K0.out j)); have HLT1 := Lib.hid (Nat.lt_of_lt_of_le HLT0.out hb.size); clear hb; have k0 := K1.out 0; have k5 := K1.out 7; have k6 := K1.out 8; have k7 := K1.out 9; have k8 := K1.out 10; rw [T0.out] at k0; rw [T7.out] at k5; rw [T8.out] at k6; rw [T9.out] at k7; rw [T10.out] at k8)
    | (go_at_call 59; ((with_reducible refine (Q2.out _ HC1.out).mono ?_)); rintro e W2 ⟨rfl, hb⟩; have HC2 := Lib.hid (bstep HC1.out hb); have K2 := Lib.hid (fun (j : Nat) => (hb.cell (p := ⟨w.heap.size, j, none⟩) HLT1.out).trans (K1.out j)); have HLT2 := Lib.hid (Nat.lt_of_lt_of_le HLT1.out hb.size); clear hb; have k0 := K2.out 0; have k5 := K2.out 7; have k6 := K2.out 8; have k7 := K2.out 9; have k8 := K2.out 10; rw [T0.out] at k0; rw [T7.out] at k5; rw [T8.out] at k6; rw [T9.out] at k7; rw [T10.out] at k8)
    | (go_at_call 62; ((with_reducible refine (Q3.out _ HC2.out).mono ?_)); rintro e W3 ⟨rfl, hb⟩; have HC3 := Lib.hid (bstep HC2.out hb); have K3 := Lib.hid (fun (j : Nat) => (hb.cell (p := ⟨w.heap.size, j, none⟩) HLT2.out).trans (K2.out j)); have HLT3 := Lib.hid (Nat.lt_of_lt_of_le HLT2.out hb.size); clear hb; have k0 := K3.out 0; have k5 := K3.out 7; have k6 := K3.out 8; have k7 := K3.out 9; have k8 := K3.out 10; rw [T0.out] at k0; rw [T7.out] at k5; rw [T8.out] at k6; rw [T9.out] at k7; rw [T10.out] at k8)
    | (go_at_call 59; ((with_reducible refine (Q4.out _ HC3.out).mono ?_)); rintro e W4 ⟨rfl, hb⟩; have HC4 := Lib.hid (bstep HC3.out hb); have K4 := Lib.hid (fun (j : Nat) => (hb.cell (p := ⟨w.heap.size, j, none⟩) HLT3.out).trans (K3.out j)); have HLT4 := Lib.hid (Nat.lt_of_lt_of_le HLT3.out hb.size); clear hb; have k0 := K4.out 0; have k5 := K4.out 7; have k6 := K4.out 8; have k7 := K4.out 9; have k8 := K4.out 10; rw [T0.out] at k0; rw [T7.out] at k5; rw [T8.out] at k6; rw [T9.out] at k7; rw [T10.out] at k8))
          go_ret
          exact ⟨by rw [H.out]; simp, HC4.out⟩
        · skip
          by_cases hf2 : f = 2
          · subst hf2
            by_cases hm0 : 0 < md.length
            · have hmi : (0 : Int) < (md.length : Int) := by omega
              go_enter Tryz.func30, Tryz.ntmps30
              go_wp2_with (first
    | (go_at_call 59; ((with_reducible refine (Q1.out _ HC0.out).mono ?_)); rintro e W1 ⟨rfl, hb⟩; have HC1 := Lib.hid (bstep HC0.out hb); have K1 := Lib.hid (fun (j : Nat) => (hb.cell (p := ⟨w.heap.size, j, none⟩) HLT0.out).trans (K0.out j)); have HLT1 := Lib.hid (Nat.lt_of_lt_of_le HLT0.out hb.size); clear hb; have k0 := K1.out 0; have k5 := K1.out 7; have k6 := K1.out 8; have k7 := K1.out 9; have k8 := K1.out 10; rw [T0.out] at k0; rw [T7.out] at k5; rw [T8.out] at k6; rw [T9.out] at k7; rw [T10.out] at k8)
    | (go_at_call 59; ((with_reducible refine (Q2.out _ HC1.out).mono ?_)); rintro e W2 ⟨rfl, hb⟩; have HC2 := Lib.hid (bstep HC1.out hb); have K2 := Lib.hid (fun (j : Nat) => (hb.cell (p := ⟨w.heap.size, j, none⟩) HLT1.out).trans (K1.out j)); have HLT2 := Lib.hid (Nat.lt_of_lt_of_le HLT1.out hb.size); clear hb; have k0 := K2.out 0; have k5 := K2.out 7; have k6 := K2.out 8; have k7 := K2.out 9; have k8 := K2.out 10; rw [T0.out] at k0; rw [T7.out] at k5; rw [T8.out] at k6; rw [T9.out] at k7; rw [T10.out] at k8)
    | (go_at_call 62; ((with_reducible refine (Q3.out _ HC2.out).mono ?_)); rintro e W3 ⟨rfl, hb⟩; have HC3 := Lib.hid (bstep HC2.out hb); have K3 := Lib.hid (fun (j : Nat) => (hb.cell (p := ⟨w.heap.size, j, none⟩) HLT2.out).trans (K2.out j)); have HLT3 := Lib.hid (Nat.lt_of_lt_of_le HLT2.out hb.size); clear hb; have k0 := K3.out 0; have k5 := K3.out 7; have k6 := K3.out 8; have k7 := K3.out 9; have k8 := K3.out 10; rw [T0.out] at k0; rw [T7.out] at k5; rw [T8.out] at k6; rw [T9.out] at k7; rw [T10.out] at k8)
    | (go_at_call 59; ((with_reducible refine (Q4.out _ HC3.out).mono ?_)); rintro e W4 ⟨rfl, hb⟩; have HC4 := Lib.hid (bstep HC3.out hb); have K4 := Lib.hid (fun (j : Nat) => (hb.cell (p := ⟨w.heap.size, j, none⟩) HLT3.out).trans (K3.out j)); have HLT4 := Lib.hid (Nat.lt_of_lt_of_le HLT3.out hb.size); clear hb; have k0 := K4.out 0; have k5 := K4.out 7; have k6 := K4.out 8; have k7 := K4.out 9; have k8 := K4.out 10; rw [T0.out] at k0; rw [T7.out] at k5; rw [T8.out] at k6; rw [T9.out] at k7; rw [T10.out] at k8))
              go_ret
              exact ⟨by rw [H.out]; simp [hm0] <;> omega, HC4.out⟩
            · have hmi : ¬ (0 : Int) < (md.length : Int) := by omega
              cases m5
              · skip
                by_cases hp0 : po.length = 0
                · have hpi : ((po.length : Int) == 0) = true := by rw [beq_iff_eq]; omega
                  have HP0 := Lib.hid hp0
                  clear hp0
                  go_enter Tryz.func30, Tryz.ntmps30
                  go_wp2_with (first
    | (go_at_call 59; ((with_reducible refine (Q1.out _ HC0.out).mono ?_)); rintro e W1 ⟨rfl, hb⟩; have HC1 := Lib.hid (bstep HC0.out hb); have K1 := Lib.hid (fun (j : Nat) => (hb.cell (p := ⟨w.heap.size, j, none⟩) HLT0.out).trans (K0.out j)); have HLT1 := Lib.hid (Nat.lt_of_lt_of_le HLT0.out hb.size); clear hb; have k0 := K1.out 0; have k5 := K1.out 7; have k6 := K1.out 8; have k7 := K1.out 9; have k8 := K1.out 10; rw [T0.out] at k0; rw [T7.out] at k5; rw [T8.out] at k6; rw [T9.out] at k7; rw [T10.out] at k8)
    | (go_at_call 59; ((with_reducible refine (Q2.out _ HC1.out).mono ?_)); rintro e W2 ⟨rfl, hb⟩; have HC2 := Lib.hid (bstep HC1.out hb); have K2 := Lib.hid (fun (j : Nat) => (hb.cell (p := ⟨w.heap.size, j, none⟩) HLT1.out).trans (K1.out j)); have HLT2 := Lib.hid (Nat.lt_of_lt_of_le HLT1.out hb.size); clear hb; have k0 := K2.out 0; have k5 := K2.out 7; have k6 := K2.out 8; have k7 := K2.out 9; have k8 := K2.out 10; rw [T0.out] at k0; rw [T7.out] at k5; rw [T8.out] at k6; rw [T9.out] at k7; rw [T10.out] at k8)
    | (go_at_call 62; ((with_reducible refine (Q3.out _ HC2.out).mono ?_)); rintro e W3 ⟨rfl, hb⟩; have HC3 := Lib.hid (bstep HC2.out hb); have K3 := Lib.hid (fun (j : Nat) => (hb.cell (p := ⟨w.heap.size, j, none⟩) HLT2.out).trans (K2.out j)); have HLT3 := Lib.hid (Nat.lt_of_lt_of_le HLT2.out hb.size); clear hb; have k0 := K3.out 0; have k5 := K3.out 7; have k6 := K3.out 8; have k7 := K3.out 9; have k8 := K3.out 10; rw [T0.out] at k0; rw [T7.out] at k5; rw [T8.out] at k6; rw [T9.out] at k7; rw [T10.out] at k8)
    | (go_at_call 59; ((with_reducible refine (Q4.out _ HC3.out).mono ?_)); rintro e W4 ⟨rfl, hb⟩; have HC4 := Lib.hid (bstep HC3.out hb); have K4 := Lib.hid (fun (j : Nat) => (hb.cell (p := ⟨w.heap.size, j, none⟩) HLT3.out).trans (K3.out j)); have HLT4 := Lib.hid (Nat.lt_of_lt_of_le HLT3.out hb.size); clear hb; have k0 := K4.out 0; have k5 := K4.out 7; have k6 := K4.out 8; have k7 := K4.out 9; have k8 := K4.out 10; rw [T0.out] at k0; rw [T7.out] at k5; rw [T8.out] at k6; rw [T9.out] at k7; rw [T10.out] at k8)
    | (go_at_call 65; ((with_reducible refine (Q5.out _ HC4.out).mono ?_)); rintro e W5 ⟨rfl, hb⟩; have HC5 := Lib.hid (bstep HC4.out hb); have K5 := Lib.hid (fun (j : Nat) => (hb.cell (p := ⟨w.heap.size, j, none⟩) HLT4.out).trans (K4.out j)); have HLT5 := Lib.hid (Nat.lt_of_lt_of_le HLT4.out hb.size); clear hb; have k0 := K5.out 0; have k5 := K5.out 7; have k6 := K5.out 8; have k7 := K5.out 9; have k8 := K5.out 10; rw [T0.out] at k0; rw [T7.out] at k5; rw [T8.out] at k6; rw [T9.out] at k7; rw [T10.out] at k8))
                  go_ret
                  exact ⟨by rw [H.out]; simp [HP0.out, hm0], HC5.out⟩
                · have hpi : ((po.length : Int) == 0) = false := by rw [beq_eq_false_iff_ne]; omega
                  by_cases hsum : 0 < mo.length + md.length + dy.length
                  · have hsi : (0 : Int) < (mo.length : Int) + (md.length : Int) + (dy.length : Int) := by omega
                    go_enter Tryz.func30, Tryz.ntmps30
                    go_wp2_with (first
    | (go_at_call 59; ((with_reducible refine (Q1.out _ HC0.out).mono ?_)); rintro e W1 ⟨rfl, hb⟩; have HC1 := Lib.hid (bstep HC0.out hb); have K1 := Lib.hid (fun (j : Nat) => (hb.cell (p := ⟨w.heap.size, j, none⟩) HLT0.out).trans (K0.out j)); have HLT1 := Lib.hid (Nat.lt_of_lt_of_le HLT0.out hb.size); clear hb; have k0 := K1.out 0; have k5 := K1.out 7; have k6 := K1.out 8; have k7 := K1.out 9; have k8 := K1.out 10; rw [T0.out] at k0; rw [T7.out] at k5; rw [T8.out] at k6; rw [T9.out] at k7; rw [T10.out] at k8)
    | (go_at_call 59; ((with_reducible refine (Q2.out _ HC1.out).mono ?_)); rintro e W2 ⟨rfl, hb⟩; have HC2 := Lib.hid (bstep HC1.out hb); have K2 := Lib.hid (fun (j : Nat) => (hb.cell (p := ⟨w.heap.size, j, none⟩) HLT1.out).trans (K1.out j)); have HLT2 := Lib.hid (Nat.lt_of_lt_of_le HLT1.out hb.size); clear hb; have k0 := K2.out 0; have k5 := K2.out 7; have k6 := K2.out 8; have k7 := K2.out 9; have k8 := K2.out 10; rw [T0.out] at k0; rw [T7.out] at k5; rw [T8.out] at k6; rw [T9.out] at k7; rw [T10.out] at k8)
    | (go_at_call 62; ((with_reducible refine (Q3.out _ HC2.out).mono ?_)); rintro e W3 ⟨rfl, hb⟩; have HC3 := Lib.hid (bstep HC2.out hb); have K3 := Lib.hid (fun (j : Nat) => (hb.cell (p := ⟨w.heap.size, j, none⟩) HLT2.out).trans (K2.out j)); have HLT3 := Lib.hid (Nat.lt_of_lt_of_le HLT2.out hb.size); clear hb; have k0 := K3.out 0; have k5 := K3.out 7; have k6 := K3.out 8; have k7 := K3.out 9; have k8 := K3.out 10; rw [T0.out] at k0; rw [T7.out] at k5; rw [T8.out] at k6; rw [T9.out] at k7; rw [T10.out] at k8)
    | (go_at_call 59; ((with_reducible refine (Q4.out _ HC3.out).mono ?_)); rintro e W4 ⟨rfl, hb⟩; have HC4 := Lib.hid (bstep HC3.out hb); have K4 := Lib.hid (fun (j : Nat) => (hb.cell (p := ⟨w.heap.size, j, none⟩) HLT3.out).trans (K3.out j)); have HLT4 := Lib.hid (Nat.lt_of_lt_of_le HLT3.out hb.size); clear hb; have k0 := K4.out 0; have k5 := K4.out 7; have k6 := K4.out 8; have k7 := K4.out 9; have k8 := K4.out 10; rw [T0.out] at k0; rw [T7.out] at k5; rw [T8.out] at k6; rw [T9.out] at k7; rw [T10.out] at k8)
    | (go_at_call 65; ((with_reducible refine (Q5.out _ HC4.out).mono ?_)); rintro e W5 ⟨rfl, hb⟩; have HC5 := Lib.hid (bstep HC4.out hb); have K5 := Lib.hid (fun (j : Nat) => (hb.cell (p := ⟨w.heap.size, j, none⟩) HLT4.out).trans (K4.out j)); have HLT5 := Lib.hid (Nat.lt_of_lt_of_le HLT4.out hb.size); clear hb; have k0 := K5.out 0; have k5 := K5.out 7; have k6 := K5.out 8; have k7 := K5.out 9; have k8 := K5.out 10; rw [T0.out] at k0; rw [T7.out] at k5; rw [T8.out] at k6; rw [T9.out] at k7; rw [T10.out] at k8))
                    go_ret
                    exact ⟨by rw [H.out]; simp [hp0, hsum, hm0] <;> omega, HC5.out⟩
                  · have hsi : ¬ (0 : Int) < (mo.length : Int) + (md.length : Int) + (dy.length : Int) := by omega
                    go_enter Tryz.func30, Tryz.ntmps30
                    go_wp2_with (first
    | (go_at_call 59; ((with_reducible refine (Q1.out _ HC0.out).mono ?_)); rintro e W1 ⟨rfl, hb⟩; have HC1 := Lib.hid (bstep HC0.out hb); have K1 := Lib.hid (fun (j : Nat) => (hb.cell (p := ⟨w.heap.size, j, none⟩) HLT0.out).trans (K0.out j)); have HLT1 := Lib.hid (Nat.lt_of_lt_of_le HLT0.out hb.size); clear hb; have k0 := K1.out 0; have k5 := K1.out 7; have k6 := K1.out 8; have k7 := K1.out 9; have k8 := K1.out 10; rw [T0.out] at k0; rw [T7.out] at k5; rw [T8.out] at k6; rw [T9.out] at k7; rw [T10.out] at k8)
    | (go_at_call 59; ((with_reducible refine (Q2.out _ HC1.out).mono ?_)); rintro e W2 ⟨rfl, hb⟩; have HC2 := Lib.hid (bstep HC1.out hb); have K2 := Lib.hid (fun (j : Nat) => (hb.cell (p := ⟨w.heap.size, j, none⟩) HLT1.out).trans (K1.out j)); have HLT2 := Lib.hid (Nat.lt_of_lt_of_le HLT1.out hb.size); clear hb; have k0 := K2.out 0; have k5 := K2.out 7; have k6 := K2.out 8; have k7 := K2.out 9; have k8 := K2.out 10; rw [T0.out] at k0; rw [T7.out] at k5; rw [T8.out] at k6; rw [T9.out] at k7; rw [T10.out] at k8)
    | (go_at_call 62; ((with_reducible refine (Q3.out _ HC2.out).mono ?_)); rintro e W3 ⟨rfl, hb⟩; have HC3 := Lib.hid (bstep HC2.out hb); have K3 := Lib.hid (fun (j : Nat) => (hb.cell (p := ⟨w.heap.size, j, none⟩) HLT2.out).trans (K2.out j)); have HLT3 := Lib.hid (Nat.lt_of_lt_of_le HLT2.out hb.size); clear hb; have k0 := K3.out 0; have k5 := K3.out 7; have k6 := K3.out 8; have k7 := K3.out 9; have k8 := K3.out 10; rw [T0.out] at k0; rw [T7.out] at k5; rw [T8.out] at k6; rw [T9.out] at k7; rw [T10.out] at k8)
    | (go_at_call 59; ((with_reducible refine (Q4.out _ HC3.out).mono ?_)); rintro e W4 ⟨rfl, hb⟩; have HC4 := Lib.hid (bstep HC3.out hb); have K4 := Lib.hid (fun (j : Nat) => (hb.cell (p := ⟨w.heap.size, j, none⟩) HLT3.out).trans (K3.out j)); have HLT4 := Lib.hid (Nat.lt_of_lt_of_le HLT3.out hb.size); clear hb; have k0 := K4.out 0; have k5 := K4.out 7; have k6 := K4.out 8; have k7 := K4.out 9; have k8 := K4.out 10; rw [T0.out] at k0; rw [T7.out] at k5; rw [T8.out] at k6; rw [T9.out] at k7; rw [T10.out] at k8)
    | (go_at_call 65; ((with_reducible refine (Q5.out _ HC4.out).mono ?_)); rintro e W5 ⟨rfl, hb⟩; have HC5 := Lib.hid (bstep HC4.out hb); have K5 := Lib.hid (fun (j : Nat) => (hb.cell (p := ⟨w.heap.size, j, none⟩) HLT4.out).trans (K4.out j)); have HLT5 := Lib.hid (Nat.lt_of_lt_of_le HLT4.out hb.size); clear hb; have k0 := K5.out 0; have k5 := K5.out 7; have k6 := K5.out 8; have k7 := K5.out 9; have k8 := K5.out 10; rw [T0.out] at k0; rw [T7.out] at k5; rw [T8.out] at k6; rw [T9.out] at k7; rw [T10.out] at k8))
                    go_ret
                    exact ⟨by rw [H.out]; simp [hp0, hsum, hm0] <;> omega, HC5.out⟩
              · skip
                go_enter Tryz.func30, Tryz.ntmps30
                go_wp2_with (first
    | (go_at_call 59; ((with_reducible refine (Q1.out _ HC0.out).mono ?_)); rintro e W1 ⟨rfl, hb⟩; have HC1 := Lib.hid (bstep HC0.out hb); have K1 := Lib.hid (fun (j : Nat) => (hb.cell (p := ⟨w.heap.size, j, none⟩) HLT0.out).trans (K0.out j)); have HLT1 := Lib.hid (Nat.lt_of_lt_of_le HLT0.out hb.size); clear hb; have k0 := K1.out 0; have k5 := K1.out 7; have k6 := K1.out 8; have k7 := K1.out 9; have k8 := K1.out 10; rw [T0.out] at k0; rw [T7.out] at k5; rw [T8.out] at k6; rw [T9.out] at k7; rw [T10.out] at k8)
    | (go_at_call 59; ((with_reducible refine (Q2.out _ HC1.out).mono ?_)); rintro e W2 ⟨rfl, hb⟩; have HC2 := Lib.hid (bstep HC1.out hb); have K2 := Lib.hid (fun (j : Nat) => (hb.cell (p := ⟨w.heap.size, j, none⟩) HLT1.out).trans (K1.out j)); have HLT2 := Lib.hid (Nat.lt_of_lt_of_le HLT1.out hb.size); clear hb; have k0 := K2.out 0; have k5 := K2.out 7; have k6 := K2.out 8; have k7 := K2.out 9; have k8 := K2.out 10; rw [T0.out] at k0; rw [T7.out] at k5; rw [T8.out] at k6; rw [T9.out] at k7; rw [T10.out] at k8)
    | (go_at_call 62; ((with_reducible refine (Q3.out _ HC2.out).mono ?_)); rintro e W3 ⟨rfl, hb⟩; have HC3 := Lib.hid (bstep HC2.out hb); have K3 := Lib.hid (fun (j : Nat) => (hb.cell (p := ⟨w.heap.size, j, none⟩) HLT2.out).trans (K2.out j)); have HLT3 := Lib.hid (Nat.lt_of_lt_of_le HLT2.out hb.size); clear hb; have k0 := K3.out 0; have k5 := K3.out 7; have k6 := K3.out 8; have k7 := K3.out 9; have k8 := K3.out 10; rw [T0.out] at k0; rw [T7.out] at k5; rw [T8.out] at k6; rw [T9.out] at k7; rw [T10.out] at k8)
    | (go_at_call 59; ((with_reducible refine (Q4.out _ HC3.out).mono ?_)); rintro e W4 ⟨rfl, hb⟩; have HC4 := Lib.hid (bstep HC3.out hb); have K4 := Lib.hid (fun (j : Nat) => (hb.cell (p := ⟨w.heap.size, j, none⟩) HLT3.out).trans (K3.out j)); have HLT4 := Lib.hid (Nat.lt_of_lt_of_le HLT3.out hb.size); clear hb; have k0 := K4.out 0; have k5 := K4.out 7; have k6 := K4.out 8; have k7 := K4.out 9; have k8 := K4.out 10; rw [T0.out] at k0; rw [T7.out] at k5; rw [T8.out] at k6; rw [T9.out] at k7; rw [T10.out] at k8)
    | (go_at_call 65; ((with_reducible refine (Q5.out _ HC4.out).mono ?_)); rintro e W5 ⟨rfl, hb⟩; have HC5 := Lib.hid (bstep HC4.out hb); have K5 := Lib.hid (fun (j : Nat) => (hb.cell (p := ⟨w.heap.size, j, none⟩) HLT4.out).trans (K4.out j)); have HLT5 := Lib.hid (Nat.lt_of_lt_of_le HLT4.out hb.size); clear hb; have k0 := K5.out 0; have k5 := K5.out 7; have k6 := K5.out 8; have k7 := K5.out 9; have k8 := K5.out 10; rw [T0.out] at k0; rw [T7.out] at k5; rw [T8.out] at k6; rw [T9.out] at k7; rw [T10.out] at k8))
                go_ret
                exact ⟨by rw [H.out]; simp, HC5.out⟩
          · have hfb : (f == 2) = false := by rw [beq_eq_false_iff_ne]; exact hf2
            by_cases hf3 : f ≤ 2
            · cases m5
              · skip
                by_cases hp0 : po.length = 0
                · have hpi : ((po.length : Int) == 0) = true := by rw [beq_iff_eq]; omega
                  have HP0 := Lib.hid hp0
                  clear hp0
                  go_enter Tryz.func30, Tryz.ntmps30
                  go_wp2_with (first
    | (go_at_call 59; ((with_reducible refine (Q1.out _ HC0.out).mono ?_)); rintro e W1 ⟨rfl, hb⟩; have HC1 := Lib.hid (bstep HC0.out hb); have K1 := Lib.hid (fun (j : Nat) => (hb.cell (p := ⟨w.heap.size, j, none⟩) HLT0.out).trans (K0.out j)); have HLT1 := Lib.hid (Nat.lt_of_lt_of_le HLT0.out hb.size); clear hb; have k0 := K1.out 0; have k5 := K1.out 7; have k6 := K1.out 8; have k7 := K1.out 9; have k8 := K1.out 10; rw [T0.out] at k0; rw [T7.out] at k5; rw [T8.out] at k6; rw [T9.out] at k7; rw [T10.out] at k8)
    | (go_at_call 59; ((with_reducible refine (Q2.out _ HC1.out).mono ?_)); rintro e W2 ⟨rfl, hb⟩; have HC2 := Lib.hid (bstep HC1.out hb); have K2 := Lib.hid (fun (j : Nat) => (hb.cell (p := ⟨w.heap.size, j, none⟩) HLT1.out).trans (K1.out j)); have HLT2 := Lib.hid (Nat.lt_of_lt_of_le HLT1.out hb.size); clear hb; have k0 := K2.out 0; have k5 := K2.out 7; have k6 := K2.out 8; have k7 := K2.out 9; have k8 := K2.out 10; rw [T0.out] at k0; rw [T7.out] at k5; rw [T8.out] at k6; rw [T9.out] at k7; rw [T10.out] at k8)
    | (go_at_call 62; ((with_reducible refine (Q3.out _ HC2.out).mono ?_)); rintro e W3 ⟨rfl, hb⟩; have HC3 := Lib.hid (bstep HC2.out hb); have K3 := Lib.hid (fun (j : Nat) => (hb.cell (p := ⟨w.heap.size, j, none⟩) HLT2.out).trans (K2.out j)); have HLT3 := Lib.hid (Nat.lt_of_lt_of_le HLT2.out hb.size); clear hb; have k0 := K3.out 0; have k5 := K3.out 7; have k6 := K3.out 8; have k7 := K3.out 9; have k8 := K3.out 10; rw [T0.out] at k0; rw [T7.out] at k5; rw [T8.out] at k6; rw [T9.out] at k7; rw [T10.out] at k8)
    | (go_at_call 59; ((with_reducible refine (Q4.out _ HC3.out).mono ?_)); rintro e W4 ⟨rfl, hb⟩; have HC4 := Lib.hid (bstep HC3.out hb); have K4 := Lib.hid (fun (j : Nat) => (hb.cell (p := ⟨w.heap.size, j, none⟩) HLT3.out).trans (K3.out j)); have HLT4 := Lib.hid (Nat.lt_of_lt_of_le HLT3.out hb.size); clear hb; have k0 := K4.out 0; have k5 := K4.out 7; have k6 := K4.out 8; have k7 := K4.out 9; have k8 := K4.out 10; rw [T0.out] at k0; rw [T7.out] at k5; rw [T8.out] at k6; rw [T9.out] at k7; rw [T10.out] at k8)
    | (go_at_call 65; ((with_reducible refine (Q5.out _ HC4.out).mono ?_)); rintro e W5 ⟨rfl, hb⟩; have HC5 := Lib.hid (bstep HC4.out hb); have K5 := Lib.hid (fun (j : Nat) => (hb.cell (p := ⟨w.heap.size, j, none⟩) HLT4.out).trans (K4.out j)); have HLT5 := Lib.hid (Nat.lt_of_lt_of_le HLT4.out hb.size); clear hb; have k0 := K5.out 0; have k5 := K5.out 7; have k6 := K5.out 8; have k7 := K5.out 9; have k8 := K5.out 10; rw [T0.out] at k0; rw [T7.out] at k5; rw [T8.out] at k6; rw [T9.out] at k7; rw [T10.out] at k8))
                  go_ret
                  exact ⟨by rw [H.out]; simp [HP0.out, hf2], HC5.out⟩
                · have hpi : ((po.length : Int) == 0) = false := by rw [beq_eq_false_iff_ne]; omega
                  by_cases hsum : 0 < mo.length + md.length + dy.length
                  · have hsi : (0 : Int) < (mo.length : Int) + (md.length : Int) + (dy.length : Int) := by omega
                    go_enter Tryz.func30, Tryz.ntmps30
                    go_wp2_with (first
    | (go_at_call 59; ((with_reducible refine (Q1.out _ HC0.out).mono ?_)); rintro e W1 ⟨rfl, hb⟩; have HC1 := Lib.hid (bstep HC0.out hb); have K1 := Lib.hid (fun (j : Nat) => (hb.cell (p := ⟨w.heap.size, j, none⟩) HLT0.out).trans (K0.out j)); have HLT1 := Lib.hid (Nat.lt_of_lt_of_le HLT0.out hb.size); clear hb; have k0 := K1.out 0; have k5 := K1.out 7; have k6 := K1.out 8; have k7 := K1.out 9; have k8 := K1.out 10; rw [T0.out] at k0; rw [T7.out] at k5; rw [T8.out] at k6; rw [T9.out] at k7; rw [T10.out] at k8)
    | (go_at_call 59; ((with_reducible refine (Q2.out _ HC1.out).mono ?_)); rintro e W2 ⟨rfl, hb⟩; have HC2 := Lib.hid (bstep HC1.out hb); have K2 := Lib.hid (fun (j : Nat) => (hb.cell (p := ⟨w.heap.size, j, none⟩) HLT1.out).trans (K1.out j)); have HLT2 := Lib.hid (Nat.lt_of_lt_of_le HLT1.out hb.size); clear hb; have k0 := K2.out 0; have k5 := K2.out 7; have k6 := K2.out 8; have k7 := K2.out 9; have k8 := K2.out 10; rw [T0.out] at k0; rw [T7.out] at k5; rw [T8.out] at k6; rw [T9.out] at k7; rw [T10.out] at k8)
    | (go_at_call 62; ((with_reducible refine (Q3.out _ HC2.out).mono ?_)); rintro e W3 ⟨rfl, hb⟩; have HC3 := Lib.hid (bstep HC2.out hb); have K3 := Lib.hid (fun (j : Nat) => (hb.cell (p := ⟨w.heap.size, j, none⟩) HLT2.out).trans (K2.out j)); have HLT3 := Lib.hid (Nat.lt_of_lt_of_le HLT2.out hb.size); clear hb; have k0 := K3.out 0; have k5 := K3.out 7; have k6 := K3.out 8; have k7 := K3.out 9; have k8 := K3.out 10; rw [T0.out] at k0; rw [T7.out] at k5; rw [T8.out] at k6; rw [T9.out] at k7; rw [T10.out] at k8)
    | (go_at_call 59; ((with_reducible refine (Q4.out _ HC3.out).mono ?_)); rintro e W4 ⟨rfl, hb⟩; have HC4 := Lib.hid (bstep HC3.out hb); have K4 := Lib.hid (fun (j : Nat) => (hb.cell (p := ⟨w.heap.size, j, none⟩) HLT3.out).trans (K3.out j)); have HLT4 := Lib.hid (Nat.lt_of_lt_of_le HLT3.out hb.size); clear hb; have k0 := K4.out 0; have k5 := K4.out 7; have k6 := K4.out 8; have k7 := K4.out 9; have k8 := K4.out 10; rw [T0.out] at k0; rw [T7.out] at k5; rw [T8.out] at k6; rw [T9.out] at k7; rw [T10.out] at k8)
    | (go_at_call 65; ((with_reducible refine (Q5.out _ HC4.out).mono ?_)); rintro e W5 ⟨rfl, hb⟩; have HC5 := Lib.hid (bstep HC4.out hb); have K5 := Lib.hid (fun (j : Nat) => (hb.cell (p := ⟨w.heap.size, j, none⟩) HLT4.out).trans (K4.out j)); have HLT5 := Lib.hid (Nat.lt_of_lt_of_le HLT4.out hb.size); clear hb; have k0 := K5.out 0; have k5 := K5.out 7; have k6 := K5.out 8; have k7 := K5.out 9; have k8 := K5.out 10; rw [T0.out] at k0; rw [T7.out] at k5; rw [T8.out] at k6; rw [T9.out] at k7; rw [T10.out] at k8))
                    go_ret
                    exact ⟨by rw [H.out]; simp [hp0, hsum, hf2] <;> omega, HC5.out⟩
                  · have hsi : ¬ (0 : Int) < (mo.length : Int) + (md.length : Int) + (dy.length : Int) := by omega
                    go_enter Tryz.func30, Tryz.ntmps30
                    go_wp2_with (first
    | (go_at_call 59; ((with_reducible refine (Q1.out _ HC0.out).mono ?_)); rintro e W1 ⟨rfl, hb⟩; have HC1 := Lib.hid (bstep HC0.out hb); have K1 := Lib.hid (fun (j : Nat) => (hb.cell (p := ⟨w.heap.size, j, none⟩) HLT0.out).trans (K0.out j)); have HLT1 := Lib.hid (Nat.lt_of_lt_of_le HLT0.out hb.size); clear hb; have k0 := K1.out 0; have k5 := K1.out 7; have k6 := K1.out 8; have k7 := K1.out 9; have k8 := K1.out 10; rw [T0.out] at k0; rw [T7.out] at k5; rw [T8.out] at k6; rw [T9.out] at k7; rw [T10.out] at k8)
    | (go_at_call 59; ((with_reducible refine (Q2.out _ HC1.out).mono ?_)); rintro e W2 ⟨rfl, hb⟩; have HC2 := Lib.hid (bstep HC1.out hb); have K2 := Lib.hid (fun (j : Nat) => (hb.cell (p := ⟨w.heap.size, j, none⟩) HLT1.out).trans (K1.out j)); have HLT2 := Lib.hid (Nat.lt_of_lt_of_le HLT1.out hb.size); clear hb; have k0 := K2.out 0; have k5 := K2.out 7; have k6 := K2.out 8; have k7 := K2.out 9; have k8 := K2.out 10; rw [T0.out] at k0; rw [T7.out] at k5; rw [T8.out] at k6; rw [T9.out] at k7; rw [T10.out] at k8)
    | (go_at_call 62; ((with_reducible refine (Q3.out _ HC2.out).mono ?_)); rintro e W3 ⟨rfl, hb⟩; have HC3 := Lib.hid (bstep HC2.out hb); have K3 := Lib.hid (fun (j : Nat) => (hb.cell (p := ⟨w.heap.size, j, none⟩) HLT2.out).trans (K2.out j)); have HLT3 := Lib.hid (Nat.lt_of_lt_of_le HLT2.out hb.size); clear hb; have k0 := K3.out 0; have k5 := K3.out 7; have k6 := K3.out 8; have k7 := K3.out 9; have k8 := K3.out 10; rw [T0.out] at k0; rw [T7.out] at k5; rw [T8.out] at k6; rw [T9.out] at k7; rw [T10.out] at k8)
    | (go_at_call 59; ((with_reducible refine (Q4.out _ HC3.out).mono ?_)); rintro e W4 ⟨rfl, hb⟩; have HC4 := Lib.hid (bstep HC3.out hb); have K4 := Lib.hid (fun (j : Nat) => (hb.cell (p := ⟨w.heap.size, j, none⟩) HLT3.out).trans (K3.out j)); have HLT4 := Lib.hid (Nat.lt_of_lt_of_le HLT3.out hb.size); clear hb; have k0 := K4.out 0; have k5 := K4.out 7; have k6 := K4.out 8; have k7 := K4.out 9; have k8 := K4.out 10; rw [T0.out] at k0; rw [T7.out] at k5; rw [T8.out] at k6; rw [T9.out] at k7; rw [T10.out] at k8)
    | (go_at_call 65; ((with_reducible refine (Q5.out _ HC4.out).mono ?_)); rintro e W5 ⟨rfl, hb⟩; have HC5 := Lib.hid (bstep HC4.out hb); have K5 := Lib.hid (fun (j : Nat) => (hb.cell (p := ⟨w.heap.size, j, none⟩) HLT4.out).trans (K4.out j)); have HLT5 := Lib.hid (Nat.lt_of_lt_of_le HLT4.out hb.size); clear hb; have k0 := K5.out 0; have k5 := K5.out 7; have k6 := K5.out 8; have k7 := K5.out 9; have k8 := K5.out 10; rw [T0.out] at k0; rw [T7.out] at k5; rw [T8.out] at k6; rw [T9.out] at k7; rw [T10.out] at k8))
                    go_ret
                    exact ⟨by rw [H.out]; simp [hp0, hsum, hf2] <;> omega, HC5.out⟩
              · skip
                go_enter Tryz.func30, Tryz.ntmps30
                go_wp2_with (first
    | (go_at_call 59; ((with_reducible refine (Q1.out _ HC0.out).mono ?_)); rintro e W1 ⟨rfl, hb⟩; have HC1 := Lib.hid (bstep HC0.out hb); have K1 := Lib.hid (fun (j : Nat) => (hb.cell (p := ⟨w.heap.size, j, none⟩) HLT0.out).trans (K0.out j)); have HLT1 := Lib.hid (Nat.lt_of_lt_of_le HLT0.out hb.size); clear hb; have k0 := K1.out 0; have k5 := K1.out 7; have k6 := K1.out 8; have k7 := K1.out 9; have k8 := K1.out 10; rw [T0.out] at k0; rw [T7.out] at k5; rw [T8.out] at k6; rw [T9.out] at k7; rw [T10.out] at k8)
    | (go_at_call 59; ((with_reducible refine (Q2.out _ HC1.out).mono ?_)); rintro e W2 ⟨rfl, hb⟩; have HC2 := Lib.hid (bstep HC1.out hb); have K2 := Lib.hid (fun (j : Nat) => (hb.cell (p := ⟨w.heap.size, j, none⟩) HLT1.out).trans (K1.out j)); have HLT2 := Lib.hid (Nat.lt_of_lt_of_le HLT1.out hb.size); clear hb; have k0 := K2.out 0; have k5 := K2.out 7; have k6 := K2.out 8; have k7 := K2.out 9; have k8 := K2.out 10; rw [T0.out] at k0; rw [T7.out] at k5; rw [T8.out] at k6; rw [T9.out] at k7; rw [T10.out] at k8)
    | (go_at_call 62; ((with_reducible refine (Q3.out _ HC2.out).mono ?_)); rintro e W3 ⟨rfl, hb⟩; have HC3 := Lib.hid (bstep HC2.out hb); have K3 := Lib.hid (fun (j : Nat) => (hb.cell (p := ⟨w.heap.size, j, none⟩) HLT2.out).trans (K2.out j)); have HLT3 := Lib.hid (Nat.lt_of_lt_of_le HLT2.out hb.size); clear hb; have k0 := K3.out 0; have k5 := K3.out 7; have k6 := K3.out 8; have k7 := K3.out 9; have k8 := K3.out 10; rw [T0.out] at k0; rw [T7.out] at k5; rw [T8.out] at k6; rw [T9.out] at k7; rw [T10.out] at k8)
    | (go_at_call 59; ((with_reducible refine (Q4.out _ HC3.out).mono ?_)); rintro e W4 ⟨rfl, hb⟩; have HC4 := Lib.hid (bstep HC3.out hb); have K4 := Lib.hid (fun (j : Nat) => (hb.cell (p := ⟨w.heap.size, j, none⟩) HLT3.out).trans (K3.out j)); have HLT4 := Lib.hid (Nat.lt_of_lt_of_le HLT3.out hb.size); clear hb; have k0 := K4.out 0; have k5 := K4.out 7; have k6 := K4.out 8; have k7 := K4.out 9; have k8 := K4.out 10; rw [T0.out] at k0; rw [T7.out] at k5; rw [T8.out] at k6; rw [T9.out] at k7; rw [T10.out] at k8)
    | (go_at_call 65; ((with_reducible refine (Q5.out _ HC4.out).mono ?_)); rintro e W5 ⟨rfl, hb⟩; have HC5 := Lib.hid (bstep HC4.out hb); have K5 := Lib.hid (fun (j : Nat) => (hb.cell (p := ⟨w.heap.size, j, none⟩) HLT4.out).trans (K4.out j)); have HLT5 := Lib.hid (Nat.lt_of_lt_of_le HLT4.out hb.size); clear hb; have k0 := K5.out 0; have k5 := K5.out 7; have k6 := K5.out 8; have k7 := K5.out 9; have k8 := K5.out 10; rw [T0.out] at k0; rw [T7.out] at k5; rw [T8.out] at k6; rw [T9.out] at k7; rw [T10.out] at k8))
                go_ret
                exact ⟨by rw [H.out]; simp [hf3], HC5.out⟩
            · skip
              by_cases hp0 : po.length = 0
              · have hpi : ((po.length : Int) == 0) = true := by rw [beq_iff_eq]; omega
                have HP0 := Lib.hid hp0
                clear hp0
                go_enter Tryz.func30, Tryz.ntmps30
                go_wp2_with (first
    | (go_at_call 59; ((with_reducible refine (Q1.out _ HC0.out).mono ?_)); rintro e W1 ⟨rfl, hb⟩; have HC1 := Lib.hid (bstep HC0.out hb); have K1 := Lib.hid (fun (j : Nat) => (hb.cell (p := ⟨w.heap.size, j, none⟩) HLT0.out).trans (K0.out j)); have HLT1 := Lib.hid (Nat.lt_of_lt_of_le HLT0.out hb.size); clear hb; have k0 := K1.out 0; have k5 := K1.out 7; have k6 := K1.out 8; have k7 := K1.out 9; have k8 := K1.out 10; rw [T0.out] at k0; rw [T7.out] at k5; rw [T8.out] at k6; rw [T9.out] at k7; rw [T10.out] at k8)
    | (go_at_call 59; ((with_reducible refine (Q2.out _ HC1.out).mono ?_)); rintro e W2 ⟨rfl, hb⟩; have HC2 := Lib.hid (bstep HC1.out hb); have K2 := Lib.hid (fun (j : Nat) => (hb.cell (p := ⟨w.heap.size, j, none⟩) HLT1.out).trans (K1.out j)); have HLT2 := Lib.hid (Nat.lt_of_lt_of_le HLT1.out hb.size); clear hb; have k0 := K2.out 0; have k5 := K2.out 7; have k6 := K2.out 8; have k7 := K2.out 9; have k8 := K2.out 10; rw [T0.out] at k0; rw [T7.out] at k5; rw [T8.out] at k6; rw [T9.out] at k7; rw [T10.out] at k8)
    | (go_at_call 62; ((with_reducible refine (Q3.out _ HC2.out).mono ?_)); rintro e W3 ⟨rfl, hb⟩; have HC3 := Lib.hid (bstep HC2.out hb); have K3 := Lib.hid (fun (j : Nat) => (hb.cell (p := ⟨w.heap.size, j, none⟩) HLT2.out).trans (K2.out j)); have HLT3 := Lib.hid (Nat.lt_of_lt_of_le HLT2.out hb.size); clear hb; have k0 := K3.out 0; have k5 := K3.out 7; have k6 := K3.out 8; have k7 := K3.out 9; have k8 := K3.out 10; rw [T0.out] at k0; rw [T7.out] at k5; rw [T8.out] at k6; rw [T9.out] at k7; rw [T10.out] at k8)
    | (go_at_call 59; ((with_reducible refine (Q4.out _ HC3.out).mono ?_)); rintro e W4 ⟨rfl, hb⟩; have HC4 := Lib.hid (bstep HC3.out hb); have K4 := Lib.hid (fun (j : Nat) => (hb.cell (p := ⟨w.heap.size, j, none⟩) HLT3.out).trans (K3.out j)); have HLT4 := Lib.hid (Nat.lt_of_lt_of_le HLT3.out hb.size); clear hb; have k0 := K4.out 0; have k5 := K4.out 7; have k6 := K4.out 8; have k7 := K4.out 9; have k8 := K4.out 10; rw [T0.out] at k0; rw [T7.out] at k5; rw [T8.out] at k6; rw [T9.out] at k7; rw [T10.out] at k8))
                go_ret
                exact ⟨by rw [H.out]; simp [HP0.out, hf2, hf3], HC4.out⟩
              · have hpi : ((po.length : Int) == 0) = false := by rw [beq_eq_false_iff_ne]; omega
                by_cases hsum : 0 < mo.length + md.length + dy.length
                · have hsi : (0 : Int) < (mo.length : Int) + (md.length : Int) + (dy.length : Int) := by omega
                  go_enter Tryz.func30, Tryz.ntmps30
                  go_wp2_with (first
    | (go_at_call 59; ((with_reducible refine (Q1.out _ HC0.out).mono ?_)); rintro e W1 ⟨rfl, hb⟩; have HC1 := Lib.hid (bstep HC0.out hb); have K1 := Lib.hid (fun (j : Nat) => (hb.cell (p := ⟨w.heap.size, j, none⟩) HLT0.out).trans (K0.out j)); have HLT1 := Lib.hid (Nat.lt_of_lt_of_le HLT0.out hb.size); clear hb; have k0 := K1.out 0; have k5 := K1.out 7; have k6 := K1.out 8; have k7 := K1.out 9; have k8 := K1.out 10; rw [T0.out] at k0; rw [T7.out] at k5; rw [T8.out] at k6; rw [T9.out] at k7; rw [T10.out] at k8)
    | (go_at_call 59; ((with_reducible refine (Q2.out _ HC1.out).mono ?_)); rintro e W2 ⟨rfl, hb⟩; have HC2 := Lib.hid (bstep HC1.out hb); have K2 := Lib.hid (fun (j : Nat) => (hb.cell (p := ⟨w.heap.size, j, none⟩) HLT1.out).trans (K1.out j)); have HLT2 := Lib.hid (Nat.lt_of_lt_of_le HLT1.out hb.size); clear hb; have k0 := K2.out 0; have k5 := K2.out 7; have k6 := K2.out 8; have k7 := K2.out 9; have k8 := K2.out 10; rw [T0.out] at k0; rw [T7.out] at k5; rw [T8.out] at k6; rw [T9.out] at k7; rw [T10.out] at k8)
    | (go_at_call 62; ((with_reducible refine (Q3.out _ HC2.out).mono ?_)); rintro e W3 ⟨rfl, hb⟩; have HC3 := Lib.hid (bstep HC2.out hb); have K3 := Lib.hid (fun (j : Nat) => (hb.cell (p := ⟨w.heap.size, j, none⟩) HLT2.out).trans (K2.out j)); have HLT3 := Lib.hid (Nat.lt_of_lt_of_le HLT2.out hb.size); clear hb; have k0 := K3.out 0; have k5 := K3.out 7; have k6 := K3.out 8; have k7 := K3.out 9; have k8 := K3.out 10; rw [T0.out] at k0; rw [T7.out] at k5; rw [T8.out] at k6; rw [T9.out] at k7; rw [T10.out] at k8)
    | (go_at_call 59; ((with_reducible refine (Q4.out _ HC3.out).mono ?_)); rintro e W4 ⟨rfl, hb⟩; have HC4 := Lib.hid (bstep HC3.out hb); have K4 := Lib.hid (fun (j : Nat) => (hb.cell (p := ⟨w.heap.size, j, none⟩) HLT3.out).trans (K3.out j)); have HLT4 := Lib.hid (Nat.lt_of_lt_of_le HLT3.out hb.size); clear hb; have k0 := K4.out 0; have k5 := K4.out 7; have k6 := K4.out 8; have k7 := K4.out 9; have k8 := K4.out 10; rw [T0.out] at k0; rw [T7.out] at k5; rw [T8.out] at k6; rw [T9.out] at k7; rw [T10.out] at k8))
                  go_ret
                  exact ⟨by rw [H.out]; simp [hp0, hsum, hf2, hf3] <;> omega, HC4.out⟩
                · have hsi : ¬ (0 : Int) < (mo.length : Int) + (md.length : Int) + (dy.length : Int) := by omega
                  go_enter Tryz.func30, Tryz.ntmps30
                  go_wp2_with (first
    | (go_at_call 59; ((with_reducible refine (Q1.out _ HC0.out).mono ?_)); rintro e W1 ⟨rfl, hb⟩; have HC1 := Lib.hid (bstep HC0.out hb); have K1 := Lib.hid (fun (j : Nat) => (hb.cell (p := ⟨w.heap.size, j, none⟩) HLT0.out).trans (K0.out j)); have HLT1 := Lib.hid (Nat.lt_of_lt_of_le HLT0.out hb.size); clear hb; have k0 := K1.out 0; have k5 := K1.out 7; have k6 := K1.out 8; have k7 := K1.out 9; have k8 := K1.out 10; rw [T0.out] at k0; rw [T7.out] at k5; rw [T8.out] at k6; rw [T9.out] at k7; rw [T10.out] at k8)
    | (go_at_call 59; ((with_reducible refine (Q2.out _ HC1.out).mono ?_)); rintro e W2 ⟨rfl, hb⟩; have HC2 := Lib.hid (bstep HC1.out hb); have K2 := Lib.hid (fun (j : Nat) => (hb.cell (p := ⟨w.heap.size, j, none⟩) HLT1.out).trans (K1.out j)); have HLT2 := Lib.hid (Nat.lt_of_lt_of_le HLT1.out hb.size); clear hb; have k0 := K2.out 0; have k5 := K2.out 7; have k6 := K2.out 8; have k7 := K2.out 9; have k8 := K2.out 10; rw [T0.out] at k0; rw [T7.out] at k5; rw [T8.out] at k6; rw [T9.out] at k7; rw [T10.out] at k8)
    | (go_at_call 62; ((with_reducible refine (Q3.out _ HC2.out).mono ?_)); rintro e W3 ⟨rfl, hb⟩; have HC3 := Lib.hid (bstep HC2.out hb); have K3 := Lib.hid (fun (j : Nat) => (hb.cell (p := ⟨w.heap.size, j, none⟩) HLT2.out).trans (K2.out j)); have HLT3 := Lib.hid (Nat.lt_of_lt_of_le HLT2.out hb.size); clear hb; have k0 := K3.out 0; have k5 := K3.out 7; have k6 := K3.out 8; have k7 := K3.out 9; have k8 := K3.out 10; rw [T0.out] at k0; rw [T7.out] at k5; rw [T8.out] at k6; rw [T9.out] at k7; rw [T10.out] at k8)
    | (go_at_call 59; ((with_reducible refine (Q4.out _ HC3.out).mono ?_)); rintro e W4 ⟨rfl, hb⟩; have HC4 := Lib.hid (bstep HC3.out hb); have K4 := Lib.hid (fun (j : Nat) => (hb.cell (p := ⟨w.heap.size, j, none⟩) HLT3.out).trans (K3.out j)); have HLT4 := Lib.hid (Nat.lt_of_lt_of_le HLT3.out hb.size); clear hb; have k0 := K4.out 0; have k5 := K4.out 7; have k6 := K4.out 8; have k7 := K4.out 9; have k8 := K4.out 10; rw [T0.out] at k0; rw [T7.out] at k5; rw [T8.out] at k6; rw [T9.out] at k7; rw [T10.out] at k8))
                  go_ret
                  exact ⟨by rw [H.out]; simp [hp0, hsum, hf2] <;> omega, HC4.out⟩
set_option maxRecDepth 100000 in
set_option maxHeartbeats 8000000 in
theorem pFit14_any (r : RuV) (v1 v2 v3 v4 : Value) (w : World) (hv : VV w) (hu : -9223372036854775808 ≤ r.unt.secs ∧ r.unt.secs < 9223372036854775808) (h : RuS w r v1 v2 v3 v4) :
    Calls Tryz.prog 11 #[ruV r v1 v2 v3 v4] w fun e w' => e = .returned (.bool (fitV r)) ∧ Below w.heap.size w w' := by
  rw [← fitB_fitV]
  have q3 : ∀ W, Below w.heap.size w W → _ := fun W hb => untilFit_any r v1 v2 v3 v4 W (hv.step hb) hu (h.step hb)
  have q4 : ∀ W, Below w.heap.size w W → _ := fun W hb => listsFit_any r v1 v2 v3 v4 W (h.step hb)
  have q5 : ∀ W, Calls _ _ _ W _ := fun W => isDay_any r.wk W
  have q1 : ∀ W, Calls _ _ _ W _ := fun W => isCount_any r.intv 1000 W
  have q2 : ∀ W, Calls _ _ _ W _ := fun W => isCount_any r.cnt 1000 W
  have H : Hid (fitB r = (decide (0 < r.freq) && (decide (r.freq < 5) && (cntB r.intv 1000 && ((decide (r.cnt = 0) || cntB r.cnt 1000) && (untB r && (lstB r && dayOk r.wk))))))) := Lib.hid rfl
  generalize cntB r.intv 1000 = m1 at q1 H
  generalize cntB r.cnt 1000 = m2 at q2 H
  generalize untB r = m3 at q3 H
  generalize lstB r = m4 at q4 H
  generalize dayOk r.wk = m5 at q5 H
  obtain ⟨a1, c1, rfl⟩ := h.s1.lit
  obtain ⟨a2, c2, rfl⟩ := h.s2.lit
  obtain ⟨a3, c3, rfl⟩ := h.s3.lit
  obtain ⟨a4, c4, rfl⟩ := h.s4.lit
  clear h hv hu
  obtain ⟨f, i, c, hs, ⟨us, uu, ud⟩, mo, md, dy, po, wk⟩ := r
  unfold ruV at q3 q4 ⊢
  simp only at q1 q2 q3 q4 q5 H ⊢
  have HB1 : Hid (Below w.heap.size w (w.alloc (.cells #[.int .i64 f, .int .i64 i, .int .i64 c, .bool hs, .int .i64 us, .bool uu, .bool ud, .slice a1 mo.length c1, .slice a2 md.length c2, .slice a3 dy.length c3, .slice a4 po.length c4, .int .i64 wk] 27))) := Lib.hid ((Below.refl _ _).alloc (Nat.le_refl _) _)
  have Q3 := Lib.hid q3
  have Q4 := Lib.hid q4
  clear q3 q4
  have C0 : Hid (∀ W2, Below (w.alloc (.cells #[.int .i64 f, .int .i64 i, .int .i64 c, .bool hs, .int .i64 us, .bool uu, .bool ud, .slice a1 mo.length c1, .slice a2 md.length c2, .slice a3 dy.length c3, .slice a4 po.length c4, .int .i64 wk] 27)).heap.size (w.alloc (.cells #[.int .i64 f, .int .i64 i, .int .i64 c, .bool hs, .int .i64 us, .bool uu, .bool ud, .slice a1 mo.length c1, .slice a2 md.length c2, .slice a3 dy.length c3, .slice a4 po.length c4, .int .i64 wk] 27)) W2 → (∀ j : Nat, W2.cell? ⟨w.heap.size, j, none⟩ = (w.alloc (.cells #[.int .i64 f, .int .i64 i, .int .i64 c, .bool hs, .int .i64 us, .bool uu, .bool ud, .slice a1 mo.length c1, .slice a2 md.length c2, .slice a3 dy.length c3, .slice a4 po.length c4, .int .i64 wk] 27)).cell? ⟨w.heap.size, j, none⟩)) := Lib.hid (fun W2 hb j => hb.cell (p := ⟨w.heap.size, j, none⟩) (by simp))
  have TT : Hid (∀ (j : Nat) (v : Value), (#[.int .i64 f, .int .i64 i, .int .i64 c, .bool hs, .int .i64 us, .bool uu, .bool ud, .slice a1 mo.length c1, .slice a2 md.length c2, .slice a3 dy.length c3, .slice a4 po.length c4, .int .i64 wk] : Array Value)[j]? = some v → (w.alloc (.cells #[.int .i64 f, .int .i64 i, .int .i64 c, .bool hs, .int .i64 us, .bool uu, .bool ud, .slice a1 mo.length c1, .slice a2 md.length c2, .slice a3 dy.length c3, .slice a4 po.length c4, .int .i64 wk] 27)).cell? ⟨w.heap.size, j, none⟩ = some v) := Lib.hid (fun j v hj => cell_of (heap_alloc_new w _) hj)
  by_cases h1 : 0 < f
  · skip
    by_cases h2 : f < 5
    · skip
      cases m1
      · skip
        go_enter Tryz.func11, Tryz.ntmps11
        go_wp2_with (first
      | (go_at_call 29; ((with_reducible refine (Q3.out _ HB1.out).mono ?_)); rintro e W3 ⟨rfl, hb⟩
         have B3 := Lib.hid (bstep HB1.out hb)
         have t0 := (C0.out _ hb 0).trans (TT.out 0 _ rfl)
         have t1 := (C0.out _ hb 1).trans (TT.out 1 _ rfl)
         have t2 := (C0.out _ hb 2).trans (TT.out 2 _ rfl)
         have t3 := (C0.out _ hb 3).trans (TT.out 3 _ rfl)
         have t4 := (C0.out _ hb 4).trans (TT.out 4 _ rfl)
         have t5 := (C0.out _ hb 5).trans (TT.out 5 _ rfl)
         have t6 := (C0.out _ hb 6).trans (TT.out 6 _ rfl)
         have t7 := (C0.out _ hb 7).trans (TT.out 7 _ rfl)
         have t8 := (C0.out _ hb 8).trans (TT.out 8 _ rfl)
         have t9 := (C0.out _ hb 9).trans (TT.out 9 _ rfl)
         have t10 := (C0.out _ hb 10).trans (TT.out 10 _ rfl)
         have t11 := (C0.out _ hb 11).trans (TT.out 11 _ rfl)
         have HB3 := Lib.hid hb
         clear hb)
      | (go_at_call 30; ((with_reducible refine (Q4.out _ B3.out).mono ?_)); rintro e W4 ⟨rfl, hb⟩
         have B4 := Lib.hid (bstep B3.out hb)
         have hb4 := HB3.out.trans (hb.mono HB3.out.size)
         have u11 := (C0.out _ hb4 11).trans (TT.out 11 _ rfl)
         clear hb hb4 t0 t1 t2 t3 t4 t5 t6 t7 t8 t9 t10 t11)
      | (go_at_call 31; ((with_reducible refine (q5 _).mono ?_)); rintro e w' ⟨rfl, hw⟩; subst w')
      | (go_at_call 28; ((with_reducible refine (q1 _).mono ?_)); rintro e w' ⟨rfl, hw⟩; subst w')
      | (go_at_call 28; ((with_reducible refine (q2 _).mono ?_)); rintro e w' ⟨rfl, hw⟩; subst w'))
        go_ret
        exact ⟨by rw [H.out]; simp, HB1.out⟩
      · skip
        by_cases h3 : c = 0
        · have h3b : (c == 0) = true := (by rw [beq_iff_eq]; exact h3)
          have H3 := Lib.hid h3
          clear h3
          cases m3
          · skip
            go_enter Tryz.func11, Tryz.ntmps11
            go_wp2_with (first
      | (go_at_call 29; ((with_reducible refine (Q3.out _ HB1.out).mono ?_)); rintro e W3 ⟨rfl, hb⟩
         have B3 := Lib.hid (bstep HB1.out hb)
         have t0 := (C0.out _ hb 0).trans (TT.out 0 _ rfl)
         have t1 := (C0.out _ hb 1).trans (TT.out 1 _ rfl)
         have t2 := (C0.out _ hb 2).trans (TT.out 2 _ rfl)
         have t3 := (C0.out _ hb 3).trans (TT.out 3 _ rfl)
         have t4 := (C0.out _ hb 4).trans (TT.out 4 _ rfl)
         have t5 := (C0.out _ hb 5).trans (TT.out 5 _ rfl)
         have t6 := (C0.out _ hb 6).trans (TT.out 6 _ rfl)
         have t7 := (C0.out _ hb 7).trans (TT.out 7 _ rfl)
         have t8 := (C0.out _ hb 8).trans (TT.out 8 _ rfl)
         have t9 := (C0.out _ hb 9).trans (TT.out 9 _ rfl)
         have t10 := (C0.out _ hb 10).trans (TT.out 10 _ rfl)
         have t11 := (C0.out _ hb 11).trans (TT.out 11 _ rfl)
         have HB3 := Lib.hid hb
         clear hb)
      | (go_at_call 30; ((with_reducible refine (Q4.out _ B3.out).mono ?_)); rintro e W4 ⟨rfl, hb⟩
         have B4 := Lib.hid (bstep B3.out hb)
         have hb4 := HB3.out.trans (hb.mono HB3.out.size)
         have u11 := (C0.out _ hb4 11).trans (TT.out 11 _ rfl)
         clear hb hb4 t0 t1 t2 t3 t4 t5 t6 t7 t8 t9 t10 t11)
      | (go_at_call 31; ((with_reducible refine (q5 _).mono ?_)); rintro e w' ⟨rfl, hw⟩; subst w')
      | (go_at_call 28; ((with_reducible refine (q1 _).mono ?_)); rintro e w' ⟨rfl, hw⟩; subst w')
      | (go_at_call 28; ((with_reducible refine (q2 _).mono ?_)); rintro e w' ⟨rfl, hw⟩; subst w'))
            go_ret
            exact ⟨by rw [H.out]; simp [h1, h2, H3.out], B3.out⟩
          · skip
            cases m4
            · skip
              go_enter Tryz.func11, Tryz.ntmps11
              go_wp2_with (first
      | (go_at_call 29; ((with_reducible refine (Q3.out _ HB1.out).mono ?_)); rintro e W3 ⟨rfl, hb⟩
         have B3 := Lib.hid (bstep HB1.out hb)
         have t0 := (C0.out _ hb 0).trans (TT.out 0 _ rfl)
         have t1 := (C0.out _ hb 1).trans (TT.out 1 _ rfl)
         have t2 := (C0.out _ hb 2).trans (TT.out 2 _ rfl)
         have t3 := (C0.out _ hb 3).trans (TT.out 3 _ rfl)
         have t4 := (C0.out _ hb 4).trans (TT.out 4 _ rfl)
         have t5 := (C0.out _ hb 5).trans (TT.out 5 _ rfl)
         have t6 := (C0.out _ hb 6).trans (TT.out 6 _ rfl)
         have t7 := (C0.out _ hb 7).trans (TT.out 7 _ rfl)
         have t8 := (C0.out _ hb 8).trans (TT.out 8 _ rfl)
         have t9 := (C0.out _ hb 9).trans (TT.out 9 _ rfl)
         have t10 := (C0.out _ hb 10).trans (TT.out 10 _ rfl)
         have t11 := (C0.out _ hb 11).trans (TT.out 11 _ rfl)
         have HB3 := Lib.hid hb
         clear hb)
      | (go_at_call 30; ((with_reducible refine (Q4.out _ B3.out).mono ?_)); rintro e W4 ⟨rfl, hb⟩
         have B4 := Lib.hid (bstep B3.out hb)
         have hb4 := HB3.out.trans (hb.mono HB3.out.size)
         have u11 := (C0.out _ hb4 11).trans (TT.out 11 _ rfl)
         clear hb hb4 t0 t1 t2 t3 t4 t5 t6 t7 t8 t9 t10 t11)
      | (go_at_call 31; ((with_reducible refine (q5 _).mono ?_)); rintro e w' ⟨rfl, hw⟩; subst w')
      | (go_at_call 28; ((with_reducible refine (q1 _).mono ?_)); rintro e w' ⟨rfl, hw⟩; subst w')
      | (go_at_call 28; ((with_reducible refine (q2 _).mono ?_)); rintro e w' ⟨rfl, hw⟩; subst w'))
              go_ret
              exact ⟨by rw [H.out]; simp [h1, h2, H3.out], B4.out⟩
            · skip
              go_enter Tryz.func11, Tryz.ntmps11
              go_wp2_with (first
      | (go_at_call 29; ((with_reducible refine (Q3.out _ HB1.out).mono ?_)); rintro e W3 ⟨rfl, hb⟩
         have B3 := Lib.hid (bstep HB1.out hb)
         have t0 := (C0.out _ hb 0).trans (TT.out 0 _ rfl)
         have t1 := (C0.out _ hb 1).trans (TT.out 1 _ rfl)
         have t2 := (C0.out _ hb 2).trans (TT.out 2 _ rfl)
         have t3 := (C0.out _ hb 3).trans (TT.out 3 _ rfl)
         have t4 := (C0.out _ hb 4).trans (TT.out 4 _ rfl)
         have t5 := (C0.out _ hb 5).trans (TT.out 5 _ rfl)
         have t6 := (C0.out _ hb 6).trans (TT.out 6 _ rfl)
         have t7 := (C0.out _ hb 7).trans (TT.out 7 _ rfl)
         have t8 := (C0.out _ hb 8).trans (TT.out 8 _ rfl)
         have t9 := (C0.out _ hb 9).trans (TT.out 9 _ rfl)
         have t10 := (C0.out _ hb 10).trans (TT.out 10 _ rfl)
         have t11 := (C0.out _ hb 11).trans (TT.out 11 _ rfl)
         have HB3 := Lib.hid hb
         clear hb)
      | (go_at_call 30; ((with_reducible refine (Q4.out _ B3.out).mono ?_)); rintro e W4 ⟨rfl, hb⟩
         have B4 := Lib.hid (bstep B3.out hb)
         have hb4 := HB3.out.trans (hb.mono HB3.out.size)
         have u11 := (C0.out _ hb4 11).trans (TT.out 11 _ rfl)
         clear hb hb4 t0 t1 t2 t3 t4 t5 t6 t7 t8 t9 t10 t11)
      | (go_at_call 31; ((with_reducible refine (q5 _).mono ?_)); rintro e w' ⟨rfl, hw⟩; subst w')
      | (go_at_call 28; ((with_reducible refine (q1 _).mono ?_)); rintro e w' ⟨rfl, hw⟩; subst w')
      | (go_at_call 28; ((with_reducible refine (q2 _).mono ?_)); rintro e w' ⟨rfl, hw⟩; subst w'))
              go_ret
              exact ⟨by rw [H.out]; simp [h1, h2, H3.out], B4.out⟩
        · have h3b : (c == 0) = false := (by rw [beq_eq_false_iff_ne]; exact h3)
          cases m2
          · skip
            go_enter Tryz.func11, Tryz.ntmps11
            go_wp2_with (first
      | (go_at_call 29; ((with_reducible refine (Q3.out _ HB1.out).mono ?_)); rintro e W3 ⟨rfl, hb⟩
         have B3 := Lib.hid (bstep HB1.out hb)
         have t0 := (C0.out _ hb 0).trans (TT.out 0 _ rfl)
         have t1 := (C0.out _ hb 1).trans (TT.out 1 _ rfl)
         have t2 := (C0.out _ hb 2).trans (TT.out 2 _ rfl)
         have t3 := (C0.out _ hb 3).trans (TT.out 3 _ rfl)
         have t4 := (C0.out _ hb 4).trans (TT.out 4 _ rfl)
         have t5 := (C0.out _ hb 5).trans (TT.out 5 _ rfl)
         have t6 := (C0.out _ hb 6).trans (TT.out 6 _ rfl)
         have t7 := (C0.out _ hb 7).trans (TT.out 7 _ rfl)
         have t8 := (C0.out _ hb 8).trans (TT.out 8 _ rfl)
         have t9 := (C0.out _ hb 9).trans (TT.out 9 _ rfl)
         have t10 := (C0.out _ hb 10).trans (TT.out 10 _ rfl)
         have t11 := (C0.out _ hb 11).trans (TT.out 11 _ rfl)
         have HB3 := Lib.hid hb
         clear hb)
      | (go_at_call 30; ((with_reducible refine (Q4.out _ B3.out).mono ?_)); rintro e W4 ⟨rfl, hb⟩
         have B4 := Lib.hid (bstep B3.out hb)
         have hb4 := HB3.out.trans (hb.mono HB3.out.size)
         have u11 := (C0.out _ hb4 11).trans (TT.out 11 _ rfl)
         clear hb hb4 t0 t1 t2 t3 t4 t5 t6 t7 t8 t9 t10 t11)
      | (go_at_call 31; ((with_reducible refine (q5 _).mono ?_)); rintro e w' ⟨rfl, hw⟩; subst w')
      | (go_at_call 28; ((with_reducible refine (q1 _).mono ?_)); rintro e w' ⟨rfl, hw⟩; subst w')
      | (go_at_call 28; ((with_reducible refine (q2 _).mono ?_)); rintro e w' ⟨rfl, hw⟩; subst w'))
            go_ret
            exact ⟨by rw [H.out]; simp [h1, h2, h3], HB1.out⟩
          · skip
            cases m3
            · skip
              go_enter Tryz.func11, Tryz.ntmps11
              go_wp2_with (first
      | (go_at_call 29; ((with_reducible refine (Q3.out _ HB1.out).mono ?_)); rintro e W3 ⟨rfl, hb⟩
         have B3 := Lib.hid (bstep HB1.out hb)
         have t0 := (C0.out _ hb 0).trans (TT.out 0 _ rfl)
         have t1 := (C0.out _ hb 1).trans (TT.out 1 _ rfl)
         have t2 := (C0.out _ hb 2).trans (TT.out 2 _ rfl)
         have t3 := (C0.out _ hb 3).trans (TT.out 3 _ rfl)
         have t4 := (C0.out _ hb 4).trans (TT.out 4 _ rfl)
         have t5 := (C0.out _ hb 5).trans (TT.out 5 _ rfl)
         have t6 := (C0.out _ hb 6).trans (TT.out 6 _ rfl)
         have t7 := (C0.out _ hb 7).trans (TT.out 7 _ rfl)
         have t8 := (C0.out _ hb 8).trans (TT.out 8 _ rfl)
         have t9 := (C0.out _ hb 9).trans (TT.out 9 _ rfl)
         have t10 := (C0.out _ hb 10).trans (TT.out 10 _ rfl)
         have t11 := (C0.out _ hb 11).trans (TT.out 11 _ rfl)
         have HB3 := Lib.hid hb
         clear hb)
      | (go_at_call 30; ((with_reducible refine (Q4.out _ B3.out).mono ?_)); rintro e W4 ⟨rfl, hb⟩
         have B4 := Lib.hid (bstep B3.out hb)
         have hb4 := HB3.out.trans (hb.mono HB3.out.size)
         have u11 := (C0.out _ hb4 11).trans (TT.out 11 _ rfl)
         clear hb hb4 t0 t1 t2 t3 t4 t5 t6 t7 t8 t9 t10 t11)
      | (go_at_call 31; ((with_reducible refine (q5 _).mono ?_)); rintro e w' ⟨rfl, hw⟩; subst w')
      | (go_at_call 28; ((with_reducible refine (q1 _).mono ?_)); rintro e w' ⟨rfl, hw⟩; subst w')
      | (go_at_call 28; ((with_reducible refine (q2 _).mono ?_)); rintro e w' ⟨rfl, hw⟩; subst w'))
              go_ret
              exact ⟨by rw [H.out]; simp [h1, h2, h3], B3.out⟩
            · skip
              cases m4
              · skip
                go_enter Tryz.func11, Tryz.ntmps11
                go_wp2_with (first
      | (go_at_call 29; ((with_reducible refine (Q3.out _ HB1.out).mono ?_)); rintro e W3 ⟨rfl, hb⟩
         have B3 := Lib.hid (bstep HB1.out hb)
         have t0 := (C0.out _ hb 0).trans (TT.out 0 _ rfl)
         have t1 := (C0.out _ hb 1).trans (TT.out 1 _ rfl)
         have t2 := (C0.out _ hb 2).trans (TT.out 2 _ rfl)
         have t3 := (C0.out _ hb 3).trans (TT.out 3 _ rfl)
         have t4 := (C0.out _ hb 4).trans (TT.out 4 _ rfl)
         have t5 := (C0.out _ hb 5).trans (TT.out 5 _ rfl)
         have t6 := (C0.out _ hb 6).trans (TT.out 6 _ rfl)
         have t7 := (C0.out _ hb 7).trans (TT.out 7 _ rfl)
         have t8 := (C0.out _ hb 8).trans (TT.out 8 _ rfl)
         have t9 := (C0.out _ hb 9).trans (TT.out 9 _ rfl)
         have t10 := (C0.out _ hb 10).trans (TT.out 10 _ rfl)
         have t11 := (C0.out _ hb 11).trans (TT.out 11 _ rfl)
         have HB3 := Lib.hid hb
         clear hb)
      | (go_at_call 30; ((with_reducible refine (Q4.out _ B3.out).mono ?_)); rintro e W4 ⟨rfl, hb⟩
         have B4 := Lib.hid (bstep B3.out hb)
         have hb4 := HB3.out.trans (hb.mono HB3.out.size)
         have u11 := (C0.out _ hb4 11).trans (TT.out 11 _ rfl)
         clear hb hb4 t0 t1 t2 t3 t4 t5 t6 t7 t8 t9 t10 t11)
      | (go_at_call 31; ((with_reducible refine (q5 _).mono ?_)); rintro e w' ⟨rfl, hw⟩; subst w')
      | (go_at_call 28; ((with_reducible refine (q1 _).mono ?_)); rintro e w' ⟨rfl, hw⟩; subst w')
      | (go_at_call 28; ((with_reducible refine (q2 _).mono ?_)); rintro e w' ⟨rfl, hw⟩; subst w'))
                go_ret
                exact ⟨by rw [H.out]; simp [h1, h2, h3], B4.out⟩
              · skip
                go_enter Tryz.func11, Tryz.ntmps11
                go_wp2_with (first
      | (go_at_call 29; ((with_reducible refine (Q3.out _ HB1.out).mono ?_)); rintro e W3 ⟨rfl, hb⟩
         have B3 := Lib.hid (bstep HB1.out hb)
         have t0 := (C0.out _ hb 0).trans (TT.out 0 _ rfl)
         have t1 := (C0.out _ hb 1).trans (TT.out 1 _ rfl)
         have t2 := (C0.out _ hb 2).trans (TT.out 2 _ rfl)
         have t3 := (C0.out _ hb 3).trans (TT.out 3 _ rfl)
         have t4 := (C0.out _ hb 4).trans (TT.out 4 _ rfl)
         have t5 := (C0.out _ hb 5).trans (TT.out 5 _ rfl)
         have t6 := (C0.out _ hb 6).trans (TT.out 6 _ rfl)
         have t7 := (C0.out _ hb 7).trans (TT.out 7 _ rfl)
         have t8 := (C0.out _ hb 8).trans (TT.out 8 _ rfl)
         have t9 := (C0.out _ hb 9).trans (TT.out 9 _ rfl)
         have t10 := (C0.out _ hb 10).trans (TT.out 10 _ rfl)
         have t11 := (C0.out _ hb 11).trans (TT.out 11 _ rfl)
         have HB3 := Lib.hid hb
         clear hb)
      | (go_at_call 30; ((with_reducible refine (Q4.out _ B3.out).mono ?_)); rintro e W4 ⟨rfl, hb⟩
         have B4 := Lib.hid (bstep B3.out hb)
         have hb4 := HB3.out.trans (hb.mono HB3.out.size)
         have u11 := (C0.out _ hb4 11).trans (TT.out 11 _ rfl)
         clear hb hb4 t0 t1 t2 t3 t4 t5 t6 t7 t8 t9 t10 t11)
      | (go_at_call 31; ((with_reducible refine (q5 _).mono ?_)); rintro e w' ⟨rfl, hw⟩; subst w')
      | (go_at_call 28; ((with_reducible refine (q1 _).mono ?_)); rintro e w' ⟨rfl, hw⟩; subst w')
      | (go_at_call 28; ((with_reducible refine (q2 _).mono ?_)); rintro e w' ⟨rfl, hw⟩; subst w'))
                go_ret
                exact ⟨by rw [H.out]; simp [h1, h2, h3], B4.out⟩
    · skip
      go_enter Tryz.func11, Tryz.ntmps11
      go_wp2_with (first
      | (go_at_call 29; ((with_reducible refine (Q3.out _ HB1.out).mono ?_)); rintro e W3 ⟨rfl, hb⟩
         have B3 := Lib.hid (bstep HB1.out hb)
         have t0 := (C0.out _ hb 0).trans (TT.out 0 _ rfl)
         have t1 := (C0.out _ hb 1).trans (TT.out 1 _ rfl)
         have t2 := (C0.out _ hb 2).trans (TT.out 2 _ rfl)
         have t3 := (C0.out _ hb 3).trans (TT.out 3 _ rfl)
         have t4 := (C0.out _ hb 4).trans (TT.out 4 _ rfl)
         have t5 := (C0.out _ hb 5).trans (TT.out 5 _ rfl)
         have t6 := (C0.out _ hb 6).trans (TT.out 6 _ rfl)
         have t7 := (C0.out _ hb 7).trans (TT.out 7 _ rfl)
         have t8 := (C0.out _ hb 8).trans (TT.out 8 _ rfl)
         have t9 := (C0.out _ hb 9).trans (TT.out 9 _ rfl)
         have t10 := (C0.out _ hb 10).trans (TT.out 10 _ rfl)
         have t11 := (C0.out _ hb 11).trans (TT.out 11 _ rfl)
         have HB3 := Lib.hid hb
         clear hb)
      | (go_at_call 30; ((with_reducible refine (Q4.out _ B3.out).mono ?_)); rintro e W4 ⟨rfl, hb⟩
         have B4 := Lib.hid (bstep B3.out hb)
         have hb4 := HB3.out.trans (hb.mono HB3.out.size)
         have u11 := (C0.out _ hb4 11).trans (TT.out 11 _ rfl)
         clear hb hb4 t0 t1 t2 t3 t4 t5 t6 t7 t8 t9 t10 t11)
      | (go_at_call 31; ((with_reducible refine (q5 _).mono ?_)); rintro e w' ⟨rfl, hw⟩; subst w')
      | (go_at_call 28; ((with_reducible refine (q1 _).mono ?_)); rintro e w' ⟨rfl, hw⟩; subst w')
      | (go_at_call 28; ((with_reducible refine (q2 _).mono ?_)); rintro e w' ⟨rfl, hw⟩; subst w'))
      go_ret
      exact ⟨by rw [H.out]; simp [h1] <;> omega, HB1.out⟩
  · skip
    go_enter Tryz.func11, Tryz.ntmps11
    go_wp2_with (first
      | (go_at_call 29; ((with_reducible refine (Q3.out _ HB1.out).mono ?_)); rintro e W3 ⟨rfl, hb⟩
         have B3 := Lib.hid (bstep HB1.out hb)
         have t0 := (C0.out _ hb 0).trans (TT.out 0 _ rfl)
         have t1 := (C0.out _ hb 1).trans (TT.out 1 _ rfl)
         have t2 := (C0.out _ hb 2).trans (TT.out 2 _ rfl)
         have t3 := (C0.out _ hb 3).trans (TT.out 3 _ rfl)
         have t4 := (C0.out _ hb 4).trans (TT.out 4 _ rfl)
         have t5 := (C0.out _ hb 5).trans (TT.out 5 _ rfl)
         have t6 := (C0.out _ hb 6).trans (TT.out 6 _ rfl)
         have t7 := (C0.out _ hb 7).trans (TT.out 7 _ rfl)
         have t8 := (C0.out _ hb 8).trans (TT.out 8 _ rfl)
         have t9 := (C0.out _ hb 9).trans (TT.out 9 _ rfl)
         have t10 := (C0.out _ hb 10).trans (TT.out 10 _ rfl)
         have t11 := (C0.out _ hb 11).trans (TT.out 11 _ rfl)
         have HB3 := Lib.hid hb
         clear hb)
      | (go_at_call 30; ((with_reducible refine (Q4.out _ B3.out).mono ?_)); rintro e W4 ⟨rfl, hb⟩
         have B4 := Lib.hid (bstep B3.out hb)
         have hb4 := HB3.out.trans (hb.mono HB3.out.size)
         have u11 := (C0.out _ hb4 11).trans (TT.out 11 _ rfl)
         clear hb hb4 t0 t1 t2 t3 t4 t5 t6 t7 t8 t9 t10 t11)
      | (go_at_call 31; ((with_reducible refine (q5 _).mono ?_)); rintro e w' ⟨rfl, hw⟩; subst w')
      | (go_at_call 28; ((with_reducible refine (q1 _).mono ?_)); rintro e w' ⟨rfl, hw⟩; subst w')
      | (go_at_call 28; ((with_reducible refine (q2 _).mono ?_)); rintro e w' ⟨rfl, hw⟩; subst w'))
    go_ret
    exact ⟨by rw [H.out]; simp [] <;> omega, HB1.out⟩

end Go.Proofs.YtnidkcedomhofaaGreatDoor
