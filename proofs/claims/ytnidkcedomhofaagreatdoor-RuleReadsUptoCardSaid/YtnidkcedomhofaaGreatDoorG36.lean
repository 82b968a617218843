/-
  The program's own functions of layer 14: a rule's parts, written.
-/
import Derived.Test.YtnidkcedomhofaaGreatDoorG35
namespace Go.Proofs.YtnidkcedomhofaaGreatDoor
open Go.RowKit

/-- The parts that a rule has of those named. -/
noncomputable def optK (r : RuV) (k : Nat) : List (List UInt8) := if hasK r k = true then [partK r k] else []
theorem partsV_is (r : RuV) : partsV r = optK r 0 ++ (optK r 1 ++ (optK r 2 ++ (optK r 3 ++ (optK r 4 ++ (optK r 5 ++ (optK r 6 ++ (optK r 7 ++ optK r 8))))))) := by
  have g : ∀ l : List Nat, (l.filter (hasK r)).map (partK r) = l.flatMap (optK r) := fun l => by
    induction l with
    | nil => rfl
    | cons k l ih =>
      rw [List.flatMap_cons, ← ih, List.filter_cons]
      unfold optK
      split <;> simp
  unfold partsV keysV
  rw [g, show List.range 9 = [0, 1, 2, 3, 4, 5, 6, 7, 8] from rfl]
  simp [List.flatMap_cons]
theorem optK_len (r : RuV) (k : Nat) : (optK r k).length ≤ 1 := by unfold optK; split <;> simp
theorem join_one1 (x : List UInt8) : Lib.join [x] [44] = x := Lib.join_one _ _
theorem numT_len2 {n : Int} (h : -9999 ≤ n ∧ n ≤ 9999) : (numT n).length ≤ 100 := Nat.le_trans (numT_len h) (by omega)
theorem Sl.one {W : World} {T : TypeId} {size : Nat} {cs : List Value} (h : cs.length = 1 * size) : Sl (W.alloc (.cells cs.toArray T)) (.slice (some ⟨W.heap.size, 0, none⟩) 1 1) 1 size cs := by
  refine ⟨h, .inr ⟨W.heap.size, 0, 1, rfl, by simp, fun j u hj => ?_⟩⟩
  rw [Nat.zero_add]
  exact cell_of (heap_alloc_new W _) (by simpa using hj)
theorem prn0 (r : RuV) (h : FitV r) (w W : World) (v : Value) (B : Nat) (ps : List (List UInt8)) (hv : VV w) (hb : Below w.heap.size w W) (hB : B ≤ W.heap.size) (hps : ps.length ≤ 20) (ho : W.ownsRow B 9 1 v ps.length (pcC ps)) :
    Calls Tryz.prog 34 #[v, .string ⟨#[70, 82, 69, 81]⟩, .func (.func 35) #[] #[], .slice (some ⟨W.heap.size, 0, none⟩) 1 1] (W.alloc (.cells #[.int .i64 r.freq] 3)) fun e w' => ∃ v', e = .returned v' ∧ w'.ownsRow B 9 1 v' (ps ++ optK r 0).length (pcC (ps ++ optK r 0)) ∧ Below B (W.alloc (.cells #[.int .i64 r.freq] 3)) w' := by
  have c := addI_any v (.slice (some ⟨W.heap.size, 0, none⟩) 1 1) [70, 82, 69, 81] ps [r.freq] (fun x => freqB.getD x.toNat []) 35 B (W.alloc (.cells #[.int .i64 r.freq] 3)) (by simp; omega) (by decide) (by simp) (by omega) (own_below ho ((Below.refl _ _).alloc (Nat.le_refl _) _)) (Sl.one (cs := [.int .i64 r.freq]) rfl) (enters_of Tryz.func35 (by kernel_rfl) rfl)
    (fun x hx => by simp at hx; subst hx; exact by rcases freq_cases h.freq with e | e | e | e <;> rw [e] <;> decide) (fun W' x hx hb1 => by
      simp at hx
      subst hx
      exact (freqText_any r.freq h.freq W' (hv.step (hb.trans ((((Below.refl _ _).alloc (Nat.le_refl _) _).trans (hb1.mono (by simp))).mono hb.size)))).mono fun e w2 k => ⟨k.1, by rw [k.2]; exact Below.refl _ _⟩)
  rw [if_neg (by simp)] at c
  have e : optK r 0 = [partT [70, 82, 69, 81] ([r.freq].map (fun x => freqB.getD x.toNat []))] := by
    unfold optK
    rw [if_pos (show hasK r 0 = true from rfl), List.map_singleton]
    unfold partT
    rw [join_one1]
    rfl
  rw [e]
  exact c
theorem prn1 (r : RuV) (h : FitV r) (hx : hasK r 1 = true) (w W : World) (v : Value) (B : Nat) (ps : List (List UInt8)) (hv : VV w) (hb : Below w.heap.size w W) (hB : B ≤ W.heap.size) (hps : ps.length ≤ 20) (ho : W.ownsRow B 9 1 v ps.length (pcC ps)) :
    Calls Tryz.prog 34 #[v, .string ⟨#[73, 78, 84, 69, 82, 86, 65, 76]⟩, .func (.func 36) #[] #[], .slice (some ⟨W.heap.size, 0, none⟩) 1 1] (W.alloc (.cells #[.int .i64 r.intv] 3)) fun e w' => ∃ v', e = .returned v' ∧ w'.ownsRow B 9 1 v' (ps ++ optK r 1).length (pcC (ps ++ optK r 1)) ∧ Below B (W.alloc (.cells #[.int .i64 r.intv] 3)) w' := by
  have c := addI_any v (.slice (some ⟨W.heap.size, 0, none⟩) 1 1) [73, 78, 84, 69, 82, 86, 65, 76] ps [r.intv] numT 36 B (W.alloc (.cells #[.int .i64 r.intv] 3)) (by simp; omega) (by decide) (by simp) (by omega) (own_below ho ((Below.refl _ _).alloc (Nat.le_refl _) _)) (Sl.one (cs := [.int .i64 r.intv]) rfl) (enters_of Tryz.func36 (by kernel_rfl) rfl)
    (fun x hx => by simp at hx; subst hx; exact numT_len2 (by have := h.intv; omega)) (fun W' x hx hb1 => by
      simp at hx
      subst hx
      exact itoa_any r.intv (by have := h.intv; omega) W' (hv.step (hb.trans ((((Below.refl _ _).alloc (Nat.le_refl _) _).trans (hb1.mono (by simp))).mono hb.size))).dv)
  rw [if_neg (by simp)] at c
  have e : optK r 1 = [partT [73, 78, 84, 69, 82, 86, 65, 76] ([r.intv].map numT)] := by
    unfold optK
    rw [if_pos hx, List.map_singleton]
    unfold partT
    rw [join_one1]
    rfl
  rw [e]
  exact c
theorem prn2 (r : RuV) (h : FitV r) (hx : hasK r 2 = true) (w W : World) (v : Value) (B : Nat) (ps : List (List UInt8)) (hv : VV w) (hb : Below w.heap.size w W) (hB : B ≤ W.heap.size) (hps : ps.length ≤ 20) (ho : W.ownsRow B 9 1 v ps.length (pcC ps)) :
    Calls Tryz.prog 34 #[v, .string ⟨#[67, 79, 85, 78, 84]⟩, .func (.func 36) #[] #[], .slice (some ⟨W.heap.size, 0, none⟩) 1 1] (W.alloc (.cells #[.int .i64 r.cnt] 3)) fun e w' => ∃ v', e = .returned v' ∧ w'.ownsRow B 9 1 v' (ps ++ optK r 2).length (pcC (ps ++ optK r 2)) ∧ Below B (W.alloc (.cells #[.int .i64 r.cnt] 3)) w' := by
  have c := addI_any v (.slice (some ⟨W.heap.size, 0, none⟩) 1 1) [67, 79, 85, 78, 84] ps [r.cnt] numT 36 B (W.alloc (.cells #[.int .i64 r.cnt] 3)) (by simp; omega) (by decide) (by simp) (by omega) (own_below ho ((Below.refl _ _).alloc (Nat.le_refl _) _)) (Sl.one (cs := [.int .i64 r.cnt]) rfl) (enters_of Tryz.func36 (by kernel_rfl) rfl)
    (fun x hx => by simp at hx; subst hx; exact numT_len2 (by have := h.cnt; omega)) (fun W' x hx hb1 => by
      simp at hx
      subst hx
      exact itoa_any r.cnt (by have := h.cnt; omega) W' (hv.step (hb.trans ((((Below.refl _ _).alloc (Nat.le_refl _) _).trans (hb1.mono (by simp))).mono hb.size))).dv)
  rw [if_neg (by simp)] at c
  have e : optK r 2 = [partT [67, 79, 85, 78, 84] ([r.cnt].map numT)] := by
    unfold optK
    rw [if_pos hx, List.map_singleton]
    unfold partT
    rw [join_one1]
    rfl
  rw [e]
  exact c
theorem timT_len (w : Wh) : (timT w).length ≤ 16 := by
  unfold timT
  split
  · exact timS_len w
  · simp
theorem prn3 (r : RuV) (_h : FitV r) (hx : hasK r 3 = true) (hu : -9223372036854775808 ≤ r.unt.secs ∧ r.unt.secs < 9223372036854775808) (w W : World) (v : Value) (B : Nat) (ps : List (List UInt8)) (hv : VV w) (hb : Below w.heap.size w W) (hB : B ≤ W.heap.size) (hps : ps.length ≤ 20) (ho : W.ownsRow B 9 1 v ps.length (pcC ps)) :
    Calls Tryz.prog 37 #[v, .string ⟨#[85, 78, 84, 73, 76]⟩, .func (.func 38) #[] #[], .slice (some ⟨W.heap.size, 0, none⟩) 1 1] (W.alloc (.cells #[.int .i64 r.unt.secs, .bool r.unt.utc, .bool r.unt.date] 23)) fun e w' => ∃ v', e = .returned v' ∧ w'.ownsRow B 9 1 v' (ps ++ optK r 3).length (pcC (ps ++ optK r 3)) ∧ Below B (W.alloc (.cells #[.int .i64 r.unt.secs, .bool r.unt.utc, .bool r.unt.date] 23)) w' := by
  have c := addW_any v (.slice (some ⟨W.heap.size, 0, none⟩) 1 1) [85, 78, 84, 73, 76] ps [r.unt] timT 38 B (W.alloc (.cells #[.int .i64 r.unt.secs, .bool r.unt.utc, .bool r.unt.date] 23)) (by simp; omega) (by decide) (by simp) (by omega) (own_below ho ((Below.refl _ _).alloc (Nat.le_refl _) _)) (Sl.one (cs := [.int .i64 r.unt.secs, .bool r.unt.utc, .bool r.unt.date]) rfl) (enters_of Tryz.func38 (by kernel_rfl) rfl)
    (fun x hx => by simp at hx; subst hx; exact Nat.le_trans (timT_len _) (by omega)) (fun W' x hx hb1 => by
      simp at hx
      subst hx
      exact pTimeText_any r.unt hu W' (hv.step (hb.trans ((((Below.refl _ _).alloc (Nat.le_refl _) _).trans (hb1.mono (by simp))).mono hb.size))))
  rw [if_neg (by simp)] at c
  have e : optK r 3 = [partT [85, 78, 84, 73, 76] ([r.unt].map timT)] := by
    unfold optK
    rw [if_pos hx, List.map_singleton]
    unfold partT
    rw [join_one1]
    rfl
  rw [e]
  exact c
theorem prn4 (r : RuV) (h : FitV r) (w W : World) (v v3 : Value) (B : Nat) (ps : List (List UInt8)) (hv : VV w) (hb : Below w.heap.size w W) (hB : B ≤ W.heap.size) (hps : ps.length ≤ 20) (ho : W.ownsRow B 9 1 v ps.length (pcC ps)) (hs : Sl W v3 r.mon.length 1 (intC r.mon)) :
    Calls Tryz.prog 34 #[v, .string ⟨#[66, 89, 77, 79, 78, 84, 72]⟩, .func (.func 36) #[] #[], v3] W fun e w' => ∃ v', e = .returned v' ∧ w'.ownsRow B 9 1 v' (ps ++ optK r 4).length (pcC (ps ++ optK r 4)) ∧ Below B W w' := by
  have c := addI_any v v3 [66, 89, 77, 79, 78, 84, 72] ps r.mon numT 36 B W hB (by decide) h.mon.1 (by omega) ho hs (enters_of Tryz.func36 (by kernel_rfl) rfl)
    (fun x hx => numT_len2 (by have := h.mon.2 x hx; omega)) (fun W' x hx hb1 => itoa_any x (by have := h.mon.2 x hx; omega) W' (hv.step (hb.trans (hb1.mono hb.size))).dv)
  have e : optK r 4 = if r.mon = [] then [] else [partT [66, 89, 77, 79, 78, 84, 72] (r.mon.map numT)] := by
    unfold optK hasK
    by_cases e : r.mon = []
    · rw [if_pos e, e]; rfl
    · rw [if_neg e, if_pos (by simpa using e)]; rfl
  rw [e]
  exact c
theorem prn5 (r : RuV) (h : FitV r) (w W : World) (v v3 : Value) (B : Nat) (ps : List (List UInt8)) (hv : VV w) (hb : Below w.heap.size w W) (hB : B ≤ W.heap.size) (hps : ps.length ≤ 20) (ho : W.ownsRow B 9 1 v ps.length (pcC ps)) (hs : Sl W v3 r.md.length 1 (intC r.md)) :
    Calls Tryz.prog 34 #[v, .string ⟨#[66, 89, 77, 79, 78, 84, 72, 68, 65, 89]⟩, .func (.func 36) #[] #[], v3] W fun e w' => ∃ v', e = .returned v' ∧ w'.ownsRow B 9 1 v' (ps ++ optK r 5).length (pcC (ps ++ optK r 5)) ∧ Below B W w' := by
  have c := addI_any v v3 [66, 89, 77, 79, 78, 84, 72, 68, 65, 89] ps r.md numT 36 B W hB (by decide) h.md.1 (by omega) ho hs (enters_of Tryz.func36 (by kernel_rfl) rfl)
    (fun x hx => numT_len2 (by have := h.md.2 x hx; omega)) (fun W' x hx hb1 => itoa_any x (by have := h.md.2 x hx; omega) W' (hv.step (hb.trans (hb1.mono hb.size))).dv)
  have e : optK r 5 = if r.md = [] then [] else [partT [66, 89, 77, 79, 78, 84, 72, 68, 65, 89] (r.md.map numT)] := by
    unfold optK hasK
    by_cases e : r.md = []
    · rw [if_pos e, e]; rfl
    · rw [if_neg e, if_pos (by simpa using e)]; rfl
  rw [e]
  exact c
theorem prn6 (r : RuV) (h : FitV r) (w W : World) (v v3 : Value) (B : Nat) (ps : List (List UInt8)) (hv : VV w) (hb : Below w.heap.size w W) (hB : B ≤ W.heap.size) (hps : ps.length ≤ 20) (ho : W.ownsRow B 9 1 v ps.length (pcC ps)) (hs : Sl W v3 r.dys.length 2 (wdC r.dys)) :
    Calls Tryz.prog 39 #[v, .string ⟨#[66, 89, 68, 65, 89]⟩, .func (.func 40) #[] #[], v3] W fun e w' => ∃ v', e = .returned v' ∧ w'.ownsRow B 9 1 v' (ps ++ optK r 6).length (pcC (ps ++ optK r 6)) ∧ Below B W w' := by
  have c := addD_any v v3 [66, 89, 68, 65, 89] ps r.dys wdyT 40 B W hB (by decide) h.dys.1 (by omega) ho hs (enters_of Tryz.func40 (by kernel_rfl) rfl)
    (fun x hx => by have := h.dys.2 x hx; unfold wdyT; rw [List.length_append, dayT7_len ⟨this.1, this.2.1⟩]; split <;> first | (simp; done) | (have := numT_len (n := x.1) (by omega); omega)) (fun W' x hx hb1 => wdayText_any x (by have := h.dys.2 x hx; omega) (by have := h.dys.2 x hx; omega) W' (hv.step (hb.trans (hb1.mono hb.size))))
  have e : optK r 6 = if r.dys = [] then [] else [partT [66, 89, 68, 65, 89] (r.dys.map wdyT)] := by
    unfold optK hasK
    by_cases e : r.dys = []
    · rw [if_pos e, e]; rfl
    · rw [if_neg e, if_pos (by simpa using e)]; rfl
  rw [e]
  exact c
theorem prn7 (r : RuV) (h : FitV r) (w W : World) (v v3 : Value) (B : Nat) (ps : List (List UInt8)) (hv : VV w) (hb : Below w.heap.size w W) (hB : B ≤ W.heap.size) (hps : ps.length ≤ 20) (ho : W.ownsRow B 9 1 v ps.length (pcC ps)) (hs : Sl W v3 r.pos.length 1 (intC r.pos)) :
    Calls Tryz.prog 34 #[v, .string ⟨#[66, 89, 83, 69, 84, 80, 79, 83]⟩, .func (.func 36) #[] #[], v3] W fun e w' => ∃ v', e = .returned v' ∧ w'.ownsRow B 9 1 v' (ps ++ optK r 7).length (pcC (ps ++ optK r 7)) ∧ Below B W w' := by
  have c := addI_any v v3 [66, 89, 83, 69, 84, 80, 79, 83] ps r.pos numT 36 B W hB (by decide) h.pos.1 (by omega) ho hs (enters_of Tryz.func36 (by kernel_rfl) rfl)
    (fun x hx => numT_len2 (by have := h.pos.2 x hx; omega)) (fun W' x hx hb1 => itoa_any x (by have := h.pos.2 x hx; omega) W' (hv.step (hb.trans (hb1.mono hb.size))).dv)
  have e : optK r 7 = if r.pos = [] then [] else [partT [66, 89, 83, 69, 84, 80, 79, 83] (r.pos.map numT)] := by
    unfold optK hasK
    by_cases e : r.pos = []
    · rw [if_pos e, e]; rfl
    · rw [if_neg e, if_pos (by simpa using e)]; rfl
  rw [e]
  exact c
theorem prn8 (r : RuV) (h : FitV r) (hx : hasK r 8 = true) (w W : World) (v : Value) (B : Nat) (ps : List (List UInt8)) (hv : VV w) (hb : Below w.heap.size w W) (hB : B ≤ W.heap.size) (hps : ps.length ≤ 20) (ho : W.ownsRow B 9 1 v ps.length (pcC ps)) :
    Calls Tryz.prog 34 #[v, .string ⟨#[87, 75, 83, 84]⟩, .func (.func 41) #[] #[], .slice (some ⟨W.heap.size, 0, none⟩) 1 1] (W.alloc (.cells #[.int .i64 r.wk] 3)) fun e w' => ∃ v', e = .returned v' ∧ w'.ownsRow B 9 1 v' (ps ++ optK r 8).length (pcC (ps ++ optK r 8)) ∧ Below B (W.alloc (.cells #[.int .i64 r.wk] 3)) w' := by
  have c := addI_any v (.slice (some ⟨W.heap.size, 0, none⟩) 1 1) [87, 75, 83, 84] ps [r.wk] dayT7 41 B (W.alloc (.cells #[.int .i64 r.wk] 3)) (by simp; omega) (by decide) (by simp) (by omega) (own_below ho ((Below.refl _ _).alloc (Nat.le_refl _) _)) (Sl.one (cs := [.int .i64 r.wk]) rfl) (enters_of Tryz.func41 (by kernel_rfl) rfl)
    (fun x hx => by simp at hx; subst hx; exact by rw [dayT7_len h.wk]; omega) (fun W' x hx hb1 => by
      simp at hx
      subst hx
      exact (dayText_any r.wk h.wk W' (hv.step (hb.trans ((((Below.refl _ _).alloc (Nat.le_refl _) _).trans (hb1.mono (by simp))).mono hb.size)))).mono fun e w2 k => ⟨k.1, by rw [k.2]; exact Below.refl _ _⟩)
  rw [if_neg (by simp)] at c
  have e : optK r 8 = [partT [87, 75, 83, 84] ([r.wk].map dayT7)] := by
    unfold optK
    rw [if_pos hx, List.map_singleton]
    unfold partT
    rw [join_one1]
    rfl
  rw [e]
  exact c
structure PSt (W0 W : World) (v : Value) (ps : List (List UInt8)) : Prop where
  bel : Below W0.heap.size W0 W
  own : W.ownsRow W0.heap.size 9 1 v ps.length (pcC ps)
  len : ps.length ≤ 9
theorem partsV_ne (r : RuV) : partsV r ≠ [] := by unfold partsV; simpa using keys_ne r
theorem valT_len {r : RuV} (h : FitV r) (k : Nat) : (valT r k).length ≤ 2424 := by
  have hj : ∀ ts : List (List UInt8), (∀ t ∈ ts, t.length ≤ 100) → ts.length ≤ 24 → (Lib.join ts [44]).length ≤ 2424 := fun ts h1 h2 => by
    have := join_max ts h1
    omega
  unfold valT
  split
  · rcases freq_cases h.freq with e | e | e | e <;> rw [e] <;> decide
  · have := numT_len (n := r.intv) (by have := h.intv; omega); omega
  · have := numT_len (n := r.cnt) (by have := h.cnt; omega); omega
  · have := timT_len r.unt; omega
  · exact hj _ (fun t ht => by obtain ⟨n, hn, rfl⟩ := List.mem_map.1 ht; exact numT_len2 (by have := h.mon.2 n hn; omega)) (by rw [List.length_map]; exact h.mon.1)
  · exact hj _ (fun t ht => by obtain ⟨n, hn, rfl⟩ := List.mem_map.1 ht; exact numT_len2 (by have := h.md.2 n hn; omega)) (by rw [List.length_map]; exact h.md.1)
  · refine hj _ (fun t ht => ?_) (by rw [List.length_map]; exact h.dys.1)
    obtain ⟨x, hx, rfl⟩ := List.mem_map.1 ht
    have := h.dys.2 x hx
    unfold wdyT
    rw [List.length_append, dayT7_len ⟨this.1, this.2.1⟩]
    split <;> first | (simp; done) | (have := numT_len (n := x.1) (by omega); omega)
  · exact hj _ (fun t ht => by obtain ⟨n, hn, rfl⟩ := List.mem_map.1 ht; exact numT_len2 (by have := h.pos.2 n hn; omega)) (by rw [List.length_map]; exact h.pos.1)
  · rw [dayT7_len h.wk]; omega
theorem join_max2 {M : Nat} : ∀ (ts : List (List UInt8)), (∀ t ∈ ts, t.length ≤ M) → (Lib.join ts [59]).length ≤ (M + 1) * ts.length
  | [], _ => by simp [Lib.join_nil]
  | p :: ts, h => by
    have e : (Lib.join (p :: ts) [59]).length = (Lib.join (p :: ts) [44]).length := by rw [Lib.join_length, Lib.join_length]; rfl
    rw [e]
    exact join_max (p :: ts) h
theorem parts_max {r : RuV} (h : FitV r) : (Lib.join (partsV r) [59]).length ≤ 100000 := by
  have h1 : ∀ t ∈ partsV r, t.length ≤ 3000 := fun t ht => by
    obtain ⟨k, hk, rfl⟩ := List.mem_map.1 ht
    unfold partK
    have h2 := valT_len h k
    have h3 : (nameB.getD k []).length ≤ 20 := by rcases key_cases (keys_mem.1 hk).1 with rfl | rfl | rfl | rfl | rfl | rfl | rfl | rfl | rfl <;> decide
    rw [List.length_append, List.length_cons]
    omega
  have h4 : (partsV r).length ≤ 9 := by
    unfold partsV keysV
    rw [List.length_map]
    exact Nat.le_trans (List.length_filter_le _ _) (by simp)
  have := join_max2 _ h1
  omega
theorem joinP {W0 W : World} {v : Value} {ps : List (List UInt8)} (h : PSt W0 W v ps) (hne : ps ≠ []) (hm : (Lib.join ps [59]).length ≤ 100000) : Calls Tryz.prog 42 #[v, .string ⟨#[59]⟩] W fun e w' => e = .returned (.string (mkB (Lib.join ps [59]))) ∧ Below W.heap.size W w' := by
  have ho := h.own
  rcases own_nil_or ho with rfl | ⟨g, cap, rfl, _, _, hg⟩
  · rcases ho.2 with ⟨_, h0⟩ | ⟨g, cap, cur, hv, _⟩
    · exact absurd (List.eq_nil_of_length_eq_zero h0) hne
    · cases hv
  · have hcap : ps.length ≤ cap := by
      rcases ho.2 with ⟨e, _⟩ | ⟨g2, cap2, cur, e, _, _, hn, _⟩
      · cases e
      · injection e with _ _ e; subst e; exact hn
    have hc : ∀ (j : Nat) (x : ByteArray), (ps.map mkB)[j]? = some x → W.cell? ⟨g, 0 + j, none⟩ = some (.string x) := fun j x hj => by
      have ea : (⟨g, 0, none⟩ : Addr).add j = ⟨g, 0 + j, none⟩ := by unfold Addr.add; split <;> simp_all
      have := ho.cells (g := g) rfl j (.string x) (by
        rw [List.getElem?_map] at hj
        cases hd : ps[j]? with
        | none => rw [hd] at hj; cases hj
        | some p =>
          rw [hd] at hj
          simp only [Option.map_some, Option.some.injEq] at hj
          subst hj
          simp [pcC, hd, mkB])
      rwa [ea] at this
    have cj := Tryz.strings_Join g 0 cap (ps.map mkB) ⟨#[59]⟩ W hc hg (by rw [List.length_map]; have := h.len; omega) (by rw [List.length_map]; exact hcap) (by rw [maps_mk]; show (Lib.join ps [59]).length ≤ _; omega)
    rw [List.length_map, maps_mk] at cj
    exact cj
end Go.Proofs.YtnidkcedomhofaaGreatDoor
