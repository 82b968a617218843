/-
  Plain mathematics for layer 11 (line): a line's name, parameters and value, as they are read from a row of bytes.
-/
import Derived.Test.YtipmeooldopkmaaDoorL03
import Derived.Test.YtipmeooldopkmaaDoorL04
import Derived.Below
import Derived.OwnWalk
import Derived.WalkKit
import Derived.Lib.Hide
import Derived.BigQuiet
import Derived.WalkSpells
import Derived.WalkLawsBesides
import Derived.Test.YtipmeooldopkmaaDoorL05
import Derived.Test.YtipmeooldopkmaaDoorProg
namespace Go.Proofs.YtipmeooldopkmaaDoor
open Go.RowKit

/-- A control. -/
def ctlN (n : Nat) : Bool := (decide (n < 32) && !decide (n = 9)) || decide (n = 127)
/-- A byte of names. -/
def nbN (n : Nat) : Bool := letN n || digN n || decide (n = 45)
def upN (n : Nat) : Nat := if 97 ≤ n ∧ n ≤ 122 then n - 32 else n
def upC (c : UInt8) : UInt8 := UInt8.ofNat (upN c.toNat)
def upL (l : List UInt8) : List UInt8 := l.map upC
def nbC (c : UInt8) : Bool := nbN c.toNat
/-- A byte of a value between two ". -/
def qvC (c : UInt8) : Bool := !decide (c.toNat = 34) && !ctlN c.toNat
/-- A byte of a value that stands alone. -/
def uvC (c : UInt8) : Bool := qvC c && (!decide (c.toNat = 44) && !decide (c.toNat = 59) && !decide (c.toNat = 58))
/-- No text goes on so. -/
def eoE (l : List UInt8) : Int := if l = [] then 11 else 10
theorem eoE_pos (l : List UInt8) : eoE l ≠ 0 := by unfold eoE; split <;> decide
/-- What is read: it and what is left, or an error. -/
inductive Got (α : Type) where
  | ok (a : α) (rest : List UInt8) : Got α
  | bad (e : Int) : Got α
def rdName (l : List UInt8) : Got (List UInt8) :=
  if 64 < (l.takeWhile nbC).length then .bad 12
  else if l.takeWhile nbC = [] then .bad (eoE l)
  else .ok (upL (l.takeWhile nbC)) (l.drop (l.takeWhile nbC).length)
def rdQuoted (l : List UInt8) : Got (List UInt8) :=
  if (l.drop (l.takeWhile qvC).length).head? = some 34 then .ok (l.takeWhile qvC) (l.drop ((l.takeWhile qvC).length + 1))
  else .bad (eoE (l.drop (l.takeWhile qvC).length))
def rdVal (l : List UInt8) : Got (List UInt8) :=
  if l.head? = some 34 then rdQuoted (l.drop 1) else .ok (l.takeWhile uvC) (l.drop (l.takeWhile uvC).length)
/-- More values, each behind a comma. -/
def rdMore : Nat → List UInt8 → List (List UInt8) → Got (List (List UInt8))
  | 0, l, vs => .ok vs l
  | f + 1, l, vs => if l.head? = some 44 then (match rdVal (l.drop 1) with | .ok v r => rdMore f r (vs ++ [v]) | .bad e => .bad e) else .ok vs l
structure Par where
  name : List UInt8
  vals : List (List UInt8)
deriving DecidableEq
structure Pro where
  name : List UInt8
  pars : List Par
  value : List UInt8
deriving DecidableEq
/-- One parameter, behind its ;. -/
def rdPar (l : List UInt8) : Got Par :=
  match rdName l with
  | .bad e => .bad e
  | .ok n r => if r.head? = some 61 then
      (match rdVal (r.drop 1) with
       | .bad e => .bad e
       | .ok v r2 => (match rdMore r2.length r2 [v] with | .bad e => .bad e | .ok vs r3 => .ok ⟨n, vs⟩ r3))
    else .bad (eoE r)
def rdPars : Nat → List UInt8 → List Par → Got (List Par)
  | 0, l, ps => .ok ps l
  | f + 1, l, ps => if l.head? = some 59 then
      (if ps.length = 16 then .bad 27 else (match rdPar (l.drop 1) with | .bad e => .bad e | .ok p r => rdPars f r (ps ++ [p])))
    else .ok ps l
def rdRest (l : List UInt8) : Got Pro :=
  match rdName l with
  | .bad e => .bad e
  | .ok n r => (match rdPars r.length r [] with
    | .bad e => .bad e
    | .ok ps r2 => if r2.head? = some 58 then (if (r2.drop 1).all (fun c => !ctlN c.toNat) = true then .ok ⟨n, ps, r2.drop 1⟩ [] else .bad 10) else .bad (eoE r2))
def noPro : Pro := ⟨[], [], []⟩
/-- What Parse tells. -/
def parL (l : List UInt8) : Pro × Int :=
  if 1024 < l.length then (noPro, 12) else if vld l = true then (match rdRest l with | .ok p _ => (p, 0) | .bad e => (noPro, e)) else (noPro, 10)

theorem takeWhile_len {p : UInt8 → Bool} (l : List UInt8) : (l.takeWhile p).length ≤ l.length := (List.takeWhile_sublist p).length_le
theorem rdVal_len {l r : List UInt8} {v : List UInt8} (h : rdVal l = .ok v r) : r.length ≤ l.length := by
  unfold rdVal at h
  split at h
  · unfold rdQuoted at h
    split at h
    · injection h with h1 h2; subst h2; simp
    · cases h
  · injection h with h1 h2; subst h2; simp
theorem rdMore_len : ∀ (f : Nat) {l r : List UInt8} {vs ws : List (List UInt8)}, rdMore f l vs = .ok ws r → r.length ≤ l.length
  | 0, l, r, vs, ws, h => by unfold rdMore at h; injection h with h1 h2; subst h2; exact Nat.le_refl _
  | f + 1, l, r, vs, ws, h => by
    unfold rdMore at h
    split at h
    · split at h
      · rename_i v r2 hv
        have a := rdVal_len hv
        have b := rdMore_len f h
        simp at a; omega
      · cases h
    · injection h with h1 h2; subst h2; exact Nat.le_refl _
theorem rdName_len {l r n : List UInt8} (h : rdName l = .ok n r) : r.length < l.length := by
  unfold rdName at h
  split at h
  · cases h
  · split at h
    · cases h
    · injection h with h1 h2
      subst h2
      rename_i hne
      have : 0 < (l.takeWhile nbC).length := List.length_pos_iff.2 hne
      have := takeWhile_len (p := nbC) l
      simp; omega
theorem rdPar_len {l r : List UInt8} {p : Par} (h : rdPar l = .ok p r) : r.length < l.length := by
  unfold rdPar at h
  split at h
  · cases h
  · rename_i n r1 hn
    have a := rdName_len hn
    split at h
    · split at h
      · cases h
      · rename_i v r2 hv
        have b := rdVal_len hv
        split at h
        · cases h
        · rename_i vs r3 hm
          have c := rdMore_len _ hm
          injection h with h1 h2
          subst h2
          simp at b; omega
    · cases h

end Go.Proofs.YtipmeooldopkmaaDoor

/-
  A reader's variable in memory: its text, its place, its error; what a method leaves as it was.
-/
namespace Go.Proofs.YtipmeooldopkmaaDoor
open Go.RowKit

def R3 (w : World) (g : Nat) (s : ByteArray) (p e : Int) : Prop := w.heap[g]? = some (.cells #[.string s, .int .i64 p, .int .i64 e] 53 (0, 0))
/-- All that there was is as it was, but the block g. -/
structure ButL (g : Nat) (w w' : World) : Prop where
  os : w'.os = w.os
  tape : w'.tape = w.tape
  output : w'.output = w.output
  size : w.heap.size ≤ w'.heap.size
  block : ∀ k, k < w.heap.size → k ≠ g → w'.heap[k]? = w.heap[k]?
section
variable {w w1 w' : World} {g : Nat} {s : ByteArray} {p e : Int}
theorem ButL.refl (g : Nat) (w : World) : ButL g w w := ⟨rfl, rfl, rfl, Nat.le_refl _, fun _ _ _ => rfl⟩
theorem ButL.of_below (h : Below w.heap.size w w') (g : Nat) : ButL g w w' := ⟨h.os, h.tape, h.output, h.size, fun k hk _ => h.block k hk⟩
theorem ButL.trans (h : ButL g w w1) (h2 : ButL g w1 w') : ButL g w w' := ⟨h2.os.trans h.os, h2.tape.trans h.tape, h2.output.trans h.output, Nat.le_trans h.size h2.size, fun k hk hne => (h2.block k (Nat.lt_of_lt_of_le hk h.size) hne).trans (h.block k hk hne)⟩
theorem ButL.set (w : World) (g o : Nat) (u : Value) : ButL g w (w.setCell ⟨g, o, none⟩ u) := ⟨rfl, rfl, rfl, by simp [World.setCell], fun k _ hne => Below.heap_setCell w ⟨g, o, none⟩ u k hne⟩
theorem ButL.to_below (h : ButL g w w') {B : Nat} (hB : B ≤ g) (hw : B ≤ w.heap.size) : Below B w w' := ⟨h.os, h.tape, h.output, h.size, fun k hk => h.block k (by omega) (by omega)⟩
theorem R3.lt (h : R3 w g s p e) : g < w.heap.size := by
  by_cases hge : g < w.heap.size
  · exact hge
  · unfold R3 at h; rw [Array.getElem?_eq_none (by omega)] at h; cases h
theorem R3.cells (h : R3 w g s p e) : w.cell? ⟨g, 0, none⟩ = some (.string s) ∧ w.cell? ⟨g, 1, none⟩ = some (.int .i64 p) ∧ w.cell? ⟨g, 2, none⟩ = some (.int .i64 e) ∧ ∀ o, w.frozen? ⟨g, o, none⟩ = false := by
  unfold R3 at h
  exact ⟨by simp [World.cell?, h], by simp [World.cell?, h], by simp [World.cell?, h], fun o => by simp [World.frozen?, h]⟩
theorem R3.new (w : World) (s : ByteArray) (p e : Int) : R3 (w.alloc (.cells #[.string s, .int .i64 p, .int .i64 e] 53)) w.heap.size s p e := heap_alloc_new w _
theorem R3.step (h : R3 w g s p e) (hb : Below w.heap.size w w') : R3 w' g s p e := (hb.block g h.lt).trans h
theorem R3.set_ (h : R3 w g s p e) (i : Nat) (u : Value) : (w.setCell ⟨g, i, none⟩ u).heap[g]? = some (.cells (#[.string s, .int .i64 p, .int .i64 e].setIfInBounds i u) 53 (0, 0)) := by
  unfold R3 at h
  simp [World.setCell, Array.getElem?_modify, h]
theorem R3.at_ (h : R3 w g s p e) (q : Int) : R3 (w.setCell ⟨g, 1, none⟩ (.int .i64 q)) g s q e := h.set_ 1 _
theorem R3.err_ (h : R3 w g s p e) (q : Int) : R3 (w.setCell ⟨g, 2, none⟩ (.int .i64 q)) g s p q := h.set_ 2 _
theorem R3.but (h : R3 w g s p e) {k : Nat} (hb : ButL k w w') (hk : g ≠ k) : R3 w' g s p e := (hb.block g h.lt hk).trans h
end
theorem below_drewNL {w W : World} {B : Nat} (h : Below B w W) (q : Nat) : Below B w (W.drewN q) := ⟨h.1, h.2, h.3, h.4, h.5⟩
/-- A region that draws its order, whose operations read and whose calls leave what lay before: one walk, in the order of the text. -/
theorem region_belowL {P : Program} {id : Nat} {Q : Exit → Act → World → Prop} {a : Act} {w0 w : World} {l : List Oper} (hC : Below w0.heap.size w0 w) (hm : P.follows .mixedOrders = true) (hB : Region.lexB .any l.toArray = true)
    (h : wpQuiet P l.toArray (fun w' => Below w0.heap.size w0 w') (fun a' => ∀ w', Below w0.heap.size w0 w' → Q .normal a' w') l a) : (Code.region id l.toArray true).wp P Q a w :=
  wp_region_quiet (C := fun w' => Below w0.heap.size w0 w') hm hB hC.drew (by simpa using h)

end Go.Proofs.YtipmeooldopkmaaDoor

/-
  The small functions of layer 8, the program's and the document's: a byte's kind, its small letter, a digit's value.
-/
namespace Go.Proofs.YtipmeooldopkmaaDoor
open Go.RowKit

set_option maxHeartbeats 1000000 in
theorem refDigit_any (n : Nat) (hn : n < 256) (w : World) :
    Calls Tryd.prog 76 #[.int .u8 n] w fun e w' => e = .returned (.bool (digN n)) ∧ w' = w := by
  by_cases h1 : 48 ≤ n <;> by_cases h2 : n ≤ 57
  all_goals first
    | (exfalso; omega)
    | (have e : Hid (digN n = (decide (48 ≤ n) && decide (n ≤ 57))) := Lib.hid rfl
       go_enter Tryd.func76, Tryd.ntmps76
       go_wp2
       go_ret
       refine ⟨?_, rfl⟩
       rw [e.out]
       first | (simp [h1, h2]; done) | (simp [h1, h2]; omega))

set_option maxHeartbeats 2000000 in
theorem refLetter_any (n : Nat) (hn : n < 256) (w : World) :
    Calls Tryd.prog 75 #[.int .u8 n] w fun e w' => e = .returned (.bool (letN n)) ∧ w' = w := by
  have e : Hid (letN n = ((decide (97 ≤ n) && decide (n ≤ 122)) || (decide (65 ≤ n) && decide (n ≤ 90)))) := Lib.hid rfl
  by_cases h1 : 97 ≤ n <;> by_cases h2 : n ≤ 122 <;> by_cases h3 : 65 ≤ n <;> by_cases h4 : n ≤ 90
  all_goals first
    | (exfalso; omega)
    | (go_enter Tryd.func75, Tryd.ntmps75
       go_wp2
       go_ret
       refine ⟨?_, rfl⟩
       rw [e.out]
       first | (simp [h1, h2, h3, h4]; done) | (simp [h1, h2, h3, h4]; omega))

end Go.Proofs.YtipmeooldopkmaaDoor

/-
  The document's small functions of layer 11: controls, bytes of names, great letters.
-/
namespace Go.Proofs.YtipmeooldopkmaaDoor
open Go.RowKit

theorem upN_lt {n : Nat} (h : n < 256) : upN n < 256 := by unfold upN; split <;> omega
theorem upC_nat (c : UInt8) : (upC c).toNat = upN c.toNat := by
  have := upN_lt c.toNat_lt
  unfold upC
  rw [UInt8.toNat_ofNat']; omega
theorem upL_append (a b : List UInt8) : upL (a ++ b) = upL a ++ upL b := by simp [upL]
/-- The first k with great letters. -/
def upK (l : List UInt8) (k : Nat) : List UInt8 := upL (l.take k) ++ l.drop k
theorem upK_zero (l : List UInt8) : upK l 0 = l := by simp [upK, upL]
theorem upK_all {l : List UInt8} {k : Nat} (h : l.length ≤ k) : upK l k = upL l := by simp [upK, List.take_of_length_le h, List.drop_eq_nil_of_le h]
theorem upK_length (l : List UInt8) (k : Nat) : (upK l k).length = l.length := by simp [upK, upL]; omega
theorem upK_get {l : List UInt8} {k : Nat} : (upK l k).getD k 0 = l.getD k 0 := by
  unfold upK
  rw [List.getD_eq_getElem?_getD, List.getD_eq_getElem?_getD]
  by_cases hk : k < l.length
  · rw [List.getElem?_append_right (by simp [upL]; omega)]
    simp [upL, Nat.min_eq_left (Nat.le_of_lt hk)]
  · rw [List.getElem?_eq_none (by simp [upL]; omega), List.getElem?_eq_none (by omega)]
theorem upK_set {l : List UInt8} {k : Nat} (hk : k < l.length) : (upK l k).set k (upC (l.getD k 0)) = upK l (k + 1) := by
  unfold upK
  have e1 : (upL (l.take k)).length = k := by simp [upL]; omega
  rw [List.set_append_right k _ (by omega), e1, Nat.sub_self, List.drop_eq_getElem_cons hk, List.set_cons_zero, List.take_succ_eq_append_getElem hk, upL_append]
  simp [upL, List.getD_eq_getElem?_getD, hk]

theorem upK_keep {l : List UInt8} {k : Nat} (hk : k < l.length) (h : upC (l.getD k 0) = l.getD k 0) : upK l k = upK l (k + 1) := by
  rw [← upK_set hk, h, ← upK_get (l := l) (k := k)]
  have hk' : k < (upK l k).length := by rw [upK_length]; exact hk
  rw [List.getD_eq_getElem?_getD, List.getElem?_eq_getElem hk']
  simp
theorem upC_keep {x : UInt8} (h : ¬ (97 ≤ x.toNat ∧ x.toNat ≤ 122)) : upC x = x := by
  apply UInt8.toNat_inj.1
  rw [upC_nat]
  unfold upN
  rw [if_neg h]
theorem upC_turn {x : UInt8} (h : 97 ≤ x.toNat ∧ x.toNat ≤ 122) : (upC x).toNat = x.toNat - 32 := by
  rw [upC_nat]
  unfold upN
  rw [if_pos h]

set_option maxRecDepth 100000 in
set_option maxHeartbeats 2000000 in
theorem refUpper_any (s : ByteArray) (hs : s.size ≤ 16777216) (w : World) :
    Calls Tryd.prog 58 #[.string s] w fun e w' => e = .returned (.string ⟨(upL s.data.toList).toArray⟩) ∧ Below w.heap.size w w' := by
  have hcv := run_bytes_of_string (P := Tryd.prog) w 9 46 5 s Tryd.underlying9 Tryd.underlying46 Tryd.underlying5
  have hb0 := Byt.of_text w 5 s (grownCap w s.size 0 5)
  have hl0 := Byt.of_text_below w 5 s (grownCap w s.size 0 5)
  generalize hC : grownCap w s.size 0 5 = C at hcv hb0 hl0
  generalize w.drew.alloc (.cells (bytesRow s C) 5 ((bytesRow s C).size, (bytesRow s C).size + 1)) = w1 at hcv hb0 hl0
  generalize hg : w.heap.size = g at hcv hb0 hl0 ⊢
  have HG := Lib.hid hg; clear hg
  have hlen := Lib.hid (bsize s)
  have HB := Lib.hid hb0; have HL := Lib.hid hl0
  clear hb0 hl0 hC
  go_enter Tryd.func58, Tryd.ntmps58
  go_wp2
  clear hcv
  go_loopw [4] (fun p wr => ∃ k : Nat, p = .int .i64 k ∧ k ≤ s.size ∧ Hid (Byt wr g (upK s.data.toList k)) ∧ Hid (Below g w wr)) (fun p _ => s.size - (intOf p).toNat)
  case atStart => exact ⟨0, rfl, Nat.zero_le _, Lib.hid (by rw [upK_zero]; exact HB.out), HL⟩
  case round =>
    obtain ⟨k, rfl, hk, HB1, HL1⟩ := hrel
    by_cases hlt : k < s.size
    · have hce := HB1.out.cell k (by rw [upK_length, ← hlen.out]; exact hlt)
      have hfr := HB1.out.free k (by rw [upK_length, ← hlen.out]; exact hlt)
      rw [upK_get] at hce
      obtain ⟨x, hx⟩ : ∃ x, x = s.data.toList.getD k 0 := ⟨_, rfl⟩
      rw [← hx] at hce
      have HX := Lib.hid hx; clear hx
      have hxb := x.toNat_lt
      by_cases h1 : 97 ≤ x.toNat
      · by_cases h2 : x.toNat ≤ 122
        · go_wp2
          have HB2 := Lib.hid (HB1.out.set k (upC x))
          have HL2 := Lib.hid (HL1.out.setCell (p := ⟨g, k, none⟩) (Nat.le_refl _) (.int .u8 ((upC x).toNat : Int)))
          rw [HX.out, upK_set (by rw [← hlen.out]; exact hlt), ← HX.out, upC_turn ⟨h1, h2⟩] at HB2
          rw [upC_turn ⟨h1, h2⟩] at HL2
          rw [show ((x.toNat - 32 : Nat) : Int) = (x.toNat : Int) - 32 by omega] at HB2 HL2
          go_round
          case rel => exact ⟨k + 1, by go_num, by omega, HB2, HL2⟩
          case measure => simp [intOf]; omega
        · have HB2 : Hid (Byt wr g (upK s.data.toList (k + 1))) := Lib.hid (by rw [← upK_keep (by rw [← hlen.out]; exact hlt) (by rw [← HX.out]; exact upC_keep (by omega))]; exact HB1.out)
          go_wp2
          go_round
          case rel => exact ⟨k + 1, by go_num, by omega, HB2, HL1⟩
          case measure => simp [intOf]; omega
      · have HB2 : Hid (Byt wr g (upK s.data.toList (k + 1))) := Lib.hid (by rw [← upK_keep (by rw [← hlen.out]; exact hlt) (by rw [← HX.out]; exact upC_keep (by omega))]; exact HB1.out)
        go_wp2
        go_round
        case rel => exact ⟨k + 1, by go_num, by omega, HB2, HL1⟩
        case measure => simp [intOf]; omega
    · obtain rfl : k = s.size := by omega
      have hcv2 := HB1.out.conv (P := Tryd.prog) Tryd.underlying46 Tryd.underlying5 Tryd.underlying9 C s.size (by rw [upK_length, ← hlen.out])
      rw [upK_all (by rw [← hlen.out]; exact Nat.le_refl _)] at hcv2
      go_wp2
      go_ret
      exact ⟨rfl, HL1.out⟩


set_option maxHeartbeats 1000000 in
theorem refControl_any (n : Nat) (hn : n < 256) (w : World) :
    Calls Tryd.prog 33 #[.int .u8 n] w fun e w' => e = .returned (.bool (ctlN n)) ∧ w' = w := by
  by_cases h1 : n < 32 <;> by_cases h2 : n = 9 <;> by_cases h3 : n = 127
  all_goals first
    | (exfalso; omega)
    | (have e : Hid (ctlN n = true) := Lib.hid (by unfold ctlN; simp [h1, h2, h3])
       go_enter Tryd.func33, Tryd.ntmps33
       go_wp2
       go_ret
       exact ⟨by rw [e.out]; rfl, rfl⟩)
    | (have e : Hid (ctlN n = false) := Lib.hid (by unfold ctlN; simp [h1, h2, h3])
       have b3 : ((n : Int) == 127) = false := by rw [beq_eq_false_iff_ne]; omega
       go_enter Tryd.func33, Tryd.ntmps33
       go_wp2
       go_ret
       exact ⟨by rw [e.out]; rfl, rfl⟩)

set_option maxHeartbeats 1000000 in
theorem refNameByte_any (n : Nat) (hn : n < 256) (w : World) :
    Calls Tryd.prog 57 #[.int .u8 n] w fun e w' => e = .returned (.bool (nbN n)) ∧ w' = w := by
  have cl := fun W => refLetter_any n hn W
  have cd := fun W => refDigit_any n hn W
  have e : Hid (nbN n = (letN n || digN n || decide (n = 45))) := Lib.hid rfl
  generalize letN n = a at *
  generalize digN n = b at *
  cases hq : decide (n = 45)
  · have b3 : ((n : Int) == 45) = false := by rw [beq_eq_false_iff_ne]; have := of_decide_eq_false hq; omega
    rw [hq] at e
    clear hq
    cases a <;> cases b
    all_goals
    (go_enter Tryd.func57, Tryd.ntmps57
     go_wp2_with (first
       | (go_at_call 75; ((with_reducible refine (cl _).mono ?_); rintro e w' ⟨rfl, hw⟩; subst w'))
       | (go_at_call 76; ((with_reducible refine (cd _).mono ?_); rintro e w' ⟨rfl, hw⟩; subst w')))
     go_ret
     exact ⟨by rw [e.out]; rfl, rfl⟩)
  · have b3 : ((n : Int) == 45) = true := by rw [beq_iff_eq]; have := of_decide_eq_true hq; omega
    rw [hq] at e
    clear hq
    cases a <;> cases b
    all_goals
    (go_enter Tryd.func57, Tryd.ntmps57
     go_wp2_with (first
       | (go_at_call 75; ((with_reducible refine (cl _).mono ?_); rintro e w' ⟨rfl, hw⟩; subst w'))
       | (go_at_call 76; ((with_reducible refine (cd _).mono ?_); rintro e w' ⟨rfl, hw⟩; subst w')))
     go_ret
     exact ⟨by rw [e.out]; rfl, rfl⟩)

end Go.Proofs.YtipmeooldopkmaaDoor

/-
  Plain mathematics for layer 11 (line): a property as a line, and that line read.
-/
namespace Go.Proofs.YtipmeooldopkmaaDoor
open Go.RowKit

def hasSep (v : List UInt8) : Bool := v.any fun c => decide (c.toNat = 44) || decide (c.toNat = 59) || decide (c.toNat = 58)
/-- A value as it is written. -/
def quoteL (v : List UInt8) : List UInt8 := if hasSep v = true then 34 :: (v ++ [34]) else v
def moreL (vs : List (List UInt8)) : List UInt8 := vs.flatMap fun v => 44 :: quoteL v
def valsL : List (List UInt8) → List UInt8
  | [] => []
  | v :: vs => quoteL v ++ moreL vs
def parT (x : Par) : List UInt8 := 59 :: (x.name ++ 61 :: valsL x.vals)
def textL (p : Pro) : List UInt8 := p.name ++ (p.pars.flatMap parT ++ 58 :: p.value)
/-- A name in great letters. -/
def nameOk (n : List UInt8) : Prop := n.all nbC = true ∧ n ≠ [] ∧ n.length ≤ 64 ∧ upL n = n
def plainOk (v : List UInt8) : Prop := v.all qvC = true ∧ vld v = true
def valueOk (v : List UInt8) : Prop := v.all (fun c => !ctlN c.toNat) = true ∧ vld v = true
def parOk (x : Par) : Prop := nameOk x.name ∧ x.vals ≠ [] ∧ ∀ v ∈ x.vals, plainOk v
def proOk (p : Pro) : Prop := nameOk p.name ∧ p.pars.length ≤ 16 ∧ valueOk p.value ∧ (∀ x ∈ p.pars, parOk x) ∧ (textL p).length ≤ 1024

theorem tw_all {f : UInt8 → Bool} : ∀ {a : List UInt8} {b : List UInt8}, a.all f = true → (∀ c, b.head? = some c → f c = false) → (a ++ b).takeWhile f = a
  | [], [], _, _ => rfl
  | [], c :: b, _, h => by
    have := h c rfl
    simp [this]
  | x :: a, b, ha, h => by
    simp only [List.all_cons, Bool.and_eq_true] at ha
    simp [ha.1, tw_all ha.2 h]
theorem rdName_ok {n : List UInt8} (h : nameOk n) {c : UInt8} (r : List UInt8) (hc : nbC c = false) : rdName (n ++ c :: r) = .ok n (c :: r) := by
  obtain ⟨h1, h2, h3, h4⟩ := h
  have e : (n ++ c :: r).takeWhile nbC = n := tw_all h1 (fun x hx => by simp at hx; subst hx; exact hc)
  unfold rdName
  rw [e, if_neg (by omega), if_neg h2, h4]
  simp
theorem uv_of {v : List UInt8} (h : plainOk v) (hs : hasSep v = false) : v.all uvC = true := by
  rw [List.all_eq_true]
  intro c hc
  have h1 := List.all_eq_true.1 h.1 c hc
  unfold hasSep at hs
  rw [List.any_eq_false] at hs
  have h2 := hs c hc
  unfold uvC
  simp only [Bool.or_eq_true, decide_eq_true_eq, not_or] at h2
  simp [h1, h2]
theorem rdVal_ok {v : List UInt8} (h : plainOk v) {c : UInt8} (r : List UInt8) (hc : c.toNat = 44 ∨ c.toNat = 59 ∨ c.toNat = 58) : rdVal (quoteL v ++ c :: r) = .ok v (c :: r) := by
  have hu : uvC c = false := by unfold uvC; rcases hc with h | h | h <;> simp [h]
  have hc34 : c ≠ 34 := by intro e; subst e; rcases hc with h | h | h <;> exact absurd h (by decide)
  unfold quoteL
  cases hs : hasSep v
  · rw [if_neg (by decide)]
    have e : (v ++ c :: r).takeWhile uvC = v := tw_all (uv_of h hs) (fun x hx => by simp at hx; subst hx; exact hu)
    have hh : (v ++ c :: r).head? ≠ some 34 := by
      cases v with
      | nil => simpa using hc34
      | cons x v =>
        simp only [List.cons_append, List.head?_cons, ne_eq, Option.some.injEq]
        intro e
        have := h.1
        simp only [List.all_cons, Bool.and_eq_true] at this
        have h1 := this.1
        subst e
        exact absurd h1 (by decide)
    unfold rdVal
    rw [if_neg hh, e]
    simp
  · rw [if_pos rfl]
    have e0 : (34 :: (v ++ [34]) ++ c :: r) = 34 :: (v ++ 34 :: c :: r) := by simp
    have e : (v ++ 34 :: c :: r).takeWhile qvC = v := tw_all h.1 (fun x hx => by simp at hx; subst hx; decide)
    unfold rdVal
    rw [e0, if_pos (by rfl)]
    show rdQuoted (v ++ 34 :: c :: r) = _
    unfold rdQuoted
    rw [e, if_pos (by simp)]
    congr 1
    simp [List.drop_append]
theorem moreL_cons (v : List UInt8) (vs : List (List UInt8)) : moreL (v :: vs) = 44 :: (quoteL v ++ moreL vs) := by simp [moreL]
/-- What stands behind a value: a comma, or what stands behind them all. -/
theorem more_head (vs : List (List UInt8)) {c : UInt8} (r : List UInt8) (hc : c.toNat = 59 ∨ c.toNat = 58) : ∃ c' r', moreL vs ++ c :: r = c' :: r' ∧ (c'.toNat = 44 ∨ c'.toNat = 59 ∨ c'.toNat = 58) := by
  cases vs with
  | nil => exact ⟨c, r, rfl, .inr hc⟩
  | cons v vs => exact ⟨44, _, by rw [moreL_cons]; rfl, .inl rfl⟩
theorem rdMore_ok : ∀ (vs : List (List UInt8)) (f : Nat) (acc : List (List UInt8)) {c : UInt8} (r : List UInt8), (∀ v ∈ vs, plainOk v) → (c.toNat = 59 ∨ c.toNat = 58) → (moreL vs ++ c :: r).length ≤ f →
    rdMore f (moreL vs ++ c :: r) acc = .ok (acc ++ vs) (c :: r)
  | [], f, acc, c, r, _, hc, _ => by
    have hne : ¬ (c :: r).head? = some 44 := by
      simp only [List.head?_cons, Option.some.injEq]
      intro e; subst e
      rcases hc with h | h <;> exact absurd h (by decide)
    cases f with
    | zero => simp [rdMore, moreL]
    | succ f => simp only [moreL, List.flatMap_nil, List.nil_append, rdMore]; rw [if_neg hne]; simp
  | v :: vs, 0, acc, c, r, _, _, hf => by simp at hf
  | v :: vs, f + 1, acc, c, r, hv, hc, hf => by
    have e : moreL (v :: vs) ++ c :: r = 44 :: (quoteL v ++ (moreL vs ++ c :: r)) := by rw [moreL_cons]; simp
    rw [e] at hf ⊢
    obtain ⟨c', r', e', hc'⟩ := more_head vs r hc
    rw [rdMore, if_pos (by rfl)]
    show (match rdVal (quoteL v ++ (moreL vs ++ c :: r)) with | .ok v r => rdMore f r (acc ++ [v]) | .bad e => .bad e) = _
    rw [e', rdVal_ok (hv v (by simp)) r' hc', ← e']
    dsimp only
    rw [rdMore_ok vs f (acc ++ [v]) r (fun u hu => hv u (by simp [hu])) hc (by simp at hf ⊢; omega)]
    simp
theorem rdPar_ok {x : Par} (h : parOk x) {c : UInt8} (r : List UInt8) (hc : c.toNat = 59 ∨ c.toNat = 58) : rdPar (x.name ++ 61 :: (valsL x.vals ++ c :: r)) = .ok x (c :: r) := by
  obtain ⟨hn, hv, hp⟩ := h
  unfold rdPar
  rw [rdName_ok hn _ (by decide)]
  obtain ⟨n, vals⟩ := x
  cases vals with
  | nil => exact absurd rfl hv
  | cons v vs =>
    dsimp only
    rw [if_pos (by rfl)]
    obtain ⟨c', r', e', hc'⟩ := more_head vs r hc
    have e : (61 :: (valsL (v :: vs) ++ c :: r)).drop 1 = quoteL v ++ (moreL vs ++ c :: r) := by simp [valsL]
    rw [e, e', rdVal_ok (hp v (by simp)) r' hc', ← e']
    dsimp only
    rw [rdMore_ok vs _ [v] r (fun u hu => hp u (by simp [hu])) hc (Nat.le_refl _)]
    rfl
theorem pars_head (ps : List Par) (r : List UInt8) : ∃ c' r', ps.flatMap parT ++ 58 :: r = c' :: r' ∧ (c'.toNat = 59 ∨ c'.toNat = 58) := by
  cases ps with
  | nil => exact ⟨58, r, rfl, .inr rfl⟩
  | cons p ps => exact ⟨59, _, by simp only [List.flatMap_cons, parT]; rfl, .inl rfl⟩
theorem rdPars_ok : ∀ (ps : List Par) (f : Nat) (acc : List Par) (r : List UInt8), (∀ x ∈ ps, parOk x) → acc.length + ps.length ≤ 16 → (ps.flatMap parT ++ 58 :: r).length ≤ f → rdPars f (ps.flatMap parT ++ 58 :: r) acc = .ok (acc ++ ps) (58 :: r)
  | [], f, acc, r, _, _, _ => by
    have hne : ¬ ((58 : UInt8) :: r).head? = some 59 := by simp
    cases f with
    | zero => simp [rdPars]
    | succ f => simp only [List.flatMap_nil, List.nil_append, rdPars]; rw [if_neg hne]; simp
  | x :: ps, 0, acc, r, _, _, hf => by simp at hf
  | x :: ps, f + 1, acc, r, hx, hl, hf => by
    have e : (x :: ps).flatMap parT ++ 58 :: r = 59 :: (x.name ++ 61 :: (valsL x.vals ++ (ps.flatMap parT ++ 58 :: r))) := by
      simp [parT]
    rw [e] at hf ⊢
    obtain ⟨c', r', e', hc'⟩ := pars_head ps r
    rw [rdPars, if_pos (by rfl), if_neg (by simp at hl; omega)]
    show (match rdPar (x.name ++ 61 :: (valsL x.vals ++ (ps.flatMap parT ++ 58 :: r))) with | .bad e => Got.bad e | .ok p r => rdPars f r (acc ++ [p])) = _
    rw [e', rdPar_ok (hx x (by simp)) r' hc', ← e']
    dsimp only
    rw [rdPars_ok ps f (acc ++ [x]) r (fun y hy => hx y (by simp [hy])) (by simp at hl ⊢; omega) (by simp at hf ⊢; omega)]
    simp
theorem rdRest_ok {p : Pro} (h : proOk p) : rdRest (textL p) = .ok p [] := by
  obtain ⟨hn, hl, hv, hp, _⟩ := h
  obtain ⟨c', r', e', hc'⟩ := pars_head p.pars p.value
  have hnb : nbC c' = false := by
    unfold nbC nbN letN digN
    rcases hc' with h | h <;> rw [h] <;> decide
  unfold rdRest textL
  rw [e', rdName_ok hn r' hnb, ← e']
  dsimp only
  rw [rdPars_ok p.pars _ [] p.value hp (by simpa using hl) (Nat.le_refl _)]
  dsimp only
  rw [if_pos (by rfl)]
  show (if p.value.all (fun c => !ctlN c.toNat) = true then Got.ok (Pro.mk p.name ([] ++ p.pars) p.value) [] else Got.bad 10) = _
  rw [if_pos hv.1]
  rfl

theorem vld_ascii : ∀ (l : List UInt8), (∀ c ∈ l, c.toNat < 128) → vld l = true
  | [], _ => vld_nil
  | c :: l, h => by
    have h1 := vld_ascii l (fun x hx => h x (by simp [hx]))
    have hr : runeL (c :: l) = 1 := by
      unfold runeL
      rw [if_pos (by simpa [byt] using h c (by simp))]
    rw [vld_step (by simp) (by rw [hr]; decide), hr]
    exact h1
theorem vld_join {a b : List UInt8} (ha : vld a = true) (hb : vld b = true) : vld (a ++ b) = true := vld_app a.length a b (Nat.le_refl _) ha hb
theorem nb_ascii {c : UInt8} (h : nbC c = true) : c.toNat < 128 := by
  unfold nbC nbN letN digN at h
  simp only [Bool.or_eq_true, Bool.and_eq_true, decide_eq_true_eq] at h
  omega
theorem vld_name {n : List UInt8} (h : nameOk n) : vld n = true := vld_ascii n fun c hc => nb_ascii (List.all_eq_true.1 h.1 c hc)
theorem vld_cons {c : UInt8} {l : List UInt8} (hc : c.toNat < 128) (h : vld l = true) : vld (c :: l) = true := vld_join (a := [c]) (vld_ascii _ (by simpa using hc)) h
theorem vld_quote {v : List UInt8} (h : vld v = true) : vld (quoteL v) = true := by
  unfold quoteL
  split
  · exact vld_cons (by decide) (vld_join h (vld_ascii _ (by decide)))
  · exact h
theorem vld_more : ∀ (vs : List (List UInt8)), (∀ v ∈ vs, plainOk v) → vld (moreL vs) = true
  | [], _ => vld_nil
  | v :: vs, h => by
    rw [moreL_cons]
    exact vld_cons (by decide) (vld_join (vld_quote (h v (by simp)).2) (vld_more vs fun u hu => h u (by simp [hu])))
theorem vld_par {x : Par} (h : parOk x) : vld (parT x) = true := by
  obtain ⟨hn, hv, hp⟩ := h
  obtain ⟨n, vals⟩ := x
  refine vld_cons (by decide) (vld_join (vld_name hn) (vld_cons (by decide) ?_))
  cases vals with
  | nil => exact vld_nil
  | cons v vs => exact vld_join (vld_quote (hp v (by simp)).2) (vld_more vs fun u hu => hp u (by simp [hu]))
theorem vld_pars : ∀ (ps : List Par), (∀ x ∈ ps, parOk x) → vld (ps.flatMap parT) = true
  | [], _ => vld_nil
  | x :: ps, h => by
    rw [List.flatMap_cons]
    exact vld_join (vld_par (h x (by simp))) (vld_pars ps fun y hy => h y (by simp [hy]))
/-- What is written is read as it was. -/
theorem parse_print {p : Pro} (h : proOk p) : parL (textL p) = (p, 0) := by
  have hv : vld (textL p) = true := vld_join (vld_name h.1) (vld_join (vld_pars _ h.2.2.2.1) (vld_cons (by decide) h.2.2.1.2))
  unfold parL
  rw [if_neg (by have := h.2.2.2.2; omega), if_pos hv, rdRest_ok h]

end Go.Proofs.YtipmeooldopkmaaDoor
