/-
  The document's num and sign: contracts.
-/
import Derived.Test.YtlfeejjlcclbdaaGreatDoorRowb
import Derived.Lib.ItoaLen
import Derived.Lib.ItoaMem
import Derived.Test.YtlfeejjlcclbdaaGreatDoorLev
import Derived.Test.YtlfeejjlcclbdaaGreatDoorPrint
import Derived.Deep.RegionHeld3
import Derived.Test.YtlfeejjlcclbdaaGreatDoorPrsB
import Derived.Test.YtlfeejjlcclbdaaGreatDoorNode
import Derived.Test.YtlfeejjlcclbdaaGreatDoorWeigh
import Derived.Test.YtlfeejjlcclbdaaGreatDoorWorks
namespace Go.Proofs.YtlfeejjlcclbdaaGreatDoor
section
open Go.RowKit
set_option linter.unusedVariables false

theorem dec_small {u : Nat} (h : u < 10) : Lib.decDigits u = [UInt8.ofNat (48 + u)] := by rw [Lib.decDigits, dif_pos h]
theorem dec_big {u : Nat} (h : ¬ u < 10) : Lib.decDigits u = Lib.decDigits (u / 10) ++ [UInt8.ofNat (48 + u % 10)] := by rw [Lib.decDigits, dif_neg h]
/-- What the loop keeps: the digits that are there are the last ones. -/
def Dg (n m : Nat) (acc : Bs) : Prop := (acc = [] ∧ m = n) ∨ (acc ≠ [] ∧ Lib.decDigits n = (if m = 0 then [] else Lib.decDigits m) ++ acc)
theorem Dg.step {n m : Nat} {acc : Bs} (h : Dg n m acc) (hm : 0 < m ∨ acc = []) : Dg n (m / 10) (UInt8.ofNat (48 + m % 10) :: acc) := by
  refine .inr ⟨List.cons_ne_nil _ _, ?_⟩
  rcases h with ⟨rfl, rfl⟩ | ⟨h1, h2⟩
  · by_cases h : m < 10
    · rw [dec_small h, if_pos (by omega), show m % 10 = m from by omega]; rfl
    · rw [dec_big h, if_neg (by omega)]
  · have hm := hm.resolve_right h1
    rw [if_neg (by omega)] at h2
    by_cases h : m < 10
    · rw [h2, dec_small h, if_pos (by omega), show m % 10 = m from by omega]; rfl
    · rw [h2, dec_big h, if_neg (by omega), List.append_assoc]; rfl
theorem Dg.done {n : Nat} {acc : Bs} (h : Dg n 0 acc) (ha : acc ≠ []) : Lib.decDigits n = acc := by
  rcases h with ⟨h1, _⟩ | ⟨_, h2⟩
  · exact absurd h1 ha
  · rw [if_pos rfl] at h2; exact h2
theorem Dg.len {n m : Nat} {acc : Bs} (h : Dg n m acc) (hn : n ≤ 9223372036854775807) : acc.length ≤ 21 := by
  rcases h with ⟨rfl, _⟩ | ⟨_, h2⟩
  · exact Nat.zero_le _
  · have h3 := Lib.itoa_length_le (n : Int) (by omega) (by omega)
    rw [Lib.itoa_nonneg, h2, List.length_append] at h3
    omega
/-- A value as a text. -/
def strOf : Value → Bs
  | .string s => s.data.toList
  | _ => []
theorem strOf_ba (l : Bs) : strOf (.string (ba l)) = l := by simp [strOf, ba]
def few (l : Bs) : Nat := if l = [] then 1 else 0
theorem ba_add (a b : Bs) : ba a ++ ba b = ba (a ++ b) := by
  apply ByteArray.ext
  simp [ba, ByteArray.data_append]
theorem conv_one (w : World) (c : Nat) (hc : c < 256) : (convert 37 9 (.slice (some ⟨w.heap.size, 0, none⟩) 1 1)).run Tryz.prog (w.alloc (.cells #[.int .u8 c] 5)) = .ok (.string (ba [UInt8.ofNat c])) (w.alloc (.cells #[.int .u8 c] 5)) := by
  have h : Ob (w.alloc (.cells #[.int .u8 c] 5)) w.heap.size (.slice (some ⟨w.heap.size, 0, none⟩) 1 1) [UInt8.ofNat c] := by
    refine ⟨rfl, .inr ⟨w.heap.size, 1, _, rfl, Nat.le_refl _, heap_alloc_new w _, Nat.le_refl _, by decide, rfl, ?_⟩⟩
    show [Value.int .u8 (c : Int)] = Lib.byteCells [UInt8.ofNat c]
    simp [Lib.byteCells]
    omega
  exact h.convert
set_option maxRecDepth 100000 in
set_option maxHeartbeats 1000000 in
theorem dnum_any (n : Nat) (hn : n ≤ 9223372036854775807) (w : World) : Calls Tryz.prog 26 #[.int .i64 n] w fun e w' => e = .returned (.string (ba (Lib.itoa n))) ∧ Below w.heap.size w w' := by
  rw [Lib.itoa_nonneg]
  go_enter Tryz.func26, Tryz.ntmps26
  go_wp2_with fail
  go_loopw [3, 4] (fun vs vk wr => ∃ (m : Nat) (acc : Bs), m ≤ 9223372036854775807 ∧ vs = .string (ba acc) ∧ vk = .int .i64 m ∧ Hid (Dg n m acc ∧ Below w.heap.size w wr)) (fun vs vk _ => 2 * (intOf vk).toNat + few (strOf vs))
  case atStart => exact ⟨n, [], hn, rfl, rfl, .inl ⟨rfl, rfl⟩, Below.refl _ _⟩
  case round =>
    obtain ⟨m, acc, hm, rfl, rfl, HR⟩ := hrel
    by_cases hc : 0 < m ∨ acc = []
    · have HS : Hid (Dg n (m / 10) (UInt8.ofNat (48 + m % 10) :: acc)) := HR.out.1.step hc
      have hlen := HR.out.1.len hn
      have hsz : (ba acc).size ≤ 21 := by rw [ba_size]; exact hlen
      have hcv : (convert 37 9 (.slice (some ⟨wr.heap.size, 0, none⟩) 1 1)).run Tryz.prog (wr.alloc (.cells #[.int .u8 (48 + (m : Int) % 10)] 5)) = .ok (.string (ba [UInt8.ofNat (48 + m % 10)])) (wr.alloc (.cells #[.int .u8 (48 + (m : Int) % 10)] 5)) := by
        have h := conv_one wr (48 + m % 10) (by omega)
        rw [show ((48 + m % 10 : Nat) : Int) = 48 + (m : Int) % 10 from by omega] at h
        exact h
      have hs1 : (ba [UInt8.ofNat (48 + m % 10)]).size = 1 := by rw [ba_size]; rfl
      have hadd : ba [UInt8.ofNat (48 + m % 10)] ++ ba acc = ba (UInt8.ofNat (48 + m % 10) :: acc) := ba_add _ _
      have HM : Hid (∀ wx, 2 * (intOf (.int .i64 ((m / 10 : Nat) : Int))).toNat + few (strOf (.string (ba (UInt8.ofNat (48 + m % 10) :: acc)))) < wx → True) := fun _ _ => trivial
      have HMe : Hid (2 * (m / 10) + few (strOf (.string (ba (UInt8.ofNat (48 + m % 10) :: acc)))) < 2 * m + few (strOf (.string (ba acc)))) := by
        unfold Hid
        rw [strOf_ba, strOf_ba]
        unfold few
        rw [if_neg (List.cons_ne_nil _ _)]
        rcases hc with h | h
        · split <;> omega
        · rw [if_pos h]; omega
      clear HM
      rcases hc with h0 | rfl
      · generalize ba [UInt8.ofNat (48 + m % 10)] = s1 at *
        generalize hb : ba (UInt8.ofNat (48 + m % 10) :: acc) = s2 at *
        have HB2 : Hid (s2 = ba (UInt8.ofNat (48 + m % 10) :: acc)) := hb.symm
        clear hb
        generalize hb : ba acc = sa at *
        have h01 : (0 : Int) < m := by omega
        go_wp2
        go_roundw
        case rel => exact ⟨m / 10, UInt8.ofNat (48 + m % 10) :: acc, by omega, by rw [HB2.out], by go_num, HS.out, HR.out.2.alloc HR.out.2.size _⟩
        case measure => have := HMe.out; simp [intOf]; omega
      · by_cases h0 : 0 < m
        · generalize hb : ba [UInt8.ofNat (48 + m % 10)] = s1 at *
          have HB2 : Hid (s1 = ba [UInt8.ofNat (48 + m % 10)]) := hb.symm
          clear hb
          rw [show ba ([] : Bs) = ⟨#[]⟩ from rfl] at hadd hsz HMe ⊢
          have h01 : (0 : Int) < m := by omega
          go_wp2
          go_roundw
          case rel => exact ⟨m / 10, [UInt8.ofNat (48 + m % 10)], by omega, by rw [HB2.out], by go_num, HS.out, HR.out.2.alloc HR.out.2.size _⟩
          case measure => have := HMe.out; simp only [intOf]; omega
        · have e0 : m = 0 := by omega
          subst e0
          have hcv0 : (convert 37 9 (.slice (some ⟨wr.heap.size, 0, none⟩) 1 1)).run Tryz.prog (wr.alloc (.cells #[.int .u8 48] 5)) = .ok (.string (ba [48])) (wr.alloc (.cells #[.int .u8 48] 5)) := conv_one wr 48 (by omega)
          have hadd0 : ba [48] ++ ⟨#[]⟩ = ba [48] := ba_add [48] []
          have hs0 : (ba [48]).size = 1 := rfl
          generalize hb : ba [48] = s1 at *
          have HB2 : Hid (s1 = ba [48]) := hb.symm
          clear hb hcv hadd hs1 hsz
          rw [show ba ([] : Bs) = ⟨#[]⟩ from rfl] at HMe ⊢
          go_wp2
          go_roundw
          case rel => exact ⟨0, [48], by omega, by rw [HB2.out], by go_num, HS.out, HR.out.2.alloc HR.out.2.size _⟩
          case measure => exact HMe.out
    · have e0 : m = 0 := by omega
      subst e0
      have h1 : acc ≠ [] := fun h => hc (.inr h)
      have HF : Hid (ba (Lib.decDigits n) = ba acc) := by unfold Hid; rw [HR.out.1.done h1]
      have f1 : (ba acc).toList.isEmpty = false := by rw [ba_toList]; simpa using h1
      have f2 : ¬ (ba acc).toList = [] := by rw [ba_toList]; exact h1
      clear hc h1
      go_wp2
      go_ret
      exact ⟨by rw [HF.out]; rfl, HR.out.2⟩
set_option maxRecDepth 100000 in
set_option maxHeartbeats 1000000 in
theorem dsign_any (k : Int) (h0 : 7 ≤ k) (h1 : k ≤ 14) (w : World) : Calls Tryz.prog 29 #[.int .i64 k] w fun e w' => e = .returned (.string (ba [signB k])) ∧ Below w.heap.size w w' := by
  have hk : k = 7 ∨ k = 8 ∨ k = 9 ∨ k = 10 ∨ k = 11 ∨ k = 12 ∨ k = 13 ∨ k = 14 := by omega
  clear h0 h1
  rcases hk with rfl | rfl | rfl | rfl | rfl | rfl | rfl | rfl
  all_goals (
    go_enter Tryz.func29, Tryz.ntmps29
    go_wp2
    go_ret
    exact ⟨rfl, (Below.refl _ _).alloc (Nat.le_refl _) _⟩)
end
section
open Go.RowKit
set_option linter.unusedVariables false

def RTexts (d : Nat) : Prop := ∀ (P : Nat → Prop) (t : Tr) (v : Value) (w : World), checkM d t = 0 → Tre w P v t →
  Calls Tryz.prog 14 #[v] w fun e w' => e = .returned (.string (ba (textT t))) ∧ Below w.heap.size w w'
def RWraps (d : Nat) : Prop := ∀ (P : Nat → Prop) (t : Tr) (v : Value) (row : Nat) (w : World), checkM d t = 0 → Tre w P v t →
  Calls Tryz.prog 27 #[v, .int .i64 row] w fun e w' => e = .returned (.string (ba (wrapT row t.kind (textT t)))) ∧ Below w.heap.size w w'
set_option maxRecDepth 100000 in
set_option maxHeartbeats 1000000 in
theorem rwraps_of {d : Nat} (hd : d ≤ 16) (ih : RTexts d) : RWraps d := by
  intro P t v row w hck hT
  obtain ⟨a, c, rfl⟩ := hT.four
  have hln := text_len d t _ hT hck
  have hp : 2 ^ d ≤ 65536 := Nat.pow_le_pow_right (n := 2) (by decide) hd
  have HT : Hid (Tre w P (.agg #[.int .i64 t.kind, .int .i64 t.n, .string (ba t.name), .slice a t.kids.length c]) t) := hT
  have HC : Hid (∀ w, Tre w P (.agg #[.int .i64 t.kind, .int .i64 t.n, .string (ba t.name), .slice a t.kids.length c]) t → Calls Tryz.prog 14 #[.agg #[.int .i64 t.kind, .int .i64 t.n, .string (ba t.name), .slice a t.kids.length c]] w fun e w' => e = .returned (.string (ba (textT t))) ∧ Below w.heap.size w w') := fun w h => ih P t _ w hck h
  have HL : Hid (∀ w, Calls Tryz.prog 28 #[.int .i64 t.kind] w fun e w' => e = .returned (.int .i64 (rowK t.kind)) ∧ w' = w) := fun w => level_any _ w
  have hsz : (ba (textT t)).size ≤ 3000000 := by rw [ba_size]; omega
  clear hT hck hln hp ih
  by_cases hr : row ≤ rowK t.kind
  · have HW : Hid (wrapT row t.kind (textT t) = textT t) := by unfold Hid wrapT; rw [if_pos hr]
    rw [HW.out]
    have hr2 : ¬ ((rowK t.kind : Nat) : Int) < (row : Int) := by omega
    clear HW hr
    generalize ba (textT t) = tx at *
    generalize rowK t.kind = rk at *
    generalize t.kind = tk at *
    generalize t.n = tn at *
    generalize ba t.name = ts at *
    generalize t.kids.length = tl at *
    go_enter Tryz.func27, Tryz.ntmps27
    go_wp2_with (first
      | (go_at_call 28; have := HB1; refine (HL.out _).mono ?_; rintro e w2 ⟨rfl, hw2⟩; have hw3 := hw2.symm; subst hw3)
      | (go_at_call 14; refine (HC.out _ (HT.out.alloc _)).mono ?_; rintro e w1 ⟨rfl, HB⟩; have HB1 : Hid (Below w.heap.size w w1) := ((Below.refl _ _).alloc (Nat.le_refl _) _).trans (HB.mono (le_alloc _ _)); obtain ⟨q0, q1, q2, q3, q4⟩ := (Cell4.new w (.int .i64 tk) (.int .i64 tn) (.string ts) (.slice a tl c) 24).below HB; have hl1 := World.block_lt_of_cell? _ _ q0; clear HB))
    go_ret
    exact ⟨rfl, HB1.out⟩
  · have HW : Hid (ba (wrapT row t.kind (textT t)) = ba ([40] ++ textT t ++ [41])) := by unfold Hid wrapT; rw [if_neg hr]; rfl
    rw [HW.out]
    have e1 : (⟨#[40]⟩ : ByteArray) ++ ba (textT t) = ba ([40] ++ textT t) := ba_add [40] _
    have e2 : ba ([40] ++ textT t) ++ (⟨#[41]⟩ : ByteArray) = ba ([40] ++ textT t ++ [41]) := ba_add _ [41]
    have s1 : (ba ([40] ++ textT t)).size ≤ 3000001 := by rw [ba_size] at hsz ⊢; simp; omega
    have hr2 : ((rowK t.kind : Nat) : Int) < (row : Int) := by omega
    clear HW hr
    generalize ba ([40] ++ textT t ++ [41]) = t3 at *
    generalize ba ([40] ++ textT t) = t2 at *
    generalize ba (textT t) = tx at *
    generalize rowK t.kind = rk at *
    generalize t.kind = tk at *
    generalize t.n = tn at *
    generalize ba t.name = ts at *
    generalize t.kids.length = tl at *
    go_enter Tryz.func27, Tryz.ntmps27
    go_wp2_with (first
      | (go_at_call 28; have := HB1; refine (HL.out _).mono ?_; rintro e w2 ⟨rfl, hw2⟩; have hw3 := hw2.symm; subst hw3)
      | (go_at_call 14; refine (HC.out _ (HT.out.alloc _)).mono ?_; rintro e w1 ⟨rfl, HB⟩; have HB1 : Hid (Below w.heap.size w w1) := ((Below.refl _ _).alloc (Nat.le_refl _) _).trans (HB.mono (le_alloc _ _)); obtain ⟨q0, q1, q2, q3, q4⟩ := (Cell4.new w (.int .i64 tk) (.int .i64 tn) (.string ts) (.slice a tl c) 24).below HB; have hl1 := World.block_lt_of_cell? _ _ q0; clear HB))
    go_ret
    exact ⟨rfl, HB1.out⟩
end
section
open Go.RowKit
set_option linter.unusedVariables false

/-- The cells of two kids that lie one behind the other. -/
structure Eight (w : World) (b o : Nat) (u0 u1 u2 u3 v0 v1 v2 v3 : Value) : Prop where
  c0 : w.cell? ⟨b, o, none⟩ = some u0
  c1 : w.cell? ⟨b, o + 1, none⟩ = some u1
  c2 : w.cell? ⟨b, o + 2, none⟩ = some u2
  c3 : w.cell? ⟨b, o + 3, none⟩ = some u3
  c4 : w.cell? ⟨b, o + 4, none⟩ = some v0
  c5 : w.cell? ⟨b, o + 4 + 1, none⟩ = some v1
  c6 : w.cell? ⟨b, o + 4 + 2, none⟩ = some v2
  c7 : w.cell? ⟨b, o + 4 + 3, none⟩ = some v3
theorem Eight.below {w w' : World} {b o : Nat} {u0 u1 u2 u3 v0 v1 v2 v3 : Value} (h : Eight w b o u0 u1 u2 u3 v0 v1 v2 v3) (hb : Below w.heap.size w w') : Eight w' b o u0 u1 u2 u3 v0 v1 v2 v3 := by
  have hl : b < w.heap.size := World.block_lt_of_cell? w _ h.c0
  exact ⟨(hb.cell (p := ⟨b, _, none⟩) hl).trans h.c0, (hb.cell (p := ⟨b, _, none⟩) hl).trans h.c1, (hb.cell (p := ⟨b, _, none⟩) hl).trans h.c2, (hb.cell (p := ⟨b, _, none⟩) hl).trans h.c3, (hb.cell (p := ⟨b, _, none⟩) hl).trans h.c4, (hb.cell (p := ⟨b, _, none⟩) hl).trans h.c5, (hb.cell (p := ⟨b, _, none⟩) hl).trans h.c6, (hb.cell (p := ⟨b, _, none⟩) hl).trans h.c7⟩
set_option maxRecDepth 100000 in
set_option maxHeartbeats 800000 in
theorem rtext_two (tk tn : Int) (h7 : 7 ≤ tk) (h14 : tk ≤ 14) (R : Nat) (hR : R ≤ 6) (hRk : rowK tk = R) (L : Int) (hL : (R ≠ 3 ∧ L = R) ∨ (R = 3 ∧ L = 4)) (ts : ByteArray) (xk xn yk yn : Int) (xs ys : ByteArray) (xa ya : Option Addr) (xl xc yl yc : Nat) (b o cap : Nat) (hcap : 2 ≤ cap) (w : World)
    (h8 : Eight w b o (.int .i64 xk) (.int .i64 xn) (.string xs) (.slice xa xl xc) (.int .i64 yk) (.int .i64 yn) (.string ys) (.slice ya yl yc)) (x y : Bs) (hx : x.length ≤ 3000002) (hy : y.length ≤ 3000002)
    (HX : Hid (∀ w', Below w.heap.size w w' → Calls Tryz.prog 27 #[.agg #[.int .i64 xk, .int .i64 xn, .string xs, .slice xa xl xc], .int .i64 L] w' fun e w'' => e = .returned (.string (ba x)) ∧ Below w'.heap.size w' w''))
    (HY : Hid (∀ w', Below w.heap.size w w' → Calls Tryz.prog 27 #[.agg #[.int .i64 yk, .int .i64 yn, .string ys, .slice ya yl yc], .int .i64 ((R : Int) + 1)] w' fun e w'' => e = .returned (.string (ba y)) ∧ Below w'.heap.size w' w'')) :
    Calls Tryz.prog 14 #[.agg #[.int .i64 tk, .int .i64 tn, .string ts, .slice (some ⟨b, o, none⟩) 2 cap]] w fun e w' => e = .returned (.string (ba (x ++ [32, signB tk, 32] ++ y))) ∧ Below w.heap.size w w' := by
  have HS : Hid (∀ w, Calls Tryz.prog 29 #[.int .i64 tk] w fun e w' => e = .returned (.string (ba [signB tk])) ∧ Below w.heap.size w w') := fun w => dsign_any tk h7 h14 w
  have HL : Hid (∀ w, Calls Tryz.prog 28 #[.int .i64 tk] w fun e w' => e = .returned (.int .i64 R) ∧ w' = w) := fun w => by
    have := level_any tk w; rw [hRk] at this; exact this
  have e1 : ba x ++ (⟨#[32]⟩ : ByteArray) = ba (x ++ [32]) := ba_add x [32]
  have e2 : ba (x ++ [32]) ++ ba [signB tk] = ba (x ++ [32] ++ [signB tk]) := ba_add _ _
  have e3 : ba (x ++ [32] ++ [signB tk]) ++ (⟨#[32]⟩ : ByteArray) = ba (x ++ [32] ++ [signB tk] ++ [32]) := ba_add _ [32]
  have e4 : ba (x ++ [32] ++ [signB tk] ++ [32]) ++ ba y = ba (x ++ [32, signB tk, 32] ++ y) := by rw [ba_add]; simp
  have s0 : (ba x).size ≤ 3000002 := by rw [ba_size]; exact hx
  have s1 : (ba (x ++ [32])).size ≤ 3000003 := by rw [ba_size]; simp; omega
  have s2 : (ba (x ++ [32] ++ [signB tk])).size ≤ 3000004 := by rw [ba_size]; simp; omega
  have s3 : (ba (x ++ [32] ++ [signB tk] ++ [32])).size ≤ 3000005 := by rw [ba_size]; simp; omega
  have s4 : (ba y).size ≤ 3000002 := by rw [ba_size]; exact hy
  have s5 : (ba [signB tk]).size = 1 := by rw [ba_size]; rfl
  have H8 : Hid (Eight w b o (.int .i64 xk) (.int .i64 xn) (.string xs) (.slice xa xl xc) (.int .i64 yk) (.int .i64 yn) (.string ys) (.slice ya yl yc)) := h8
  clear h8 hRk
  generalize ba (x ++ [32, signB tk, 32] ++ y) = z4 at *
  generalize ba (x ++ [32] ++ [signB tk] ++ [32]) = z3 at *
  generalize ba (x ++ [32] ++ [signB tk]) = z2 at *
  generalize ba (x ++ [32]) = z1 at *
  generalize ba x = z0 at *
  generalize ba y = zy at *
  generalize ba [signB tk] = zs at *
  clear hx hy
  have f1 : ¬ 9223372036854775807 < z0.size + 1 := by omega
  have f1' : ¬ 9223372036854775807 ≤ z0.size := by omega
  have f2 : ¬ 9223372036854775807 < z1.size + zs.size := by omega
  have f3 : ¬ 9223372036854775807 < z2.size + 1 := by omega
  have f3' : ¬ 9223372036854775807 ≤ z2.size := by omega
  have f4 : ¬ 9223372036854775807 < z3.size + zy.size := by omega
  clear s5 s0 s1 s2 s3 s4
  have n1 : (tk == 1) = false := by rw [beq_eq_false_iff_ne]; omega
  have n2 : (tk == 2) = false := by rw [beq_eq_false_iff_ne]; omega
  have n3 : (tk == 3) = false := by rw [beq_eq_false_iff_ne]; omega
  have n4 : (tk == 4) = false := by rw [beq_eq_false_iff_ne]; omega
  have n5 : (tk == 5) = false := by rw [beq_eq_false_iff_ne]; omega
  have n6 : (tk == 6) = false := by rw [beq_eq_false_iff_ne]; omega
  clear h7 h14
  have HX0 : Hid (∀ w', Below w.heap.size w w' → Eight w' b o (.int .i64 xk) (.int .i64 xn) (.string xs) (.slice xa xl xc) (.int .i64 yk) (.int .i64 yn) (.string ys) (.slice ya yl yc)) := fun w' h => H8.out.below h
  have HC0 : Hid (∀ w', Below (w.alloc (.cells #[.int .i64 tk, .int .i64 tn, .string ts, .slice (some ⟨b, o, none⟩) 2 cap] 24)).heap.size (w.alloc (.cells #[.int .i64 tk, .int .i64 tn, .string ts, .slice (some ⟨b, o, none⟩) 2 cap] 24)) w' → Cell4 w' w.heap.size (.int .i64 tk) (.int .i64 tn) (.string ts) (.slice (some ⟨b, o, none⟩) 2 cap)) := fun w' h => (Cell4.new w _ _ _ _ 24).below h
  have HA0 : Hid (Below w.heap.size w (w.alloc (.cells #[.int .i64 tk, .int .i64 tn, .string ts, .slice (some ⟨b, o, none⟩) 2 cap] 24))) := (Below.refl _ _).alloc (Nat.le_refl _) _
  rcases hL with ⟨hne, rfl⟩ | ⟨rfl, rfl⟩
  · have hne2 : ((R : Int) == 3) = false := by rw [beq_eq_false_iff_ne]; omega
    clear hne
    have hwr : IntKind.i64.wrap ((R : Int) + 1) = (R : Int) + 1 := by rw [IntKind.wrap_i64]; omega
    go_enter Tryz.func14, Tryz.ntmps14
    go_wp2_with (go_at_call 28; refine (HL.out _).mono ?_; rintro e w2 ⟨rfl, hw2⟩; have hw3 := hw2.symm; subst hw3)
    generalize w.alloc (.cells #[.int .i64 tk, .int .i64 tn, .string ts, .slice (some ⟨b, o, none⟩) 2 cap] 24) = w1 at *
    have HD : Hid (Below w1.heap.size w1 w1.drew) := Below.drew (Below.refl _ _)
    obtain ⟨p0, p1, p2, p3, p4⟩ := HC0.out _ (Below.refl _ _)
    obtain ⟨k0, k1, k2, k3, k4, k5, k6, k7⟩ := HX0.out _ HA0.out
    go_region_held3 (fun w' => w'.cell? ⟨w.heap.size, 0, none⟩ = some (.int .i64 tk) ∧ w'.cell? ⟨w.heap.size, 3, none⟩ = some (.slice (some ⟨b, o, none⟩) 2 cap) ∧ w'.cell? ⟨b, o, none⟩ = some (.int .i64 xk) ∧ w'.cell? ⟨b, o + 1, none⟩ = some (.int .i64 xn) ∧ w'.cell? ⟨b, o + 2, none⟩ = some (.string xs) ∧ w'.cell? ⟨b, o + 3, none⟩ = some (.slice xa xl xc) ∧ w'.cell? ⟨b, o + 4, none⟩ = some (.int .i64 yk) ∧ w'.cell? ⟨b, o + 4 + 1, none⟩ = some (.int .i64 yn) ∧ w'.cell? ⟨b, o + 4 + 2, none⟩ = some (.string ys) ∧ w'.cell? ⟨b, o + 4 + 3, none⟩ = some (.slice ya yl yc)) (first | exact ⟨p0, p3, k0, k1, k2, k3, k4, k5, k6, k7⟩ | go_keep) (first
      | (go_at_call 27; have := M2; refine (HY.out _ (HA0.out.trans (M2.out.mono HA0.out.size))).mono ?_; rintro e w6 ⟨rfl, HB⟩; have M3 : Hid (Below w1.heap.size w1 w6) := M2.out.trans (HB.mono M2.out.size); obtain ⟨p0, p1, p2, p3, p4⟩ := HC0.out _ M3.out; obtain ⟨k0, k1, k2, k3, k4, k5, k6, k7⟩ := HX0.out _ (HA0.out.trans (M3.out.mono HA0.out.size)); clear HB M2)
      | (go_at_call 29; have := M1; refine (HS.out _).mono ?_; rintro e w5 ⟨rfl, HB⟩; have M2 : Hid (Below w1.heap.size w1 w5) := M1.out.trans (HB.mono M1.out.size); obtain ⟨p0, p1, p2, p3, p4⟩ := HC0.out _ M2.out; obtain ⟨k0, k1, k2, k3, k4, k5, k6, k7⟩ := HX0.out _ (HA0.out.trans (M2.out.mono HA0.out.size)); clear HB M1)
      | (go_at_call 27; refine (HX.out _ (HA0.out.trans (HD.out.mono HA0.out.size))).mono ?_; rintro e w4 ⟨rfl, HB⟩; have M1 : Hid (Below w1.heap.size w1 w4) := HD.out.trans (HB.mono HD.out.size); obtain ⟨p0, p1, p2, p3, p4⟩ := HC0.out _ M1.out; obtain ⟨k0, k1, k2, k3, k4, k5, k6, k7⟩ := HX0.out _ (HA0.out.trans (M1.out.mono HA0.out.size)); clear HB))
    all_goals
      (go_wp2
       go_ret
       exact ⟨rfl, HA0.out.trans (M3.out.mono HA0.out.size)⟩)
  · have e31 : (((3 : Nat) : Int) + 1) = 4 := rfl
    rw [e31] at HY
    have HL2 : Hid (∀ w, Calls Tryz.prog 28 #[.int .i64 tk] w fun e w' => e = .returned (.int .i64 3) ∧ w' = w) := HL
    clear HL
    have HL := HL2
    clear HL2
    go_enter Tryz.func14, Tryz.ntmps14
    go_wp2_with (go_at_call 28; refine (HL.out _).mono ?_; rintro e w2 ⟨rfl, hw2⟩; have hw3 := hw2.symm; subst hw3)
    generalize w.alloc (.cells #[.int .i64 tk, .int .i64 tn, .string ts, .slice (some ⟨b, o, none⟩) 2 cap] 24) = w1 at *
    have HD : Hid (Below w1.heap.size w1 w1.drew) := Below.drew (Below.refl _ _)
    obtain ⟨p0, p1, p2, p3, p4⟩ := HC0.out _ (Below.refl _ _)
    obtain ⟨k0, k1, k2, k3, k4, k5, k6, k7⟩ := HX0.out _ HA0.out
    go_region_held3 (fun w' => w'.cell? ⟨w.heap.size, 0, none⟩ = some (.int .i64 tk) ∧ w'.cell? ⟨w.heap.size, 3, none⟩ = some (.slice (some ⟨b, o, none⟩) 2 cap) ∧ w'.cell? ⟨b, o, none⟩ = some (.int .i64 xk) ∧ w'.cell? ⟨b, o + 1, none⟩ = some (.int .i64 xn) ∧ w'.cell? ⟨b, o + 2, none⟩ = some (.string xs) ∧ w'.cell? ⟨b, o + 3, none⟩ = some (.slice xa xl xc) ∧ w'.cell? ⟨b, o + 4, none⟩ = some (.int .i64 yk) ∧ w'.cell? ⟨b, o + 4 + 1, none⟩ = some (.int .i64 yn) ∧ w'.cell? ⟨b, o + 4 + 2, none⟩ = some (.string ys) ∧ w'.cell? ⟨b, o + 4 + 3, none⟩ = some (.slice ya yl yc)) (first | exact ⟨p0, p3, k0, k1, k2, k3, k4, k5, k6, k7⟩ | go_keep) (first
      | (go_at_call 27; have := M2; refine (HY.out _ (HA0.out.trans (M2.out.mono HA0.out.size))).mono ?_; rintro e w6 ⟨rfl, HB⟩; have M3 : Hid (Below w1.heap.size w1 w6) := M2.out.trans (HB.mono M2.out.size); obtain ⟨p0, p1, p2, p3, p4⟩ := HC0.out _ M3.out; obtain ⟨k0, k1, k2, k3, k4, k5, k6, k7⟩ := HX0.out _ (HA0.out.trans (M3.out.mono HA0.out.size)); clear HB M2)
      | (go_at_call 29; have := M1; refine (HS.out _).mono ?_; rintro e w5 ⟨rfl, HB⟩; have M2 : Hid (Below w1.heap.size w1 w5) := M1.out.trans (HB.mono M1.out.size); obtain ⟨p0, p1, p2, p3, p4⟩ := HC0.out _ M2.out; obtain ⟨k0, k1, k2, k3, k4, k5, k6, k7⟩ := HX0.out _ (HA0.out.trans (M2.out.mono HA0.out.size)); clear HB M1)
      | (go_at_call 27; refine (HX.out _ (HA0.out.trans (HD.out.mono HA0.out.size))).mono ?_; rintro e w4 ⟨rfl, HB⟩; have M1 : Hid (Below w1.heap.size w1 w4) := HD.out.trans (HB.mono HD.out.size); obtain ⟨p0, p1, p2, p3, p4⟩ := HC0.out _ M1.out; obtain ⟨k0, k1, k2, k3, k4, k5, k6, k7⟩ := HX0.out _ (HA0.out.trans (M1.out.mono HA0.out.size)); clear HB))
    all_goals
      (go_wp2
       go_ret
       exact ⟨rfl, HA0.out.trans (M3.out.mono HA0.out.size)⟩)
end
section
open Go.RowKit
set_option linter.unusedVariables false

set_option maxRecDepth 100000 in
set_option maxHeartbeats 800000 in
theorem rtext_leaf (tk tn : Int) (nm : Bs) (a : Option Addr) (l c : Nat) (w : World) (x : Bs) (hk : (tk = 1 ∧ 0 ≤ tn ∧ tn ≤ 9223372036854775807 ∧ x = Lib.itoa tn) ∨ (tk = 2 ∧ x = nm) ∨ (tk = 3 ∧ x = yesB) ∨ (tk = 4 ∧ x = noB)) :
    Calls Tryz.prog 14 #[.agg #[.int .i64 tk, .int .i64 tn, .string (ba nm), .slice a l c]] w fun e w' => e = .returned (.string (ba x)) ∧ Below w.heap.size w w' := by
  rcases hk with ⟨rfl, h0, h1, rfl⟩ | ⟨rfl, rfl⟩ | ⟨rfl, rfl⟩ | ⟨rfl, rfl⟩
  · obtain ⟨n, rfl⟩ : ∃ n : Nat, tn = n := ⟨tn.toNat, by omega⟩
    have HN : Hid (∀ w, Calls Tryz.prog 26 #[.int .i64 n] w fun e w' => e = .returned (.string (ba (Lib.itoa n))) ∧ Below w.heap.size w w') := fun w => dnum_any n (by omega) w
    generalize ba (Lib.itoa n) = z at *
    generalize ba nm = s at *
    go_enter Tryz.func14, Tryz.ntmps14
    go_wp2_with (go_at_call 26; refine (HN.out _).mono ?_; rintro e w1 ⟨rfl, HB⟩; have HB1 : Hid (Below w.heap.size w w1) := ((Below.refl _ _).alloc (Nat.le_refl _) _).trans (HB.mono (le_alloc _ _)); clear HB)
    go_ret
    exact ⟨rfl, HB1.out⟩
  · generalize ba x = s at *
    go_enter Tryz.func14, Tryz.ntmps14
    go_wp2
    go_ret
    exact ⟨rfl, (Below.refl _ _).alloc (Nat.le_refl _) _⟩
  · generalize ba nm = s at *
    go_enter Tryz.func14, Tryz.ntmps14
    go_wp2
    go_ret
    exact ⟨rfl, (Below.refl _ _).alloc (Nat.le_refl _) _⟩
  · generalize ba nm = s at *
    go_enter Tryz.func14, Tryz.ntmps14
    go_wp2
    go_ret
    exact ⟨rfl, (Below.refl _ _).alloc (Nat.le_refl _) _⟩
set_option maxRecDepth 100000 in
set_option maxHeartbeats 800000 in
theorem rtext_one (tk tn : Int) (h5 : tk = 5 ∨ tk = 6) (ts : ByteArray) (xk xn : Int) (xs : ByteArray) (xa : Option Addr) (xl xc : Nat) (b o cap : Nat) (hcap : 1 ≤ cap) (w : World)
    (c0 : w.cell? ⟨b, o, none⟩ = some (.int .i64 xk)) (c1 : w.cell? ⟨b, o + 1, none⟩ = some (.int .i64 xn)) (c2 : w.cell? ⟨b, o + 2, none⟩ = some (.string xs)) (c3 : w.cell? ⟨b, o + 3, none⟩ = some (.slice xa xl xc)) (x : Bs) (hx : x.length ≤ 3000002)
    (HX : Hid (∀ w', Below w.heap.size w w' → Calls Tryz.prog 27 #[.agg #[.int .i64 xk, .int .i64 xn, .string xs, .slice xa xl xc], .int .i64 6] w' fun e w'' => e = .returned (.string (ba x)) ∧ Below w'.heap.size w' w'')) :
    Calls Tryz.prog 14 #[.agg #[.int .i64 tk, .int .i64 tn, .string ts, .slice (some ⟨b, o, none⟩) 1 cap]] w fun e w' => e = .returned (.string (ba (signB tk :: x))) ∧ Below w.heap.size w w' := by
  have hbl : b < w.heap.size := World.block_lt_of_cell? w _ c0
  have s0 : (ba x).size ≤ 3000002 := by rw [ba_size]; exact hx
  rcases h5 with rfl | rfl
  · have e1 : (⟨#[45]⟩ : ByteArray) ++ ba x = ba (signB 5 :: x) := ba_add [45] x
    generalize ba (signB 5 :: x) = z1 at *
    generalize ba x = z0 at *
    go_enter Tryz.func14, Tryz.ntmps14
    go_wp2_with (go_at_call 27; refine (HX.out _ ((Below.refl _ _).alloc (Nat.le_refl _) _)).mono ?_; rintro e w1 ⟨rfl, HB⟩; have HB1 : Hid (Below w.heap.size w w1) := ((Below.refl _ _).alloc (Nat.le_refl _) _).trans (HB.mono (le_alloc _ _)); clear HB)
    go_ret
    exact ⟨rfl, HB1.out⟩
  · have e1 : (⟨#[33]⟩ : ByteArray) ++ ba x = ba (signB 6 :: x) := ba_add [33] x
    generalize ba (signB 6 :: x) = z1 at *
    generalize ba x = z0 at *
    go_enter Tryz.func14, Tryz.ntmps14
    go_wp2_with (go_at_call 27; refine (HX.out _ ((Below.refl _ _).alloc (Nat.le_refl _) _)).mono ?_; rintro e w1 ⟨rfl, HB⟩; have HB1 : Hid (Below w.heap.size w w1) := ((Below.refl _ _).alloc (Nat.le_refl _) _).trans (HB.mono (le_alloc _ _)); clear HB)
    go_ret
    exact ⟨rfl, HB1.out⟩
theorem rtexts_zero : RTexts 0 := fun P t v w h => by cases h
theorem kidsK_leaf {k : Int} (h1 : 1 ≤ k) (h : k ≤ 4) : kidsK k = 0 := by unfold kidsK; repeat' split
                                                                          all_goals omega
theorem kidsK_one {k : Int} (h : k = 5 ∨ k = 6) : kidsK k = 1 := by unfold kidsK; repeat' split
                                                                    all_goals omega
theorem kidsK_two {k : Int} (h : 7 ≤ k) : kidsK k = 2 := by unfold kidsK; repeat' split
                                                            all_goals omega
theorem rtexts_succ (d : Nat) (hd : d ≤ 15) (ih : RTexts d) : RTexts (d + 1) := by
  intro P t v w hck hT
  obtain ⟨a, cap, rfl, hcap, hk, hn, hnm, hlen, hkids⟩ := hT.opened
  obtain ⟨hf, hkd⟩ := check_parts hck
  have hw := rwraps_of (d := d) (by omega) ih
  have hp : 2 ^ d ≤ 32768 := Nat.pow_le_pow_right (n := 2) (by decide) hd
  have hlo := hf.lo
  have hhi := hf.hi
  rw [textT_eq]
  by_cases h4 : t.kind ≤ 4
  · refine rtext_leaf t.kind t.n t.name a _ _ w _ ?_
    unfold nodeT
    by_cases k1 : t.kind = 1
    · rw [if_pos k1]; exact .inl ⟨k1, hf.n0, hn.2, rfl⟩
    · rw [if_neg k1]
      by_cases k2 : t.kind = 2
      · rw [if_pos k2]; exact .inr (.inl ⟨k2, rfl⟩)
      · rw [if_neg k2]
        by_cases k3 : t.kind = 3
        · rw [if_pos k3]; exact .inr (.inr (.inl ⟨k3, rfl⟩))
        · have k4 : t.kind = 4 := by omega
          rw [if_neg k3, if_pos k4]; exact .inr (.inr (.inr ⟨k4, rfl⟩))
  · have e0 : ∀ i, i < t.kids.length → (textT.textsT t.kids).getD i (0, []) = ((t.kids.getD i zeroT).kind, textT (t.kids.getD i zeroT)) := fun i hi => textsT_at _ i hi
    unfold nodeT
    rw [if_neg (by omega), if_neg (by omega), if_neg (by omega), if_neg (by omega)]
    by_cases h5 : t.kind = 5 ∨ t.kind = 6
    · rw [if_pos h5]
      have hl : t.kids.length = 1 := hf.kids.trans (kidsK_one h5)
      rw [e0 0 (by omega)]
      dsimp only
      obtain ⟨b, o, ka, kc, hK⟩ := hkids 0 (by omega)
      rw [hl] at hcap ⊢
      have h0 := hkd 0 (by omega)
      generalize t.kids.getD 0 zeroT = x at *
      obtain ⟨rfl, c0, c1, c2, c3, ht⟩ := hK
      rw [show o + 0 * 4 = o from by omega] at c0 c1 c2 c3
      have hln := text_len d x _ ht h0
      have hwl := wrap_len 6 x.kind (textT x)
      exact rtext_one t.kind t.n h5 (ba t.name) _ _ _ _ _ _ b o cap hcap w c0 c1 c2 c3 _ (by omega) (fun w' hb => hw P x _ 6 w' h0 (ht.below hb))
    · rw [if_neg h5]
      have hl : t.kids.length = 2 := hf.kids.trans (kidsK_two (by omega))
      rw [e0 0 (by omega), e0 1 (by omega)]
      dsimp only
      obtain ⟨b, o, ka, kc, hK⟩ := hkids 0 (by omega)
      obtain ⟨b2, o2, ka2, kc2, hK2⟩ := hkids 1 (by omega)
      rw [hl] at hcap ⊢
      have h0 := hkd 0 (by omega)
      have h1 := hkd 1 (by omega)
      generalize t.kids.getD 0 zeroT = x at *
      generalize t.kids.getD 1 zeroT = y at *
      have e := hK2.ad
      rw [hK.ad] at e
      simp only [Option.some.injEq, Addr.mk.injEq, and_true] at e
      obtain ⟨rfl, rfl⟩ := e
      obtain ⟨rfl, c0, c1, c2, c3, ht⟩ := hK
      obtain ⟨_, c4, c5, c6, c7, ht2⟩ := hK2
      rw [show o + 0 * 4 = o from by omega] at c0 c1 c2 c3
      rw [show o + 1 * 4 = o + 4 from by omega] at c4 c5 c6 c7
      have hln := text_len d x _ ht h0
      have hln2 := text_len d y _ ht2 h1
      have hwl := wrap_len (leftK t.kind) x.kind (textT x)
      have hwl2 := wrap_len (rowK t.kind + 1) y.kind (textT y)
      have hr6 : rowK t.kind ≤ 6 := by unfold rowK; repeat' split
                                       all_goals omega
      refine rtext_two t.kind t.n (by omega) hhi (rowK t.kind) hr6 rfl (leftK t.kind : Nat) ?_ (ba t.name) _ _ _ _ _ _ _ _ _ _ _ _ b o cap hcap w ⟨c0, c1, c2, c3, c4, c5, c6, c7⟩ _ _ (by omega) (by omega) (fun w' hb => hw P x _ _ w' h0 (ht.below hb)) (fun w' hb => ?_)
      · unfold leftK
        by_cases h3 : rowK t.kind = 3
        · rw [if_pos h3]; exact .inr ⟨h3, rfl⟩
        · rw [if_neg h3]; exact .inl ⟨h3, rfl⟩
      · have := hw P y _ (rowK t.kind + 1) w' h1 (ht2.below hb)
        exact this
theorem rtexts_any : ∀ d, d ≤ 16 → RTexts d
  | 0, _ => rtexts_zero
  | d + 1, h => rtexts_succ d (by omega) (rtexts_any d (by omega))
end
section
open Go.RowKit
set_option linter.unusedVariables false

theorem rparse_all (s : ByteArray) (hm : s.size ≤ maxLen) (w : World) : Calls Tryz.prog 15 #[.string s] w (PPost w (parseM s)) := by
  by_cases hs : s.size ≤ 4096
  · have hwd : ∀ x ∈ (lexOut s).ws, Wd x := by
      unfold lexOut
      rw [if_pos hs]
      exact fun x hx => (sp_wd _ _ x hx).1
    exact rparse_any s hs hm hwd (scan_any _ (fun x hx => (lex_ok s x hx).1) s.size hs) w
  · have he : (lexOut s).err ≠ 0 := by unfold lexOut; rw [if_neg hs]; decide
    unfold parseM parseO
    rw [if_pos he]
    exact rparse_fault s _ he w fun w => rsplit_any s hm w
set_option maxRecDepth 100000 in
set_option maxHeartbeats 1000000 in
theorem rprint_bad (P : Nat → Prop) (t : Tr) (k n : Int) (s : ByteArray) (a : Option Addr) (l c : Nat) (w : World) (HT : Hid (Tre w P (.agg #[.int .i64 k, .int .i64 n, .string s, .slice a l c]) t)) (hck : ¬ checkM 16 t = 0) :
    Calls Tryz.prog 7 #[.agg #[.int .i64 k, .int .i64 n, .string s, .slice a l c]] w (PrP w t) := by
  have HC : Hid (∀ w, Tre w P (.agg #[.int .i64 k, .int .i64 n, .string s, .slice a l c]) t → Calls Tryz.prog 9 #[.agg #[.int .i64 k, .int .i64 n, .string s, .slice a l c]] w fun e w' => e = .returned (.int .i64 (checkM 16 t)) ∧ Below w.heap.size w w') := fun w h => RCheck_any P t k n s a l c w h
  have HR : Hid (PrintR t [] (checkM 16 t)) := .inl ⟨hck, rfl, rfl⟩
  have h2 : ((checkM 16 t : Int) != 0) = true := by simp; omega
  clear hck
  generalize checkM 16 t = ck at *
  go_enter Tryz.func7, Tryz.ntmps7
  go_wp2_with (go_at_call 9; refine (HC.out _ (HT.out.alloc _)).mono ?_; rintro e w1 ⟨rfl, HB⟩; have HB1 : Hid (Below w.heap.size w w1) := ((Below.refl _ _).alloc (Nat.le_refl _) _).trans (HB.mono (le_alloc _ _)); clear HB)
  go_ret2
  exact ⟨⟨[], ck, rfl, HR.out⟩, HB1.out⟩
set_option maxRecDepth 100000 in
set_option maxHeartbeats 1000000 in
theorem rprint_good (P : Nat → Prop) (t : Tr) (k n : Int) (s : ByteArray) (a : Option Addr) (l c : Nat) (w : World) (HT : Hid (Tre w P (.agg #[.int .i64 k, .int .i64 n, .string s, .slice a l c]) t)) (hck : checkM 16 t = 0) :
    Calls Tryz.prog 7 #[.agg #[.int .i64 k, .int .i64 n, .string s, .slice a l c]] w (PrP w t) := by
  have HC : Hid (∀ w, Tre w P (.agg #[.int .i64 k, .int .i64 n, .string s, .slice a l c]) t → Calls Tryz.prog 9 #[.agg #[.int .i64 k, .int .i64 n, .string s, .slice a l c]] w fun e w' => e = .returned (.int .i64 0) ∧ Below w.heap.size w w') := fun w h => by
    have := RCheck_any P t k n s a l c w h
    rw [hck] at this
    exact this
  have hlen : (textT t).length ≤ 2555904 := by have := text_len 16 t _ HT.out hck; omega
  have HP : Hid (∀ w, Tre w P (.agg #[.int .i64 k, .int .i64 n, .string s, .slice a l c]) t → Calls Tryz.prog 14 #[.agg #[.int .i64 k, .int .i64 n, .string s, .slice a l c]] w fun e w' => e = .returned (.string (ba (textT t))) ∧ Below w.heap.size w w') := fun w h => rtexts_any 16 (Nat.le_refl _) P t _ w hck h
  have HQ : Hid (∀ w, Calls Tryz.prog 15 #[.string (ba (textT t))] w (PPost w (parseM (ba (textT t))))) := fun w => rparse_all _ (by rw [ba_size]; unfold maxLen; omega) w
  have HR1 : Hid ((parseM (ba (textT t))).err ≠ 0 → PrintR t [] 6) := fun h => .inr (.inl ⟨hck, .inl h, rfl, rfl⟩)
  have HR2 : Hid ((parseM (ba (textT t))).t ≠ t → PrintR t [] 6) := fun h => .inr (.inl ⟨hck, .inr h, rfl, rfl⟩)
  have HR3 : Hid ((parseM (ba (textT t))).err = 0 → (parseM (ba (textT t))).t = t → PrintR t (textT t) 0) := fun h1 h2 => .inr (.inr ⟨hck, h1, h2, rfl, rfl⟩)
  clear hck hlen
  generalize parseM (ba (textT t)) = q at *
  generalize textT t = tx at *
  obtain ⟨qt, qe, qp⟩ := q
  by_cases he : qe = 0
  · subst he
    by_cases ht : qt = t
    · subst ht
      have HRR : Hid (PrintR qt tx 0) := HR3.out rfl rfl
      have HS : Hid (∀ k2 n2 s2 a2 l2 c2 w P2, Tre w P2 (.agg #[.int .i64 k2, .int .i64 n2, .string s2, .slice a2 l2 c2]) qt → Tre w P (.agg #[.int .i64 k, .int .i64 n, .string s, .slice a l c]) qt → Calls Tryz.prog 16 #[.agg #[.int .i64 k, .int .i64 n, .string s, .slice a l c], .agg #[.int .i64 k2, .int .i64 n2, .string s2, .slice a2 l2 c2]] w fun e w' => e = .returned (.bool true) ∧ Below w.heap.size w w') := fun k2 n2 s2 a2 l2 c2 w P2 h1 h2 => (rsame_any qt P P2 qt _ _ w h2 h1).mono fun e w' h => ⟨h.1.of_yes rfl, h.2⟩
      clear HR1 HR2 HR3
      go_enter Tryz.func7, Tryz.ntmps7
      go_wp2_with (first
        | (go_at_call 16; have := HM3; refine (HS.out _ _ _ _ _ _ _ _ ((HM3.out.2.1.alloc _).alloc _) ((HM3.out.2.2.alloc _).alloc _)).mono ?_; rintro e w6 ⟨rfl, HB⟩; have HB6 : Hid (Below w.heap.size w w6) := ((HM3.out.1.alloc HM3.out.1.size _).alloc (Nat.le_trans HM3.out.1.size (le_alloc _ _)) _).trans (HB.mono (Nat.le_trans HM3.out.1.size (Nat.le_trans (le_alloc _ _) (le_alloc _ _)))); clear HB HM3)
        | (go_at_call 15; have := HM2; refine (HQ.out _).mono ?_; rintro e w5 ⟨⟨tk, tn, ts, ta, tl, tc, rfl, HT5⟩, HB⟩; have HM3 : Hid (Below w.heap.size w w5 ∧ Tre w5 (fun g => w4.heap.size ≤ g) (.agg #[.int .i64 tk, .int .i64 tn, .string ts, .slice ta tl tc]) qt ∧ Tre w5 P (.agg #[.int .i64 k, .int .i64 n, .string s, .slice a l c]) qt) := ⟨HM2.out.1.trans (HB.mono HM2.out.1.size), HT5, HM2.out.2.1.below HB⟩; obtain ⟨r0, r1, r2, r3, r4⟩ := HM2.out.2.2.below HB; have hlt : w.heap.size < w5.heap.size := (HM2.out.2.2.below HB).lt; clear HB HT5 HM2)
        | (go_at_call 14; have := HM1; refine (HP.out _ HM1.out.2.1).mono ?_; rintro e w4 ⟨rfl, HB⟩; have HM2 : Hid (Below w.heap.size w w4 ∧ Tre w4 P (.agg #[.int .i64 k, .int .i64 n, .string s, .slice a l c]) qt ∧ Cell4 w4 w.heap.size (.int .i64 k) (.int .i64 n) (.string s) (.slice a l c)) := ⟨HM1.out.1.trans (HB.mono HM1.out.1.size), HM1.out.2.1.below HB, HM1.out.2.2.below HB⟩; clear HB HM1)
        | (go_at_call 9; refine (HC.out _ (HT.out.alloc _)).mono ?_; rintro e w3 ⟨rfl, HB⟩; have HM1 : Hid (Below w.heap.size w w3 ∧ Tre w3 P (.agg #[.int .i64 k, .int .i64 n, .string s, .slice a l c]) qt ∧ Cell4 w3 w.heap.size (.int .i64 k) (.int .i64 n) (.string s) (.slice a l c)) := ⟨((Below.refl _ _).alloc (Nat.le_refl _) _).trans (HB.mono (le_alloc _ _)), (HT.out.alloc _).below HB, (Cell4.new w (.int .i64 k) (.int .i64 n) (.string s) (.slice a l c) 24).below HB⟩; obtain ⟨q0, q1, q2, q3, q4⟩ := HM1.out.2.2; clear HB))
      go_ret2
      exact ⟨⟨tx, 0, rfl, HRR.out⟩, HB6.out⟩
    · have HRR : Hid (PrintR t [] 6) := HR2.out ht
      have HS : Hid (∀ k2 n2 s2 a2 l2 c2 w P2, Tre w P2 (.agg #[.int .i64 k2, .int .i64 n2, .string s2, .slice a2 l2 c2]) qt → Tre w P (.agg #[.int .i64 k, .int .i64 n, .string s, .slice a l c]) t → Calls Tryz.prog 16 #[.agg #[.int .i64 k, .int .i64 n, .string s, .slice a l c], .agg #[.int .i64 k2, .int .i64 n2, .string s2, .slice a2 l2 c2]] w fun e w' => e = .returned (.bool false) ∧ Below w.heap.size w w') := fun k2 n2 s2 a2 l2 c2 w P2 h1 h2 => (rsame_any t P P2 qt _ _ w h2 h1).mono fun e w' h => ⟨h.1.of_no (fun e => ht e.symm), h.2⟩
      clear HR1 HR2 HR3
      go_enter Tryz.func7, Tryz.ntmps7
      go_wp2_with (first
        | (go_at_call 16; have := HM3; refine (HS.out _ _ _ _ _ _ _ _ ((HM3.out.2.1.alloc _).alloc _) ((HM3.out.2.2.alloc _).alloc _)).mono ?_; rintro e w6 ⟨rfl, HB⟩; have HB6 : Hid (Below w.heap.size w w6) := ((HM3.out.1.alloc HM3.out.1.size _).alloc (Nat.le_trans HM3.out.1.size (le_alloc _ _)) _).trans (HB.mono (Nat.le_trans HM3.out.1.size (Nat.le_trans (le_alloc _ _) (le_alloc _ _)))); clear HB HM3)
        | (go_at_call 15; have := HM2; refine (HQ.out _).mono ?_; rintro e w5 ⟨⟨tk, tn, ts, ta, tl, tc, rfl, HT5⟩, HB⟩; have HM3 : Hid (Below w.heap.size w w5 ∧ Tre w5 (fun g => w4.heap.size ≤ g) (.agg #[.int .i64 tk, .int .i64 tn, .string ts, .slice ta tl tc]) qt ∧ Tre w5 P (.agg #[.int .i64 k, .int .i64 n, .string s, .slice a l c]) t) := ⟨HM2.out.1.trans (HB.mono HM2.out.1.size), HT5, HM2.out.2.1.below HB⟩; obtain ⟨r0, r1, r2, r3, r4⟩ := HM2.out.2.2.below HB; have hlt : w.heap.size < w5.heap.size := (HM2.out.2.2.below HB).lt; clear HB HT5 HM2)
        | (go_at_call 14; have := HM1; refine (HP.out _ HM1.out.2.1).mono ?_; rintro e w4 ⟨rfl, HB⟩; have HM2 : Hid (Below w.heap.size w w4 ∧ Tre w4 P (.agg #[.int .i64 k, .int .i64 n, .string s, .slice a l c]) t ∧ Cell4 w4 w.heap.size (.int .i64 k) (.int .i64 n) (.string s) (.slice a l c)) := ⟨HM1.out.1.trans (HB.mono HM1.out.1.size), HM1.out.2.1.below HB, HM1.out.2.2.below HB⟩; clear HB HM1)
        | (go_at_call 9; refine (HC.out _ (HT.out.alloc _)).mono ?_; rintro e w3 ⟨rfl, HB⟩; have HM1 : Hid (Below w.heap.size w w3 ∧ Tre w3 P (.agg #[.int .i64 k, .int .i64 n, .string s, .slice a l c]) t ∧ Cell4 w3 w.heap.size (.int .i64 k) (.int .i64 n) (.string s) (.slice a l c)) := ⟨((Below.refl _ _).alloc (Nat.le_refl _) _).trans (HB.mono (le_alloc _ _)), (HT.out.alloc _).below HB, (Cell4.new w (.int .i64 k) (.int .i64 n) (.string s) (.slice a l c) 24).below HB⟩; obtain ⟨q0, q1, q2, q3, q4⟩ := HM1.out.2.2; clear HB))
      go_ret2
      exact ⟨⟨[], 6, rfl, HRR.out⟩, HB6.out⟩
  · have HRR : Hid (PrintR t [] 6) := HR1.out he
    have he2 : ((qe : Int) != 0) = true := by simp; omega
    clear HR1 HR2 HR3
    go_enter Tryz.func7, Tryz.ntmps7
    go_wp2_with (first
      | (go_at_call 15; have := HM2; refine (HQ.out _).mono ?_; rintro e w5 ⟨⟨tk, tn, ts, ta, tl, tc, rfl, HT5⟩, HB⟩; have HB5 : Hid (Below w.heap.size w w5) := HM2.out.trans (HB.mono HM2.out.size); clear HB HT5 HM2)
      | (go_at_call 14; have := HM1; refine (HP.out _ HM1.out.2).mono ?_; rintro e w4 ⟨rfl, HB⟩; have HM2 : Hid (Below w.heap.size w w4) := HM1.out.1.trans (HB.mono HM1.out.1.size); clear HB HM1)
      | (go_at_call 9; refine (HC.out _ (HT.out.alloc _)).mono ?_; rintro e w3 ⟨rfl, HB⟩; have HM1 : Hid (Below w.heap.size w w3 ∧ Tre w3 P (.agg #[.int .i64 k, .int .i64 n, .string s, .slice a l c]) t) := ⟨((Below.refl _ _).alloc (Nat.le_refl _) _).trans (HB.mono (le_alloc _ _)), (HT.out.alloc _).below HB⟩; obtain ⟨q0, q1, q2, q3, q4⟩ := (Cell4.new w (.int .i64 k) (.int .i64 n) (.string s) (.slice a l c) 24).below HB; clear HB))
    go_ret2
    exact ⟨⟨[], 6, rfl, HRR.out⟩, (HB5.out.alloc HB5.out.size _).alloc (Nat.le_trans HB5.out.size (le_alloc _ _)) _⟩
theorem rprint_any (P : Nat → Prop) (t : Tr) (v : Value) (w : World) (hT : Tre w P v t) : Calls Tryz.prog 7 #[v] w (PrP w t) := by
  obtain ⟨a, c, rfl⟩ := hT.four
  by_cases h : checkM 16 t = 0
  · exact rprint_good P t _ _ _ a _ c w hT h
  · exact rprint_bad P t _ _ _ a _ c w hT h
end
section
open Go.RowKit
set_option linter.unusedVariables false

set_option maxRecDepth 100000 in
set_option maxHeartbeats 1600000 in
theorem prints_walk (t : Tr) (k1 n1 : Int) (s1 : ByteArray) (a1 : Option Addr) (l1 c1 : Nat) (w : World) (P : Nat → Prop)
    (HT1 : Hid (Tre w P (.agg #[.int .i64 k1, .int .i64 n1, .string s1, .slice a1 l1 c1]) t)) (HD : Hid (Ready w)) :
    Calls Tryz.prog 3 #[.agg #[.int .i64 k1, .int .i64 n1, .string s1, .slice a1 l1 c1]] w fun e w' => e = .returned (.bool true) ∧ Below w.heap.size w w' := by
  obtain ⟨sx, x, HPR⟩ : ∃ sx x, Hid (PrintR t sx x) := by
    by_cases h1 : checkM 16 t = 0
    · by_cases h2 : (parseM (ba (textT t))).err = 0 ∧ (parseM (ba (textT t))).t = t
      · exact ⟨_, _, .inr (.inr ⟨h1, h2.1, h2.2, rfl, rfl⟩)⟩
      · exact ⟨_, _, .inr (.inl ⟨h1, by rcases Classical.em ((parseM (ba (textT t))).err = 0) with h | h; exact .inr fun e => h2 ⟨h, e⟩; exact .inl h, rfl, rfl⟩)⟩
    · exact ⟨_, _, .inl ⟨h1, rfl, rfl⟩⟩
  have huniq : ∀ s' x', PrintR t s' x' → s' = sx ∧ x' = x := fun s' x' h => by
    rcases HPR.out with ⟨a1, a2, a3⟩ | ⟨a1, a2, a3, a4⟩ | ⟨a1, a2, a3, a4, a5⟩ <;> rcases h with ⟨b1, b2, b3⟩ | ⟨b1, b2, b3, b4⟩ | ⟨b1, b2, b3, b4, b5⟩
    · exact ⟨b2.trans a2.symm, b3.trans a3.symm⟩
    · exact absurd b1 a1
    · exact absurd b1 a1
    · exact absurd a1 b1
    · exact ⟨b3.trans a3.symm, b4.trans a4.symm⟩
    · rcases a2 with h | h
      · exact absurd b2 h
      · exact absurd b3 h
    · exact absurd a1 b1
    · rcases b2 with h | h
      · exact absurd a2 h
      · exact absurd a3 h
    · exact ⟨b4.trans a4.symm, b5.trans a5.symm⟩
  have C6 : Hid (∀ w, Ready w → Tre w P (.agg #[.int .i64 k1, .int .i64 n1, .string s1, .slice a1 l1 c1]) t → Calls Tryz.prog 6 #[.agg #[.int .i64 k1, .int .i64 n1, .string s1, .slice a1 l1 c1]] w fun e w' => e = .returned (.tuple #[.string (ba sx), .int .i64 (x : Nat)]) ∧ Below w.heap.size w w') := fun w h1 h2 => (print_any P t _ w h2 h1).mono fun e w' h => by
    obtain ⟨⟨s', x', rfl, hr⟩, hb⟩ := h
    obtain ⟨rfl, rfl⟩ := huniq s' x' hr
    exact ⟨rfl, hb⟩
  have C7 : Hid (∀ w, Tre w P (.agg #[.int .i64 k1, .int .i64 n1, .string s1, .slice a1 l1 c1]) t → Calls Tryz.prog 7 #[.agg #[.int .i64 k1, .int .i64 n1, .string s1, .slice a1 l1 c1]] w fun e w' => e = .returned (.tuple #[.string (ba sx), .int .i64 (x : Nat)]) ∧ Below w.heap.size w w') := fun w h2 => (rprint_any P t _ w h2).mono fun e w' h => by
    obtain ⟨⟨s', x', rfl, hr⟩, hb⟩ := h
    obtain ⟨rfl, rfl⟩ := huniq s' x' hr
    exact ⟨rfl, hb⟩
  have C8 : Hid (∀ w, Tre w P (.agg #[.int .i64 k1, .int .i64 n1, .string s1, .slice a1 l1 c1]) t → Calls Tryz.prog 8 #[.agg #[.int .i64 k1, .int .i64 n1, .string s1, .slice a1 l1 c1]] w fun e w' => e = .returned (.int .i64 (checkM 16 t)) ∧ Below w.heap.size w w') := fun w h => Check_any P t _ _ _ _ _ _ w h
  have C9 : Hid (∀ w, Tre w P (.agg #[.int .i64 k1, .int .i64 n1, .string s1, .slice a1 l1 c1]) t → Calls Tryz.prog 9 #[.agg #[.int .i64 k1, .int .i64 n1, .string s1, .slice a1 l1 c1]] w fun e w' => e = .returned (.int .i64 (checkM 16 t)) ∧ Below w.heap.size w w') := fun w h => RCheck_any P t _ _ _ _ _ _ w h
  have C5 : Hid (∀ w, Ready w → Calls Tryz.prog 5 #[] w fun e w' => e = .returned (.bool true) ∧ Below w.heap.size w w') := fun w h => works_any w h
  have L1 : Hid (∀ w, Tre w P (.agg #[.int .i64 k1, .int .i64 n1, .string s1, .slice a1 l1 c1]) t → Calls Tryz.prog 4 #[.agg #[.int .i64 k1, .int .i64 n1, .string s1, .slice a1 l1 c1]] w (Truth w)) := fun w h => light_any P t _ _ _ _ _ _ w h
  clear huniq HPR
  generalize checkM 16 t = ck at *
  generalize ba sx = bs at *
  have HX : Hid (∀ w', Below (w.alloc (.cells #[.int .i64 k1, .int .i64 n1, .string s1, .slice a1 l1 c1] 24)).heap.size (w.alloc (.cells #[.int .i64 k1, .int .i64 n1, .string s1, .slice a1 l1 c1] 24)) w' →
      Tre w' P (.agg #[.int .i64 k1, .int .i64 n1, .string s1, .slice a1 l1 c1]) t ∧ Ready w' ∧ Cell4 w' w.heap.size (.int .i64 k1) (.int .i64 n1) (.string s1) (.slice a1 l1 c1) ∧ Below w.heap.size w w') := fun w' hB =>
    ⟨(HT1.out.alloc _).below hB, (HD.out.alloc _).below hB, (Cell4.new w _ _ _ _ 24).below hB, ((Below.refl _ _).alloc (Nat.le_refl _) _).trans (hB.mono (le_alloc _ _))⟩
  go_enter Tryz.func3, Tryz.ntmps3
  go_wp2_with fail
  generalize w.alloc (.cells #[.int .i64 k1, .int .i64 n1, .string s1, .slice a1 l1 c1] 24) = w0 at *
  have HS : Hid (Below w0.heap.size w0 w0) := Below.refl _ _
  go_wp2_with (go_at_call 4; refine (L1.out _ (HX.out _ HS.out).1).mono ?_; rintro e w1 ⟨bb, rfl, HB⟩; have HS2 : Hid (Below w0.heap.size w0 w1) := HS.out.trans (HB.mono HS.out.size); obtain ⟨_, _, ⟨p0, p1, p2, p3, p4⟩, _⟩ := HX.out _ HS2.out; clear HB)
  all_goals first
    | (go_wp2_with (first
        | (go_at_call 7; have := HS3; refine (C7.out _ (HX.out _ HS3.out).1).mono ?_; rintro e w3 ⟨rfl, HB⟩; have HS4 : Hid (Below w0.heap.size w0 w3) := HS3.out.trans (HB.mono HS3.out.size); obtain ⟨_, _, ⟨p0, p1, p2, p3, p4⟩, _⟩ := HX.out _ HS4.out; clear HB HS3)
        | (go_at_call 6; refine (C6.out _ (HX.out _ HS2.out).2.1 (HX.out _ HS2.out).1).mono ?_; rintro e w2 ⟨rfl, HB⟩; have HS3 : Hid (Below w0.heap.size w0 w2) := HS2.out.trans (HB.mono HS2.out.size); obtain ⟨_, _, ⟨p0, p1, p2, p3, p4⟩, _⟩ := HX.out _ HS3.out; clear HB)
        | (go_at_call 5; refine (C5.out _ (HX.out _ HS2.out).2.1).mono ?_; rintro e w9 ⟨rfl, HB⟩; have HF : Hid (Below w0.heap.size w0 w9) := HS2.out.trans (HB.mono HS2.out.size); clear HB)))
  all_goals first
    | (have := HF; go_ret; exact ⟨rfl, (HX.out _ HF.out).2.2.2⟩)
    | skip
  have HD3 : Hid (Below w0.heap.size w0 w3.drew) := Below.drew HS4.out
  go_region_held3 (fun w' => w'.cell? ⟨w.heap.size, 0, none⟩ = some (.int .i64 k1) ∧ w'.cell? ⟨w.heap.size, 1, none⟩ = some (.int .i64 n1) ∧ w'.cell? ⟨w.heap.size, 2, none⟩ = some (.string s1) ∧ w'.cell? ⟨w.heap.size, 3, none⟩ = some (.slice a1 l1 c1)) (go_keep) (first
    | (go_at_call 5; have := M2; refine (C5.out _ (HX.out _ M2.out).2.1).mono ?_; rintro e w9 ⟨rfl, HB⟩; have HF : Hid (Below w0.heap.size w0 w9) := M2.out.trans (HB.mono M2.out.size); obtain ⟨_, _, ⟨p0, p1, p2, p3, p4⟩, _⟩ := HX.out _ HF.out; clear HB M2)
    | (go_at_call 9; have := M1; refine (C9.out _ (HX.out _ M1.out).1).mono ?_; rintro e w5 ⟨rfl, HB⟩; have M2 : Hid (Below w0.heap.size w0 w5) := M1.out.trans (HB.mono M1.out.size); obtain ⟨_, _, ⟨p0, p1, p2, p3, p4⟩, _⟩ := HX.out _ M2.out; clear HB M1)
    | (go_at_call 8; refine (C8.out _ (HX.out _ HD3.out).1).mono ?_; rintro e w4 ⟨rfl, HB⟩; have M1 : Hid (Below w0.heap.size w0 w4) := HD3.out.trans (HB.mono HD3.out.size); obtain ⟨_, _, ⟨p0, p1, p2, p3, p4⟩, _⟩ := HX.out _ M1.out; clear HB))
  all_goals
    (go_wp2
     go_ret
     exact ⟨rfl, (HX.out _ HF.out).2.2.2⟩)
end
end Go.Proofs.YtlfeejjlcclbdaaGreatDoor
