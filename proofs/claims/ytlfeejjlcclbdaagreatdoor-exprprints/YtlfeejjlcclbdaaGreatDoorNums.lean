/-
  A number's digits behind bytes: contracts with a sharp frame.
-/
import Derived.Test.YtlfeejjlcclbdaaGreatDoorRowb
import Derived.Test.YtlfeejjlcclbdaaGreatDoorLaid2
import Derived.Lib.ItoaWalk
import Derived.Lib.ItoaMem
import Derived.Lib.Walk
import Derived.Lib.BufferKept
import Derived.Lib.Hide
import Derived.Lib.Slices
import Derived.BigCall
import Derived.BigGuard
import Derived.CellFam
namespace Go.Proofs.YtlfeejjlcclbdaaGreatDoor
open Go.RowKit Go.Sort
set_option linter.unusedVariables false


theorem Ob.below {w w' : World} {B : Nat} {v : Value} {l : Bs} (h : Ob w B v l) (hb : Below w.heap.size w w') : Ob w' B v l := by
  refine ⟨h.1, ?_⟩
  rcases h.2 with h0 | ⟨g, cap, cur, h1, h2, h3, h4⟩
  · exact .inl h0
  · exact .inr ⟨g, cap, cur, h1, h2, (hb.block g (Array.getElem?_eq_some_iff.1 h3).1).trans h3, h4⟩
set_option maxRecDepth 100000 in
set_option maxHeartbeats 800000 in
theorem uint_small (B u : Nat) (hu : u < 100) (l : Bs) (vb : Value) (w : World) (hown : Ob w B vb l) (hB : B ≤ w.heap.size) (hl : l.length + (Lib.decDigits u).length ≤ 140737488355328) :
    Calls Tryz.prog 56 #[vb, .int .u64 u, .int .i64 10] w (PutP B w vb (l ++ Lib.decDigits u)) := by
  have HC : Hid (∀ w, Calls Tryz.prog 72 #[.int .i64 u] w fun e w' => e = .returned (.string (ba (Lib.decDigits u))) ∧ w' = w) := fun w => Tryz.internal_strconv_small u hu w
  have HO : Hid (Ob w B vb l) := hown
  have HL : Hid (l.length + (Lib.decDigits u).length ≤ 140737488355328) := hl
  clear hown hl
  generalize Lib.decDigits u = m at *
  go_enter Tryz.func56, Tryz.ntmps56
  go_wp2_with (first
    | (go_at_call 72; refine (HC.out _).mono ?_; rintro e w4 ⟨rfl, h4⟩; have h5 := h4.symm; clear h4; subst h5)
    | (at_builtin; refine wpList_str_ob rfl (.tmp 13) (.tmp 16) rfl B vb l m rfl HO.out rfl HL.out hB ?_; intro v1 w1 h1 h2; have H1 : Hid (Ob w1 B v1 (l ++ m) ∧ Gro vb w w1 v1) := ⟨h1, h2⟩; clear h1 h2))
  go_ret
  exact ⟨v1, rfl, H1.out⟩
set_option maxRecDepth 100000 in
set_option maxHeartbeats 1600000 in
theorem uint_big (B u : Nat) (hu : 100 ≤ u) (hu64 : u < 18446744073709551616) (l : Bs) (vb : Value) (w : World) (hown : Ob w B vb l) (hB : B ≤ w.heap.size) (hl : l.length + (Lib.decDigits u).length ≤ 140737488355328) (htab : Lib.TabIs Tryz.prog w "internal/strconv.uint64pow10" .u64 Lib.pow10Tab) :
    Calls Tryz.prog 56 #[vb, .int .u64 u, .int .i64 10] w (PutP B w vb (l ++ Lib.decDigits u)) := by
  have hu1 : 1 ≤ u := by omega
  have hnd20 : Lib.nDigits u ≤ 20 := by have := Lib.numDigits_eq u hu1 hu64; split at this <;> omega
  have hal : Tryz.prog.arrayLen 96 = 24 := by kernel_rfl
  have hsl : ∀ W, (Instr.sliceAt 96 (.pointer (some ⟨w.heap.size, 0, none⟩)) none (some (.int .i64 (Lib.nDigits u : Int))) none).run Tryz.prog W = .ok (.slice (some ⟨w.heap.size, 0, none⟩) (Lib.nDigits u) 24) W := fun W => by
    rw [run_sliceAt_array_h W 96 ⟨w.heap.size, 0, none⟩ (by simp [Program.arrayLen, Program.elem, Tryz.underlying96]) .i64 (Lib.nDigits u : Int) (by omega) (by rw [hal]; omega)]
    have he5 : Tryz.prog.elem 96 = 5 := by kernel_rfl
    rw [hal, he5, Tryz.sizeOf5]
    simp [slicedAt]
    exact plain_add _ 0
  have hH0 := Lib.holds_zero0 w 96 (Lib.nDigits u) (by omega)
  have hfmt := Tryz.internal_strconv_formatBase10 w.heap.size 0 24 u (Array.replicate (Lib.nDigits u) 0) (w.alloc (.cells Lib.zeros24 96)) hH0 (by rw [Array.size_replicate]; exact Lib.lt_pow_nDigits u) hu64 (by rw [Array.size_replicate]; omega)
  rw [Array.size_replicate] at hfmt
  have HFm : Hid (Calls Tryz.prog 74 #[.slice (some ⟨w.heap.size, 0, none⟩) (Lib.nDigits u) 24, .int .u64 u] (w.alloc (.cells Lib.zeros24 96)) fun e w' => e = .returned (.tuple #[]) ∧ Below w.heap.size w w' ∧ ∀ j u', (Lib.byteCells (Lib.decDigits u))[j]? = some u' → w'.cell? ⟨w.heap.size, j, none⟩ = some u') := by
    refine hfmt.mono ?_
    rintro e w' ⟨rfl, k, v', dk, rfl, hF⟩
    refine ⟨rfl, ?_, ?_⟩
    · obtain ⟨os, eo⟩ := Lib.fin_at w (.cells Lib.zeros24 96) dk k 0
      rw [eo]
      exact Lib.below_grow w.heap.size w (Nat.le_refl _) k os
    · intro j u' hj
      have hjl : j < (Lib.decDigits u).length := by
        have h5 := (List.getElem?_eq_some_iff.1 hj).1
        rwa [Lib.byteCells_length] at h5
      have e5 : (Lib.byteCells (Lib.decDigits u))[j]? = some (Value.int .u8 ((Lib.decDigits u)[j].toNat : Int)) := by simp [Lib.byteCells, hjl]
      rw [e5] at hj
      cases hj
      rw [Lib.row_is_numeral hF j hjl, World.cell?_drewN]
      have := cell?_putRow (fun (b : UInt8) => Value.int .u8 (b.toNat : Int)) _ w.heap.size 0 _ dk hH0 (by rw [hF.size, Array.size_replicate]) j (by rw [hF.size]; rw [Lib.decDigits_length] at hjl; exact hjl)
      rw [Nat.zero_add] at this
      exact this
  have HN : Hid (Calls Tryz.prog 73 #[.int .u64 u] (w.alloc (.cells Lib.zeros24 96)) fun e w' => e = .returned (.int .i64 (Lib.nDigits u)) ∧ w' = (w.alloc (.cells Lib.zeros24 96))) := Tryz.internal_strconv_numDigits u hu1 hu64 _ (Lib.tabIs_alloc htab _)
  have HD : Hid ((Lib.decDigits u).length = Lib.nDigits u) := Lib.decDigits_length u
  have HO : Hid (Ob w B vb l) := hown
  have HL : Hid (l.length + (Lib.decDigits u).length ≤ 140737488355328) := hl
  have iu : (100 : Int) ≤ (u : Int) := by omega
  clear hown hl hfmt hH0 hal htab
  go_enter Tryz.func56, Tryz.ntmps56
  go_wp2_with (go_at_call 73; refine HN.out.mono ?_; rintro e w2 ⟨rfl, h4⟩; rw [h4]; clear h4)
  go_at_call 74
  refine HFm.out.mono ?_
  rintro e w3 ⟨rfl, hG, hcl⟩
  have HG : Hid (Gro vb w w3 vb ∧ ∀ j u', (Lib.byteCells (Lib.decDigits u))[j]? = some u' → w3.cell? ⟨w.heap.size, j, none⟩ = some u') := ⟨⟨hG.os, hG.tape, hG.output, hG.size, fun i hi _ => hG.block i hi, .inl rfl⟩, hcl⟩
  have HO3 : Hid (Ob w3 B vb l) := HO.out.below hG
  clear hG hcl
  go_wp2_with (at_builtin; refine wpList_add_ob rfl (.tmp 24) (.tmp 26) rfl B vb l (Lib.decDigits u) rfl HO3.out w.heap.size 24 (by rw [HD.out]; rfl) HG.out.2 HL.out (Nat.le_trans hB HG.out.1.size) ?_; intro v1 w1 h1 h2; have H1 : Hid (Ob w1 B v1 (l ++ Lib.decDigits u) ∧ Gro vb w w1 v1) := ⟨h1, HG.out.1.trans h2⟩; clear h1 h2)
  go_ret
  exact ⟨v1, rfl, H1.out⟩
set_option maxRecDepth 100000 in
theorem uint_any (B u : Nat) (hu64 : u < 18446744073709551616) (l : Bs) (vb : Value) (w : World) (hown : Ob w B vb l) (hB : B ≤ w.heap.size) (hl : l.length + (Lib.decDigits u).length ≤ 140737488355328) (htab : Lib.TabIs Tryz.prog w "internal/strconv.uint64pow10" .u64 Lib.pow10Tab) :
    Calls Tryz.prog 56 #[vb, .int .u64 u, .int .i64 10] w (PutP B w vb (l ++ Lib.decDigits u)) := by
  by_cases h : u < 100
  · exact uint_small B u h l vb w hown hB hl
  · exact uint_big B u (by omega) hu64 l vb w hown hB hl htab
set_option maxRecDepth 100000 in
set_option maxHeartbeats 800000 in
theorem num_any (B u : Nat) (hu : u < 9223372036854775808) (l : Bs) (vb : Value) (w : World) (hown : Ob w B vb l) (hB : B ≤ w.heap.size) (hl : l.length + (Lib.itoa u).length ≤ 140737488355328) (htab : Lib.TabIs Tryz.prog w "internal/strconv.uint64pow10" .u64 Lib.pow10Tab) :
    Calls Tryz.prog 23 #[vb, .int .i64 u, .int .i64 10] w (PutP B w vb (l ++ Lib.itoa u)) := by
  rw [Lib.itoa_nonneg] at hl ⊢
  have HC : Hid (Calls Tryz.prog 56 #[vb, .int .u64 u, .int .i64 10] w (PutP B w vb (l ++ Lib.decDigits u))) := uint_any B u (by omega) l vb w hown hB hl htab
  clear hown htab hl
  generalize l ++ Lib.decDigits u = m at *
  have HC2 : Hid (Calls Tryz.prog 38 #[vb, .int .i64 u, .int .i64 10] w (PutP B w vb m)) := by
    show Calls Tryz.prog 38 #[vb, .int .i64 u, .int .i64 10] w (PutP B w vb m)
    go_enter Tryz.func38, Tryz.ntmps38
    go_wp2_with (go_at_call 56; refine HC.out.mono ?_; rintro e w1 ⟨v1, rfl, h1, h2⟩; have H1 : Hid (Ob w1 B v1 m ∧ Gro vb w w1 v1) := ⟨h1, h2⟩; clear h1 h2)
    go_ret
    exact ⟨v1, rfl, H1.out⟩
  clear HC
  go_enter Tryz.func23, Tryz.ntmps23
  go_wp2_with (go_at_call 38; refine HC2.out.mono ?_; rintro e w1 ⟨v1, rfl, h1, h2⟩; have H1 : Hid (Ob w1 B v1 m ∧ Gro vb w w1 v1) := ⟨h1, h2⟩; clear h1 h2)
  go_ret
  exact ⟨v1, rfl, H1.out⟩
end Go.Proofs.YtlfeejjlcclbdaaGreatDoor
