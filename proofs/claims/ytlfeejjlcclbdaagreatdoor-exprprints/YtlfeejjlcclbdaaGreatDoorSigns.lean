/-
  The sign that stands next, names, rows: contracts.
-/
import Derived.Test.YtlfeejjlcclbdaaGreatDoorReader
namespace Go.Proofs.YtlfeejjlcclbdaaGreatDoor
open Go.RowKit
set_option linter.unusedVariables false


set_option maxRecDepth 100000 in
set_option maxHeartbeats 400000 in
theorem row_any (k : Int) (w : World) : Calls Tryz.prog 25 #[.int .i64 k] w fun e w' => e = .returned (.int .i64 (rowK k)) ∧ w' = w := by
  go_enter Tryz.func25, Tryz.ntmps25
  go_wp2
  all_goals (go_ret; refine ⟨?_, rfl⟩; congr 3; unfold rowK; simp_all)
theorem ba_toList (t : Bs) : (ba t).toList = t := by unfold ba; rw [ByteArray.toList_mk]
theorem ba_ne {t l : Bs} (h : ¬ t = l) : ((ba t).toList == l) = false := by rw [ba_toList]; simpa using h
theorem ba_eq {t l : Bs} (h : t = l) : ((ba t).toList == l) = true := by rw [ba_toList]; simpa using h
def namedV (t : Bs) : Value := if t = yesB then .agg #[.int .i64 3, .int .i64 0, .string (ba []), .slice none 0 0] else if t = noB then .agg #[.int .i64 4, .int .i64 0, .string (ba []), .slice none 0 0] else .agg #[.int .i64 2, .int .i64 0, .string (ba t), .slice none 0 0]
theorem namedV_tre (w : World) (lo : Nat → Prop) (t : Bs) (h : t.length ≤ 9223372036854775807) : Tre w lo (namedV t) (named t) := by
  unfold namedV named
  split
  · exact Tre.leaf w lo ⟨by decide, by decide⟩ inR_zero [] (Nat.zero_le _)
  · split
    · exact Tre.leaf w lo ⟨by decide, by decide⟩ inR_zero [] (Nat.zero_le _)
    · exact Tre.leaf w lo ⟨by decide, by decide⟩ inR_zero t h
set_option maxRecDepth 100000 in
set_option maxHeartbeats 400000 in
theorem named_any (t : Bs) (w : World) : Calls Tryz.prog 69 #[.string (ba t)] w fun e w' => e = .returned (namedV t) ∧ Below w.heap.size w w' := by
  by_cases h1 : t = yesB
  · subst h1
    show Calls Tryz.prog 69 #[.string ⟨#[121, 101, 115]⟩] w _
    go_enter Tryz.func69, Tryz.ntmps69
    go_wp2
    refine bodyPost_ret (v := .agg #[.int .i64 3, .int .i64 0, .string ⟨#[]⟩, .slice none 0 0]) (by simp [results, Tryz.results69, go_sem]) rfl ⟨rfl, (Below.refl _ _).alloc (Nat.le_refl _) _⟩
  · by_cases h2 : t = noB
    · subst h2
      show Calls Tryz.prog 69 #[.string ⟨#[110, 111]⟩] w _
      go_enter Tryz.func69, Tryz.ntmps69
      go_wp2
      refine bodyPost_ret (v := .agg #[.int .i64 4, .int .i64 0, .string ⟨#[]⟩, .slice none 0 0]) (by simp [results, Tryz.results69, go_sem]) rfl ⟨rfl, (Below.refl _ _).alloc (Nat.le_refl _) _⟩
    · have e1 : ((ba t).toList == [121, 101, 115]) = false := ba_ne h1
      have e2 : ((ba t).toList == [110, 111]) = false := ba_ne h2
      have HE : Hid (namedV t = .agg #[.int .i64 2, .int .i64 0, .string (ba t), .slice none 0 0]) := by unfold namedV; rw [if_neg h1, if_neg h2]; exact rfl
      clear h1 h2
      rw [HE.out]
      generalize ba t = s at *
      go_enter Tryz.func69, Tryz.ntmps69
      go_wp2
      refine bodyPost_ret (v := .agg #[.int .i64 2, .int .i64 0, .string s, .slice none 0 0]) (by simp [results, Tryz.results69, go_sem]) rfl ⟨rfl, (Below.refl _ _).alloc (Nat.le_refl _) _⟩
def betweenB : Bs := [43, 45, 42, 47, 61, 60, 38, 124]
theorem kind_index (c : UInt8) : (Lib.indexByte betweenB c < 0 ∧ kindC c = 0) ∨ (0 ≤ Lib.indexByte betweenB c ∧ Lib.indexByte betweenB c ≤ 7 ∧ 7 + Lib.indexByte betweenB c = (kindC c : Int)) := by
  have key : ∀ c : UInt8, (decide (Lib.indexByte betweenB c < 0) && decide (kindC c = 0)) || (decide (0 ≤ Lib.indexByte betweenB c) && decide (Lib.indexByte betweenB c ≤ 7) && decide (7 + Lib.indexByte betweenB c = (kindC c : Int))) = true := by
    intro c
    have : ∀ n : Fin 256, (decide (Lib.indexByte betweenB (UInt8.ofFin n) < 0) && decide (kindC (UInt8.ofFin n) = 0)) || (decide (0 ≤ Lib.indexByte betweenB (UInt8.ofFin n)) && decide (Lib.indexByte betweenB (UInt8.ofFin n) ≤ 7) && decide (7 + Lib.indexByte betweenB (UInt8.ofFin n) = (kindC (UInt8.ofFin n) : Int))) = true := by decide +kernel
    exact this c.toFin
  have := key c
  simp only [Bool.or_eq_true, Bool.and_eq_true, decide_eq_true_eq] at this
  rcases this with ⟨a, b⟩ | ⟨⟨a, b⟩, d⟩
  · exact .inl ⟨a, b⟩
  · exact .inr ⟨a, b, d⟩
set_option maxRecDepth 100000 in
set_option maxHeartbeats 400000 in
theorem sign_any (rb en : Nat) (ws : List W) (w : World) (HR : Hid (Rd w rb en ws)) :
    Calls Tryz.prog 53 #[.pointer (some ⟨rb, 0, none⟩)] w fun e w' => e = .returned (.int .i64 (nextK ws)) ∧ Below w.heap.size w w' := by
  have HC : Hid (∀ w, Rd w rb en ws → Calls Tryz.prog 55 #[.pointer (some ⟨rb, 0, none⟩)] w fun e w' => e = .returned (wordV (headW en ws)) ∧ Below w.heap.size w w') := fun w h => word_any rb en ws w h
  have HK : Hid (nextK ws = if (headW en ws).kind = 3 then kindS (headW en ws).text else 0) := by cases ws <;> rfl
  have HT : Hid ((headW en ws).kind = 3 → ∃ c, (headW en ws).text = [c]) := by
    cases ws with
    | nil => intro h; simp [headW] at h
    | cons x r => exact (HR.out.ok x (List.mem_cons_self ..)).1
  generalize headW en ws = y at *
  rw [HK.out]
  unfold wordV at HC
  by_cases hk : y.kind = 3
  · obtain ⟨c, hc⟩ := HT.out hk
    have HX : Hid (∀ w, Calls Tryz.prog 71 #[.string ⟨#[43, 45, 42, 47, 61, 60, 38, 124]⟩, .string ⟨#[c]⟩] w fun e w' => e = .returned (.int .i64 (Lib.indexByte betweenB c)) ∧ w' = w) := fun w => Tryz.strings_Index_one _ c w
    have HI : Hid _ := kind_index c
    rw [if_pos hk, hc]
    have e1 : ba y.text = ⟨#[c]⟩ := by rw [hc]; rfl
    rw [e1, hk] at HC
    clear hk hc e1 HT HK
    generalize Lib.indexByte betweenB c = i at *
    by_cases hi : i < 0
    · have HE : Hid (kindS [c] = 0) := by rcases HI.out with h | h; exact h.2; omega
      go_enter Tryz.func53, Tryz.ntmps53
      go_wp2_with (first | (go_at_call 71; refine (HX.out _).mono ?_; rintro e w2 ⟨rfl, rfl⟩) | (go_at_call 55; refine (HC.out _ HR.out).mono ?_; rintro e w1 ⟨rfl, HB⟩))
      go_ret
      exact ⟨by rw [HE.out]; rfl, HB.trans ((Below.refl _ _).alloc HB.size _)⟩
    · have HE : Hid (kindS [c] = 7 + i ∧ i ≤ 7) := by rcases HI.out with h | h; omega; exact ⟨h.2.2.symm, h.2.1⟩
      have hi2 : i ≤ 7 := HE.out.2
      have hi3 : 0 ≤ i := by omega
      go_enter Tryz.func53, Tryz.ntmps53
      go_wp2_with (first | (go_at_call 71; refine (HX.out _).mono ?_; rintro e w2 ⟨rfl, rfl⟩) | (go_at_call 55; refine (HC.out _ HR.out).mono ?_; rintro e w1 ⟨rfl, HB⟩))
      go_ret
      exact ⟨by rw [HE.out.1]; rfl, HB.trans ((Below.refl _ _).alloc HB.size _)⟩
  · rw [if_neg hk]
    have hk2 : ¬ (y.kind : Int) = 3 := by omega
    clear HT HK
    generalize y.kind = K at *
    go_enter Tryz.func53, Tryz.ntmps53
    go_wp2_with (go_at_call 55; refine (HC.out _ HR.out).mono ?_; rintro e w1 ⟨rfl, HB⟩)
    go_ret
    exact ⟨rfl, HB.trans ((Below.refl _ _).alloc HB.size _)⟩
end Go.Proofs.YtlfeejjlcclbdaaGreatDoor
