/-
  The document's One: contracts.
-/
import Derived.Test.YtlfeejjlcclbdaaGreatDoorRefA
namespace Go.Proofs.YtlfeejjlcclbdaaGreatDoor
open Go.RowKit Go.Maps
set_option linter.unusedVariables false


/-- The result's own block, behind a callee. -/
structure Cell4R (w w1 : World) : Prop where
  c0 : w1.cell? ⟨w.heap.size, 0, none⟩ = some (.int .i64 0)
  c1 : w1.cell? ⟨w.heap.size, 1, none⟩ = some (.string ⟨#[]⟩)
  c2 : w1.cell? ⟨w.heap.size, 2, none⟩ = some (.int .i64 0)
  c3 : w1.cell? ⟨w.heap.size, 3, none⟩ = some (.int .i64 0)
  fr : ∀ i, w1.frozen? ⟨w.heap.size, i, none⟩ = false
  bel : Below w.heap.size w w1
theorem cell4R_of (w w1 : World) (HB : Below (w.alloc (.cells #[.int .i64 0, .string ⟨#[]⟩, .int .i64 0, .int .i64 0] 57)).heap.size (w.alloc (.cells #[.int .i64 0, .string ⟨#[]⟩, .int .i64 0, .int .i64 0] 57)) w1) : Cell4R w w1 := by
  have s1 := size_alloc w (.cells #[.int .i64 0, .string ⟨#[]⟩, .int .i64 0, .int .i64 0] 57)
  have k1 : w1.heap[w.heap.size]? = some (.cells #[.int .i64 0, .string ⟨#[]⟩, .int .i64 0, .int .i64 0] 57 (0, 0)) := by
    rw [HB.block _ (by omega), heap_alloc_new]
  refine ⟨?_, ?_, ?_, ?_, ?_, ?_⟩
  · rw [cell_of_row w1 _ 0 _ 57 (0, 0) k1]; rfl
  · rw [cell_of_row w1 _ 1 _ 57 (0, 0) k1]; rfl
  · rw [cell_of_row w1 _ 2 _ 57 (0, 0) k1]; rfl
  · rw [cell_of_row w1 _ 3 _ 57 (0, 0) k1]; rfl
  · intro i; simp [World.frozen?, k1]
  · exact ((Below.refl _ _).alloc (Nat.le_refl _) _).trans (HB.mono (by omega))
theorem Cell4R.done {w w1 : World} {a b c d : Value} (h : Cell4R w w1) : Below w.heap.size w ((((w1.setCell ⟨w.heap.size, 0, none⟩ a).setCell ⟨w.heap.size, 1, none⟩ b).setCell ⟨w.heap.size, 2, none⟩ c).setCell ⟨w.heap.size, 3, none⟩ d) :=
  (((h.bel.setCell (p := ⟨w.heap.size, 0, none⟩) (Nat.le_refl _) _).setCell (p := ⟨w.heap.size, 1, none⟩) (Nat.le_refl _) _).setCell (p := ⟨w.heap.size, 2, none⟩) (Nat.le_refl _) _).setCell (p := ⟨w.heap.size, 3, none⟩) (Nat.le_refl _) _
def gotV (k : Nat) (t : ByteArray) (n len : Nat) : Value := .tuple #[.agg #[.int .i64 k, .string t, .int .i64 n, .int .i64 0], .int .i64 len, .int .i64 0, .int .i64 0]
def lostV (e off : Nat) : Value := .tuple #[.agg #[.int .i64 0, .string ⟨#[]⟩, .int .i64 0, .int .i64 0], .int .i64 0, .int .i64 e, .int .i64 off]
set_option maxRecDepth 100000 in
set_option maxHeartbeats 400000 in
theorem one_sign (x y : ByteArray) (c : UInt8) (hx : 0 < x.size) (hm : x.size ≤ 4096) (hc : x[0]'hx = c) (hcut : x.extract 0 1 = y)
    (HS : Hid (∀ w, Calls Tryz.prog 57 #[.int .u8 c.toNat] w fun e w' => e = .returned (.bool true) ∧ Below w.heap.size w w')) (w : World) :
    Calls Tryz.prog 39 #[.string x] w fun e w' => e = .returned (gotV 3 y 0 1) ∧ Below w.heap.size w w' := by
  go_enter Tryz.func39, Tryz.ntmps39
  go_wp2_with (go_at_call 57; refine (HS.out _).mono ?_; rintro e w1 ⟨rfl, HB⟩; have HC : Hid (Cell4R w w1) := cell4R_of w w1 HB; clear HB; obtain ⟨c0, c1, c2, c3, fr, _⟩ := HC.out)
  refine bodyPost_ret (v := gotV 3 y 0 1) (by unfold gotV; simp [results, Tryz.results39, go_sem, c0, c1, c2, c3]) rfl ⟨rfl, ?_⟩
  exact HC.out.done
set_option maxRecDepth 100000 in
set_option maxHeartbeats 400000 in
theorem one_none (x : ByteArray) (c : UInt8) (hx : 0 < x.size) (hm : x.size ≤ 4096) (hc : x[0]'hx = c)
    (HS : Hid (∀ w, Calls Tryz.prog 57 #[.int .u8 c.toNat] w fun e w' => e = .returned (.bool false) ∧ Below w.heap.size w w'))
    (HD : Hid (∀ w, Calls Tryz.prog 58 #[.int .u8 c.toNat] w fun e w' => e = .returned (.bool false) ∧ w' = w))
    (HL : Hid (∀ w, Calls Tryz.prog 60 #[.int .u8 c.toNat] w fun e w' => e = .returned (.bool false) ∧ w' = w)) (w : World) :
    Calls Tryz.prog 39 #[.string x] w fun e w' => e = .returned (lostV 3 0) ∧ Below w.heap.size w w' := by
  go_enter Tryz.func39, Tryz.ntmps39
  go_wp2_with (first
    | (go_at_call 57; refine (HS.out _).mono ?_; rintro e w1 ⟨rfl, HB⟩; have HC : Hid (Cell4R w w1) := cell4R_of w w1 HB; clear HB; obtain ⟨c0, c1, c2, c3, fr, _⟩ := HC.out)
    | (go_at_call 58; refine (HD.out _).mono ?_; rintro e w' ⟨rfl, hw'⟩; have h2 := hw'.symm; subst h2)
    | (go_at_call 60; refine (HL.out _).mono ?_; rintro e w' ⟨rfl, hw'⟩; have h2 := hw'.symm; subst h2))
  refine bodyPost_ret (v := lostV 3 0) (by unfold lostV; simp [results, Tryz.results39, go_sem, c0, c1, c2, c3]) rfl ⟨rfl, ?_⟩
  exact HC.out.done
/-- What a run of bytes ends at. -/
structure Run (x : ByteArray) (p : UInt8 → Bool) (L : Nat) : Prop where
  pos : 1 ≤ L
  le : L ≤ x.size
  on : ∀ n (h : n < x.size), 1 ≤ n → n < L → p (x[n]'h) = true
  off : ∀ (h : L < x.size), p (x[L]'h) = false
set_option maxRecDepth 100000 in
set_option maxHeartbeats 1000000 in
theorem one_number (x y : ByteArray) (c : UInt8) (L : Nat) (hx : 0 < x.size) (hm : x.size ≤ 4096) (hc : x[0]'hx = c) (HR : Hid (Run x digit L)) (hcut : x.extract 0 L = y) (v : Nat) (ok lt : Bool)
    (HS : Hid (∀ w, Calls Tryz.prog 57 #[.int .u8 c.toNat] w fun e w' => e = .returned (.bool false) ∧ Below w.heap.size w w'))
    (HD : Hid (∀ w, Calls Tryz.prog 58 #[.int .u8 c.toNat] w fun e w' => e = .returned (.bool true) ∧ w' = w))
    (HN : Hid (∀ w, Calls Tryz.prog 59 #[.string y] w fun e w' => e = .returned (.tuple #[.int .i64 v, .bool ok]) ∧ w' = w))
    (HL : Hid (∀ (h : L < x.size) w, Calls Tryz.prog 60 #[.int .u8 (x[L]'h).toNat] w fun e w' => e = .returned (.bool lt) ∧ w' = w)) (hlt : L = x.size → lt = false) (w : World) :
    Calls Tryz.prog 39 #[.string x] w fun e w' => e = .returned (if ok then (if lt then lostV 3 L else gotV 1 ⟨#[]⟩ v L) else lostV 13 0) ∧ Below w.heap.size w w' := by
  have D0 : Hid True := trivial
  go_enter Tryz.func39, Tryz.ntmps39
  go_wp2_with (first
    | (go_at_call 57; refine (HS.out _).mono ?_; rintro e w1 ⟨rfl, HB⟩; have HC : Hid (Cell4R w w1) := cell4R_of w w1 HB; clear HB)
    | (have := D0; go_at_call 58; refine (HD.out _).mono ?_; rintro e w' ⟨rfl, hw'⟩; have h2 := hw'.symm; subst h2; clear D0))
  obtain ⟨c0, c1, c2, c3, fr, _⟩ := HC.out
  clear HS HD
  go_loop [6] (fun i => ∃ n : Nat, 1 ≤ n ∧ n ≤ L ∧ i = .int .i64 n) (fun i => L - (intOf i).toNat)
  case atStart => exact ⟨1, Nat.le_refl _, HR.out.pos, rfl⟩
  case round =>
    obtain ⟨n, h1, hn, rfl⟩ := hrel
    have hLs := HR.out.le
    by_cases hnL : n < L
    · have hns : n < x.size := by omega
      have HG : Hid (∀ w, Calls Tryz.prog 58 #[.int .u8 (x[n]'hns).toNat] w fun e w' => e = .returned (.bool true) ∧ w' = w) := by
        have := HR.out.on n hns h1 hnL
        have h3 := rdigit_any (x[n]'hns)
        rw [this] at h3; exact h3
      clear hcut
      go_wp2_with (go_at_call 58; refine (HG.out _).mono ?_; rintro e w' ⟨rfl, hw'⟩; have h2 := hw'.symm; subst h2)
      go_round
      case rel => exact ⟨n + 1, by omega, by omega, by go_num⟩
      case measure => simp [intOf]; omega
    · have he : n = L := by omega
      subst he
      by_cases hns : n < x.size
      · have HG : Hid (∀ w, Calls Tryz.prog 58 #[.int .u8 (x[n]'hns).toNat] w fun e w' => e = .returned (.bool false) ∧ w' = w) := by
          have := HR.out.off hns
          have h3 := rdigit_any (x[n]'hns)
          rw [this] at h3; exact h3
        have HL2 : Hid (∀ w, Calls Tryz.prog 60 #[.int .u8 (x[n]'hns).toNat] w fun e w' => e = .returned (.bool lt) ∧ w' = w) := HL.out hns
        clear hlt HL
        cases ok with
        | false =>
          go_wp2_with (first
            | (go_at_call 59; refine (HN.out _).mono ?_; rintro e w' ⟨rfl, hw'⟩; have h2 := hw'.symm; subst h2)
            | (go_at_call 58; refine (HG.out _).mono ?_; rintro e w' ⟨rfl, hw'⟩; have h2 := hw'.symm; subst h2))
          refine bodyPost_ret (v := lostV 13 0) (by unfold lostV; simp [results, Tryz.results39, go_sem, c0, c1, c2, c3]) rfl ⟨rfl, ?_⟩
          exact HC.out.done
        | true =>
          cases lt with
          | true =>
            go_wp2_with (first
              | (go_at_call 60; refine (HL2.out _).mono ?_; rintro e w' ⟨rfl, hw'⟩; have h2 := hw'.symm; subst h2)
              | (go_at_call 59; refine (HN.out _).mono ?_; rintro e w' ⟨rfl, hw'⟩; have h2 := hw'.symm; subst h2)
              | (go_at_call 58; refine (HG.out _).mono ?_; rintro e w' ⟨rfl, hw'⟩; have h2 := hw'.symm; subst h2))
            refine bodyPost_ret (v := lostV 3 n) (by unfold lostV; simp [results, Tryz.results39, go_sem, c0, c1, c2, c3]) rfl ⟨rfl, ?_⟩
            exact HC.out.done
          | false =>
            go_wp2_with (first
              | (go_at_call 60; refine (HL2.out _).mono ?_; rintro e w' ⟨rfl, hw'⟩; have h2 := hw'.symm; subst h2)
              | (go_at_call 59; refine (HN.out _).mono ?_; rintro e w' ⟨rfl, hw'⟩; have h2 := hw'.symm; subst h2)
              | (go_at_call 58; refine (HG.out _).mono ?_; rintro e w' ⟨rfl, hw'⟩; have h2 := hw'.symm; subst h2))
            refine bodyPost_ret (v := gotV 1 ⟨#[]⟩ v n) (by unfold gotV; simp [results, Tryz.results39, go_sem, c0, c1, c2, c3]) rfl ⟨rfl, ?_⟩
            exact HC.out.done
      · have he2 : n = x.size := by omega
        have hlt2 := hlt he2
        subst hlt2
        have hcut2 : x = y := by
          rw [← hcut, he2, take_ba, ← size_list, List.take_length, ba_of]
        have HN2 : Hid (∀ w, Calls Tryz.prog 59 #[.string x] w fun e w' => e = .returned (.tuple #[.int .i64 v, .bool ok]) ∧ w' = w) := by rw [hcut2]; exact HN.out
        clear hcut hcut2 hlt HL
        subst he2
        cases ok with
        | false =>
          go_wp2_with (go_at_call 59; refine (HN2.out _).mono ?_; rintro e w' ⟨rfl, hw'⟩; have h2 := hw'.symm; subst h2)
          refine bodyPost_ret (v := lostV 13 0) (by unfold lostV; simp [results, Tryz.results39, go_sem, c0, c1, c2, c3]) rfl ⟨rfl, ?_⟩
          exact HC.out.done
        | true =>
          go_wp2_with (go_at_call 59; refine (HN2.out _).mono ?_; rintro e w' ⟨rfl, hw'⟩; have h2 := hw'.symm; subst h2)
          refine bodyPost_ret (v := gotV 1 ⟨#[]⟩ v x.size) (by unfold gotV; simp [results, Tryz.results39, go_sem, c0, c1, c2, c3]) rfl ⟨rfl, ?_⟩
          exact HC.out.done
def nameByte (c : UInt8) : Bool := letter c || digit c
set_option maxRecDepth 100000 in
set_option maxHeartbeats 1000000 in
theorem one_name (x y : ByteArray) (c : UInt8) (L : Nat) (hx : 0 < x.size) (hm : x.size ≤ 4096) (hc : x[0]'hx = c) (HR : Hid (Run x nameByte L)) (R : Value) (HB1 : Hid (32 < L → R = lostV 3 0)) (HB2 : Hid (¬ 32 < L → R = gotV 2 y 0 L)) (hcut : x.extract 0 L = y)
    (HS : Hid (∀ w, Calls Tryz.prog 57 #[.int .u8 c.toNat] w fun e w' => e = .returned (.bool false) ∧ Below w.heap.size w w'))
    (HD : Hid (∀ w, Calls Tryz.prog 58 #[.int .u8 c.toNat] w fun e w' => e = .returned (.bool false) ∧ w' = w))
    (HL : Hid (∀ w, Calls Tryz.prog 60 #[.int .u8 c.toNat] w fun e w' => e = .returned (.bool true) ∧ w' = w)) (w : World) :
    Calls Tryz.prog 39 #[.string x] w fun e w' => e = .returned R ∧ Below w.heap.size w w' := by
  go_enter Tryz.func39, Tryz.ntmps39
  go_wp2_with (first
    | (go_at_call 57; refine (HS.out _).mono ?_; rintro e w1 ⟨rfl, HB⟩; have HC : Hid (Cell4R w w1) := cell4R_of w w1 HB; clear HB)
    | (go_at_call 58; refine (HD.out _).mono ?_; rintro e w' ⟨rfl, hw'⟩; have h2 := hw'.symm; subst h2)
    | (go_at_call 60; refine (HL.out _).mono ?_; rintro e w' ⟨rfl, hw'⟩; have h2 := hw'.symm; subst h2))
  obtain ⟨c0, c1, c2, c3, fr, _⟩ := HC.out
  clear HS HD HL
  go_loop [6] (fun i => ∃ n : Nat, 1 ≤ n ∧ n ≤ L ∧ i = .int .i64 n) (fun i => L - (intOf i).toNat)
  case atStart => exact ⟨1, Nat.le_refl _, HR.out.pos, rfl⟩
  case round =>
    obtain ⟨n, h1, hn, rfl⟩ := hrel
    have hLs := HR.out.le
    by_cases hnL : n < L
    · have hns : n < x.size := by omega
      have hp := HR.out.on n hns h1 hnL
      unfold nameByte at hp
      have HGl : Hid (∀ w, Calls Tryz.prog 60 #[.int .u8 (x[n]'hns).toNat] w fun e w' => e = .returned (.bool (letter (x[n]'hns))) ∧ w' = w) := rletter_any _
      have HGd : Hid (∀ w, Calls Tryz.prog 58 #[.int .u8 (x[n]'hns).toNat] w fun e w' => e = .returned (.bool (digit (x[n]'hns))) ∧ w' = w) := rdigit_any _
      clear hcut
      generalize letter (x[n]'hns) = bl at *
      generalize digit (x[n]'hns) = bd at *
      cases bl with
      | true =>
        clear hp
        go_wp2_with (first
          | (go_at_call 60; refine (HGl.out _).mono ?_; rintro e w' ⟨rfl, hw'⟩; have h2 := hw'.symm; subst h2)
          | (go_at_call 58; refine (HGd.out _).mono ?_; rintro e w' ⟨rfl, hw'⟩; have h2 := hw'.symm; subst h2))
        go_round
        case rel => exact ⟨n + 1, by omega, by omega, by go_num⟩
        case measure => simp [intOf]; omega
      | false =>
        have hbd : bd = true := by simpa using hp
        subst hbd
        clear hp
        go_wp2_with (first
          | (go_at_call 60; refine (HGl.out _).mono ?_; rintro e w' ⟨rfl, hw'⟩; have h2 := hw'.symm; subst h2)
          | (go_at_call 58; refine (HGd.out _).mono ?_; rintro e w' ⟨rfl, hw'⟩; have h2 := hw'.symm; subst h2))
        go_round
        case rel => exact ⟨n + 1, by omega, by omega, by go_num⟩
        case measure => simp [intOf]; omega
    · have he : n = L := by omega
      subst he
      by_cases hns : n < x.size
      · have hp := HR.out.off hns
        unfold nameByte at hp
        have HGl : Hid (∀ w, Calls Tryz.prog 60 #[.int .u8 (x[n]'hns).toNat] w fun e w' => e = .returned (.bool (letter (x[n]'hns))) ∧ w' = w) := rletter_any _
        have HGd : Hid (∀ w, Calls Tryz.prog 58 #[.int .u8 (x[n]'hns).toNat] w fun e w' => e = .returned (.bool (digit (x[n]'hns))) ∧ w' = w) := rdigit_any _
        generalize letter (x[n]'hns) = bl at *
        generalize digit (x[n]'hns) = bd at *
        obtain ⟨rfl, rfl⟩ : bl = false ∧ bd = false := by simpa using hp
        clear hp
        by_cases hbig : 32 < n
        · have HRR : Hid (R = lostV 3 0) := HB1.out hbig
          go_wp2_with (first
            | (go_at_call 60; refine (HGl.out _).mono ?_; rintro e w' ⟨rfl, hw'⟩; have h2 := hw'.symm; subst h2)
            | (go_at_call 58; refine (HGd.out _).mono ?_; rintro e w' ⟨rfl, hw'⟩; have h2 := hw'.symm; subst h2))
          refine bodyPost_ret (v := lostV 3 0) (by unfold lostV; simp [results, Tryz.results39, go_sem, c0, c1, c2, c3]) rfl ⟨by rw [HRR.out], ?_⟩
          exact HC.out.done
        · have HRR : Hid (R = gotV 2 y 0 n) := HB2.out hbig
          go_wp2_with (first
            | (go_at_call 60; refine (HGl.out _).mono ?_; rintro e w' ⟨rfl, hw'⟩; have h2 := hw'.symm; subst h2)
            | (go_at_call 58; refine (HGd.out _).mono ?_; rintro e w' ⟨rfl, hw'⟩; have h2 := hw'.symm; subst h2))
          refine bodyPost_ret (v := gotV 2 y 0 n) (by unfold gotV; simp [results, Tryz.results39, go_sem, c0, c1, c2, c3]) rfl ⟨by rw [HRR.out], ?_⟩
          exact HC.out.done
      · have he2 : n = x.size := by omega
        have hcut2 : y = x := by
          rw [← hcut, he2, take_ba, ← size_list, List.take_length, ba_of]
        subst hcut2
        clear hcut
        subst he2
        by_cases hbig : 32 < y.size
        · have HRR : Hid (R = lostV 3 0) := HB1.out hbig
          go_wp2
          refine bodyPost_ret (v := lostV 3 0) (by unfold lostV; simp [results, Tryz.results39, go_sem, c0, c1, c2, c3]) rfl ⟨by rw [HRR.out], ?_⟩
          exact HC.out.done
        · have HRR : Hid (R = gotV 2 y 0 y.size) := HB2.out hbig
          go_wp2
          refine bodyPost_ret (v := gotV 2 y 0 y.size) (by unfold gotV; simp [results, Tryz.results39, go_sem, c0, c1, c2, c3]) rfl ⟨by rw [HRR.out], ?_⟩
          exact HC.out.done
end Go.Proofs.YtlfeejjlcclbdaaGreatDoor
