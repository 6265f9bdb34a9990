/-
  The laws' step and same: contracts.
-/
import Derived.Test.YtcmnjiichkcmgaaRel2
namespace Go.Proofs.Ytcmnjiichkcmgaa
open Go.RowKit Go.Maps Go.Sort
set_option linter.unusedVariables false
variable {fp : Nat → Prop}

theorem Went.ahead {w w' : World} {f : Obj} {e : Ending} {fs : List Fl} {x : Int} (h : Went fp (w.alloc f) w' e fs x) : Went fp w w' e fs x := by
  obtain ⟨v', he, hF, hB⟩ := h
  exact ⟨v', he, hF, ((Below.refl _ _).alloc (Nat.le_refl _) f).trans (hB.mono (by show w.heap.size ≤ (w.heap.push f).size; rw [Array.size_push]; omega))⟩

set_option maxRecDepth 100000 in
set_option maxHeartbeats 1000000 in
theorem step_any (v : Value) (fs : List Fl) (o : Do) (w : World) (h : FilesV fp w v fs) (hn : fs.length ≤ 100000) (hb : ReadsV w o.vb o.b) (hbl : o.b.length ≤ 3000) (hwn : o.name.size ≤ maxLen) (hk : IntsV w o.vk o.keep) (hM : ∀ i, i < fs.length → (fs.getD i noFl).firm.length + (fs.getD i noFl).loose.length ≤ 100000) (hfp : ∀ g, fp g → g < w.heap.size) :
    Calls Try.prog 12 #[v, .agg #[.int .i64 o.kind, .string o.name, o.vb, o.vk]] w fun e w' => Went fp w w' e (stepL fs o).1 (stepL fs o).2 := by
  have hal : ∀ f : Obj, Below w.heap.size w (w.alloc f) := fun f => (Below.refl _ _).alloc (Nat.le_refl _) f
  have hfa : ∀ (f : Obj) g, fp g → g < (w.alloc f).heap.size := fun f g hg => Nat.lt_of_lt_of_le (hfp g hg) (hal f).size
  have hs : o.name.size ≤ 9223372036854775807 := by unfold maxLen at hwn; omega
  have HF : Hid (∀ f : Obj, FilesV fp (w.alloc f) v fs) := fun f => h.below (hal f)
  by_cases k0 : o.kind = 0
  · have HC : Hid (∀ f : Obj, Calls Try.prog 23 #[v, .string o.name, o.vb] (w.alloc f) fun e w' => Went fp w w' e (stepL fs o).1 (stepL fs o).2) := fun f => by
      unfold stepL
      rw [if_pos k0]
      by_cases hnm : nm o.name = true
      · rw [if_pos hnm]
        exact (rappend_yes v o.vb fs o.name o.b _ (h.below (hal f)) (by omega) (hb.below (hal f)) hs hnm (fun i hi => by have := hM i hi; omega) (by omega) (hfa f)).mono fun e w' hw => hw.ahead
      · have hnm' : nm o.name = false := by simpa using hnm
        rw [if_neg hnm]
        exact (rappend_no v o.vb fs o.name _ (h.below (hal f)) hs hnm').mono fun e w' hw => hw.ahead
    generalize (stepL fs o).1 = gs at *
    generalize (stepL fs o).2 = x at *
    generalize o.name = nam at *
    generalize o.vb = vb at *
    generalize o.vk = vk at *
    rw [k0]
    clear k0 hb hk hwn h hM hs
    go_enter Try.func12, Try.ntmps12
    go_wp2_with (go_at_call 23; refine (HC.out _).mono ?_; rintro e w1 ⟨v1, rfl, hF, hB⟩; have HA : Hid (FilesV fp w1 v1 gs ∧ Below w.heap.size w w1) := ⟨hF, hB⟩; clear hF hB)
    go_ret2
    exact ⟨v1, rfl, HA.out⟩
  by_cases k1 : o.kind = 1
  · have HC : Hid (∀ f : Obj, Calls Try.prog 24 #[v, .string o.name] (w.alloc f) fun e w' => Went fp w w' e (stepL fs o).1 (stepL fs o).2) := fun f => by
      unfold stepL
      rw [if_neg k0, if_pos k1]
      exact (rsync_any v fs o.name _ (h.below (hal f)) (by omega) (fun i hi => by have := hM i hi; omega) (hfa f)).mono fun e w' hw => hw.ahead
    generalize (stepL fs o).1 = gs at *
    generalize (stepL fs o).2 = x at *
    generalize o.name = nam at *
    generalize o.vb = vb at *
    generalize o.vk = vk at *
    rw [k1]
    clear k0 k1 hb hk hwn h hM hs
    go_enter Try.func12, Try.ntmps12
    go_wp2_with (go_at_call 24; refine (HC.out _).mono ?_; rintro e w1 ⟨v1, rfl, hF, hB⟩; have HA : Hid (FilesV fp w1 v1 gs ∧ Below w.heap.size w w1) := ⟨hF, hB⟩; clear hF hB)
    go_ret2
    exact ⟨v1, rfl, HA.out⟩
  by_cases k2 : o.kind = 2
  · have HC : Hid (∀ f : Obj, Calls Try.prog 25 #[v, .string o.name, o.vb] (w.alloc f) fun e w' => Went fp w w' e (stepL fs o).1 (stepL fs o).2) := fun f => by
      unfold stepL
      rw [if_neg k0, if_neg k1, if_pos k2]
      exact (rreplace_any v o.vb fs o.name o.b _ (h.below (hal f)) (by omega) (hb.below (hal f)) (by omega) hs (hfa f)).mono fun e w' hw => hw.ahead
    generalize (stepL fs o).1 = gs at *
    generalize (stepL fs o).2 = x at *
    generalize o.name = nam at *
    generalize o.vb = vb at *
    generalize o.vk = vk at *
    rw [k2]
    clear k0 k1 k2 hb hk hwn h hM hs
    go_enter Try.func12, Try.ntmps12
    go_wp2_with (go_at_call 25; refine (HC.out _).mono ?_; rintro e w1 ⟨v1, rfl, hF, hB⟩; have HA : Hid (FilesV fp w1 v1 gs ∧ Below w.heap.size w w1) := ⟨hF, hB⟩; clear hF hB)
    go_ret2
    exact ⟨v1, rfl, HA.out⟩
  by_cases k3 : o.kind = 3
  · have hst : stepL fs o = (crashL o.keep fs 0, 0) := by
      unfold stepL
      rw [if_neg k0, if_neg k1, if_neg k2, if_pos k3]
    have HC : Hid (∀ f : Obj, Calls Try.prog 26 #[v, o.vk] (w.alloc f) fun e w' => ∃ v', e = .returned v' ∧ FilesV fp w' v' (crashL o.keep fs 0) ∧ Below w.heap.size w w') := fun f =>
      (rcrash_any v o.vk o.keep fs _ (h.below (hal f)) (by omega) (hk.below (hal f)) (hfa f) (fun i hi => by have := hM i hi; omega)).mono fun e w' ⟨v', he, hF, hB⟩ => ⟨v', he, hF, (hal f).trans (hB.mono (hal f).size)⟩
    rw [hst]
    show Calls _ _ _ _ fun e w' => Went fp w w' e (crashL o.keep fs 0) 0
    clear hst
    generalize crashL o.keep fs 0 = gs at *
    generalize o.name = nam at *
    generalize o.vb = vb at *
    generalize o.vk = vk at *
    rw [k3]
    clear k0 k1 k2 k3 hb hk hwn h hM hs
    go_enter Try.func12, Try.ntmps12
    go_wp2_with (go_at_call 26; refine (HC.out _).mono ?_; rintro e w1 ⟨v1, rfl, hF, hB⟩; have HA : Hid (FilesV fp w1 v1 gs ∧ Below w.heap.size w w1) := ⟨hF, hB⟩; clear hF hB)
    go_ret2
    exact ⟨v1, rfl, HA.out⟩
  · have hst : stepL fs o = (fs, 0) := by
      unfold stepL
      rw [if_neg k0, if_neg k1, if_neg k2, if_neg k3]
    rw [hst]
    show Calls _ _ _ _ fun e w' => Went fp w w' e fs 0
    have e0 : (o.kind == 0) = false := by rw [beq_eq_false_iff_ne]; exact k0
    have e1 : (o.kind == 1) = false := by rw [beq_eq_false_iff_ne]; exact k1
    have e2 : (o.kind == 2) = false := by rw [beq_eq_false_iff_ne]; exact k2
    have e3 : (o.kind == 3) = false := by rw [beq_eq_false_iff_ne]; exact k3
    have HB : Hid (∀ f : Obj, Below w.heap.size w (w.alloc f)) := hal
    clear hst
    generalize o.name = nam at *
    generalize o.vb = vb at *
    generalize o.vk = vk at *
    generalize hkd : o.kind = kd at *
    clear hkd hb hk hwn h hM hs hal hfa
    go_enter Try.func12, Try.ntmps12
    go_wp2
    go_ret2
    exact ⟨v, rfl, HF.out _, HB.out _⟩

end Go.Proofs.Ytcmnjiichkcmgaa
