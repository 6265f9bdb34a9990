/-
  The document's SameAll; the laws' light and written: contracts.
-/
import Derived.Test.YtccccclnfimcoaaWorks
namespace Go.Proofs.Ytccccclnfimcoaa
open Go.RowKit Crc
set_option linter.unusedVariables false

theorem ret_bool {a b : Bool} (h : a = b) : Ending.returned (.bool a) = .returned (.bool b) := by rw [h]
theorem rows_ext {xs ys : List Row} {n : Nat} (hx : xs.length = n) (hy : ys.length = n) (h : ∀ j, j < n → xs.getD j [] = ys.getD j []) : xs = ys := by
  refine List.ext_getElem (by omega) fun i h1 h2 => ?_
  have := h i (by omega)
  simpa [List.getD, h1, h2] using this

set_option maxRecDepth 100000 in
set_option maxHeartbeats 400000 in
theorem sameAll_walk (b1 o1 c1 b2 o2 c2 n : Nat) (xs ys : List Row) (w : World) (hn : n ≤ 9223372036854775807) (HX : Hid (RowsV w (.slice (some ⟨b1, o1, none⟩) n c1) xs)) (HY : Hid (RowsV w (.slice (some ⟨b2, o2, none⟩) n c2) ys)) (hp : 0 < n) :
    Calls Try.prog 15 #[.slice (some ⟨b1, o1, none⟩) n c1, .slice (some ⟨b2, o2, none⟩) n c2] w fun e w' => e = .returned (.bool (decide (xs = ys))) ∧ Below w.heap.size w w' := by
  have HL : Hid (xs.length = n ∧ ys.length = n) := ⟨HX.out.len.1, HY.out.len.1⟩
  go_enter Try.func15, Try.ntmps15
  go_wp2
  go_loopw [5] (fun i wr => ∃ k : Nat, k ≤ n ∧ i = .int .i64 k ∧ Hid ((∀ j, j < k → xs.getD j [] = ys.getD j []) ∧ Below w.heap.size w wr)) (fun i _ => n - (intOf i).toNat)
  case atStart => exact ⟨0, Nat.zero_le _, rfl, fun j hj => absurd hj (Nat.not_lt_zero _), Below.refl _ _⟩
  case round =>
    obtain ⟨k, hk, rfl, HK⟩ := hrel
    by_cases hlt : k < n
    · obtain ⟨b1', o1', e1, _, hc1⟩ := (HX.out.below HK.out.2).cells hp
      obtain ⟨b2', o2', e2, _, hc2⟩ := (HY.out.below HK.out.2).cells hp
      cases e1
      cases e2
      obtain ⟨ua, uc, g1, r1⟩ := hc1 k hlt
      obtain ⟨va, vc, g2, r2⟩ := hc2 k hlt
      have s1 := fun m => convert_str (r1.below (below_drewN (Below.refl _ _) m))
      have s2 := fun m => convert_str (r2.below (below_drewN (Below.refl _ _) m))
      have hs := str_same (xs.getD k []) (ys.getD k [])
      clear hc1 hc2 r1 r2
      by_cases hxy : xs.getD k [] = ys.getD k []
      · have HE : Hid (∀ j, j < k + 1 → xs.getD j [] = ys.getD j []) := fun j hj => by
          rcases Nat.lt_succ_iff_lt_or_eq.1 hj with h | h
          · exact HK.out.1 j h
          · rw [h]; exact hxy
        rw [decide_eq_true hxy] at hs
        generalize xs.getD k [] = x at *
        generalize ys.getD k [] = y at *
        clear hxy
        go_wp2
        go_quiet (fail)
        go_wp2
        refine ⟨⟨k + 1, by omega, by go_num, HE.out, below_drewN HK.out.2 _⟩, ?_⟩
        simp [intOf]; omega
      · have HE : Hid (xs ≠ ys) := fun e => hxy (by rw [e])
        rw [decide_eq_false hxy] at hs
        generalize xs.getD k [] = x at *
        generalize ys.getD k [] = y at *
        clear hxy
        go_wp2
        go_quiet (fail)
        go_wp2
        go_ret
        exact ⟨ret_bool (decide_eq_false HE.out).symm, below_drewN HK.out.2 _⟩
    · have hkn : k = n := by omega
      have HE : Hid (xs = ys) := rows_ext HL.out.1 HL.out.2 (by rw [← hkn]; exact HK.out.1)
      have hlt' : ¬ (k : Int) < (n : Int) := by omega
      clear hkn hlt
      go_wp2
      go_ret
      exact ⟨ret_bool (decide_eq_true HE.out).symm, HK.out.2⟩

set_option maxRecDepth 100000 in
theorem sameAll_short (a b : Option Addr) (n m c d : Nat) (w : World) (h : n ≠ m) : Calls Try.prog 15 #[.slice a n c, .slice b m d] w fun e w' => e = .returned (.bool false) ∧ w' = w := by
  have h2 : ¬ (n : Int) = (m : Int) := by omega
  go_enter Try.func15, Try.ntmps15
  go_wp2
  go_ret
  exact ⟨rfl, rfl⟩
set_option maxRecDepth 100000 in
theorem sameAll_none (a b : Option Addr) (c d : Nat) (w : World) : Calls Try.prog 15 #[.slice a 0 c, .slice b 0 d] w fun e w' => e = .returned (.bool true) ∧ w' = w := by
  go_enter Try.func15, Try.ntmps15
  go_wp2
  refine wp_loop_rounds 1 ?_
  rw [rounds_succ]
  go_wp2
  go_ret
  exact ⟨rfl, rfl⟩

theorem sameAll_any (v u : Value) (xs ys : List Row) (w : World) (hx : RowsV w v xs) (hy : RowsV w u ys) : Calls Try.prog 15 #[v, u] w fun e w' => e = .returned (.bool (decide (xs = ys))) ∧ Below w.heap.size w w' := by
  obtain ⟨a, c, rfl, h1, h2, h3, h4⟩ := id hx
  obtain ⟨b, d, rfl, k1, k2, k3, k4⟩ := id hy
  by_cases hne : xs.length = ys.length
  · by_cases hp : 0 < xs.length
    · obtain ⟨b1, o1, rfl, _, _⟩ := hx.cells hp
      obtain ⟨b2, o2, rfl, _, _⟩ := hy.cells (by omega)
      rw [← hne] at hy ⊢
      exact sameAll_walk b1 o1 c b2 o2 d xs.length xs ys w (by unfold maxLen at h3; omega) hx hy hp
    · have e1 : xs = [] := List.length_eq_zero_iff.1 (by omega)
      have e2 : ys = [] := List.length_eq_zero_iff.1 (by omega)
      subst e1 e2
      exact (sameAll_none a b c d w).mono fun e w' ⟨he, hw⟩ => ⟨by rw [he]; simp, by rw [hw]; exact Below.refl _ _⟩
  · exact (sameAll_short a b _ _ c d w hne).mono fun e w' ⟨he, hw⟩ => ⟨by rw [he, decide_eq_false (fun e => hne (by rw [e]))], by rw [hw]; exact Below.refl _ _⟩
theorem sameAll_yes (v u : Value) (xs : List Row) (w : World) (hx : RowsV w v xs) (hy : RowsV w u xs) : Calls Try.prog 15 #[v, u] w fun e w' => e = .returned (.bool true) ∧ Below w.heap.size w w' := by
  have := sameAll_any v u xs xs w hx hy
  rwa [decide_eq_true rfl] at this

/-- How many bytes rows have together. -/
def tot : List Row → Nat
  | [] => 0
  | r :: rs => r.length + tot rs
theorem tot_append (a b : List Row) : tot (a ++ b) = tot a + tot b := by
  induction a with
  | nil => simp [tot]
  | cons x a ih => simp [tot, ih]; omega
theorem tot_next {rs : List Row} {k : Nat} (h : k < rs.length) : tot (rs.take (k + 1)) = tot (rs.take k) + (rs.getD k []).length := by
  rw [List.take_succ_eq_append_getElem h, tot_append]
  simp [tot, List.getD, h]
theorem tot_take (rs : List Row) (k : Nat) : tot (rs.take k) ≤ tot rs := by
  conv => rhs; rw [← List.take_append_drop k rs, tot_append]
  omega
theorem recds_tot (rs : List Row) : (recds rs).length = 8 * rs.length + tot rs := by
  induction rs with
  | nil => rfl
  | cons x rs ih => simp [recds, recd_len, tot, ih]; omega
theorem tot_mem {rs : List Row} {r : Row} (h : r ∈ rs) : r.length ≤ tot rs := by
  induction rs with
  | nil => simp at h
  | cons x rs ih =>
    rcases List.mem_cons.1 h with rfl | h
    · simp [tot]
    · have := ih h; simp [tot]; omega
def Light (rs : List Row) : Prop := rs.length ≤ 60 ∧ tot rs ≤ 600
theorem Light.short {rs : List Row} (h : Light rs) : ∀ r ∈ rs, r.length < 4294967296 := fun r hr => by have := tot_mem hr; have := h.2; omega
theorem Light.take {rs : List Row} (h : Light rs) (k : Nat) : Light (rs.take k) := ⟨by have := h.1; simp; omega, by have := tot_take rs k; have := h.2; omega⟩
theorem getD_mem {rs : List Row} {i : Nat} (h : i < rs.length) : rs.getD i [] ∈ rs := by
  have e : rs.getD i [] = rs[i] := by simp [h]
  rw [e]; exact List.getElem_mem _

set_option maxRecDepth 100000 in
set_option maxHeartbeats 400000 in
theorem light_walk (b off n c : Nat) (rs : List Row) (w : World) (HR : Hid (RowsV w (.slice (some ⟨b, off, none⟩) n c) rs)) (HL : Hid (rs.length = n)) (HS : Hid (∀ i, i < n → (rs.getD i []).length ≤ 1000000000000000)) (hp : 0 < n) (hn : n ≤ 60) :
    Calls Try.prog 16 #[.slice (some ⟨b, off, none⟩) n c] w fun e w' => e = .returned (.bool (decide (tot rs ≤ 600))) ∧ w' = w := by
  go_enter Try.func16, Try.ntmps16
  go_wp2
  go_loop [3, 4] (fun s i => ∃ k : Nat, k ≤ n ∧ i = .int .i64 k ∧ s = .int .i64 (tot (rs.take k) : Nat) ∧ tot (rs.take k) ≤ 600) (fun _ i => n - (intOf i).toNat)
  case atStart => exact ⟨0, Nat.zero_le _, rfl, by simp [tot], by simp [tot]⟩
  case round =>
    obtain ⟨k, hk, rfl, rfl, hle⟩ := hrel
    by_cases hlt : k < n
    · obtain ⟨b1, o1, e1, _, hc⟩ := HR.out.cells hp
      cases e1
      obtain ⟨ua, uc, g1, _⟩ := hc k hlt
      have HT : Hid (tot (rs.take (k + 1)) = tot (rs.take k) + (rs.getD k []).length) := tot_next (by rw [HL.out]; exact hlt)
      have hs := HS.out k hlt
      clear hc
      generalize (rs.getD k []).length = x at *
      generalize hT : tot (rs.take k) = T at *
      by_cases hbig : 600 < T + x
      · have HE : Hid (¬ tot rs ≤ 600) := by
          have h1 := HT.out
          have h2 := tot_take rs (k + 1)
          show ¬ _
          omega
        clear hT
        have hb2 : (600 : Int) < (T : Int) + (x : Int) := by omega
        go_wp2
        go_ret
        exact ⟨ret_bool (decide_eq_false HE.out).symm, rfl⟩
      · have hb2 : ¬ (600 : Int) < (T : Int) + (x : Int) := by omega
        clear hT
        go_wp2
        go_round
        case rel => exact ⟨k + 1, by omega, by go_num, by rw [HT.out]; simp, by rw [HT.out]; omega⟩
        case measure => simp [intOf]; omega
    · have hkn : k = n := by omega
      have HE : Hid (tot rs ≤ 600) := by
        rw [hkn, ← HL.out, List.take_length] at hle
        exact hle
      have hlt' : ¬ (k : Int) < (n : Int) := by omega
      clear hkn hlt
      generalize tot (rs.take k) = T at *
      go_wp2
      go_ret
      exact ⟨ret_bool (decide_eq_true HE.out).symm, rfl⟩

set_option maxRecDepth 100000 in
theorem light_many (a : Option Addr) (n c : Nat) (w : World) (h : 60 < n) : Calls Try.prog 16 #[.slice a n c] w fun e w' => e = .returned (.bool false) ∧ w' = w := by
  have h2 : (60 : Int) < (n : Int) := by omega
  go_enter Try.func16, Try.ntmps16
  go_wp2
  go_ret
  exact ⟨rfl, rfl⟩
set_option maxRecDepth 100000 in
theorem light_none (a : Option Addr) (c : Nat) (w : World) : Calls Try.prog 16 #[.slice a 0 c] w fun e w' => e = .returned (.bool true) ∧ w' = w := by
  go_enter Try.func16, Try.ntmps16
  go_wp2
  refine wp_loop_rounds 1 ?_
  rw [rounds_succ]
  go_wp2
  go_ret
  exact ⟨rfl, rfl⟩
def lightB (rs : List Row) : Bool := decide (rs.length ≤ 60 ∧ tot rs ≤ 600)
theorem light_of {rs : List Row} (h : lightB rs = true) : Light rs := of_decide_eq_true (p := rs.length ≤ 60 ∧ tot rs ≤ 600) h
theorem light_any (v : Value) (rs : List Row) (w : World) (hr : RowsV w v rs) (hs : ∀ i, i < rs.length → (rs.getD i []).length ≤ 1000000000000000) : Calls Try.prog 16 #[v] w fun e w' => e = .returned (.bool (lightB rs)) ∧ w' = w := by
  obtain ⟨a, c, rfl, h1, h2, h3, h4⟩ := id hr
  unfold lightB
  by_cases hb : 60 < rs.length
  · rw [decide_eq_false (fun h => by omega)]
    exact light_many a _ c w hb
  · by_cases hp : 0 < rs.length
    · obtain ⟨b, off, rfl, _, _⟩ := hr.cells hp
      have := light_walk b off rs.length c rs w hr rfl hs hp (by omega)
      rwa [decide_eq_decide.2 (show tot rs ≤ 600 ↔ (rs.length ≤ 60 ∧ tot rs ≤ 600) from ⟨fun h => ⟨by omega, h⟩, fun h => h.2⟩)] at this
    · have e1 : rs = [] := List.length_eq_zero_iff.1 (by omega)
      subst e1
      exact light_none a c w

set_option maxRecDepth 100000 in
set_option maxHeartbeats 400000 in
theorem written_walk (b off n c : Nat) (rs : List Row) (w : World) (HR : Hid (RowsV w (.slice (some ⟨b, off, none⟩) n c) rs)) (HL : Hid (rs.length = n)) (HG : Hid (Light rs)) (hp : 0 < n) (hn : n ≤ 60) :
    Calls Try.prog 17 #[.slice (some ⟨b, off, none⟩) n c] w fun e w' => ∃ v', e = .returned v' ∧ Owns w' w.heap.size v' (recds rs) ∧ Below w.heap.size w w' := by
  go_enter Try.func17, Try.ntmps17
  go_wp2
  go_loopw [3, 4] (fun v i wr => ∃ k : Nat, k ≤ n ∧ i = .int .i64 k ∧ Hid (Owns wr w.heap.size v (recds (rs.take k)) ∧ Below w.heap.size w wr)) (fun _ i _ => n - (intOf i).toNat)
  case atStart => exact ⟨0, Nat.zero_le _, rfl, Owns.nil _ _, Below.refl _ _⟩
  case round =>
    obtain ⟨k, hk, rfl, HK⟩ := hrel
    by_cases hlt : k < n
    · obtain ⟨b1, o1, e1, _, hc⟩ := (HR.out.below HK.out.2).cells hp
      cases e1
      obtain ⟨ua, uc, g1, r1⟩ := hc k hlt
      have HC : Hid (Calls Try.prog 12 #[u3, .slice ua (rs.getD k []).length uc] wr fun e w' => ∃ v', e = .returned v' ∧ Owns w' w.heap.size v' (recds (rs.take (k + 1))) ∧ Below w.heap.size w w') := by
        have hl1 : (recds (rs.take k)).length ≤ 1000000000 := by rw [recds_tot]; have := (HG.out.take k).1; have := (HG.out.take k).2; omega
        have hl2 : (rs.getD k []).length ≤ 1000000000 := by have := tot_mem (getD_mem (rs := rs) (i := k) (by rw [HL.out]; exact hlt)); have := HG.out.2; omega
        have e : recds (rs.take (k + 1)) = recds (rs.take k) ++ recd (rs.getD k []) := by
          rw [List.take_succ_eq_append_getElem (by rw [HL.out]; exact hlt), recds_append, recds_one]
          congr 2
          simp [List.getD, show k < rs.length by rw [HL.out]; exact hlt]
        rw [e]
        exact (put_any w.heap.size _ _ _ _ wr HK.out.1 r1 HK.out.2.size hl1 hl2).mono fun e w' ⟨v', he, ho, hB⟩ => ⟨v', he, ho, HK.out.2.trans hB⟩
      clear hc r1
      generalize (rs.getD k []).length = x at *
      go_wp2_with (go_at_call 12; refine HC.out.mono ?_; rintro e w1 ⟨v1, rfl, ho, hB⟩; have H1 : Hid (Owns w1 w.heap.size v1 (recds (rs.take (k + 1))) ∧ Below w.heap.size w w1) := ⟨ho, hB⟩; clear ho hB)
      go_roundw
      case rel => exact ⟨k + 1, by omega, by go_num, H1.out⟩
      case measure => simp [intOf]; omega
    · have hkn : k = n := by omega
      have HE : Hid (Owns wr w.heap.size u3 (recds rs)) := by
        have h := HK.out.1
        rw [hkn, ← HL.out, List.take_length] at h
        exact h
      have hlt' : ¬ (k : Int) < (n : Int) := by omega
      clear hkn hlt
      go_wp2
      go_ret
      exact ⟨_, rfl, HE.out, HK.out.2⟩

set_option maxRecDepth 100000 in
theorem written_none (a : Option Addr) (c : Nat) (w : World) : Calls Try.prog 17 #[.slice a 0 c] w fun e w' => e = .returned (.slice none 0 0) ∧ w' = w := by
  go_enter Try.func17, Try.ntmps17
  go_wp2
  refine wp_loop_rounds 1 ?_
  rw [rounds_succ]
  go_wp2
  go_ret
  exact ⟨rfl, rfl⟩
theorem written_any (v : Value) (rs : List Row) (w : World) (hr : RowsV w v rs) (hg : Light rs) : Calls Try.prog 17 #[v] w fun e w' => ∃ a c, e = .returned (.slice a (recds rs).length c) ∧ Owns w' w.heap.size (.slice a (recds rs).length c) (recds rs) ∧ Below w.heap.size w w' := by
  obtain ⟨a, c, rfl, h1, h2, h3, h4⟩ := id hr
  by_cases hp : 0 < rs.length
  · obtain ⟨b, off, rfl, _, _⟩ := hr.cells hp
    refine (written_walk b off rs.length c rs w hr rfl hg hp hg.1).mono fun e w' ⟨v', he, ho, hB⟩ => ?_
    obtain ⟨a', c', rfl, _⟩ := ReadsV.of_own ho
    exact ⟨a', c', he, ho, hB⟩
  · have e1 : rs = [] := List.length_eq_zero_iff.1 (by omega)
    subst e1
    exact (written_none a c w).mono fun e w' ⟨he, hw⟩ => ⟨none, 0, he, Owns.nil _ _, by rw [hw]; exact Below.refl _ _⟩

end Go.Proofs.Ytccccclnfimcoaa
