/-
  The walk of LexNumbers.
-/
import Derived.Test.YtepdcpdageeipaaDoorLists
import Derived.Laws.IdiomStrings
namespace Go.Proofs.YtepdcpdageeipaaDoor
open Go.RowKit Go.Maps
set_option linter.unusedVariables false

theorem val_step (a d m v : Nat) : (a * 10 + d) * m + v = a * (m * 10) + (d * m + v) := by
  rw [Nat.add_mul (a * 10) d m, Nat.mul_assoc a 10 m, Nat.mul_comm 10 m, Nat.add_assoc]
theorem val_cons (a : Nat) (c : UInt8) (r : Bs) {d : Nat} (hd : c.toNat - 48 = d) : val a (c :: r) = val (a * 10 + d) r := by subst hd; rfl
theorem val_more (l : Bs) : ∀ a : Nat, val a l = a * 10 ^ l.length + val 0 l := by
  induction l with
  | nil => intro a; show a = a * 10 ^ 0 + 0; rw [Nat.pow_zero, Nat.mul_one]; rfl
  | cons c r ih =>
    intro a
    generalize hd : c.toNat - 48 = d
    rw [val_cons a c r hd, val_cons 0 c r hd, List.length_cons, Nat.pow_succ]
    have e : 0 * 10 + d = d := by omega
    rw [e, ih (a * 10 + d), ih d]
    exact val_step a d _ _
def dig (d : Nat) : UInt8 := UInt8.ofNat (48 + d)
theorem dig_nat {d : Nat} (h : d < 10) : (dig d).toNat = 48 + d := by
  unfold dig
  rw [UInt8.toNat_ofNat']
  omega
theorem dig_digit {d : Nat} (h : d < 10) : digit (dig d) = true := by
  unfold digit
  rw [dig_nat h, decide_eq_true (by omega), decide_eq_true (by omega)]; rfl
theorem val_dig {d : Nat} (h : d < 10) (l : Bs) : val 0 (dig d :: l) = d * 10 ^ l.length + val 0 l := by
  have hd : (dig d).toNat - 48 = d := by rw [dig_nat h]; omega
  have e : 0 * 10 + d = d := by omega
  rw [val_cons 0 _ l hd, e, val_more l d]
/-- Digits that are the lower ones of n, above which k stands. -/
structure Lower (n k : Nat) (l : Bs) : Prop where
  dg : l.all digit = true
  eq : n = k * 10 ^ l.length + val 0 l
  few : l.length ≤ 1 ∨ 10 ^ (l.length - 1) ≤ n
theorem Lower.next {n k : Nat} {l : Bs} (h : Lower n k l) (hk : 0 < k ∨ l = []) : Lower n (k / 10) (dig (k % 10) :: l) := by
  have hd : k % 10 < 10 := Nat.mod_lt _ (by decide)
  refine ⟨by rw [List.all_cons, dig_digit hd, h.dg]; rfl, ?_, ?_⟩
  · rw [val_dig hd, List.length_cons, Nat.pow_succ]
    have h1 := h.eq
    have h2 : k = k / 10 * 10 + k % 10 := by omega
    generalize 10 ^ l.length = m at *
    rw [Nat.mul_comm m 10, ← Nat.mul_assoc, ← Nat.add_assoc, ← Nat.add_mul, ← h2]
    exact h1
  · rcases hk with hk | hk
    · right
      rw [List.length_cons, Nat.add_sub_cancel, h.eq]
      exact Nat.le_trans (Nat.le_mul_of_pos_left _ hk) (Nat.le_add_right _ _)
    · left; subst hk; exact Nat.le_refl _
theorem Lower.len {n k : Nat} {l : Bs} (h : Lower n k l) (hn : n < 2 ^ 63) : l.length ≤ 19 := by
  rcases h.few with h1 | h1
  · omega
  · by_cases h2 : l.length ≤ 19
    · exact h2
    · have h3 : 10 ^ 19 ≤ 10 ^ (l.length - 1) := Nat.pow_le_pow_right (by decide) (by omega)
      omega
theorem nought_val (i : Nat) (l : Bs) : val 0 (List.replicate i (48 : UInt8) ++ l) = val 0 l := by
  induction i with
  | zero => rfl
  | succ i ih => rw [List.replicate_succ, List.cons_append]; exact ih
theorem nought_all (i : Nat) (l : Bs) (h : l.all digit = true) : (List.replicate i (48 : UInt8) ++ l).all digit = true := by
  induction i with
  | zero => exact h
  | succ i ih => rw [List.replicate_succ, List.cons_append, List.all_cons, ih]; decide
theorem take_all (p : UInt8 → Bool) : ∀ r : Bs, r.all p = true → r.takeWhile p = r ∧ r.dropWhile p = []
  | [], _ => ⟨rfl, rfl⟩
  | c :: r, h => by
    simp only [List.all_cons, Bool.and_eq_true] at h
    obtain ⟨h1, h2⟩ := take_all p r h.2
    simp [List.takeWhile, List.dropWhile, h.1, h1, h2]
theorem sp_digits (l : Bs) (h : l.all digit = true) (h0 : l ≠ []) (hv : val 0 l < 2 ^ 63) : sp l 0 = ⟨[⟨1, [], val 0 l, 0⟩], 0, 0⟩ := by
  match l, h, h0, hv with
  | c :: r, h, _, hv =>
    have h' := h
    simp only [List.all_cons, Bool.and_eq_true] at h'
    have hk : kind c = 1 := by unfold kind; rw [if_pos h'.1]
    have hc : c.toNat ≠ 32 := by have := h'.1; unfold digit at this; simp at this; omega
    have hg : goes 1 = digit := by funext x; rfl
    have hw : word c r = c :: r := by rw [word_of, hk, hg, (take_all digit r h'.2).1]
    have ho : one (c :: r) = ⟨0, 0, 1, [], val 0 (c :: r), (c :: r).length⟩ := by
      rw [one_cons, oneC, if_pos hk, hw, if_neg (by omega), hk, hg, (take_all digit r h'.2).2]; rfl
    rw [sp_word 0 hc (by rw [ho]), ho]
    show join _ (sp ((c :: r).drop (c :: r).length) _) = _
    rw [List.drop_length, sp_nil]; rfl
theorem lex_number {n i : Nat} {l : Bs} (h : Lower n 0 l) (h0 : l ≠ []) (hn : n < 2 ^ 63) (hi : i < 20) : lexOut (ba (List.replicate i (48 : UInt8) ++ l)) = ⟨[⟨1, [], n, 0⟩], 0, 0⟩ := by
  have hl := h.len hn
  have e : n = val 0 l := by have := h.eq; omega
  unfold lexOut
  rw [if_pos (by rw [ba_size, List.length_append, List.length_replicate]; omega), ba_list, sp_digits _ (nought_all i l h.dg) (by simp [h0]) (by rw [nought_val, ← e]; exact hn), nought_val, ← e]

def lenOf : Value → Nat
  | .string s => s.size
  | _ => 0
def left : Value → Value → Nat
  | v, i => 2 * (intOf i).toNat + (if lenOf v = 0 then 1 else 0)
theorem left_less {k : Nat} {l : Bs} {c : UInt8} (h : 0 < k ∨ l = []) : left (.string (ba (c :: l))) (.int .i64 ((k / 10 : Nat) : Int)) < left (.string (ba l)) (.int .i64 (k : Int)) := by
  show 2 * ((k / 10 : Nat) : Int).toNat + 0 < 2 * ((k : Int)).toNat + (if l.length = 0 then 1 else 0)
  rcases h with h | h
  · split <;> omega
  · subst h; simp; omega
theorem ba_cat (a b : Bs) : ba a ++ ba b = ba (a ++ b) := by
  rw [← ba_of (ba a ++ ba b)]
  congr 1
  first | done | simp [ba]
theorem conv_one (wr : World) (d : Nat) (hd : d < 10) (x : Int) (hx : x = 48 + d) : (convert 35 9 (.slice (some ⟨wr.heap.size, 0, none⟩) 1 1)).run Tryd.prog (wr.alloc (.cells #[.int .u8 x] 5)) = .ok (.string (ba [dig d])) (wr.alloc (.cells #[.int .u8 x] 5)) := by
  have := run_convert_bytes_back (P := Tryd.prog) (wr.alloc (.cells #[.int .u8 x] 5)) 35 9 5 ⟨wr.heap.size, 0, none⟩ 1 [dig d] Tryd.underlying35 Tryd.underlying5 Tryd.underlying9 (by
    intro j hj
    have hj0 : j = 0 := by simp at hj; exact hj
    subst hj0
    rw [add_plain, cell_of_row _ wr.heap.size (0 + 0) _ 5 (0, 0) (heap_alloc_new wr _)]
    show some (Value.int .u8 x) = some (.int .u8 ((dig d).toNat : Int))
    rw [dig_nat hd, hx]; rfl)
  exact this

theorem num_call {n i : Nat} {l : Bs} (h : Lower n 0 l) (h0 : l ≠ []) (hn : n < 2 ^ 63) (hi : i < 20) (w : World) (hw : Held w) : Calls Tryd.prog 9 #[.string (ba (List.replicate i (48 : UInt8) ++ l))] w fun e w' => ∃ b cap, e = .returned (.tuple #[.slice (some ⟨b, 0, none⟩) 1 cap, .agg #[.int .i64 0, .int .i64 0]]) ∧ 1 ≤ cap ∧ b < w'.heap.size ∧ w'.cell? ⟨b, 0, none⟩ = some (.int .i64 1) ∧ w'.cell? ⟨b, 2, none⟩ = some (.int .i64 n) ∧ Below w.heap.size w w' := by
  have hl := h.len hn
  refine (split_any _ (by unfold maxLen; rw [ba_size, List.length_append, List.length_replicate]; omega) w hw).mono ?_
  rintro e w' ⟨v, rfl, hV, hB⟩
  rw [lex_number h h0 hn hi] at hV ⊢
  obtain ⟨a, cap, rfl, h2, h3, h4⟩ := hV
  rcases h4 with h4 | ⟨b, rfl, hc⟩
  · simp at h4
  · have k0 := hc 0 (by show 0 < 1; decide)
    exact ⟨b, cap, rfl, h2, World.block_lt_of_cell? w' _ k0.c0, k0.c0, k0.c2, hB⟩

set_option maxRecDepth 100000 in
set_option maxHeartbeats 400000 in
theorem num_walk (n q : Nat) (hn : n < 2 ^ 63) (hq : q < 256) (w : World) (HW : Hid (Held w)) : Calls Tryd.prog 7 #[.int .i64 n, .int .u8 q] w fun e w' => e = .returned (.bool true) ∧ Below w.heap.size w w' := by
  have hn' : n < 9223372036854775808 := hn
  have HN : Hid (n < 2 ^ 63) := hn
  clear hn
  go_enter Tryd.func7, Tryd.ntmps7
  go_wp2
  go_loopw [5, 6] (fun v i wr => ∃ (k : Nat) (l : Bs), k ≤ n ∧ i = .int .i64 k ∧ v = .string (ba l) ∧ Hid (Lower n k l) ∧ Hid (Below w.heap.size w wr)) (fun v i _ => left v i)
  case atStart => exact ⟨n, [], Nat.le_refl _, rfl, rfl, ⟨rfl, by show n = n * 10 ^ 0 + 0; rw [Nat.pow_zero, Nat.mul_one]; rfl, .inl (by simp)⟩, Below.refl _ _⟩
  case round =>
    obtain ⟨k, l, hk, rfl, rfl, HL, HB⟩ := hrel
    by_cases hgo : 0 < k ∨ l = []
    · have hcv := conv_one wr (k % 10) (Nat.mod_lt _ (by decide)) (48 + (k : Int) % 10) (by omega)
      have hcat : ba [dig (k % 10)] ++ ba l = ba (dig (k % 10) :: l) := ba_cat _ _
      have HN2 : Hid _ := HL.out.next hgo
      have HLs : Hid _ := left_less (c := dig (k % 10)) hgo
      have hz1 : (ba [dig (k % 10)]).size = 1 := rfl
      have hz2 : (ba l).size ≤ 19 := HL.out.len HN.out
      generalize dig (k % 10) = dd at *
      by_cases h0 : 0 < k
      · go_wp2
        refine ⟨⟨k / 10, dd :: l, by omega, by go_num, rfl, HN2.out, HB.out.alloc HB.out.size _⟩, ?_⟩
        exact HLs.out
      · have hk0 : k = 0 := by omega
        have hl0 : l = [] := by
          rcases hgo with h | h
          · exact absurd h h0
          · exact h
        subst hk0 hl0
        have hte : (ba []).toList.isEmpty = true := by rw [Lib.toList_data]; rfl
        have hte2 : (ba []).toList = [] := by rw [Lib.toList_data]; rfl
        have hcv2 : (convert 35 9 (.slice (some ⟨wr.heap.size, 0, none⟩) 1 1)).run Tryd.prog (wr.alloc (.cells #[.int .u8 48] 5)) = .ok (.string (ba [dd])) (wr.alloc (.cells #[.int .u8 48] 5)) := hcv
        clear hcv
        go_wp2
        refine ⟨⟨0, [dd], by omega, by go_num, rfl, HN2.out, HB.out.alloc HB.out.size _⟩, ?_⟩
        exact HLs.out
    · have hk0 : k = 0 := by omega
      have hl0 : ¬ l = [] := fun e => hgo (.inr e)
      subst hk0
      have HL2 : Hid (∀ i, i < 20 → ∀ w, Held w → Calls Tryd.prog 9 #[.string (ba (List.replicate i (48 : UInt8) ++ l))] w fun e w' => ∃ b cap, e = .returned (.tuple #[.slice (some ⟨b, 0, none⟩) 1 cap, .agg #[.int .i64 0, .int .i64 0]]) ∧ 1 ≤ cap ∧ b < w'.heap.size ∧ w'.cell? ⟨b, 0, none⟩ = some (.int .i64 1) ∧ w'.cell? ⟨b, 2, none⟩ = some (.int .i64 n) ∧ Below w.heap.size w w') := fun i hi => num_call HL.out hl0 HN.out hi
      have hte : (ba l).toList.isEmpty = false := by
        rw [Lib.toList_data, ba_list]; simpa using hl0
      have hte2 : ¬ (ba l).toList = [] := by rw [Lib.toList_data, ba_list]; exact hl0
      have HR : Hid (Held wr) := HW.out.below (Nat.le_refl _) HB.out
      have HZl : Hid (l.length ≤ 19) := HL.out.len HN.out
      clear hgo hl0 HL
      go_wp2
      have hl1 : ba l = ba (List.replicate 0 (48 : UInt8) ++ l) := rfl
      go_loop [5, 7] (fun v i => ∃ k : Nat, k ≤ q % 20 ∧ i = .int .i64 k ∧ v = .string (ba (List.replicate k (48 : UInt8) ++ l))) (fun _ i => q % 20 - (intOf i).toNat)
      case atStart => exact ⟨0, Nat.zero_le _, rfl, rfl⟩
      case round =>
        obtain ⟨k, hkq, rfl, rfl⟩ := hrel
        by_cases hlt : k < q % 20
        · have hcat : (⟨#[48]⟩ : ByteArray) ++ ba (List.replicate k (48 : UInt8) ++ l) = ba (List.replicate (k + 1) (48 : UInt8) ++ l) := ba_cat [48] _
          have hz1 : (⟨#[48]⟩ : ByteArray).size = 1 := rfl
          have hz2 : (ba (List.replicate k (48 : UInt8) ++ l)).size ≤ 40 := by rw [ba_size, List.length_append, List.length_replicate]; have := HZl.out; omega
          generalize ba (List.replicate k (48 : UInt8) ++ l) = x at *
          go_wp2
          go_round
          case rel => exact ⟨k + 1, by omega, by go_num, rfl⟩
          case measure => simp [intOf]; omega
        · have hk : k = q % 20 := by omega
          have HC : Hid _ := HL2.out k (by omega)
          clear HL2
          generalize ba (List.replicate k (48 : UInt8) ++ l) = x at *
          go_wp2_with (first
            | (have := D1; go_at_call 8; refine (works_any _ H1.out).mono ?_; rintro e w2 ⟨rfl, HBx⟩; have HB2 : Hid (Below w.heap.size w w2) := below_new HB1.out HBx; clear HBx D1)
            | (go_at_call 9; refine (HC.out _ HR.out).mono ?_; rintro e w1 ⟨b, cap, rfl, hcap, hb, c0, c2, HBx⟩; have HB1 : Hid (Below w.heap.size w w1) := HB.out.trans (HBx.mono HB.out.size); have H1 : Hid (Held (w1.alloc (.cells #[.int .i64 0, .int .i64 0] 26))) := ((HW.out.below (Nat.le_refl _) HB1.out).new _); have D1 : Hid True := trivial; clear HBx HC))
          go_ret
          exact ⟨rfl, HB2.out⟩
end Go.Proofs.YtepdcpdageeipaaDoor
