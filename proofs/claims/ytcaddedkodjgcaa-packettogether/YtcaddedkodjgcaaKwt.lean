/-
  How large messages are: mathematics, and the document's Weight; its 'in'.
-/
import Derived.Test.YtcaddedkodjgcaaKjh
import Derived.Test.YtcaddedkodjgcaaKmt
namespace Go.Proofs.Ytcaddedkodjgcaa
open Go.RowKit Pack
set_option linter.unusedVariables false
set_option linter.unusedSimpArgs false

def wtE (e : En) : Nat := 1 + e.2.length / 20
def wtEs (l : List En) : Nat := (l.map wtE).sum
def wtM (m : Ms) : Nat := 1 + m.data.length / 20 + wtEs m.ents
def wtMs (l : List Ms) : Nat := (l.map wtM).sum
theorem wtEs_take {l : List En} {n : Nat} (h : n < l.length) : wtEs (l.take (n + 1)) = wtEs (l.take n) + wtE (l.getD n zE) := by
  unfold wtEs
  rw [take_snoc h, List.map_append, List.sum_append, List.getD_eq_getElem?_getD, List.getElem?_eq_getElem h]
  simp
theorem wtMs_take {l : List Ms} {n : Nat} (h : n < l.length) : wtMs (l.take (n + 1)) = wtMs (l.take n) + wtM (l.getD n zMs) := by
  unfold wtMs
  rw [take_snoc h, List.map_append, List.sum_append, List.getD_eq_getElem?_getD, List.getElem?_eq_getElem h]
  simp
theorem wtEs_len : ∀ l : List En, l.length ≤ wtEs l
  | [] => Nat.le_refl _
  | e :: l => by
    have := wtEs_len l
    unfold wtEs at this ⊢
    rw [List.map_cons, List.sum_cons, List.length_cons]
    unfold wtE
    unfold wtE at this
    omega
theorem wtMs_len : ∀ l : List Ms, l.length ≤ wtMs l
  | [] => Nat.le_refl _
  | m :: l => by
    have := wtMs_len l
    have e : wtMs (m :: l) = wtM m + wtMs l := by unfold wtMs; rw [List.map_cons, List.sum_cons]
    have : 1 ≤ wtM m := by unfold wtM; omega
    rw [e, List.length_cons]
    omega
theorem wtMs_mem : ∀ {l : List Ms} {m : Ms}, m ∈ l → wtM m ≤ wtMs l
  | [], m, h => by cases h
  | x :: l, m, h => by
    have e : wtMs (x :: l) = wtM x + wtMs l := by unfold wtMs; rw [List.map_cons, List.sum_cons]
    rcases List.mem_cons.1 h with rfl | h
    · omega
    · have := wtMs_mem h; omega
theorem urI_len (n : Int) (h : n < 18446744073709551616) : (urI n).length ≤ 10 := urow_len (by omega)
theorem entB_len {e : En} (h : e.1 < 18446744073709551616) (h2 : e.2.length < 18446744073709551616) : (entB e).length ≤ 20 + e.2.length := by
  have h1 := urI_len e.1 h
  have h3 := urow_len h2
  unfold entB
  rw [List.length_append, List.length_append]
  omega
theorem ents_len : ∀ {l : List En}, (∀ e ∈ l, e.1 < 18446744073709551616 ∧ e.2.length < 18446744073709551616) → (l.flatMap entB).length ≤ 40 * wtEs l
  | [], _ => by simp
  | e :: l, h => by
    have h1 := ents_len fun x hx => h x (List.mem_cons_of_mem _ hx)
    obtain ⟨h2, h3⟩ := h e List.mem_cons_self
    have h4 := entB_len h2 h3
    have h5 : wtEs (e :: l) = 1 + e.2.length / 20 + wtEs l := by unfold wtEs; rw [List.map_cons, List.sum_cons]; rfl
    rw [List.flatMap_cons, List.length_append, h5]
    omega
theorem nums_len : ∀ {l : List Int}, (∀ n ∈ l, n < 18446744073709551616) → (numsB l).length ≤ 10 * l.length
  | [], _ => by simp [numsB]
  | n :: l, h => by
    have h1 := nums_len fun x hx => h x (List.mem_cons_of_mem _ hx)
    have h2 := urI_len n (h n List.mem_cons_self)
    unfold numsB at h1 ⊢
    rw [List.flatMap_cons, List.length_append, List.length_cons]
    omega
/-- The numbers of a message are such as there are. -/
def MsR (m : Ms) : Prop := InR m.kind ∧ InR m.grp ∧ InR m.frm ∧ InR m.to ∧ InR m.term ∧ InR m.at_ ∧ InR m.att ∧ InR m.commit
theorem head_lt {m : Ms} (h : MsR m) (hl : m.ents.length < 18446744073709551616) : ∀ n ∈ headL m, n < 18446744073709551616 := by
  obtain ⟨h1, h2, h3, h4, h5, h6, h7, h8⟩ := h
  intro n hn
  unfold headL at hn
  unfold InR at *
  simp only [List.mem_cons, List.not_mem_nil, or_false] at hn
  have hb : (if m.ok = true then (1 : Int) else 0) ≤ 1 := by split <;> omega
  rcases hn with rfl | rfl | rfl | rfl | rfl | rfl | rfl | rfl <;> omega
theorem msB_len {m : Ms} (h : MsR m) (hl : m.ents.length < 18446744073709551616) (hd : m.data.length < 18446744073709551616) (he : ∀ e ∈ m.ents, e.1 < 18446744073709551616 ∧ e.2.length < 18446744073709551616) : (msB m).length ≤ 140 * wtM m := by
  have h1 := nums_len (head_lt h hl)
  have h2 := ents_len he
  have h3 := urow_len hd
  have h4 : (headL m).length = 8 := rfl
  unfold msB wtM
  rw [List.length_append, List.length_append, List.length_append]
  omega

set_option maxRecDepth 100000 in
set_option maxHeartbeats 800000 in
theorem Weight_any (P : Nat → Prop) (a : Option Addr) (c : Nat) (l : List Ms) (w : World) (hE : RwV msR w P a c l) : Calls Try.prog 23 #[.slice a l.length c, .int .i64 300] w fun e w' => ∃ k : Int, e = .returned (.int .i64 k) ∧ (k ≤ 300 → wtMs l ≤ 300) ∧ w' = w := by
  have h1 := hE.cap1
  have h2 := hE.cap2
  have HC : Hid (∀ i, i < l.length → ∃ b o ea ec da dc, a = some ⟨b, o, none⟩ ∧ w.cell? ⟨b, o + i * 11 + 9, none⟩ = some (.slice ea (l.getD i zMs).ents.length ec) ∧ w.cell? ⟨b, o + i * 11 + 10, none⟩ = some (.slice da (l.getD i zMs).data.length dc) ∧ (l.getD i zMs).data.length ≤ 9223372036854775807 ∧ (l.getD i zMs).ents.length ≤ ec ∧ ec ≤ 9223372036854775807 ∧ Hid (∀ j, j < (l.getD i zMs).ents.length → ∃ b o ka kc, ea = some ⟨b, o, none⟩ ∧ w.cell? ⟨b, o + j * 2 + 1, none⟩ = some (.slice ka ((l.getD i zMs).ents.getD j zE).2.length kc) ∧ ((l.getD i zMs).ents.getD j zE).2.length ≤ 9223372036854775807)) := fun i hi => by
    obtain ⟨b, o, ax, q1, q2, q3, q4⟩ := hE.msg hi
    obtain ⟨_, _, e, _, r1, r2, _⟩ := q3.d
    refine ⟨b, o, _, _, _, _, q1, q4.2.2.2.2.2.2.2.2.2.1, q4.2.2.2.2.2.2.2.2.2.2, ?_, q3.e.cap1, q3.e.cap2, fun j hj => ?_⟩
    · simp only [Value.slice.injEq] at e
      unfold maxLen at r2
      omega
    · obtain ⟨b, o, ka, kc, s1, s2, s3, s4, _⟩ := q3.e.at_ hj
      obtain ⟨_, _, e, _, r1, r2, _⟩ := s4
      simp only [Value.slice.injEq] at e
      unfold maxLen at r2
      exact ⟨b, o, ka, kc, s1, s3, by omega⟩
  have HT : Hid (∀ i, i < l.length → wtMs (l.take (i + 1)) = wtMs (l.take i) + (1 + (l.getD i zMs).data.length / 20 + wtEs (l.getD i zMs).ents)) := fun i hi => wtMs_take hi
  have HZ : Hid (wtMs (l.take l.length) = wtMs l) := by show _ = _; rw [List.take_length]
  generalize hn : l.length = n at *
  clear hE
  go_enter Try.func23, Try.ntmps23
  go_wp2
  go_loopw [5, 6] (fun x y wr => ∃ (i m : Nat), i ≤ n ∧ x = .int .i64 (m : Nat) ∧ y = .int .i64 i ∧ m ≤ 500000000000000000 ∧ w = wr ∧ Hid (m ≤ 300 → m = wtMs (l.take i))) (fun x y _ => n - (intOf y).toNat)
  case atStart => exact ⟨0, 0, Nat.zero_le _, rfl, rfl, by decide, rfl, fun _ => rfl⟩
  case round =>
    obtain ⟨i, m, hi, rfl, rfl, hm, rfl, HR⟩ := hrel
    by_cases hlt : i < n
    · by_cases hm3 : m ≤ 300
      · obtain ⟨b, o, ea, ec, da, dc, rfl, x1, x2, x3, x4, x5, HE⟩ := HC.out i hlt
        have HS := HT.out i hlt
        have HW : Hid (∀ j, j < (l.getD i zMs).ents.length → wtEs ((l.getD i zMs).ents.take (j + 1)) = wtEs ((l.getD i zMs).ents.take j) + (1 + ((l.getD i zMs).ents.getD j zE).2.length / 20)) := fun j hj => wtEs_take hj
        have HZ2 : Hid (wtEs ((l.getD i zMs).ents.take (l.getD i zMs).ents.length) = wtEs (l.getD i zMs).ents) := by show _ = _; rw [List.take_length]
        have HM : Hid (m = wtMs (l.take i)) := HR.out hm3
        have HG : Hid (wtMs (l.take (i + 1)) = wtMs (l.take i) + (1 + (l.getD i zMs).data.length / 20 + wtEs (l.getD i zMs).ents)) := HS
        clear HS HR
        generalize (l.getD i zMs).ents = es at *
        generalize (l.getD i zMs).data.length = L at *
        generalize hk : es.length = N at *
        go_wp2
        go_loopw [5, 7] (fun x y wr => ∃ (j q : Nat), j ≤ N ∧ x = .int .i64 (q : Nat) ∧ y = .int .i64 j ∧ q ≤ 500000000000000000 ∧ w = wr ∧ Hid (q ≤ 300 → q = m + 1 + L / 20 + wtEs (es.take j))) (fun x y _ => N - (intOf y).toNat)
        case atStart => exact ⟨0, m + 1 + L / 20, Nat.zero_le _, by go_num, rfl, by omega, rfl, fun _ => rfl⟩
        case round =>
          obtain ⟨j, q, hj, rfl, rfl, hq, rfl, HQ⟩ := hrel
          by_cases hjt : j < N
          · by_cases hq3 : q ≤ 300
            · obtain ⟨b2, o2, ka, kc, rfl, y1, y2⟩ := HE.out j hjt
              have HS : Hid (q + 1 + (es.getD j zE).2.length / 20 = m + 1 + L / 20 + wtEs (es.take (j + 1))) := by
                have h1 := HQ.out hq3
                have h2 := HW.out j hjt
                show _ = _
                omega
              clear HQ
              generalize (es.getD j zE).2.length = D at *
              go_wp2
              go_roundw
              case rel => exact ⟨j + 1, q + 1 + D / 20, by omega, by go_num, by go_num, by omega, trivial, fun _ => HS.out⟩
              case measure => simp [intOf]; omega
            · go_wp2
              go_roundw
              case rel => exact ⟨i + 1, q, by omega, by go_num, by go_num, by omega, trivial, fun z => absurd z hq3⟩
              case measure => simp [intOf]; omega
          · have HS : Hid (q ≤ 300 → q = wtMs (l.take (i + 1))) := fun z => by
              have h1 := HQ.out z
              have h2 := HZ2.out
              have h3 := HG.out
              have h4 := HM.out
              obtain rfl : j = N := by omega
              omega
            clear HQ
            go_wp2
            go_roundw
            case rel => exact ⟨i + 1, q, by omega, by go_num, by go_num, by omega, trivial, HS.out⟩
            case measure => simp [intOf]; omega
      · go_wp2
        go_ret
        exact ⟨_, rfl, fun q => absurd q (by omega), rfl⟩
    · have HT : Hid ((m : Int) ≤ 300 → wtMs l ≤ 300) := fun q => by
        have h1 := HR.out (by omega)
        have h2 := HZ.out
        obtain rfl : i = n := by omega
        omega
      go_wp2
      go_ret
      exact ⟨_, rfl, HT.out, rfl⟩
theorem inI_yes {n a b : Int} (h1 : a ≤ n) (h2 : n ≤ b) : inI n a b = true := by unfold inI; rw [decide_eq_true h1, decide_eq_true h2]; rfl
set_option maxRecDepth 100000 in
theorem in_any (n a b : Int) (w : World) : Calls Try.prog 31 #[.int .i64 n, .int .i64 a, .int .i64 b] w fun e w' => e = .returned (.bool (inI n a b)) ∧ w' = w := by
  unfold inI
  by_cases h1 : a ≤ n
  · by_cases h2 : n ≤ b
    · rw [decide_eq_true h1, decide_eq_true h2]
      go_enter Try.func31, Try.ntmps31
      go_wp2
      go_ret
      exact ⟨rfl, rfl⟩
    · rw [decide_eq_true h1, decide_eq_false h2]
      go_enter Try.func31, Try.ntmps31
      go_wp2
      go_ret
      exact ⟨rfl, rfl⟩
  · rw [decide_eq_false h1]
    go_enter Try.func31, Try.ntmps31
    go_wp2
    go_ret
    exact ⟨rfl, rfl⟩
end Go.Proofs.Ytcaddedkodjgcaa
