/-
  Contracts: the program's Int, the document's Int and Bytes, the laws' own and Same.
-/
import Derived.Test.YtjafjheffbbkmaaVWrites
import Derived.Laws.BytesString
namespace Go.Proofs.Ytjafjheffbbkmaa.V
open Go.RowKit Pack

theorem zz_neg {m : Int} (h : m < 0) : (-1 - m) * 2 + 1 = (zz m : Int) := by unfold zz; rw [if_pos h]; omega
theorem zz_neg' {m : Int} (h : m < 0) : -(m + 1) * 2 + 1 = (zz m : Int) := by unfold zz; rw [if_pos h]; omega
theorem zz_pos {m : Int} (h : ¬ m < 0) : m * 2 = (zz m : Int) := by unfold zz; rw [if_neg h]; omega

theorem uint_eq (x : Int) (base : Nat) (v : Value) (l : List (BitVec 8)) (n : Nat) (w : World) (hx : x = (n : Int)) (hown : Owns w base v l) (hb : base ≤ w.heap.size) (hl : l.length ≤ 100000000000000) (hn : n < 18446744073709551616) :
    Calls Try.prog 44 #[v, .int .u64 x] w fun e w' => ∃ v', e = .returned v' ∧ Owns w' base v' (l ++ urow n) ∧ Below base w w' := by
  subst hx; exact uint_any base v l n w hown hb hl hn
theorem ruint_eq (x : Int) (n : Nat) (w : World) (hx : x = (n : Int)) (hn : n < 18446744073709551616) :
    Calls Try.prog 46 #[.int .u64 x] w fun e w' => ∃ v', e = .returned v' ∧ Owns w' w.heap.size v' (urow n) ∧ Below w.heap.size w w' := by
  subst hx; exact ruint_any n w hn

set_option maxRecDepth 100000 in
theorem int_any (base : Nat) (v : Value) (l : List (BitVec 8)) (m : Int) (w : World) (hown : Owns w base v l) (hb : base ≤ w.heap.size) (hl : l.length ≤ 100000000000000) (h1 : -9223372036854775808 ≤ m) (h2 : m ≤ 9223372036854775807) :
    Calls Try.prog 76 #[v, .int .i64 m] w fun e w' => ∃ v', e = .returned v' ∧ Owns w' base v' (l ++ urow (zz m)) ∧ Below base w w' := by
  have HO : Hid (Owns w base v l) := hown
  have HZ : Hid (zz m < 18446744073709551616) := zz_lt h1 h2
  have HL : Hid (l.length ≤ 100000000000000) := hl
  clear hown hl
  by_cases h : m < 0
  · have HV : Hid (_ = _) := zz_neg h
    go_enter Try.func76, Try.ntmps76
    go_wp2_with (go_at_call 44; refine (uint_eq _ base _ l (zz m) _ HV.out HO.out hb HL.out HZ.out).mono ?_; rintro e w' ⟨v', rfl, ho, hB⟩)
    go_ret
    exact ⟨_, rfl, ho, hB⟩
  · have HV : Hid (_ = _) := zz_pos h
    go_enter Try.func76, Try.ntmps76
    go_wp2_with (go_at_call 44; refine (uint_eq _ base _ l (zz m) _ HV.out HO.out hb HL.out HZ.out).mono ?_; rintro e w' ⟨v', rfl, ho, hB⟩)
    go_ret
    exact ⟨_, rfl, ho, hB⟩

set_option maxRecDepth 100000 in
theorem rint_any (m : Int) (w : World) (h1 : -9223372036854775808 ≤ m) (h2 : m ≤ 9223372036854775807) :
    Calls Try.prog 41 #[.int .i64 m] w fun e w' => ∃ v', e = .returned v' ∧ Owns w' w.heap.size v' (urow (zz m)) ∧ Below w.heap.size w w' := by
  have HZ : Hid (zz m < 18446744073709551616) := zz_lt h1 h2
  by_cases h : m < 0
  · have HV : Hid (_ = _) := zz_neg' h
    go_enter Try.func41, Try.ntmps41
    go_wp2_with (go_at_call 46; refine (ruint_eq _ (zz m) _ HV.out HZ.out).mono ?_; rintro e w' ⟨v', rfl, ho, hB⟩)
    go_ret
    exact ⟨_, rfl, ho, hB⟩
  · have HV : Hid (_ = _) := zz_pos h
    go_enter Try.func41, Try.ntmps41
    go_wp2_with (go_at_call 46; refine (ruint_eq _ (zz m) _ HV.out HZ.out).mono ?_; rintro e w' ⟨v', rfl, ho, hB⟩)
    go_ret
    exact ⟨_, rfl, ho, hB⟩

/-- What Same holds against each other. -/
def str (l : List (BitVec 8)) : ByteArray := ⟨(l.map fun b => UInt8.ofNat b.toNat).toArray⟩
theorem str_toList (l : List (BitVec 8)) : (str l).toList = l.map fun b => UInt8.ofNat b.toNat := by unfold str; rw [ByteArray.toList_mk]
theorem str_inj {l m : List (BitVec 8)} (h : l.map (fun b => UInt8.ofNat b.toNat) = m.map fun b => UInt8.ofNat b.toNat) : l = m := by
  induction l generalizing m with
  | nil => cases m with
    | nil => rfl
    | cons _ _ => simp at h
  | cons x l ih => cases m with
    | nil => simp at h
    | cons y m =>
      simp only [List.map_cons, List.cons.injEq] at h
      rw [ih h.2]
      have h1 := congrArg UInt8.toNat h.1
      have hx := x.isLt
      have hy := y.isLt
      simp at h1
      rw [BitVec.eq_of_toNat_eq (x := x) (y := y) (by omega)]
theorem str_same (l m : List (BitVec 8)) : ((str l).toList == (str m).toList) = decide (l = m) := by
  rw [str_toList, str_toList]
  by_cases h : l = m
  · subst h; simp
  · rw [decide_eq_false h, beq_eq_false_iff_ne]
    exact fun e => h (str_inj e)
theorem str_push : ∀ (l : List (BitVec 8)) (s : ByteArray), (l.map B).foldl (fun r n => r.push (UInt8.ofNat n.toNat)) s = ⟨s.data ++ (l.map fun b => UInt8.ofNat b.toNat).toArray⟩
  | [], s => by simp
  | b :: l, s => by
    simp only [List.map_cons, List.foldl_cons]
    rw [str_push l]
    simp [ByteArray.push, B]

theorem convert_str {w : World} {a : Option Addr} {n c : Nat} {l : List (BitVec 8)} (h : ReadsV w (.slice a n c) l) : (convert 32 9 (.slice a n c)).run Try.prog w = .ok (.string (str l)) w := by
  obtain ⟨a', c', hv, hn, _, _, hr⟩ := h
  simp only [Value.slice.injEq] at hv
  obtain ⟨rfl, rfl, rfl⟩ := hv
  rw [run_convert_bytes_string w 32 9 5 _ _ _ Try.underlying32 Try.underlying5 Try.underlying9]
  cases a with
  | none =>
    have : l = [] := by
      rcases hr.2 with h | ⟨_, _, h, _⟩
      · exact h
      · cases h
    subst this
    rfl
  | some ad =>
    rw [run_bytesToString w ad l.length c (l.map B) ?_]
    · rw [str_push]; simp [str]
    · have := run_loadCells_list (P := Try.prog) w ad (bytesV l) ?_
      · rw [bytesV_length] at this
        rw [this]
        simp [bytesV]
      · intro j v hj
        obtain ⟨hj1, rfl⟩ := bytesV_getElem hj
        rcases hr.2 with h0 | ⟨b, off, hb, hc⟩
        · subst h0; simp at hj1
        · cases hb
          rw [add_plain]
          exact hc j hj1

set_option maxRecDepth 100000 in
theorem same_any (v u : Value) (l m : List (BitVec 8)) (w : World) (hr : ReadsV w v l) (hq : ReadsV w u m) :
    Calls Try.prog 17 #[v, u] w fun e w' => e = .returned (.bool (decide (l = m))) ∧ w' = w := by
  obtain ⟨a, c, rfl, hrest⟩ := hr
  obtain ⟨a2, c2, rfl, hrest2⟩ := hq
  have h1 := convert_str (w := w) ⟨a, c, rfl, hrest⟩
  have h2 := convert_str (w := w) ⟨a2, c2, rfl, hrest2⟩
  have h3 := str_same l m
  clear hrest hrest2
  go_enter Try.func17, Try.ntmps17
  go_wp2
  go_ret
  exact ⟨rfl, rfl⟩

theorem same_yes (v u : Value) (l : List (BitVec 8)) (w : World) (hr : ReadsV w v l) (hq : ReadsV w u l) :
    Calls Try.prog 17 #[v, u] w fun e w' => e = .returned (.bool true) ∧ w' = w := by
  have := same_any v u l l w hr hq
  rwa [decide_eq_true rfl] at this

set_option maxRecDepth 100000 in
theorem rbytes_any (v : Value) (l : List (BitVec 8)) (w : World) (hr : ReadsV w v l) (hl : l.length ≤ 100000000000000) :
    Calls Try.prog 42 #[v] w fun e w' => ∃ v', e = .returned v' ∧ Owns w' w.heap.size v' (urow l.length ++ l) ∧ Below w.heap.size w w' := by
  obtain ⟨a, c, rfl, hrest⟩ := hr
  obtain ⟨n, hn⟩ : ∃ n, l.length = n := ⟨_, rfl⟩
  have HR : Hid (ReadsV w (.slice a n c) l) := ⟨a, c, by rw [hn], hrest⟩
  have hl2 : n ≤ 100000000000000 := by omega
  have HL : Hid ((urow n).length + l.length ≤ 140737488355328) := by show _ ≤ _; have := urow_len (n := n) (by omega); omega
  have HN : Hid (n < 18446744073709551616) := by show _ < _; omega
  rw [hn]
  clear hrest hl hn
  go_enter Try.func42, Try.ntmps42
  go_wp2_with (first
    | (go_at_call 46; refine (ruint_eq _ n _ rfl HN.out).mono ?_; rintro e w' ⟨v', rfl, ho, hB⟩; have HO : Hid (Owns w' w.heap.size v' (urow n)) := ho; have HB : Hid (Below w.heap.size w w') := hB; clear ho hB)
    | (at_builtin; refine wpList_append_bytes rfl (.tmp 6) (.tmp 7) 32 rfl w.heap.size Try.underlying32 Try.info5 _ (urow n) rfl HO.out _ l rfl (HR.out.below HB.out) HL.out HB.out.size ?_; intro v1 w1 hown1 hg1))
  go_ret
  exact ⟨_, rfl, hown1, HB.out.trans hg1⟩

end Go.Proofs.Ytjafjheffbbkmaa.V
