/-
  Bytes as texts, cuts of rows; the program's first: contracts.
-/
import Derived.Test.YtccccclnfimcoaaWalks
namespace Go.Proofs.Ytccccclnfimcoaa
open Go.RowKit Crc
set_option linter.unusedVariables false

def str (l : List (BitVec 8)) : ByteArray := ⟨(l.map fun b => UInt8.ofNat b.toNat).toArray⟩
theorem str_toList (l : List (BitVec 8)) : (str l).toList = l.map fun b => UInt8.ofNat b.toNat := by unfold str; rw [ByteArray.toList_mk]
theorem str_inj {l m : List (BitVec 8)} (h : l.map (fun b => UInt8.ofNat b.toNat) = m.map fun b => UInt8.ofNat b.toNat) : l = m := by
  induction l generalizing m with
  | nil => cases m with
    | nil => rfl
    | cons _ _ => simp at h
  | cons x l ih => cases m with
    | nil => simp at h
    | cons y m =>
      simp only [List.map_cons, List.cons.injEq] at h
      rw [ih h.2]
      have h1 := congrArg UInt8.toNat h.1
      have hx := x.isLt
      have hy := y.isLt
      simp at h1
      rw [BitVec.eq_of_toNat_eq (x := x) (y := y) (by omega)]
theorem str_same (l m : List (BitVec 8)) : ((str l).toList == (str m).toList) = decide (l = m) := by
  rw [str_toList, str_toList]
  by_cases h : l = m
  · subst h; simp
  · rw [decide_eq_false h, beq_eq_false_iff_ne]
    exact fun e => h (str_inj e)
theorem str_push : ∀ (l : List (BitVec 8)) (s : ByteArray), (l.map B).foldl (fun r n => r.push (UInt8.ofNat n.toNat)) s = ⟨s.data ++ (l.map fun b => UInt8.ofNat b.toNat).toArray⟩
  | [], s => by simp
  | b :: l, s => by
    simp only [List.map_cons, List.foldl_cons]
    rw [str_push l]
    simp [ByteArray.push, B]

theorem convert_str {w : World} {a : Option Addr} {n c : Nat} {l : List (BitVec 8)} (h : ReadsV w (.slice a n c) l) : (convert 22 9 (.slice a n c)).run Try.prog w = .ok (.string (str l)) w := by
  obtain ⟨a', c', hv, hn, _, _, hr⟩ := h
  simp only [Value.slice.injEq] at hv
  obtain ⟨rfl, rfl, rfl⟩ := hv
  rw [run_convert_bytes_string w 22 9 5 _ _ _ Try.underlying22 Try.underlying5 Try.underlying9]
  cases a with
  | none =>
    have : l = [] := by
      rcases hr.2 with h | ⟨_, _, h, _⟩
      · exact h
      · cases h
    subst this
    rfl
  | some ad =>
    rw [run_bytesToString w ad l.length c (l.map B) ?_]
    · rw [str_push]; simp [str]
    · have := run_loadCells_list (P := Try.prog) w ad (bytesV l) ?_
      · rw [bytesV_length] at this
        rw [this]
        simp [bytesV]
      · intro j v hj
        obtain ⟨hj1, rfl⟩ := bytesV_getElem hj
        rcases hr.2 with h0 | ⟨b, off, hb, hc⟩
        · subst h0; simp at hj1
        · cases hb
          rw [add_plain]
          exact hc j hj1

set_option maxRecDepth 100000 in
theorem same_any (v u : Value) (l m : List (BitVec 8)) (w : World) (hr : ReadsV w v l) (hq : ReadsV w u m) :
    Calls Try.prog 11 #[v, u] w fun e w' => e = .returned (.bool (decide (l = m))) ∧ w' = w := by
  obtain ⟨a, c, rfl, hrest⟩ := hr
  obtain ⟨a2, c2, rfl, hrest2⟩ := hq
  have h1 := convert_str (w := w) ⟨a, c, rfl, hrest⟩
  have h2 := convert_str (w := w) ⟨a2, c2, rfl, hrest2⟩
  have h3 := str_same l m
  clear hrest hrest2
  go_enter Try.func11, Try.ntmps11
  go_wp2
  go_ret
  exact ⟨rfl, rfl⟩

theorem same_yes (v u : Value) (l : List (BitVec 8)) (w : World) (hr : ReadsV w v l) (hq : ReadsV w u l) :
    Calls Try.prog 11 #[v, u] w fun e w' => e = .returned (.bool true) ∧ w' = w := by
  have := same_any v u l l w hr hq
  rwa [decide_eq_true rfl] at this

theorem ReadsV.front {w : World} {a : Option Addr} {n c m : Nat} {l : List (BitVec 8)} (h : ReadsV w (.slice a n c) l) (hm : m ≤ n) : ReadsV w (.slice a m c) (l.take m) := by
  obtain ⟨a', c', hv, h1, h2, h3, h4⟩ := h
  simp only [Value.slice.injEq] at hv
  obtain ⟨rfl, rfl, rfl⟩ := hv
  have hl : (l.take m).length = m := by simp; omega
  refine ⟨a, c, by rw [hl], h1, by omega, h3, ?_⟩
  have := h4.cut 0 m false (by simp)
  refine ⟨by rw [hl]; unfold maxLen at *; omega, ?_⟩
  rcases h4.2 with h0 | ⟨b, off, ha, hc⟩
  · left; rw [h0]; simp
  · right
    refine ⟨b, off, ha, fun i hi => ?_⟩
    rw [hc i (by omega)]
    simp [nth, show i < m by omega, show i < l.length by omega]

/-- 'b[:m:m]'. -/
theorem ReadsV.clip {w : World} {a : Option Addr} {n c m : Nat} {l : List (BitVec 8)} (h : ReadsV w (.slice a n c) l) (hm : m ≤ n) : ReadsV w (.slice a m m) (l.take m) := by
  have h' := h.front hm
  obtain ⟨a0, c0, hv0, h10, h20, h30, h40⟩ := h
  simp only [Value.slice.injEq] at hv0
  obtain ⟨rfl, rfl, rfl⟩ := hv0
  obtain ⟨a', c', hv, h1, h2, h3, h4⟩ := h'
  have hl : (l.take m).length = m := by simp; omega
  simp only [Value.slice.injEq] at hv
  obtain ⟨rfl, _, rfl⟩ := hv
  exact ⟨a, m, by rw [hl], fun e => by have := h1 e; omega, by omega, by omega, h4⟩
/-- 'b[k:]'. -/
theorem ReadsV.back {w : World} {a : Option Addr} {n c k : Nat} {l : List (BitVec 8)} (h : ReadsV w (.slice a n c) l) (hk : k ≤ n) : ReadsV w (.slice (if c = k then a else a.map (·.add k)) (n - k) (c - k)) (l.drop k) := by
  obtain ⟨a', c', hv, h1, h2, h3, h4⟩ := h
  simp only [Value.slice.injEq] at hv
  obtain ⟨rfl, rfl, rfl⟩ := hv
  have := ReadsV.cut h4 (k := k) (h := l.length) (m := c) (fun e => by have := h1 e; omega) hk (Nat.le_refl _) h2 h3
  rw [List.take_length, Nat.mul_one] at this
  exact this

set_option maxRecDepth 100000 in
set_option maxHeartbeats 400000 in
theorem first_walk (b off n c N : Nat) (ra : Option Addr) (l : Row) (w : World) (hn : 8 ≤ n) (hnc : n ≤ c) (hcm : c ≤ 9223372036854775807) (hra : (if c = 8 then some (⟨b, off, none⟩ : Addr) else some ⟨b, off + 8, none⟩) = ra)
    (HR : Hid (ReadsV w (.slice (some ⟨b, off, none⟩) 4 c) (l.take 4) ∧ ReadsV w (.slice (some ⟨b, off + 4, none⟩) 4 (c - 4)) ((l.take 8).drop 4) ∧ ReadsV w (.slice ra (n - 8) (c - 8)) (l.drop 8))) (HA : Hid (∀ w2, ReadsV w2 (.slice (some ⟨b, off, none⟩) n c) l → ReadsV w2 (.slice ra (n - 8) (c - 8)) (l.drop 8))) (HL : Hid (l.length = n)) (HN : Hid ((wd (l.take 4)).toNat = N)) :
    Calls Try.prog 23 #[.slice (some ⟨b, off, none⟩) n c] w fun e w' => Below w.heap.size w w' ∧ ((∃ a c' r, First l r ∧ e = .returned (.tuple #[.slice a r.length c', .bool true]) ∧ ∀ w2, ReadsV w2 (.slice (some ⟨b, off, none⟩) n c) l → ReadsV w2 (.slice a r.length c') r) ∨ (NoFirst l ∧ e = .returned (.tuple #[.slice none 0 0, .bool false]))) := by
  have hN32 : N < 4294967296 := by rw [← HN.out]; exact (wd (l.take 4)).isLt
  have hc4 : ¬ c = 4 := by omega
  have h8 : 8 ≤ l.length := by rw [HL.out]; exact hn
  have HNum : Hid (∀ w1, Below w.heap.size w w1 → Calls Try.prog 28 #[.slice (some ⟨b, off, none⟩) 4 c] w1 fun e w2 => e = .returned (.int .u32 (N : Int)) ∧ Below w.heap.size w w2) := fun w1 hB => by
    have := numberOf_any _ _ _ w1 (HR.out.1.below hB)
    refine this.mono fun e w2 ⟨he, h2⟩ => ⟨?_, hB.trans (h2.mono hB.size)⟩
    rw [he, ← HN.out]; rfl
  by_cases hbig : n - 8 < N
  · have HNo : Hid (NoFirst l) := fun r hr => by
      obtain ⟨e1, e2, _⟩ := (first_iff h8).1 hr
      rw [HN.out] at e1
      rw [List.length_drop, HL.out] at e2
      omega
    clear h8
    have hb2 : (n : Int) - 8 < (N : Int) := by omega
    go_enter Try.func23, Try.ntmps23
    go_wp2
    go_quiet (fail)
    go_wp2_with (go_at_call 28; refine (HNum.out _ (below_drewN (Below.refl _ _) _)).mono ?_; rintro e w1 ⟨rfl, hB⟩; have H1 : Hid (Below w.heap.size w w1) := hB; clear hB)
    go_ret2
    exact ⟨H1.out, .inr ⟨HNo.out, rfl⟩⟩
  · have hb2 : ¬ (n : Int) - 8 < (N : Int) := by omega
    have HRec : Hid (ReadsV w (.slice ra N N) ((l.drop 8).take N)) := HR.out.2.2.clip (by omega)
    have HRecA : Hid (∀ w2, ReadsV w2 (.slice (some ⟨b, off, none⟩) n c) l → ReadsV w2 (.slice ra N N) ((l.drop 8).take N)) := fun w2 h => (HA.out w2 h).clip (by omega)
    have hlen : ((l.drop 8).take N).length = N := by rw [List.length_take, List.length_drop, HL.out]; omega
    have HSum : Hid (∀ w1, Below w.heap.size w w1 → Calls Try.prog 21 #[.slice (some ⟨b, off, none⟩) 4 c, .slice ra N N] w1 fun e w2 => e = .returned (.int .u32 (W (sum (l.take 4 ++ (l.drop 8).take N)))) ∧ Below w.heap.size w w2) := fun w1 hB =>
      (sumOf_any _ _ _ _ w1 (HR.out.1.below hB) (HRec.out.below hB)).mono fun e w2 ⟨he, h2⟩ => ⟨he, by rw [h2]; exact hB⟩
    have HNum2 : Hid (∀ w1, Below w.heap.size w w1 → Calls Try.prog 28 #[.slice (some ⟨b, off + 4, none⟩) 4 (c - 4)] w1 fun e w2 => e = .returned (.int .u32 (W (wd ((l.take 8).drop 4)))) ∧ Below w.heap.size w w2) := fun w1 hB =>
      (numberOf_any _ _ _ w1 (HR.out.2.1.below hB)).mono fun e w2 ⟨he, h2⟩ => ⟨he, hB.trans (h2.mono hB.size)⟩
    have HYes : Hid (sum (l.take 4 ++ (l.drop 8).take N) = wd ((l.take 8).drop 4) → First l ((l.drop 8).take N)) := fun h => (first_iff h8).2 ⟨by rw [hlen, HN.out], by rw [hlen, List.length_drop, HL.out]; omega, by rw [hlen], h⟩
    have HNo : Hid (¬ sum (l.take 4 ++ (l.drop 8).take N) = wd ((l.take 8).drop 4) → NoFirst l) := fun h r hr => by
      obtain ⟨e1, _, e3, e4⟩ := (first_iff h8).1 hr
      rw [HN.out] at e1
      rw [e1] at e3
      rw [e3] at e4
      exact h e4
    have HLr : Hid (((l.drop 8).take N).length = N) := hlen
    clear h8 hlen
    generalize (l.drop 8).take N = r at HRec HRecA HSum HYes HNo HLr
    generalize sum (l.take 4 ++ r) = x at HSum HYes HNo
    generalize wd ((l.take 8).drop 4) = y at HNum2 HYes HNo
    by_cases hxy : x = y
    · have hf := HYes.out hxy
      have HF : Hid (First l r) := hf
      subst hxy
      clear hf HYes HNo
      go_enter Try.func23, Try.ntmps23
      go_wp2
      go_quiet (fail)
      go_wp2_with (first
        | (go_at_call 28; have := H2; refine (HNum2.out _ H2.out).mono ?_; rintro e w3 ⟨rfl, hB⟩; have H3 : Hid (Below w.heap.size w w3) := hB; clear hB)
        | (go_at_call 21; have := H1; refine (HSum.out _ H1.out).mono ?_; rintro e w2 ⟨rfl, hB⟩; have H2 : Hid (Below w.heap.size w w2) := hB; clear hB)
        | (go_at_call 28; refine (HNum.out _ (below_drewN (Below.refl _ _) _)).mono ?_; rintro e w1 ⟨rfl, hB⟩; have H1 : Hid (Below w.heap.size w w1) := hB; clear hB))
      go_ret2
      exact ⟨H3.out, .inl ⟨ra, N, r, HF.out, by rw [HLr.out]; rfl, by rw [HLr.out]; exact HRecA.out⟩⟩
    · have hf := HNo.out hxy
      have HF : Hid (NoFirst l) := hf
      have hne : ¬ W x = W y := fun e => hxy (W_inj e)
      clear hf HYes HNo hxy
      go_enter Try.func23, Try.ntmps23
      go_wp2
      go_quiet (fail)
      go_wp2_with (first
        | (go_at_call 28; have := H2; refine (HNum2.out _ H2.out).mono ?_; rintro e w3 ⟨rfl, hB⟩; have H3 : Hid (Below w.heap.size w w3) := hB; clear hB)
        | (go_at_call 21; have := H1; refine (HSum.out _ H1.out).mono ?_; rintro e w2 ⟨rfl, hB⟩; have H2 : Hid (Below w.heap.size w w2) := hB; clear hB)
        | (go_at_call 28; refine (HNum.out _ (below_drewN (Below.refl _ _) _)).mono ?_; rintro e w1 ⟨rfl, hB⟩; have H1 : Hid (Below w.heap.size w w1) := hB; clear hB))
      go_ret2
      exact ⟨H3.out, .inr ⟨HF.out, rfl⟩⟩

set_option maxRecDepth 100000 in
theorem first_short_walk (a : Option Addr) (n c : Nat) (w : World) (hn : n < 8) : Calls Try.prog 23 #[.slice a n c] w fun e w' => w' = w ∧ e = .returned (.tuple #[.slice none 0 0, .bool false]) := by
  have h : (n : Int) < 8 := by omega
  go_enter Try.func23, Try.ntmps23
  go_wp2
  go_ret2
  exact ⟨rfl, rfl⟩

theorem first_any (v : Value) (l : Row) (w : World) (hr : ReadsV w v l) :
    Calls Try.prog 23 #[v] w fun e w' => Below w.heap.size w w' ∧ ((∃ a c r, First l r ∧ e = .returned (.tuple #[.slice a r.length c, .bool true]) ∧ ∀ w2, ReadsV w2 v l → ReadsV w2 (.slice a r.length c) r) ∨ (NoFirst l ∧ e = .returned (.tuple #[.slice none 0 0, .bool false]))) := by
  obtain ⟨a, c, rfl, h1, h2, h3, h4⟩ := id hr
  by_cases h8 : l.length < 8
  · refine (first_short_walk a l.length c w h8).mono ?_
    rintro e w' ⟨rfl, he⟩
    exact ⟨Below.refl _ _, .inr ⟨first_short h8, he⟩⟩
  · obtain ⟨b, off, rfl, _, _⟩ := cells_of hr (by omega)
    unfold maxLen at h3
    have e2 := ReadsV.back hr (k := 8) (by omega)
    have e3 : ReadsV w (.slice (some ⟨b, off + 4, none⟩) 4 (c - 4)) ((l.take 8).drop 4) := by
      have := ReadsV.back (hr.front (m := 8) (by omega)) (k := 4) (by omega)
      rw [if_neg (by omega)] at this
      simpa [add_plain] using this
    have e4 : (if c = 8 then some (⟨b, off, none⟩ : Addr) else (some (⟨b, off, none⟩ : Addr)).map (·.add 8)) = (if c = 8 then some (⟨b, off, none⟩ : Addr) else some ⟨b, off + 8, none⟩) := by
      simp [add_plain]
    rw [e4] at e2
    exact first_walk b off l.length c _ _ l w (by omega) h2 (by omega) rfl ⟨hr.front (by omega), e3, e2⟩ (fun w2 h => by have h6 := ReadsV.back h (k := 8) (by omega); rwa [e4] at h6) rfl rfl

end Go.Proofs.Ytccccclnfimcoaa
