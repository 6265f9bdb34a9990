/-
  Records as plain mathematics: a record's bytes, records one behind the other, which record bytes begin with. It imports nothing of the program.
-/
import Derived.Test.YtccccclnfimcoaaBits
namespace Go.Proofs.Ytccccclnfimcoaa.Crc

abbrev Row := List (BitVec 8)
/-- A word as four bytes, the lowest first. -/
def four (s : BitVec 32) : Row := [s.setWidth 8, (s >>> 8).setWidth 8, (s >>> 16).setWidth 8, (s >>> 24).setWidth 8]
/-- The word of which these are the bytes. -/
def wd (m : Row) : BitVec 32 := word (nth m 0) (nth m 1) (nth m 2) (nth m 3)
def size4 (m : Row) : Row := four (BitVec.ofNat 32 m.length)
/-- A record's bytes. -/
def recd (m : Row) : Row := size4 m ++ (four (sum (size4 m ++ m)) ++ m)
def recds : List Row → Row
  | [] => []
  | m :: rs => recd m ++ recds rs

theorem four_len (s : BitVec 32) : (four s).length = 4 := rfl
theorem recd_len (m : Row) : (recd m).length = 8 + m.length := by simp [recd, size4, four_len]; omega
theorem recds_append (a b : List Row) : recds (a ++ b) = recds a ++ recds b := by
  induction a with
  | nil => rfl
  | cons x a ih => simp [recds, ih]
theorem recds_one (m : Row) : recds [m] = recd m := by simp [recds]

theorem wd_four (s : BitVec 32) : wd (four s) = s := word_of s

theorem four_nat (b0 b1 b2 b3 : BitVec 8) : four (BitVec.ofNat 32 (b0.toNat + 256 * b1.toNat + 65536 * b2.toNat + 16777216 * b3.toNat)) = [b0, b1, b2, b3] := by
  have h0 := b0.isLt
  have h1 := b1.isLt
  have h2 := b2.isLt
  have h3 := b3.isLt
  unfold four
  have e : ∀ (k : Nat) (b : BitVec 8), (b0.toNat + 256 * b1.toNat + 65536 * b2.toNat + 16777216 * b3.toNat) % 4294967296 / 2 ^ k % 256 = b.toNat → (BitVec.ofNat 32 (b0.toNat + 256 * b1.toNat + 65536 * b2.toNat + 16777216 * b3.toNat) >>> k).setWidth 8 = b := by
    intro k b h
    apply BitVec.eq_of_toNat_eq
    rw [BitVec.toNat_setWidth, BitVec.toNat_ushiftRight, BitVec.toNat_ofNat, Nat.shiftRight_eq_div_pow]
    exact h
  rw [e 8 b1 (by omega), e 16 b2 (by omega), e 24 b3 (by omega)]
  have := e 0 b0 (by omega)
  rw [BitVec.ushiftRight_zero] at this
  rw [this]

theorem word_nat (b0 b1 b2 b3 : BitVec 8) : (word b0 b1 b2 b3).toNat = b0.toNat + 256 * b1.toNat + 65536 * b2.toNat + 16777216 * b3.toNat := by
  have h := wd_four (BitVec.ofNat 32 (b0.toNat + 256 * b1.toNat + 65536 * b2.toNat + 16777216 * b3.toNat))
  rw [four_nat] at h
  have e : wd [b0, b1, b2, b3] = word b0 b1 b2 b3 := rfl
  rw [e] at h
  rw [h, BitVec.toNat_ofNat]
  have h0 := b0.isLt
  have h1 := b1.isLt
  have h2 := b2.isLt
  have h3 := b3.isLt
  omega

theorem four_word (b0 b1 b2 b3 : BitVec 8) : four (word b0 b1 b2 b3) = [b0, b1, b2, b3] := by
  have h := wd_four (BitVec.ofNat 32 (b0.toNat + 256 * b1.toNat + 65536 * b2.toNat + 16777216 * b3.toNat))
  rw [four_nat] at h
  have e : wd [b0, b1, b2, b3] = word b0 b1 b2 b3 := rfl
  rw [e] at h
  rw [h, four_nat]

theorem four_wd {m : Row} (h : m.length = 4) : four (wd m) = m := by
  match m, h with
  | [b0, b1, b2, b3], _ => exact four_word b0 b1 b2 b3

/-- The record that bytes begin with. -/
def First (l r : Row) : Prop := r.length < 4294967296 ∧ ∃ t, l = recd r ++ t
def NoFirst (l : Row) : Prop := ∀ r, ¬ First l r

theorem take_recd (r t : Row) : (recd r ++ t).take 4 = size4 r ∧ ((recd r ++ t).take 8).drop 4 = four (sum (size4 r ++ r)) ∧ (recd r ++ t).drop 8 = r ++ t := by
  have h4 : (size4 r).length = 4 := rfl
  have h5 : (four (sum (size4 r ++ r))).length = 4 := rfl
  unfold recd
  refine ⟨?_, ?_, ?_⟩
  · rw [List.append_assoc, List.take_left' h4]
  · rw [List.append_assoc, List.append_assoc, ← List.append_assoc (size4 r), List.take_left' (by simp [h4, h5]), List.drop_left' h4]
  · rw [List.append_assoc, List.append_assoc, ← List.append_assoc (size4 r), List.drop_left' (by simp [h4, h5])]

theorem size_nat {r : Row} (h : r.length < 4294967296) : (wd (size4 r)).toNat = r.length := by
  unfold size4
  rw [wd_four, BitVec.toNat_ofNat]
  omega

theorem first_iff {l r : Row} (h8 : 8 ≤ l.length) : First l r ↔ (r.length = (wd (l.take 4)).toNat ∧ r.length ≤ (l.drop 8).length ∧ r = (l.drop 8).take r.length ∧ sum (l.take 4 ++ r) = wd ((l.take 8).drop 4)) := by
  constructor
  · rintro ⟨hr, t, rfl⟩
    obtain ⟨e1, e2, e3⟩ := take_recd r t
    rw [e1, e2, e3, wd_four, size_nat hr]
    exact ⟨rfl, by simp, by simp, rfl⟩
  · rintro ⟨h1, h2, h3, h4⟩
    have hlt : r.length < 4294967296 := by rw [h1]; exact (wd (l.take 4)).isLt
    refine ⟨hlt, (l.drop 8).drop r.length, ?_⟩
    have hs : size4 r = l.take 4 := by
      unfold size4
      rw [h1, show BitVec.ofNat 32 (wd (l.take 4)).toNat = wd (l.take 4) from by simp]
      exact four_wd (by simp; omega)
    have e2 : four (sum (size4 r ++ r)) = (l.take 8).drop 4 := by
      rw [hs, h4]
      exact four_wd (by simp; omega)
    unfold recd
    rw [e2, hs]
    have a1 : (l.take 8).drop 4 = (l.drop 4).take 4 := by rw [List.drop_take]
    have a2 : r ++ (l.drop 8).drop r.length = l.drop 8 := by
      conv => lhs; lhs; rw [h3]
      exact List.take_append_drop _ _
    rw [List.append_assoc, List.append_assoc, a2, a1]
    have a3 : (l.drop 4).take 4 ++ l.drop 8 = l.drop 4 := by
      have := List.take_append_drop 4 (l.drop 4)
      rwa [List.drop_drop] at this
    rw [a3, List.take_append_drop]

theorem first_short {l : Row} (h : l.length < 8) : NoFirst l := by
  rintro r ⟨_, t, rfl⟩
  simp [recd_len] at h
  omega

theorem first_one {l r r' : Row} (h : First l r) (h' : First l r') : r = r' := by
  have h8 : 8 ≤ l.length := by
    rcases Nat.lt_or_ge l.length 8 with h0 | h0
    · exact absurd h (first_short h0 r)
    · exact h0
  obtain ⟨a, _, b, _⟩ := (first_iff h8).1 h
  obtain ⟨a', _, b', _⟩ := (first_iff h8).1 h'
  rw [b, b', a, a']

theorem first_recd (r t : Row) (h : r.length < 4294967296) : First (recd r ++ t) r := ⟨h, t, rfl⟩

/-- Which records bytes begin with, as many as there are. -/
structure Scans (l : Row) (rs : List Row) (n : Nat) : Prop where
  short : ∀ r ∈ rs, r.length < 4294967296
  rest : ∃ t, l = recds rs ++ t ∧ NoFirst t
  len : n = (recds rs).length

theorem scans_one {l : Row} : ∀ {rs rs' : List Row} {n n' : Nat}, Scans l rs n → Scans l rs' n' → rs = rs' ∧ n = n' := by
  have key : ∀ (rs rs' : List Row) (l t t' : Row), (∀ r ∈ rs, r.length < 4294967296) → (∀ r ∈ rs', r.length < 4294967296) → l = recds rs ++ t → l = recds rs' ++ t' → NoFirst t → NoFirst t' → rs = rs' := by
    intro rs
    induction rs with
    | nil =>
      intro rs' l t t' _ h' e e' hn _
      cases rs' with
      | nil => rfl
      | cons x rs' =>
        exfalso
        refine hn x ⟨h' x (by simp), recds rs' ++ t', ?_⟩
        have : t = l := by rw [e]; rfl
        rw [this, e', recds, List.append_assoc]
    | cons x rs ih =>
      intro rs' l t t' h h' e e' hn hn'
      cases rs' with
      | nil =>
        exfalso
        refine hn' x ⟨h x (by simp), recds rs ++ t, ?_⟩
        have : t' = l := by rw [e']; rfl
        rw [this, e, recds, List.append_assoc]
      | cons y rs' =>
        have h1 : First l x := ⟨h x (by simp), recds rs ++ t, by rw [e, recds, List.append_assoc]⟩
        have h2 : First l y := ⟨h' y (by simp), recds rs' ++ t', by rw [e', recds, List.append_assoc]⟩
        obtain rfl := first_one h1 h2
        have e2 : recds rs ++ t = recds rs' ++ t' := by
          rw [e, recds, recds, List.append_assoc, List.append_assoc] at e'
          exact List.append_cancel_left e'
        rw [ih rs' (recds rs ++ t) t t' (fun r hr => h r (by simp [hr])) (fun r hr => h' r (by simp [hr])) rfl e2 hn hn']
  intro rs rs' n n' h h'
  obtain ⟨t, e, hn⟩ := h.rest
  obtain ⟨t', e', hn'⟩ := h'.rest
  obtain rfl := key rs rs' l t t' h.short h'.short e e' hn hn'
  exact ⟨rfl, by rw [h.len, h'.len]⟩

theorem noFirst_nil : NoFirst [] := first_short (by simp)

/-- All of what is written is scanned. -/
theorem scans_all {rs : List Row} (h : ∀ r ∈ rs, r.length < 4294967296) : Scans (recds rs) rs (recds rs).length := ⟨h, ⟨[], by simp, noFirst_nil⟩, rfl⟩

/-- Torn anywhere. -/
theorem scans_torn : ∀ {l rs : List Row} {k n : Nat}, (∀ r ∈ l, r.length < 4294967296) → Scans ((recds l).take k) rs n → rs = l.take rs.length ∧ (rs.length = l.length ∨ k < n + 8 + (l.getD rs.length []).length) ∧ rs.length ≤ l.length := by
  intro l
  induction l with
  | nil =>
    intro rs k n _ h
    obtain ⟨t, e, _⟩ := h.rest
    cases rs with
    | nil => exact ⟨rfl, .inl rfl, Nat.le_refl _⟩
    | cons x rs =>
      have := congrArg List.length e
      simp [recds, recd_len] at this
      omega
  | cons x l ih =>
    intro rs k n hs h
    have hx := hs x (by simp)
    by_cases hk : (recd x).length ≤ k
    · have e1 : (recds (x :: l)).take k = recd x ++ (recds l).take (k - (recd x).length) := by
        rw [recds, List.take_append, List.take_of_length_le hk]
      rw [e1] at h
      obtain ⟨t, e, hn⟩ := h.rest
      have hf : First (recd x ++ (recds l).take (k - (recd x).length)) x := first_recd _ _ hx
      cases rs with
      | nil =>
        have : t = recd x ++ (recds l).take (k - (recd x).length) := by rw [e]; rfl
        rw [this] at hn
        exact absurd hf (hn x)
      | cons y rs =>
        have hy : First (recd x ++ (recds l).take (k - (recd x).length)) y := ⟨h.short y (by simp), recds rs ++ t, by rw [e, recds, List.append_assoc]⟩
        obtain rfl := first_one hf hy
        have e2 : (recds l).take (k - (recd x).length) = recds rs ++ t := by
          rw [recds, List.append_assoc] at e
          exact List.append_cancel_left e
        have h2 : Scans ((recds l).take (k - (recd x).length)) rs (recds rs).length := ⟨fun r hr => h.short r (by simp [hr]), ⟨t, e2, hn⟩, rfl⟩
        obtain ⟨i1, i2, i3⟩ := ih (fun r hr => hs r (by simp [hr])) h2
        have hlen : n = (recd x).length + (recds rs).length := by rw [h.len, recds]; simp
        refine ⟨by simp; exact i1, ?_, by simp; exact i3⟩
        rcases i2 with i2 | i2
        · exact .inl (by simp [i2])
        · right
          simp only [List.length_cons, List.getD_cons_succ]
          omega
    · have hk' : k < (recd x).length := by omega
      obtain ⟨t, e, hn⟩ := h.rest
      have hcut : (recds (x :: l)).take k = (recd x).take k := by
        rw [recds, List.take_append_of_le_length (by omega)]
      rw [hcut] at e
      cases rs with
      | nil =>
        refine ⟨rfl, .inr ?_, Nat.zero_le _⟩
        have := h.len
        simp [recds] at this
        subst this
        rw [recd_len] at hk'
        simpa using hk'
      | cons y rs =>
        exfalso
        have hy := h.short y (by simp)
        rw [recds, List.append_assoc] at e
        have hl := congrArg List.length e
        rw [List.length_append, recd_len, List.length_take] at hl
        have h8 : 4 ≤ k := by omega
        have a1 := (take_recd y (recds rs ++ t)).1
        rw [← e, List.take_take, Nat.min_eq_left h8] at a1
        have a2 := (take_recd x []).1
        rw [List.append_nil, a1] at a2
        have b1 := size_nat hy
        have b2 := size_nat hx
        rw [a2] at b1
        rw [recd_len] at hk' hl
        omega

/-- Bytes scanned to their end, and others behind. -/
theorem scans_join {a b : Row} {xs ys : List Row} {m : Nat} (h : Scans a xs a.length) (h' : Scans b ys m) : Scans (a ++ b) (xs ++ ys) (a.length + m) := by
  obtain ⟨t, e, _⟩ := h.rest
  have hl := h.len
  have ht : t = [] := by
    have := congrArg List.length e
    rw [List.length_append] at this
    exact List.length_eq_zero_iff.1 (by omega)
  subst ht
  rw [List.append_nil] at e
  obtain ⟨t', e', hn'⟩ := h'.rest
  refine ⟨fun r hr => ?_, ⟨t', ?_, hn'⟩, ?_⟩
  · rcases List.mem_append.1 hr with hr | hr
    · exact h.short r hr
    · exact h'.short r hr
  · rw [recds_append, e', ← List.append_assoc, ← e]
  · rw [recds_append, List.length_append, ← hl, h'.len]

theorem widen_inj {a b : BitVec 8} (h : a.setWidth 32 = b.setWidth 32) : a = b := by
  apply BitVec.eq_of_toNat_eq
  have := congrArg BitVec.toNat h
  rw [BitVec.toNat_setWidth, BitVec.toNat_setWidth] at this
  have h1 := a.isLt
  have h2 := b.isLt
  omega
/-- One byte turned turns the sum. -/
theorem tells_byte (p q : Row) {b c : BitVec 8} (h : b ≠ c) : sum (p ++ b :: q) ≠ sum (p ++ c :: q) := by
  intro e
  unfold sum go at e
  rw [BitVec.not_inj, upd_append, upd_append] at e
  have e1 := upd_inj q (a := eat (upd (~~~0#32) p) b) (b := eat (upd (~~~0#32) p) c) e
  have e2 := iter_inj 8 e1
  generalize upd (~~~0#32) p = r at e2
  have e3 : r ^^^ (r ^^^ b.setWidth 32) = r ^^^ (r ^^^ c.setWidth 32) := by rw [e2]
  rw [← BitVec.xor_assoc, ← BitVec.xor_assoc, BitVec.xor_self, BitVec.zero_xor, BitVec.zero_xor] at e3
  exact h (widen_inj e3)

/-- A byte of a sum or of a record's own bytes turned: no record is there. -/
theorem turned_none (x t : Row) (hx : x.length < 4294967296) (k : Nat) (hk4 : 4 ≤ k) (hk : k < 8 + x.length) (c : BitVec 8) (hc : c ≠ nth (recd x) k) : NoFirst ((recd x ++ t).set k c) := by
  intro y hy
  have hlen : (recd x).length = 8 + x.length := recd_len x
  have hset : (recd x ++ t).set k c = (recd x).set k c ++ t := List.set_append_left _ _ (by omega)
  rw [hset] at hy
  have h8 : 8 ≤ ((recd x).set k c ++ t).length := by simp; omega
  obtain ⟨h1, _, h3, h4⟩ := (first_iff h8).1 hy
  have hl : ((recd x).set k c).length = 8 + x.length := by simp [hlen]
  have e4 : ((recd x).set k c ++ t).take 4 = size4 x := by
    rw [List.take_append_of_le_length (by omega), List.take_set_of_le hk4]
    have := (take_recd x []).1
    rwa [List.append_nil] at this
  rw [e4, size_nat hx] at h1
  rw [e4] at h4
  by_cases hs : k < 8
  · have e8 : ((recd x).set k c ++ t).drop 8 = x ++ t := by
      rw [List.drop_append_of_le_length (by omega), List.drop_set_of_lt hs]
      have := (take_recd x []).2.2
      rw [List.append_nil, List.append_nil] at this
      rw [this]
    rw [e8, h1, List.take_left] at h3
    subst h3
    have e5 : (((recd y).set k c ++ t).take 8).drop 4 = ((recd y).take 8 |>.drop 4).set (k - 4) c := by
      rw [List.take_append_of_le_length (by omega), List.take_set, List.drop_set, if_neg (by omega)]
    have e6 : ((recd y).take 8).drop 4 = four (sum (size4 y ++ y)) := by
      have := (take_recd y []).2.1
      rwa [List.append_nil] at this
    rw [e5, e6] at h4
    have hf : four (wd ((four (sum (size4 y ++ y))).set (k - 4) c)) = (four (sum (size4 y ++ y))).set (k - 4) c := four_wd (by simp [four_len])
    rw [← h4] at hf
    have hg : (four (sum (size4 y ++ y)))[k - 4]? = some c := by
      conv => lhs; rw [hf]
      rw [List.getElem?_set, if_pos rfl, if_pos (by rw [four_len]; omega)]
    have hr : (recd y)[k]? = some c := by
      unfold recd
      rw [List.getElem?_append_right (by show 4 ≤ k; omega), show (size4 y).length = 4 from rfl, List.getElem?_append_left (by rw [four_len]; omega)]
      exact hg
    apply hc
    unfold nth
    rw [List.getD, hr]
    rfl
  · have e5 : (((recd x).set k c ++ t).take 8).drop 4 = four (sum (size4 x ++ x)) := by
      rw [List.take_append_of_le_length (by omega), List.take_set_of_le (by omega)]
      have := (take_recd x []).2.1
      rwa [List.append_nil] at this
    have e8 : ((recd x).set k c ++ t).drop 8 = x.set (k - 8) c ++ t := by
      rw [List.drop_append_of_le_length (by omega), List.drop_set, if_neg (by omega)]
      have := (take_recd x []).2.2
      rw [List.append_nil, List.append_nil] at this
      rw [this]
    rw [e8, h1, List.take_left' (by simp)] at h3
    rw [e5, wd_four, h3] at h4
    have hkx : k - 8 < x.length := by omega
    have hsplit : x = x.take (k - 8) ++ x[k - 8] :: x.drop (k - 8 + 1) := by
      rw [← List.drop_eq_getElem_cons hkx, List.take_append_drop]
    have hsplit2 : x.set (k - 8) c = x.take (k - 8) ++ c :: x.drop (k - 8 + 1) := by
      rw [List.set_eq_take_append_cons_drop, if_pos hkx]
    have hne : c ≠ x[k - 8] := by
      intro e
      apply hc
      unfold nth recd
      rw [List.getD, List.getElem?_append_right (by show 4 ≤ k; omega), show (size4 x).length = 4 from rfl, List.getElem?_append_right (by rw [four_len]; omega), four_len, show k - 4 - 4 = k - 8 by omega, List.getElem?_eq_getElem hkx, e]
      rfl
    have := tells_byte (size4 x ++ x.take (k - 8)) (x.drop (k - 8 + 1)) hne
    rw [List.append_assoc, List.append_assoc, ← hsplit2, ← hsplit] at this
    exact this h4

/-- A byte turned in the midst of records. -/
theorem scans_turned {a : List Row} {x : Row} {b : List Row} (ha : ∀ r ∈ a, r.length < 4294967296) (hx : x.length < 4294967296) {k : Nat} (hk4 : 4 ≤ k) (hk : k < 8 + x.length) {c : BitVec 8} (hc : c ≠ nth (recd x) k) :
    Scans ((recds (a ++ x :: b)).set ((recds a).length + k) c) a (recds a).length := by
  refine ⟨ha, ⟨(recd x ++ recds b).set k c, ?_, turned_none x (recds b) hx k hk4 hk c hc⟩, rfl⟩
  rw [recds_append, recds, List.set_append_right _ _ (by omega), Nat.add_sub_cancel_left]

end Go.Proofs.Ytccccclnfimcoaa.Crc
