/-
  Plain mathematics of layer 2: a number's row, its value, what a row of bytes begins with; numbers that may be below 0. It imports nothing of the program.
-/
import Derived.OpenShut
import Derived.Test.YtlaiacjlphjmlaaRows
import Derived.Laws.BitsAllLaws
import Derived.WalkKit
import Derived.ProofKit
import Derived.WalkLawsBesides
import Derived.Outline
import Derived.ChangeOld
import Derived.Laws.AppendOwnNone
import Derived.OwnWalk
import Derived.Deep.RegionLaw
import Derived.Laws.BytesString
namespace Go.Proofs.Ytlaiacjlphjmlaa
namespace V.Pack
def byte (n : Nat) : BitVec 8 := BitVec.ofNat 8 n
theorem byte_nat {n : Nat} (h : n < 256) : (byte n).toNat = n := by simp [byte]; omega

/-- A number's row. -/
def rowOf : Nat → Nat → List (BitVec 8)
  | 0, n => [byte n]
  | f + 1, n => if n < 128 then [byte n] else byte (n % 128 + 128) :: rowOf f (n / 128)
def urow (n : Nat) : List (BitVec 8) := rowOf n n

theorem rowOf_enough : ∀ (f g n : Nat), n ≤ f → n ≤ g → rowOf f n = rowOf g n
  | 0, 0, _, _, _ => rfl
  | 0, g + 1, n, hf, _ => by obtain rfl : n = 0 := by omega
                             rfl
  | f + 1, 0, n, _, hg => by obtain rfl : n = 0 := by omega
                             rfl
  | f + 1, g + 1, n, hf, hg => by
    unfold rowOf
    by_cases h : n < 128
    · rw [if_pos h, if_pos h]
    · rw [if_neg h, if_neg h, rowOf_enough f g (n / 128) (by omega) (by omega)]

theorem urow_low {n : Nat} (h : n < 128) : urow n = [byte n] := by
  cases n with
  | zero => rfl
  | succ n => show rowOf (n + 1) (n + 1) = _; rw [rowOf, if_pos h]
theorem urow_high {n : Nat} (h : ¬ n < 128) : urow n = byte (n % 128 + 128) :: urow (n / 128) := by
  cases n with
  | zero => omega
  | succ n => show rowOf (n + 1) (n + 1) = _; rw [rowOf, if_neg h, rowOf_enough n ((n + 1) / 128) _ (by omega) (Nat.le_refl _)]; rfl

theorem urow_pos (n : Nat) : 0 < (urow n).length := by
  by_cases h : n < 128
  · rw [urow_low h]; simp
  · rw [urow_high h]; simp

def val : List (BitVec 8) → Nat
  | [] => 0
  | c :: t => c.toNat % 128 + 128 * val t

/-- Where a row ends; or that a byte is out of range; or that the bytes are short. -/
abbrev Res := Sum Nat Bool
abbrev Res.ok (k : Nat) : Res := Sum.inl k
abbrev Res.range : Res := Sum.inr true
abbrev Res.short : Res := Sum.inr false

/-- Which row bytes begin with, from the byte number i on: where it ends. -/
def rd (i : Nat) : List (BitVec 8) → Res
  | [] => .short
  | c :: t => if (i = 9 ∧ 1 < c.toNat) ∨ (0 < i ∧ c.toNat = 0) then .range else if c.toNat < 128 then .ok (i + 1) else rd (i + 1) t

theorem val_urow (n : Nat) : val (urow n) = n := by
  induction n using Nat.strongRecOn with
  | ind n ih =>
    by_cases h : n < 128
    · rw [urow_low h]; simp only [val]; rw [byte_nat (by omega)]; omega
    · rw [urow_high h]; simp only [val]; rw [ih (n / 128) (by omega), byte_nat (by omega)]; omega

theorem p9 : (128 : Nat) ^ 9 = 9223372036854775808 := rfl
theorem pow9 {i : Nat} (h : i ≤ 9) : ∃ p, 128 ^ i * p = 9223372036854775808 ∧ 0 < p ∧ (i < 9 → ∃ q, p = 128 * q) := by
  refine ⟨128 ^ (9 - i), ?_, Nat.pow_pos (by decide), fun hi => ⟨128 ^ (8 - i), ?_⟩⟩
  · rw [← Nat.pow_add, show i + (9 - i) = 9 by omega]
  · rw [show 9 - i = (8 - i) + 1 by omega, Nat.pow_succ, Nat.mul_comm]

theorem rd_urow (n : Nat) : ∀ i t, i ≤ 9 → n * 128 ^ i < 18446744073709551616 → (0 < i → n ≠ 0) → rd i (urow n ++ t) = .ok (i + (urow n).length) := by
  induction n using Nat.strongRecOn with
  | ind n ih =>
    intro i t hi hn h0
    by_cases h : n < 128
    · rw [urow_low h]
      simp only [List.cons_append, List.nil_append, rd, byte_nat (show n < 256 by omega), h, List.length_cons, List.length_nil, if_true]
      rw [if_neg]
      rintro (⟨rfl, h1⟩ | ⟨h1, h2⟩)
      · have : n * 128 ^ 9 = n * 9223372036854775808 := by rw [p9]
        omega
      · exact h0 h1 h2
    · rw [urow_high h]
      have h9 : i ≠ 9 := by
        rintro rfl
        have : n * 128 ^ 9 = n * 9223372036854775808 := by rw [p9]
        omega
      simp only [List.cons_append, rd, byte_nat (show n % 128 + 128 < 256 by omega), List.length_cons]
      rw [if_neg (by omega), if_neg (by omega), ih (n / 128) (by omega) (i + 1) t (by omega) ?_ (by omega)]
      · congr 1; omega
      · have h1 : n / 128 * 128 ^ (i + 1) = (n / 128 * 128) * 128 ^ i := by rw [Nat.pow_succ]; ac_rfl
        have h2 : (n / 128 * 128) * 128 ^ i ≤ n * 128 ^ i := Nat.mul_le_mul_right _ (by omega)
        omega

theorem rd_cut (n : Nat) : ∀ i k, i ≤ 9 → n * 128 ^ i < 18446744073709551616 → (0 < i → n ≠ 0) → k < (urow n).length → rd i ((urow n).take k) = .short := by
  induction n using Nat.strongRecOn with
  | ind n ih =>
    intro i k hi hn h0 hk
    by_cases h : n < 128
    · rw [urow_low h] at hk ⊢
      have : k = 0 := by simp at hk; omega
      subst this; rfl
    · rw [urow_high h] at hk ⊢
      have h9 : i ≠ 9 := by
        rintro rfl
        have : n * 128 ^ 9 = n * 9223372036854775808 := by rw [p9]
        omega
      cases k with
      | zero => rfl
      | succ k =>
        simp only [List.take_succ_cons, rd, byte_nat (show n % 128 + 128 < 256 by omega)]
        rw [if_neg (by omega), if_neg (by omega), ih (n / 128) (by omega) (i + 1) k (by omega) ?_ (by omega) (by simpa using hk)]
        have h1 : n / 128 * 128 ^ (i + 1) = (n / 128 * 128) * 128 ^ i := by rw [Nat.pow_succ]; ac_rfl
        have h2 : (n / 128 * 128) * 128 ^ i ≤ n * 128 ^ i := Nat.mul_le_mul_right _ (by omega)
        omega

theorem rd_ok : ∀ (l : List (BitVec 8)) (i k : Nat), i ≤ 9 → rd i l = .ok k → ∃ j, k = i + j ∧ 0 < j ∧ j ≤ l.length ∧ k ≤ 10 ∧ urow (val (l.take j)) = l.take j ∧ (0 < i → val (l.take j) ≠ 0) ∧ (val (l.take j) + 1) * 128 ^ i ≤ 18446744073709551616
  | [], i, k, _, h => by cases h
  | c :: t, i, k, hi, h => by
    unfold rd at h
    split at h
    · cases h
    · rename_i h1
      split at h
      · rename_i h2
        cases h
        refine ⟨1, rfl, by omega, by simp, by omega, ?_, ?_, ?_⟩
        · simp only [List.take_succ_cons, List.take_zero, val]
          rw [show c.toNat % 128 + 128 * 0 = c.toNat by omega, urow_low h2]
          simp [byte]
        · intro h0; simp only [List.take_succ_cons, List.take_zero, val]; omega
        · simp only [List.take_succ_cons, List.take_zero, val]
          by_cases h9 : i = 9
          · subst h9
            have : c.toNat ≤ 1 := by omega
            have e : (c.toNat % 128 + 128 * 0 + 1) * 128 ^ 9 = (c.toNat % 128 + 1) * 9223372036854775808 := by rw [p9, Nat.mul_zero, Nat.add_zero]
            rw [e]; omega
          · obtain ⟨p, h3, h4, h5⟩ := pow9 (i := i) hi
            obtain ⟨q, rfl⟩ := h5 (by omega)
            have hq : 0 < q := by omega
            have h6 : (c.toNat % 128 + 128 * 0 + 1) * 128 ^ i ≤ 128 * 128 ^ i := Nat.mul_le_mul_right _ (by omega)
            have h7 : 128 * 128 ^ i * 1 ≤ 128 * 128 ^ i * q := Nat.mul_le_mul_left _ hq
            have h8 : 128 ^ i * (128 * q) = 128 * 128 ^ i * q := by ac_rfl
            omega
      · rename_i h2
        have h9 : i ≠ 9 := by rintro rfl; exact h1 (.inl ⟨rfl, by omega⟩)
        obtain ⟨j, rfl, hj, hjl, hk, hu, hv, hb⟩ := rd_ok t (i + 1) k (by omega) h
        refine ⟨j + 1, by omega, by omega, by simpa using hjl, hk, ?_, ?_, ?_⟩
        · simp only [List.take_succ_cons, val]
          have hv := hv (by omega)
          rw [urow_high (by omega), show (c.toNat % 128 + 128 * val (t.take j)) / 128 = val (t.take j) by omega, hu,
            show (c.toNat % 128 + 128 * val (t.take j)) % 128 + 128 = c.toNat by have := c.isLt; omega]
          simp [byte]
        · intro _; simp only [List.take_succ_cons, val]; have := hv (by omega); omega
        · simp only [List.take_succ_cons, val]
          have h3 : (c.toNat % 128 + 128 * val (t.take j) + 1) * 128 ^ i ≤ (128 * (val (t.take j) + 1)) * 128 ^ i := Nat.mul_le_mul_right _ (by omega)
          have h4 : (128 * (val (t.take j) + 1)) * 128 ^ i = (val (t.take j) + 1) * 128 ^ (i + 1) := by rw [Nat.pow_succ]; ac_rfl
          omega

/-- The answer of a whole row of bytes. -/
theorem rd0_ok {l : List (BitVec 8)} {k : Nat} (h : rd 0 l = .ok k) : 0 < k ∧ k ≤ l.length ∧ k ≤ 10 ∧ urow (val (l.take k)) = l.take k ∧ val (l.take k) < 18446744073709551616 := by
  obtain ⟨j, rfl, h1, h2, h3, h4, _, h5⟩ := rd_ok l 0 k (by omega) h
  rw [Nat.zero_add] at h3 ⊢
  refine ⟨h1, h2, h3, h4, ?_⟩
  simp at h5
  omega
theorem rd0_urow {n : Nat} (t : List (BitVec 8)) (h : n < 18446744073709551616) : rd 0 (urow n ++ t) = .ok (urow n).length := by
  rw [rd_urow n 0 t (by omega) (by omega) (by omega), Nat.zero_add]
theorem rd0_cut {n k : Nat} (h : n < 18446744073709551616) (hk : k < (urow n).length) : rd 0 ((urow n).take k) = .short :=
  rd_cut n 0 k (by omega) (by omega) (by omega) hk

theorem urow_len {n : Nat} (h : n < 18446744073709551616) : (urow n).length ≤ 10 := (rd0_ok (l := urow n ++ []) (rd0_urow [] h)).2.2.1

theorem val_lt : ∀ l : List (BitVec 8), val l < 128 ^ l.length
  | [] => by simp [val]
  | c :: t => by
    have := val_lt t
    simp only [val, List.length_cons, Nat.pow_succ]
    omega

/-- Numbers that may be below 0. -/
def zz (m : Int) : Nat := if m < 0 then (2 * (-1 - m) + 1).toNat else (2 * m).toNat
def unzz (u : Nat) : Int := if u % 2 = 1 then -1 - (u / 2 : Nat) else (u / 2 : Nat)
theorem unzz_zz (m : Int) : unzz (zz m) = m := by unfold unzz zz; split <;> split <;> omega
theorem zz_unzz (u : Nat) : zz (unzz u) = u := by unfold unzz zz; split <;> split <;> omega
theorem zz_lt {m : Int} (h1 : -9223372036854775808 ≤ m) (h2 : m ≤ 9223372036854775807) : zz m < 18446744073709551616 := by unfold zz; split <;> omega
end V.Pack
namespace V
open Go.RowKit Pack

def B (x : BitVec 8) : Int := (x.toNat : Int)
def nth (l : List (BitVec 8)) (k : Nat) : BitVec 8 := l.getD k 0#8
theorem B_range (x : BitVec 8) : 0 ≤ B x ∧ B x ≤ 255 := by have := x.isLt; unfold B; omega

theorem byte_of {n : Int} (h : (Lit.int .u8 n).wf = true) : ∃ b : BitVec 8, n = B b := by
  have hb := bounds_u8 h
  refine ⟨BitVec.ofNat 8 n.toNat, ?_⟩
  unfold B
  rw [BitVec.toNat_ofNat]
  omega
theorem bytes_of : ∀ {zs : List Int}, (∀ n ∈ zs, (Lit.int .u8 n).wf = true) → ∃ l : List (BitVec 8), zs = l.map B
  | [], _ => ⟨[], rfl⟩
  | n :: zs, h => by
    obtain ⟨b, rfl⟩ := byte_of (h n (by simp))
    obtain ⟨l, rfl⟩ := bytes_of (zs := zs) (fun m hm => h m (by simp [hm]))
    exact ⟨b :: l, rfl⟩

/-- A slice of bytes that reads as l. -/
def Reads (w : World) (a : Option Addr) (l : List (BitVec 8)) : Prop :=
  l.length ≤ maxLen ∧ (l = [] ∨ ∃ b off, a = some ⟨b, off, none⟩ ∧ ∀ i, i < l.length → w.cell? ⟨b, off + i, none⟩ = some (.int .u8 (B (nth l i))))

/-- WHAT THE WALK IS TOLD OF A SLICE OF INTEGERS THAT CAME IN: it is nil; or it leads to a row of 'cap' cells, the numbers 'zs' (the first 'len' are its elements, the rest its spare room), each fitting its kind. -/
def IsRow (k : IntKind) (w : World) (a : Option Addr) (len cap : Nat) (zs : List Int) : Prop :=
  (a = none ∧ len = 0 ∧ cap = 0 ∧ zs = []) ∨
  ∃ x, a = some x ∧ len ≤ cap ∧ cap ≤ maxLen ∧ zs.length = cap ∧ (∀ i, i < zs.length → w.cell? (x.add i) = some (.int k (zs.getD i 0))) ∧ ∀ n ∈ zs, (Lit.int k n).wf = true

theorem add_plain (b off i : Nat) : (⟨b, off, none⟩ : Addr).add i = ⟨b, off + i, none⟩ := by unfold Addr.add; split <;> simp_all

theorem reads_of {w : World} {a : Option Addr} {len cap : Nat} {zs : List Int} (h : IsRow .u8 w a len cap zs) : ∃ l : List (BitVec 8), len = l.length ∧ Reads w a l := by
  rcases h with ⟨rfl, rfl, rfl, rfl⟩ | ⟨x, rfl, hl, hm, hz, hcell, hwz⟩
  · exact ⟨[], rfl, by decide, .inl rfl⟩
  · obtain ⟨m, rfl⟩ := bytes_of hwz
    rw [List.length_map] at hz
    refine ⟨m.take len, by simp; omega, by simp; omega, ?_⟩
    by_cases h0 : m.take len = []
    · exact .inl h0
    · right
      have hp : 0 < len := by
        rcases Nat.eq_zero_or_pos len with h | h
        · subst h; simp at h0
        · exact h
      obtain ⟨b, off, spot⟩ := x
      have hc := hcell 0 (by simp; omega)
      have hspot : spot = none := by simpa [Addr.add] using World.cell?_spot hc
      subst hspot
      refine ⟨b, off, rfl, fun i hi => ?_⟩
      have hi' : i < len := by simp at hi; omega
      have hi2 : i < m.length := by omega
      have := hcell i (by simp; omega)
      rw [add_plain] at this
      rw [this]
      simp [nth, hi', hi2]

theorem Reads.below {w w' : World} {a : Option Addr} {l : List (BitVec 8)} (h : Reads w a l) (hb : Below w.heap.size w w') : Reads w' a l := by
  obtain ⟨hm, h⟩ := h
  refine ⟨hm, ?_⟩
  rcases h with h | ⟨b, off, ha, hc⟩
  · exact .inl h
  · refine .inr ⟨b, off, ha, fun i hi => ?_⟩
    have h1 := hc i hi
    have hlt : b < w.heap.size := World.block_lt_of_cell? w _ h1
    exact (hb.cell (p := ⟨b, off + i, none⟩) hlt).trans h1

def bytesV (l : List (BitVec 8)) : List Value := l.map fun b => .int .u8 (B b)

/-- A slice value that reads as l. -/
def ReadsV (w : World) (v : Value) (l : List (BitVec 8)) : Prop := ∃ a cap, v = .slice a l.length cap ∧ (a = none → cap = 0) ∧ l.length ≤ cap ∧ cap ≤ maxLen ∧ Reads w a l

theorem ReadsV.below {w w' : World} {v : Value} {l : List (BitVec 8)} (h : ReadsV w v l) (hb : Below w.heap.size w w') : ReadsV w' v l := by
  obtain ⟨a, cap, h1, h2, h3, h4, h5⟩ := h
  exact ⟨a, cap, h1, h2, h3, h4, h5.below hb⟩

theorem ReadsV.nil (w : World) : ReadsV w (.slice none 0 0) [] := ⟨none, 0, rfl, fun _ => rfl, Nat.le_refl _, by decide, by decide, .inl rfl⟩

theorem readsV_of {w : World} {a : Option Addr} {len cap : Nat} {zs : List Int} (h : IsRow .u8 w a len cap zs) : ∃ l : List (BitVec 8), len = l.length ∧ ReadsV w (.slice a len cap) l := by
  obtain ⟨l, hl, hr⟩ := reads_of h
  rcases h with ⟨rfl, rfl, rfl, _⟩ | ⟨x, hx, h1, h2, _⟩
  · obtain rfl : l = [] := List.length_eq_zero_iff.1 hl.symm
    exact ⟨[], rfl, ReadsV.nil w⟩
  · exact ⟨l, hl, a, cap, by rw [hl], (fun ha => by rw [ha] at hx; cases hx), by omega, h2, hr⟩

/-- A cut of what reads. -/
theorem Reads.cut {w : World} {a : Option Addr} {l : List (BitVec 8)} (hr : Reads w a l) (k h : Nat) (c : Bool) (hc : c = true → h ≤ k) : Reads w (bif c then a else a.map (·.add k)) ((l.take h).drop k) := by
  refine ⟨by have := hr.1; simp; omega, ?_⟩
  by_cases h0 : (l.take h).drop k = []
  · exact .inl h0
  right
  have hlen : 0 < ((l.take h).drop k).length := by
    rcases Nat.eq_zero_or_pos ((l.take h).drop k).length with h' | h'
    · exact absurd (List.length_eq_zero_iff.1 h') h0
    · exact h'
  have hkh : ¬ h ≤ k := by
    intro hle
    apply h0
    simp; omega
  have hcf : c = false := by cases c with
    | false => rfl
    | true => exact absurd (hc rfl) hkh
  subst hcf
  rcases hr.2 with h' | ⟨b, off, rfl, hcell⟩
  · subst h'; simp at hlen
  · refine ⟨b, off + k, by simp [add_plain], fun i hi => ?_⟩
    simp at hi
    rw [Nat.add_assoc, hcell (k + i) (by omega)]
    simp [nth, show k + i < l.length by omega, show k + i < h by omega]

theorem ReadsV.cut {w : World} {a : Option Addr} {l : List (BitVec 8)} (hr : Reads w a l) {k h m : Nat} (hn : a = none → m = k) (h1 : k ≤ h) (h2 : h ≤ l.length) (h3 : h ≤ m) (hm : m ≤ maxLen) :
    ReadsV w (.slice (if m = k then a else a.map (·.add (k * 1))) (h - k) (m - k)) ((l.take h).drop k) := by
  have hl : ((l.take h).drop k).length = h - k := by simp; omega
  refine ⟨_, m - k, by rw [hl], ?_, by omega, by omega, ?_⟩
  · intro ha
    split at ha
    · omega
    · rw [hn (by cases a with
        | none => rfl
        | some _ => simp at ha)]; omega
  · have := hr.cut k h (decide (m = k)) (by simp; omega)
    rw [Nat.mul_one]
    by_cases hmk : m = k
    · simpa [hmk] using this
    · simpa [hmk] using this

theorem bytesV_getElem {l : List (BitVec 8)} {j : Nat} {u : Value} (h : (bytesV l)[j]? = some u) : j < l.length ∧ u = .int .u8 (B (nth l j)) := by
  unfold bytesV at h
  rw [List.getElem?_map] at h
  by_cases hj : j < l.length
  · simp [hj] at h
    exact ⟨hj, by simp [nth, hj, h]⟩
  · simp [List.getElem?_eq_none (by omega : l.length ≤ j)] at h

theorem bytesV_at {l : List (BitVec 8)} {j : Nat} (h : j < l.length) : (bytesV l)[j]? = some (.int .u8 (B (nth l j))) := by
  simp [bytesV, nth, h]

theorem bytesV_one {l : List (BitVec 8)} : ∀ u ∈ bytesV l, u.oneCell' = true := by
  intro u hu
  simp [bytesV] at hu
  obtain ⟨b, _, rfl⟩ := hu
  rfl

theorem bytesV_append (l m : List (BitVec 8)) : bytesV (l ++ m) = bytesV l ++ bytesV m := by simp [bytesV]
theorem bytesV_length (l : List (BitVec 8)) : (bytesV l).length = l.length := by simp [bytesV]

/-- A row of the call's own. -/
def Owns (w : World) (base : Nat) (v : Value) (l : List (BitVec 8)) : Prop := w.ownsRow base 5 1 v l.length (bytesV l)

theorem Owns.nil (w : World) (base : Nat) : Owns w base (.slice none 0 0) [] := World.ownsRow_nil _ _ _ _
theorem Owns.alloc {w : World} {base : Nat} {v : Value} {l : List (BitVec 8)} (h : Owns w base v l) (o : Obj) : Owns (w.alloc o) base v l := World.ownsRow.alloc h o

/-- What is owned is read. -/
theorem ReadsV.of_own {w : World} {base : Nat} {v : Value} {l : List (BitVec 8)} (h : Owns w base v l) : ReadsV w v l := by
  unfold Owns at h
  have hh := h
  rcases h.2 with ⟨rfl, h0⟩ | ⟨g, cap, cur, rfl, _, _, hnc, hcm, _, _⟩
  · have : l = [] := List.length_eq_zero_iff.1 h0
    subst this
    exact ReadsV.nil w
  · refine ⟨some ⟨g, 0, none⟩, cap, rfl, (fun h => by cases h), hnc, hcm, by omega, .inr ⟨g, 0, rfl, fun i hi => ?_⟩⟩
    rw [Nat.zero_add, hh.cellAt i (by omega), bytesV_at hi]

/-- 'append(v, x...)', v a row of the call's own. -/
theorem wpList_append_bytes {P : Program} {w : World} {ops : Array Oper} {rest : List Oper} {o : Oper} {a : Act} {Q : Exit → Act → World → Prop} (hgd : o.guard = none) (s x : Operand) (t : TypeId)
    (ho : o.op = .call { callee := .builtin .append, args := #[s, x], argTypes := #[t, t] })
    (base : Nat) (ht : P.underlying t = some (.slice 5)) (hinfo : (P.info? 5).map (fun i => (i.zero, i.size, i.bytes)) = some (some (.int .u8 0), 1, 1))
    (v : Value) (l : List (BitVec 8)) (hs : a.eval s = v) (hown : Owns w base v l)
    (v2 : Value) (l2 : List (BitVec 8)) (hx : a.eval x = v2) (hr : ReadsV w v2 l2) (hlen : l.length + l2.length ≤ 140737488355328) (hbase : base ≤ w.heap.size)
    (h : ∀ v' w', Owns w' base v' (l ++ l2) → Below base w w' → wpList P ops Q rest (a.put o.dst v') w') : wpList P ops Q (o :: rest) a w := by
  obtain ⟨i, hi, hz, hsize, hby⟩ := info_parts hinfo
  obtain ⟨ad, cap, rfl, hnil, _, _, hrd⟩ := hr
  cases ad with
  | none =>
    have hl2 : l2 = [] := by
      rcases hrd.2 with h | ⟨_, _, h, _⟩
      · exact h
      · cases h
    subst hl2
    have hc : cap = 0 := hnil rfl
    subst hc
    have hh := h v w (by simpa using hown) (Below.refl _ _)
    exact wpList_append_own_none hgd s x t ho base 5 i 1 ht hi v l.length (bytesV l) hs hown hx hh
  | some ad =>
    refine wpList_append_own w hgd s x t ho base 5 i (.int .u8 0) 1 1 ht hi hz hsize hby rfl (by decide) v l.length (bytesV l) hs hown ad l2.length cap (bytesV l2) hx (by simp [bytesV_length]) ?_ bytesV_one
      (by unfold maxLen; omega) (by omega) hbase ?_
    · intro j u hj
      obtain ⟨hj1, rfl⟩ := bytesV_getElem hj
      rcases hrd.2 with h0 | ⟨b, off, hb, hc⟩
      · subst h0; simp at hj1
      · cases hb
        rw [add_plain]
        exact hc j hj1
    · intro v' w' h1 h2 _
      refine h v' w' ?_ ((Below.refl _ _).grown h2 hbase (fun k hk => (World.ownsRow.lt hown k hk).1))
      show w'.ownsRow base 5 1 v' (l ++ l2).length (bytesV (l ++ l2))
      rw [List.length_append, bytesV_append]; exact h1

/-- A new block of one byte. -/
theorem reads_one (w : World) (b : BitVec 8) (e : TypeId) : ReadsV (w.alloc (.cells #[.int .u8 (B b)] e)) (.slice (some ⟨w.heap.size, 0, none⟩) 1 1) [b] := by
  refine ⟨_, 1, rfl, (fun h => by cases h), by simp, by unfold maxLen; omega, by unfold maxLen; simp, .inr ⟨w.heap.size, 0, rfl, fun i hi => ?_⟩⟩
  rw [Nat.zero_add, cell_of_row _ w.heap.size i _ e (0, 0) (heap_alloc_new w _)]
  match i, hi with
  | 0, _ => rfl

theorem base_le {n : Nat} {wr : World} (h : n ≤ wr.heap.size) (o : Obj) : n ≤ (wr.alloc o).heap.size := by
  show n ≤ (wr.heap.push o).size
  rw [Array.size_push]; omega

theorem cells_of {w : World} {a : Option Addr} {len cap : Nat} {l : List (BitVec 8)} (h : ReadsV w (.slice a len cap) l) (hp : 0 < len) : ∃ b off, a = some ⟨b, off, none⟩ ∧ b < w.heap.size ∧ ∀ i, i < len → w.cell? ⟨b, off + i, none⟩ = some (.int .u8 (B (nth l i))) := by
  obtain ⟨a', cap', hv, _, _, _, hr⟩ := h
  simp only [Value.slice.injEq] at hv
  obtain ⟨rfl, hl, rfl⟩ := hv
  rcases hr.2 with h0 | ⟨b, off, ha, hc⟩
  · subst h0; simp at hl; omega
  · exact ⟨b, off, ha, World.block_lt_of_cell? w _ (hc 0 (by omega)), fun i hi => hc i (by omega)⟩

theorem Try.info5 : (Try.prog.info? 5).map (fun i => (i.zero, i.size, i.bytes)) = some (some (.int .u8 0), 1, 1) := by kernel_rfl
end V
namespace V
open Go.RowKit Pack

theorem byte_low {m : Nat} (h : m < 128) : (m : Int) = B (byte m) := by unfold B; rw [byte_nat (by omega)]
theorem byte_high (m : Nat) : ((m : Int) % 128 + 128) = B (byte (m % 128 + 128)) := by unfold B; rw [byte_nat (by omega)]; omega
theorem byte_high' (m : Nat) : (128 + (m : Int) % 128) = B (byte (m % 128 + 128)) := by unfold B; rw [byte_nat (by omega)]; omega
theorem reads_one' (w : World) (x : Int) (b : BitVec 8) (e : TypeId) (h : x = B b) : ReadsV (w.alloc (.cells #[.int .u8 x] e)) (.slice (some ⟨w.heap.size, 0, none⟩) 1 1) [b] := by subst h; exact reads_one w b e
end V
namespace V
open Go.RowKit Pack

theorem zz_neg {m : Int} (h : m < 0) : (-1 - m) * 2 + 1 = (zz m : Int) := by unfold zz; rw [if_pos h]; omega
theorem zz_neg' {m : Int} (h : m < 0) : -(m + 1) * 2 + 1 = (zz m : Int) := by unfold zz; rw [if_pos h]; omega
theorem zz_pos {m : Int} (h : ¬ m < 0) : m * 2 = (zz m : Int) := by unfold zz; rw [if_neg h]; omega

/-- What Same holds against each other. -/
def str (l : List (BitVec 8)) : ByteArray := ⟨(l.map fun b => UInt8.ofNat b.toNat).toArray⟩
theorem str_toList (l : List (BitVec 8)) : (str l).toList = l.map fun b => UInt8.ofNat b.toNat := by unfold str; rw [ByteArray.toList_mk]
theorem str_inj {l m : List (BitVec 8)} (h : l.map (fun b => UInt8.ofNat b.toNat) = m.map fun b => UInt8.ofNat b.toNat) : l = m := by
  induction l generalizing m with
  | nil => cases m with
    | nil => rfl
    | cons _ _ => simp at h
  | cons x l ih => cases m with
    | nil => simp at h
    | cons y m =>
      simp only [List.map_cons, List.cons.injEq] at h
      rw [ih h.2]
      have h1 := congrArg UInt8.toNat h.1
      have hx := x.isLt
      have hy := y.isLt
      simp at h1
      rw [BitVec.eq_of_toNat_eq (x := x) (y := y) (by omega)]
theorem str_same (l m : List (BitVec 8)) : ((str l).toList == (str m).toList) = decide (l = m) := by
  rw [str_toList, str_toList]
  by_cases h : l = m
  · subst h; simp
  · rw [decide_eq_false h, beq_eq_false_iff_ne]
    exact fun e => h (str_inj e)
theorem str_push : ∀ (l : List (BitVec 8)) (s : ByteArray), (l.map B).foldl (fun r n => r.push (UInt8.ofNat n.toNat)) s = ⟨s.data ++ (l.map fun b => UInt8.ofNat b.toNat).toArray⟩
  | [], s => by simp
  | b :: l, s => by
    simp only [List.map_cons, List.foldl_cons]
    rw [str_push l]
    simp [ByteArray.push, B]

theorem convert_str {w : World} {a : Option Addr} {n c : Nat} {l : List (BitVec 8)} (h : ReadsV w (.slice a n c) l) : (convert 104 9 (.slice a n c)).run Try.prog w = .ok (.string (str l)) w := by
  obtain ⟨a', c', hv, hn, _, _, hr⟩ := h
  simp only [Value.slice.injEq] at hv
  obtain ⟨rfl, rfl, rfl⟩ := hv
  rw [run_convert_bytes_string w 104 9 5 _ _ _ Try.underlying104 Try.underlying5 Try.underlying9]
  cases a with
  | none =>
    have : l = [] := by
      rcases hr.2 with h | ⟨_, _, h, _⟩
      · exact h
      · cases h
    subst this
    rfl
  | some ad =>
    rw [run_bytesToString w ad l.length c (l.map B) ?_]
    · rw [str_push]; simp [str]
    · have := run_loadCells_list (P := Try.prog) w ad (bytesV l) ?_
      · rw [bytesV_length] at this
        rw [this]
        simp [bytesV]
      · intro j v hj
        obtain ⟨hj1, rfl⟩ := bytesV_getElem hj
        rcases hr.2 with h0 | ⟨b, off, hb, hc⟩
        · subst h0; simp at hj1
        · cases hb
          rw [add_plain]
          exact hc j hj1
end V
namespace V
open Go.RowKit Pack

/-- The number of the first k bytes. -/
def vt (l : List (BitVec 8)) (k : Nat) : Int := (val (l.take k) : Nat)

theorem val_append : ∀ (l m : List (BitVec 8)), val (l ++ m) = val l + 128 ^ l.length * val m
  | [], m => by simp [val]
  | c :: l, m => by
    simp only [List.cons_append, val, val_append l m, List.length_cons, Nat.pow_succ]
    rw [Nat.mul_add, Nat.mul_comm (128 ^ l.length) 128, Nat.mul_assoc]; omega

theorem take_nth {l : List (BitVec 8)} {k : Nat} (h : k < l.length) : l.take (k + 1) = l.take k ++ [nth l k] := by
  rw [List.take_succ_eq_append_getElem h]; simp [nth, h]
theorem drop_nth {l : List (BitVec 8)} {k : Nat} (h : k < l.length) : l.drop k = nth l k :: l.drop (k + 1) := by
  rw [List.drop_eq_getElem_cons h]; simp [nth, h]

theorem val_step {l : List (BitVec 8)} {k : Nat} (h : k < l.length) : val (l.take (k + 1)) = val (l.take k) + 128 ^ k * ((nth l k).toNat % 128) := by
  rw [take_nth h, val_append, List.length_take, Nat.min_eq_left (by omega)]; simp [val]

theorem or_step {l : List (BitVec 8)} {k : Nat} {x : Int} (h : k < l.length) (h9 : k ≤ 9) (h1 : k = 9 → x ≤ 1) (hx : x = B (nth l k)) :
    bits .or .u64 (vt l k) (IntKind.u64.wrap (x % 128 * 2 ^ (7 * k))) = vt l (k + 1) := by
  unfold vt
  rw [val_step h]
  have hl : val (l.take k) < 128 ^ k := by have := val_lt (l.take k); rwa [List.length_take, Nat.min_eq_left (by omega)] at this
  have hp : (128 : Nat) ^ k = 2 ^ (7 * k) := by rw [Nat.pow_mul]
  unfold B at hx
  obtain ⟨y, hy⟩ : ∃ y, y = (nth l k).toNat % 128 := ⟨_, rfl⟩
  rw [← hy]
  have hxy : x % 128 = (y : Int) := by omega
  have hb : 2 ^ (7 * k) * y < 18446744073709551616 := by
    obtain ⟨p, h3, h4, h5⟩ := pow9 h9
    rw [← hp]
    by_cases h9' : k = 9
    · subst h9'
      have := h1 rfl
      rw [p9]; omega
    · obtain ⟨q, rfl⟩ := h5 (by omega)
      have hq : 0 < q := by omega
      have h6 : 128 ^ k * y ≤ 128 ^ k * (128 * q) := Nat.mul_le_mul_left _ (by omega)
      omega
  have hw : IntKind.u64.wrap (x % 128 * 2 ^ (7 * k)) = ((2 ^ (7 * k) * y : Nat) : Int) := by
    have e : x % 128 * 2 ^ (7 * k) = ((2 ^ (7 * k) * y : Nat) : Int) := by rw [hxy]; push_cast; exact Int.mul_comm _ _
    rw [e, IntKind.wrap_u64]; omega
  have hl2 : val (l.take k) < 18446744073709551616 := by
    obtain ⟨p, h3, h4, _⟩ := pow9 h9
    have : 128 ^ k * 1 ≤ 128 ^ k * p := Nat.mul_le_mul_left _ h4
    omega
  rw [hw, u64_or_nat _ _ hl2 hb, hp, Nat.add_comm, Nat.two_pow_add_eq_or_of_lt (by omega), Nat.or_comm]

theorem rd_at {l : List (BitVec 8)} {k : Nat} {x : Int} (h : k < l.length) (hx : x = B (nth l k)) :
    rd k (l.drop k) = if (k = 9 ∧ 1 < x) ∨ (0 < k ∧ x = 0) then .range else if x < 128 then .ok (k + 1) else rd (k + 1) (l.drop (k + 1)) := by
  rw [drop_nth h]
  unfold B at hx
  have e1 : (1 < x) = (1 < (nth l k).toNat) := by apply propext; omega
  have e2 : (x = 0) = ((nth l k).toNat = 0) := by apply propext; omega
  have e3 : (x < 128) = ((nth l k).toNat < 128) := by apply propext; omega
  simp only [rd, e1, e2, e3]

/-- What is left lies where what was read lay. -/
def Near (v u : Value) : Prop := ∀ Q : Nat → Prop, (∀ a n c, v = .slice (some a) n c → Q a.block) → ∀ a n c, u = .slice (some a) n c → Q a.block
theorem near_same (b o o' n n' c c' : Nat) : Near (.slice (some ⟨b, o, none⟩) n c) (.slice (some ⟨b, o', none⟩) n' c') := fun Q h a m d e => by
  simp only [Value.slice.injEq, Option.some.injEq] at e
  rw [← e.1]
  exact h ⟨b, o, none⟩ n c rfl
theorem Near.trans {v u x : Value} (h1 : Near v u) (h2 : Near u x) : Near v x := fun Q h => h2 Q (h1 Q h)
theorem near_add (a : Option Addr) (n c m d : Nat) (f : Addr → Addr) (hf : ∀ x, (f x).block = x.block) : Near (.slice a n c) (.slice (a.map f) m d) := fun Q h a' m' d' e => by
  simp only [Value.slice.injEq] at e
  cases a with
  | none => cases e.1
  | some x =>
    have e1 := e.1
    simp only [Option.map_some, Option.some.injEq] at e1
    rw [← e1, hf]
    exact h _ _ _ rfl
theorem near_cut (a : Option Addr) (n c m d : Nat) : Near (.slice a n c) (.slice a m d) := fun Q h a' m' d' e => by
  simp only [Value.slice.injEq] at e
  rw [e.1] at h
  exact h _ _ _ rfl
/-- What ReadUint tells of bytes. -/
def Told (w : World) (v : Value) (l : List (BitVec 8)) (e : Ending) : Prop :=
  match rd 0 l with
  | .inl k => ∃ rv, e = .returned (.tuple #[.int .u64 (vt l k), rv, .int .i64 0]) ∧ ReadsV w rv (l.drop k) ∧ Near v rv
  | .inr true => e = .returned (.tuple #[.int .u64 0, .slice none 0 0, .int .i64 2])
  | .inr false => e = .returned (.tuple #[.int .u64 0, .slice none 0 0, .int .i64 5])

theorem told_range {w : World} {v : Value} {l : List (BitVec 8)} (h : rd 0 l = .range) : Told w v l (.returned (.tuple #[.int .u64 0, .slice none 0 0, .int .i64 2])) := by unfold Told; rw [h]
theorem told_short {w : World} {v : Value} {l : List (BitVec 8)} (h : rd 0 l = .short) : Told w v l (.returned (.tuple #[.int .u64 0, .slice none 0 0, .int .i64 5])) := by unfold Told; rw [h]
theorem told_ok {w : World} {v : Value} {l : List (BitVec 8)} {k : Nat} {x : Int} {rv : Value} (h : rd 0 l = .ok k) (hx : x = vt l k) (hr : ReadsV w rv (l.drop k)) (hN : Near v rv) : Told w v l (.returned (.tuple #[.int .u64 x, rv, .int .i64 0])) := by
  subst hx; unfold Told; rw [h]; exact ⟨_, rfl, hr, hN⟩

theorem rest_reads {w : World} {b off n k : Nat} {l : List (BitVec 8)} (hr : Reads w (some ⟨b, off, none⟩) l) (hn : n = l.length) (hk : k < n) (hm : n ≤ 9223372036854775807) :
    ReadsV w.drew (.slice (if n = k + 1 then some ⟨b, off, none⟩ else some ⟨b, off + (k + 1), none⟩) (n - (k + 1)) (n - (k + 1))) (l.drop (k + 1)) := by
  have := ReadsV.cut (w := w.drew) (a := some ⟨b, off, none⟩) (l := l) hr (k := k + 1) (h := n) (m := n) (fun h => by cases h) (by omega) (by omega) (by omega) (by unfold maxLen; omega)
  rw [Nat.mul_one, hn, List.take_length] at this
  rw [hn]
  simpa [add_plain] using this

theorem rest_end {w : World} {b off n k : Nat} {l : List (BitVec 8)} (hn : n = l.length) (he : n = k) : ReadsV w.drew (.slice (some ⟨b, off, none⟩) 0 0) (l.drop k) := by
  rw [List.drop_of_length_le (by omega)]
  exact ⟨_, 0, rfl, (fun h => by cases h), Nat.le_refl _, by decide, by decide, .inl rfl⟩
theorem rest_mid {w : World} {b off n k : Nat} {l : List (BitVec 8)} (hr : Reads w (some ⟨b, off, none⟩) l) (hn : n = l.length) (hk : k < n) (hm : n ≤ 9223372036854775807) (hne : ¬ n = k + 1) :
    ReadsV w.drew (.slice (some ⟨b, off + (k + 1), none⟩) (n - (k + 1)) (n - (k + 1))) (l.drop (k + 1)) := by
  have := rest_reads hr hn hk hm
  rwa [if_neg hne] at this

theorem maxLen_eq : maxLen = 9223372036854775807 := rfl
end V
namespace V
open Go.RowKit Pack

/-- The error's number. -/
def code : Res → Int
  | .inl _ => 0
  | .inr true => 2
  | .inr false => 5

theorem unzz_odd {m : Nat} (h : m % 2 = 1) : -1 - (m : Int) / 2 = unzz m := by unfold unzz; rw [if_pos h]; omega
theorem unzz_even {m : Nat} (h : ¬ m % 2 = 1) : (m : Int) / 2 = unzz m := by unfold unzz; rw [if_neg h]; omega

theorem ret3_first {k : IntKind} {a b : Int} {x y : Value} (h : a = b) : Ending.returned (.tuple #[.int k a, x, y]) = .returned (.tuple #[.int k b, x, y]) := by rw [h]

theorem ReadsV.cap {w : World} {a : Option Addr} {n c : Nat} {l : List (BitVec 8)} (h : ReadsV w (.slice a n c) l) : n ≤ c := by
  obtain ⟨_, _, hv, _, h1, _⟩ := h
  simp only [Value.slice.injEq] at hv
  omega

theorem cut_head {w : World} {a : Option Addr} {n c m : Nat} {r : List (BitVec 8)} (h : ReadsV w (.slice a n c) r) (hm : m ≤ n) : ReadsV w.drew (.slice a m m) (r.take m) := by
  obtain ⟨a', c', hv, hn, h1, h2, hr⟩ := h
  simp only [Value.slice.injEq] at hv
  obtain ⟨rfl, rfl, rfl⟩ := hv
  have hl : (r.take m).length = m := by simp; omega
  refine ⟨a, m, by rw [hl], fun ha => by have := hn ha; omega, by omega, by omega, ?_⟩
  have hc : Reads w.drew a ((r.take m).drop 0) := by
    have := hr.cut 0 m (decide (m = 0)) (by simp)
    by_cases h0 : m = 0
    · subst h0; exact ⟨by simp, .inl (by simp)⟩
    · have e : a.map (·.add 0) = a ∨ r = [] := by
        rcases hr.2 with h | ⟨b, off, rfl, _⟩
        · exact .inr h
        · exact .inl (by simp [add_plain])
      rcases e with e | e
      · rw [decide_eq_false h0] at this
        simp only [cond_false, e] at this
        exact this
      · subst e; simp at hm; omega
  simpa using hc
theorem cut_tail0 {w : World} {a : Option Addr} {n c k m : Nat} {l : List (BitVec 8)} (h : ReadsV w (.slice a n c) (l.drop k)) (hc : c = m) : ReadsV w.drew (.slice a (n - m) 0) (l.drop (k + m)) := by
  obtain ⟨a', c', hv, hn, h1, h2, hr⟩ := h
  simp only [Value.slice.injEq] at hv
  obtain ⟨rfl, rfl, rfl⟩ := hv
  rw [← List.drop_drop]
  have e : (l.drop k).drop m = [] := List.drop_of_length_le (by omega)
  rw [e, show (l.drop k).length - m = 0 by omega]
  exact ⟨a, 0, rfl, fun _ => rfl, Nat.le_refl _, by decide, by decide, .inl rfl⟩
theorem cut_tail {w : World} {a : Option Addr} {n c k m : Nat} {l : List (BitVec 8)} (h : ReadsV w (.slice a n c) (l.drop k)) (hm : m ≤ n) (hc : ¬ c = m) : ReadsV w.drew (.slice (a.map (fun x => x.add m)) (n - m) (c - m)) (l.drop (k + m)) := by
  obtain ⟨a', c', hv, hn, h1, h2, hr⟩ := h
  simp only [Value.slice.injEq] at hv
  obtain ⟨rfl, rfl, rfl⟩ := hv
  have := ReadsV.cut (w := w.drew) hr (k := m) (h := (l.drop k).length) (m := c) (fun ha => by have := hn ha; omega) hm (Nat.le_refl _) h1 h2
  rw [if_neg hc, Nat.mul_one, List.take_length, List.drop_drop] at this
  exact this

theorem add_block (x : Addr) (m : Nat) : (x.add m).block = x.block := by unfold Addr.add; split <;> rfl
theorem code_ne {r : Res} (h : ∀ k, r ≠ .ok k) : code r = 2 ∨ code r = 5 := by
  rcases r with k | c
  · exact absurd rfl (h k)
  · cases c
    · exact .inr rfl
    · exact .inl rfl
end V
end Go.Proofs.Ytlaiacjlphjmlaa
