/-
  The walk's spelling of Go's operators on uint8 and uint32, told as words of 8 and 32 bits. It imports nothing of the program.
-/
import Derived.Test.YtcaddedkodjgcaaBas
import Derived.Test.YtcaddedkodjgcaaCmt
import Derived.Laws.BitsAllLaws
import Derived.OpenShut
namespace Go.Proofs.Ytcaddedkodjgcaa.Crc

/-- A word, a byte as Go's numbers; a row's byte: names that the walk does not open. -/
def W (x : BitVec 32) : Int := (x.toNat : Int)
def inv (x : BitVec 32) : BitVec 32 := ~~~ x
def mix (x : BitVec 32) (b : BitVec 8) : BitVec 32 := x ^^^ b.setWidth 32

theorem W_range (x : BitVec 32) : 0 ≤ W x ∧ W x ≤ 4294967295 := by have := x.isLt; unfold W; omega
theorem W_inj {x y : BitVec 32} (h : W x = W y) : x = y := by
  apply BitVec.eq_of_toNat_eq; unfold W at h; omega

theorem ret_int {k : IntKind} {a b : Int} (h : a = b) : Ending.returned (.int k a) = .returned (.int k b) := by rw [h]
theorem val_int {k : IntKind} {a b : Int} (h : a = b) : Value.int k a = .int k b := by rw [h]

theorem and_word (a b : BitVec 32) : bits .and .u32 (a.toNat : Int) (b.toNat : Int) = ((a &&& b).toNat : Int) := by
  rw [u32_and_nat _ _ a.isLt b.isLt, BitVec.toNat_and]
theorem xor_word (a b : BitVec 32) : bits .xor .u32 (a.toNat : Int) (b.toNat : Int) = ((a ^^^ b).toNat : Int) := by
  rw [u32_xor_nat _ _ a.isLt b.isLt, BitVec.toNat_xor]
theorem or_word (a b : BitVec 32) : bits .or .u32 (a.toNat : Int) (b.toNat : Int) = ((a ||| b).toNat : Int) := by
  rw [u32_or_nat _ _ a.isLt b.isLt, BitVec.toNat_or]
theorem and_byte (a b : BitVec 8) : bits .and .u8 (a.toNat : Int) (b.toNat : Int) = ((a &&& b).toNat : Int) := by
  rw [u8_and_nat _ _ a.isLt b.isLt, BitVec.toNat_and]
theorem xor_byte (a b : BitVec 8) : bits .xor .u8 (a.toNat : Int) (b.toNat : Int) = ((a ^^^ b).toNat : Int) := by
  rw [u8_xor_nat _ _ a.isLt b.isLt, BitVec.toNat_xor]

theorem shr_word (a : BitVec 32) (n : Nat) : (a.toNat : Int) / 2 ^ n = ((a >>> n).toNat : Int) := by
  rw [BitVec.toNat_ushiftRight, Nat.shiftRight_eq_div_pow]; simp
theorem shr_byte (a : BitVec 8) (n : Nat) : (a.toNat : Int) / 2 ^ n = ((a >>> n).toNat : Int) := by
  rw [BitVec.toNat_ushiftRight, Nat.shiftRight_eq_div_pow]; simp
theorem half_word (a : BitVec 32) : (a.toNat : Int) / (2 : Int) = ((a >>> 1).toNat : Int) := by simpa using shr_word a 1

theorem bit0 (x : BitVec 32) : (x &&& 1#32).toNat = if x.getLsbD 0 then 1 else 0 := by
  rw [BitVec.toNat_and, show (1#32).toNat = 1 from rfl, Nat.and_one_is_mod]
  have : x.getLsbD 0 = decide (x.toNat % 2 = 1) := by
    rw [BitVec.getLsbD, Nat.testBit_zero]
  rw [this]
  by_cases h : x.toNat % 2 = 1
  · simp [h]
  · simp [h]; omega

theorem and_one (x : BitVec 32) : bits .and .u32 (x.toNat : Int) 1 = if x.getLsbD 0 then 1 else 0 := by
  have := and_word x 1#32
  rw [bit0] at this
  rw [show ((1#32).toNat : Int) = 1 from rfl] at this
  rw [this]
  split <;> rfl

theorem odd {x : BitVec 32} (h : (bits .and .u32 (x.toNat : Int) 1 == 1) = true) : bits .xor .u32 ((x.toNat : Int) / (2 : Int)) 3988292384 = ((S x).toNat : Int) := by
  rw [and_one] at h
  have hb : x.getLsbD 0 = true := by
    cases hx : x.getLsbD 0 with
    | true => rfl
    | false => rw [hx] at h; simp at h
  rw [half_word]
  have := xor_word (x >>> 1) P
  rw [show (P.toNat : Int) = 3988292384 from rfl] at this
  rw [this]
  unfold S
  rw [hb]; rfl

theorem even {x : BitVec 32} (h : (bits .and .u32 (x.toNat : Int) 1 == 1) = false) : (x.toNat : Int) / (2 : Int) = ((S x).toNat : Int) := by
  rw [and_one] at h
  have hb : x.getLsbD 0 = false := by
    cases hx : x.getLsbD 0 with
    | false => rfl
    | true => rw [hx] at h; simp at h
  rw [half_word, S_even _ hb]

theorem not_word (x : BitVec 32) : bits .xor .u32 IntKind.u32.max (x.toNat : Int) = ((~~~ x).toNat : Int) := by
  rw [show IntKind.u32.max = 4294967295 from rfl]
  have := xor_word (BitVec.allOnes 32) x
  rw [show ((BitVec.allOnes 32).toNat : Int) = 4294967295 from rfl] at this
  rw [this, BitVec.allOnes_xor]

theorem xor_widened (r : BitVec 32) (b : BitVec 8) : bits .xor .u32 (r.toNat : Int) (b.toNat : Int) = ((r ^^^ b.setWidth 32).toNat : Int) := by
  have := xor_word r (b.setWidth 32)
  rw [← this]
  have e : (b.setWidth 32).toNat = b.toNat := by
    rw [BitVec.toNat_setWidth]
    have := b.isLt
    omega
  rw [e]

theorem word_of_int {n : Int} (h : (Lit.int .u32 n).wf = true) : ∃ b : BitVec 32, n = (b.toNat : Int) := by
  have hb := bounds_u32 h
  refine ⟨BitVec.ofNat 32 n.toNat, ?_⟩
  rw [BitVec.toNat_ofNat]
  omega

theorem odd_W {x : BitVec 32} (h : (bits .and .u32 (W x) 1 == 1) = true) : bits .xor .u32 (W x / (2 : Int)) 3988292384 = W (S x) := odd h
theorem even_W {x : BitVec 32} (h : (bits .and .u32 (W x) 1 == 1) = false) : W x / (2 : Int) = W (S x) := even h
theorem not_W (x : BitVec 32) : bits .xor .u32 IntKind.u32.max (W x) = W (inv x) := not_word x
theorem mix_W (x : BitVec 32) (b : BitVec 8) : bits .xor .u32 (W x) (B b) = W (mix x b) := xor_widened x b
theorem xor_B (a b : BitVec 8) : bits .xor .u8 (B a) (B b) = B (a ^^^ b) := xor_byte a b
theorem xor_W (a b : BitVec 32) : bits .xor .u32 (W a) (W b) = W (a ^^^ b) := xor_word a b

theorem bytes_B {zs : List Int} (h : ∀ n ∈ zs, (Lit.int .u8 n).wf = true) : ∃ l : List (BitVec 8), zs = l.map B := bytes_of h

end Go.Proofs.Ytcaddedkodjgcaa.Crc
