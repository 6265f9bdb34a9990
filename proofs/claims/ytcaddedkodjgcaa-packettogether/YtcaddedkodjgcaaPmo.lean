/-
  Contracts, in the forms that PackBack, PackOnce and PackWrites meet them in.
-/
import Derived.Test.YtcaddedkodjgcaaPby
namespace Go.Proofs.Ytcaddedkodjgcaa
open Go.RowKit Pack

theorem bytes_any (base : Nat) (v x : Value) (l s : List (BitVec 8)) (w : World) (ho : Owns w base v l) (hr : ReadsV w x s) (hb : base ≤ w.heap.size) (hl : l.length ≤ 10000000000000) (hs : s.length ≤ 10000000000000) :
    Calls Try.prog 42 #[v, x] w fun e w' => ∃ v', e = .returned v' ∧ Owns w' base v' (l ++ (urow s.length ++ s)) ∧ Below base w w' := by
  have hv : ∃ a c, v = .slice a l.length c := by
    unfold Owns at ho
    rcases ho.2 with ⟨rfl, h0⟩ | ⟨g, cap, _, rfl, _⟩
    · exact ⟨none, 0, by rw [h0]⟩
    · exact ⟨_, cap, rfl⟩
  obtain ⟨a, c, rfl⟩ := hv
  have hr' := hr
  obtain ⟨sa, sc, rfl, _⟩ := hr'
  have h64 : s.length < 18446744073709551616 := by omega
  exact bytes_walk base a sa l.length c s.length sc _ l s w ho hr rfl rfl rfl hb hl hs (urow_len h64) (urow_pos _)

theorem take_row (n : Nat) (T : List (BitVec 8)) : (urow n ++ T).take (urow n).length = urow n := List.take_left
theorem drop_row (n : Nat) (T : List (BitVec 8)) : (urow n ++ T).drop (urow n).length = T := List.drop_left
theorem val_row (n : Nat) (T : List (BitVec 8)) : val ((urow n ++ T).take (urow n).length) = n := by rw [take_row, val_urow]

/-- What was written is read. -/
theorem ru_row (v : Value) (T : List (BitVec 8)) (n : Nat) (w : World) (h : ReadsV w v (urow n ++ T)) (hn : n < 18446744073709551616) :
    Calls Try.prog 62 #[v] w fun e w' => ∃ rv, e = .returned (.tuple #[.int .u64 n, rv, .int .i64 0]) ∧ ReadsV w' rv T ∧ Below w.heap.size w w' := by
  refine (readUint_ok v _ _ n w h (rd0_urow T hn) (val_row n T)).mono ?_
  rintro e w' ⟨a, c, rfl, hr, hB, _⟩
  rw [drop_row] at hr
  exact ⟨_, rfl, hr, hB⟩
theorem rb_row (v : Value) (s T : List (BitVec 8)) (w : World) (h : ReadsV w v (urow s.length ++ (s ++ T))) (hs : s.length < 18446744073709551616) :
    Calls Try.prog 64 #[v] w fun e w' => ∃ sv rv, e = .returned (.tuple #[sv, rv, .int .i64 0]) ∧ ReadsV w' sv s ∧ ReadsV w' rv T ∧ Below w.heap.size w w' := by
  refine (readBytes_ok v _ _ s.length w h (rd0_urow _ hs) (val_row _ _) (by simp)).mono ?_
  rintro e w' ⟨sv, rv, rfl, h1, h2, hB, _⟩
  rw [drop_row, List.take_left] at h1
  rw [← List.drop_drop, drop_row, List.drop_left] at h2
  exact ⟨_, _, rfl, h1, h2, hB⟩

theorem below3 {w w1 w2 : World} {B : Nat} (h : Below B w w1) (h2 : Below w1.heap.size w1 w2) (hB : B ≤ w.heap.size) : Below B w w2 := h.trans (h2.mono (Nat.le_trans hB h.size))

end Go.Proofs.Ytcaddedkodjgcaa
