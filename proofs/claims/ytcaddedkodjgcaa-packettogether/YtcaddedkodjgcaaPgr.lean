/-
  slices.Grow over rows of bytes that the call itself made: a contract.
-/
import Derived.Test.YtcaddedkodjgcaaPrs
import Derived.Lib.AppendZerosOnto
namespace Go.Proofs.Ytcaddedkodjgcaa
open Go.RowKit Pack
theorem shape {w : World} {base : Nat} {v : Value} {l : List (BitVec 8)} (h : Owns w base v l) (hp : 0 < l.length) : ∃ g cap, v = .slice (some ⟨g, 0, none⟩) l.length cap ∧ l.length ≤ cap ∧ cap ≤ maxLen ∧ base ≤ g ∧ g < w.heap.size := by
  unfold Owns at h
  rcases h.2 with ⟨_, h0⟩ | ⟨g, cap, cur, hv, hb, hg, hnc, hcm, _⟩
  · omega
  · exact ⟨g, cap, hv, hnc, hcm, hb, (Array.getElem?_eq_some_iff.1 hg).1⟩


set_option maxRecDepth 100000 in
theorem grow_room (a : Option Addr) (n c d : Nat) (w : World) (hc : c ≤ 9223372036854775807) (hroom : n + d ≤ c) :
    Calls Try.prog 54 #[.slice a n c, .int .i64 d] w fun e w' => e = .returned (.slice a n c) ∧ w' = w := by
  have h4 : ¬ (0 : Int) < (d : Int) - ((c : Int) - (n : Int)) := by omega
  go_enter Try.func54, Try.ntmps54
  go_wp2
  go_ret
  exact ⟨rfl, rfl⟩

set_option maxRecDepth 100000 in
set_option maxHeartbeats 400000 in
theorem grow_more (a : Option Addr) (n c d : Nat) (cs : List Value) (w : World) (hnc : n ≤ c) (hno : c < n + d) (hsmall : n + d ≤ 100000000000000) (hlen : cs.length = c) (hnil : a = none → c = 0)
    (hcs : ∀ x, a = some x → ∃ b off, x = ⟨b, off, none⟩ ∧ ∀ j v, cs[j]? = some v → w.cell? (x.add j) = some v) :
    Calls Try.prog 54 #[.slice a n c, .int .i64 d] w fun e w' => ∃ G cur, n + d ≤ G ∧ G ≤ 9223372036854775807 ∧ e = .returned (.slice (some ⟨w.heap.size, 0, none⟩) n G) ∧
      w' = w.drew.alloc (.cells cur 5) ∧ cur.size = G ∧ cur.toList.take c = cs := by
  obtain ⟨i, hi, hz, hsize, hby⟩ := info_parts Try.info5
  have hold : (Builtin.firstCells i.size c (.slice a c c)).run Try.prog w.drew = .ok cs.toArray w.drew := by
    rw [hsize]
    cases a with
    | none =>
      obtain rfl := hnil rfl
      obtain rfl : cs = [] := List.length_eq_zero_iff.1 hlen
      exact run_firstCells_none w.drew 1 0 0 0
    | some x =>
      obtain ⟨_, _, _, h⟩ := hcs x rfl
      exact run_firstCells_some w.drew 1 c x c c cs (by omega) (fun j v hj => h j v hj)
  have hk : c + (n + d - c) = n + d := by omega
  obtain ⟨G, hG⟩ : ∃ G, G = grownCap w (n + d) c 5 := ⟨_, rfl⟩
  have hG1 : n + d ≤ G := by rw [hG]; exact grownCap_ge w _ _ _
  have hG2 : G ≤ 9223372036854775807 := by
    have := grownCap_le_maxLen w (n + d) c 5 (by rw [maxLen_eq]; omega)
    rw [← hG, maxLen_eq] at this; exact this
  obtain ⟨cur, hcur⟩ : ∃ cur, cur = cs.toArray ++ Builtin.zeroCells (Value.int .u8 0).cells (n + d - c) ++ Builtin.zeroCells (Value.int .u8 0).cells (G - (n + d)) := ⟨_, rfl⟩
  have hrun : ∀ ty, (Builtin.append_ #[27, 3] ty #[.slice a c c, .int .i64 ((d : Int) - ((c : Int) - (n : Int)))]).run Try.prog w = .ok (.slice (some ⟨w.heap.size, 0, none⟩) (n + d) G) (w.drew.alloc (.cells cur 5)) := fun ty => by
    have h := Lib.run_append_grow_zeros w 27 3 ty 5 i (.int .u8 0) .i64 .i64 Try.underlying27 Try.underlying3 hi hz a c c cs hold (n + d - c) (by omega) (by omega) (by omega) (by omega) (by rw [hby]; omega) (by rw [hk]; exact growslice_fits hno (by rw [hby]; omega))
    rw [hk, ← hG, ← hcur] at h
    rw [show (d : Int) - ((c : Int) - (n : Int)) = ((n + d - c : Nat) : Int) by omega]
    exact h
  have HC1 : Hid (cur.size = G) := by
    show cur.size = G
    rw [hcur]
    simp only [Array.size_append, size_zeroCells, List.size_toArray]
    have : (Value.int IntKind.u8 0).cells.size = 1 := rfl
    rw [this]; omega
  have HC2 : Hid (cur.toList.take c = cs) := by
    show _ = _
    rw [hcur]
    simp only [Array.toList_append, List.append_assoc]
    rw [← hlen]
    exact List.take_left
  have h4 : (0 : Int) < (d : Int) - ((c : Int) - (n : Int)) := by omega
  have HR : Hid (∀ ty, (Builtin.append_ #[27, 3] ty #[.slice a c c, .int .i64 ((d : Int) - ((c : Int) - (n : Int)))]).run Try.prog w = .ok (.slice (some ⟨w.heap.size, 0, none⟩) (n + d) G) (w.drew.alloc (.cells cur 5))) := hrun
  clear hrun hold hG hcur hi hz hsize hby hlen
  cases a with
  | none =>
    obtain rfl := hnil rfl
    obtain rfl : n = 0 := by omega
    clear hcs hnil
    go_enter Try.func54, Try.ntmps54
    go_wp2_with (at_builtin; refine Lib.wpList_append_run _ rfl (.tmp 20) (.tmp 21) 27 3 rfl _ _ rfl rfl _ _ (HR.out _) ?_)
    go_ret
    exact ⟨G, cur, hG1, hG2, rfl, rfl, HC1.out, HC2.out⟩
  | some x =>
    obtain ⟨b, off, rfl, _⟩ := hcs x rfl
    clear hcs hnil
    go_enter Try.func54, Try.ntmps54
    go_wp2_with (at_builtin; refine Lib.wpList_append_run _ rfl (.tmp 20) (.tmp 21) 27 3 rfl _ _ rfl rfl _ _ (HR.out _) ?_)
    go_ret
    exact ⟨G, cur, hG1, hG2, rfl, rfl, HC1.out, HC2.out⟩

end Go.Proofs.Ytcaddedkodjgcaa
