/-
  The walk of LexJoins.
-/
import Derived.Test.YtepdcpdageeipaaDoorSame
import Derived.Test.YtepdcpdageeipaaDoorBlanksW
import Derived.BigQuiet
namespace Go.Proofs.YtepdcpdageeipaaDoor
open Go.RowKit Go.Maps
set_option linter.unusedVariables false

theorem sp_in (l : Bs) (p : Nat) : ∀ x ∈ (sp l p).ws, x.pos < p + l.length := by
  refine by_len (P := fun l p => ∀ x ∈ (sp l p).ws, x.pos < p + l.length) ?_ ?_ ?_ ?_ l p
  · intro p x hx; rw [sp_nil] at hx; simp at hx
  · intro c r p h ih x hx
    rw [sp_blank r p h] at hx
    have := ih x hx
    rw [List.length_cons]; omega
  · intro c r p h he x hx; rw [sp_fault p h he] at hx; simp at hx
  · intro c r p h he ih x hx
    have hl := one_len_pos he
    rw [sp_word p h he] at hx
    rw [List.length_drop] at ih
    unfold join at hx
    split at hx
    · rcases List.mem_append.1 hx with h1 | h1
      · simp at h1; subst h1; show p < _; rw [List.length_cons]; omega
      · have := ih x h1; omega
    · simp at hx
theorem getD_in {l : List W} {i : Nat} (h : i < l.length) : l.getD i noW ∈ l := by
  have : l.getD i noW = l[i] := by simp [List.getD, h]
  rw [this]; exact List.getElem_mem h

/-- A text with a blank and another one behind, as the law asks. -/
theorem lex_joins (s t : ByteArray) (hs : s.size ≤ 1500) (ht : t.size ≤ 1500) :
    ((lexOut s).err ≠ 0 ∧ (lexOut (s ++ ⟨#[32]⟩ ++ t)).err ≠ 0) ∨ ((lexOut s).err = 0 ∧ (lexOut t).err ≠ 0 ∧ (lexOut (s ++ ⟨#[32]⟩ ++ t)).err ≠ 0)
    ∨ ((lexOut s).err = 0 ∧ (lexOut t).err = 0 ∧ (lexOut (s ++ ⟨#[32]⟩ ++ t)).err = 0 ∧ (lexOut (s ++ ⟨#[32]⟩ ++ t)).ws = (lexOut s).ws ++ (lexOut t).ws.map (W.shift (s.size + 1))) := by
  have z1 : (s ++ ⟨#[32]⟩ ++ t).size ≤ 4096 := by rw [cat_size, cat_size]; show s.size + 1 + t.size ≤ 4096; omega
  have l1 : (s ++ ⟨#[32]⟩ ++ t).data.toList = s.data.toList ++ blank :: t.data.toList := by
    rw [cat_list, cat_list, List.append_assoc]; rfl
  unfold lexOut
  rw [if_pos z1, if_pos (by omega), if_pos (by omega), l1, sp_app]
  by_cases h1 : (sp s.data.toList 0).err = 0
  · rw [if_pos h1]
    obtain ⟨k1, k2⟩ := sp_shift (0 + s.data.toList.length + 1) t.data.toList 0
    have e : 0 + (0 + s.data.toList.length + 1) = 0 + s.data.toList.length + 1 := by omega
    rw [e] at k1 k2
    have e2 : 0 + s.data.toList.length + 1 = s.size + 1 := by rw [size_list]; omega
    rw [e2] at k1 k2 ⊢
    by_cases h2 : (sp t.data.toList 0).err = 0
    · refine .inr (.inr ⟨h1, h2, ?_, ?_⟩)
      · unfold join; rw [if_pos (by rw [k2]; exact h2)]
      · unfold join; rw [if_pos (by rw [k2]; exact h2), k1]
    · refine .inr (.inl ⟨h1, h2, ?_⟩)
      unfold join
      rw [if_neg (by rw [k2]; exact h2), k2]; exact h2
  · rw [if_neg h1]
    exact .inl ⟨h1, h1⟩

theorem RowV.front {w : World} {a : Option Addr} {l m : List W} (h : RowV w a (l ++ m)) : RowV w a l := fun i hi => by
  obtain ⟨b, h1, h2⟩ := h i (by rw [List.length_append]; omega)
  have : (l ++ m).getD i noW = l.getD i noW := by simp [List.getD, List.getElem?_append_left hi]
  rw [this] at h2
  exact ⟨b, h1, h2⟩
theorem RowV.back {w : World} {a : Option Addr} {l m : List W} {d : Nat} (h : RowV w a (l ++ m.map (W.shift d))) {i : Nat} (hi : i < m.length) : ∃ b, a = some ⟨b, 0, none⟩ ∧ WAt w b ((l.length + i) * 4) ((m.getD i noW).shift d) := by
  obtain ⟨b, h1, h2⟩ := h (l.length + i) (by rw [List.length_append, List.length_map]; omega)
  have : (l ++ m.map (W.shift d)).getD (l.length + i) noW = (m.map (W.shift d)).getD i noW := by simp [List.getD, List.getElem?_append_right]
  rw [this, shift_getD d m i hi] at h2
  exact ⟨b, h1, h2⟩

set_option maxRecDepth 100000 in
set_option maxHeartbeats 400000 in
theorem joins_bad (s t y1 x1 : ByteArray) (n1 n2 n3 E1 E2 E3 : Nat) (ws vs us : List W) (hs : s.size ≤ 1500) (ht : t.size ≤ 1500) (hE : ¬ (E1 = 0 ∧ E2 = 0)) (hE3 : E3 ≠ 0) (hE1 : E1 ≤ 100) (hE2 : E2 ≤ 100)
    (cat1 : s ++ ⟨#[32]⟩ = y1) (cat2 : y1 ++ t = x1) (z1 : y1.size ≤ 1600)
    (H1 : Hid (Told s n1 E1 ws)) (H2 : Hid (Told t n2 E2 vs)) (H3 : Hid (Told x1 n3 E3 us)) (w : World) (HW : Hid (Held w)) :
    Calls Tryd.prog 6 #[.string s, .string t] w fun e w' => e = .returned (.bool true) ∧ Below w.heap.size w w' := by
  have hz1 : (⟨#[32]⟩ : ByteArray).size = 1 := rfl
  have D0 : Hid True := trivial
  by_cases h1 : E1 = 0
  · have h2 : E2 ≠ 0 := fun e => hE ⟨h1, e⟩
    subst h1
    clear hE
    go_enter Tryd.func6, Tryd.ntmps6
    go_wp2_with (first
      | (have := HB3; go_at_call 8; refine (works_any _ ((HW.out.below (Nat.le_refl _) HB3.out).new _)).mono ?_; rintro e w4 ⟨rfl, HB⟩; have HB4 : Hid (Below w.heap.size w w4) := below_new HB3.out HB; clear HB)
      | (have := HB2; go_at_call 9; refine (H3.out _ ((HW.out.below (Nat.le_refl _) HB2.out).new _)).mono ?_; rintro e w3 ⟨c, capc, P3, rfl, hcc, hrc, HB⟩; have a0 := kept_new f0 HB; have a1 := new_kept (i := 0) rfl HB; have lt2 := lt_new HB; have lt3 : w1.heap.size < w3.heap.size := (Nat.lt_trans lt1 lt2); have HB3 : Hid (Below w.heap.size w w3) := below_new HB2.out HB; clear HB hrc f0 HB2)
      | (have := HB1; go_at_call 9; refine (H2.out _ ((HW.out.below (Nat.le_refl _) HB1.out).new _)).mono ?_; rintro e w2 ⟨b, capb, P2, rfl, hcb, hrb, HB⟩; have f0 := new_kept (i := 0) rfl HB; have lt1 := lt_new HB; have HB2 : Hid (Below w.heap.size w w2) := below_new HB1.out HB; clear HB hrb HB1)
      | (have := D0; go_at_call 9; refine (H1.out _ HW.out).mono ?_; rintro e w1 ⟨a, capa, P1, rfl, hca, hra, HB⟩; have HB1 : Hid (Below w.heap.size w w1) := HB; clear HB hra D0))
    go_ret
    have hb3 : ((E3 : Int) != 0) = true := by rw [bne_iff_ne]; omega
    exact ⟨by show Ending.returned (.bool ((E3 : Int) != 0)) = _; rw [hb3], HB4.out⟩
  · clear hE
    go_enter Tryd.func6, Tryd.ntmps6
    go_wp2_with (first
      | (have := HB3; go_at_call 8; refine (works_any _ ((HW.out.below (Nat.le_refl _) HB3.out).new _)).mono ?_; rintro e w4 ⟨rfl, HB⟩; have HB4 : Hid (Below w.heap.size w w4) := below_new HB3.out HB; clear HB)
      | (have := HB2; go_at_call 9; refine (H3.out _ ((HW.out.below (Nat.le_refl _) HB2.out).new _)).mono ?_; rintro e w3 ⟨c, capc, P3, rfl, hcc, hrc, HB⟩; have a0 := kept_new f0 HB; have a1 := new_kept (i := 0) rfl HB; have lt2 := lt_new HB; have lt3 : w1.heap.size < w3.heap.size := (Nat.lt_trans lt1 lt2); have HB3 : Hid (Below w.heap.size w w3) := below_new HB2.out HB; clear HB hrc f0 HB2)
      | (have := HB1; go_at_call 9; refine (H2.out _ ((HW.out.below (Nat.le_refl _) HB1.out).new _)).mono ?_; rintro e w2 ⟨b, capb, P2, rfl, hcb, hrb, HB⟩; have f0 := new_kept (i := 0) rfl HB; have lt1 := lt_new HB; have HB2 : Hid (Below w.heap.size w w2) := below_new HB1.out HB; clear HB hrb HB1)
      | (have := D0; go_at_call 9; refine (H1.out _ HW.out).mono ?_; rintro e w1 ⟨a, capa, P1, rfl, hca, hra, HB⟩; have HB1 : Hid (Below w.heap.size w w1) := HB; clear HB hra D0))
    go_ret
    have hb3 : ((E3 : Int) != 0) = true := by rw [bne_iff_ne]; omega
    exact ⟨by show Ending.returned (.bool ((E3 : Int) != 0)) = _; rw [hb3], HB4.out⟩

set_option maxRecDepth 100000 in
set_option maxHeartbeats 400000 in
theorem joins_ok (s t y1 x1 : ByteArray) (n1 n2 n3 : Nat) (ws vs : List W) (hs : s.size ≤ 1500) (ht : t.size ≤ 1500) (h1 : n1 ≤ 4096) (h2 : n2 ≤ 4096) (h3 : n3 = n1 + n2)
    (HL : Hid (ws.length = n1 ∧ vs.length = n2)) (HP : Hid (∀ i, i < n2 → (vs.getD i noW).pos ≤ 4096))
    (cat1 : s ++ ⟨#[32]⟩ = y1) (cat2 : y1 ++ t = x1) (z1 : y1.size ≤ 1600)
    (H1 : Hid (Told s n1 0 ws)) (H2 : Hid (Told t n2 0 vs)) (H3 : Hid (Told x1 n3 0 (ws ++ vs.map (W.shift (s.size + 1))))) (w : World) (HW : Hid (Held w)) :
    Calls Tryd.prog 6 #[.string s, .string t] w fun e w' => e = .returned (.bool true) ∧ Below w.heap.size w w' := by
  have hz1 : (⟨#[32]⟩ : ByteArray).size = 1 := rfl
  have D0 : Hid True := trivial
  subst h3
  go_enter Tryd.func6, Tryd.ntmps6
  go_wp2_with (first
    | (have := HB3; go_at_call 11; refine (same_walk c a n1 capc capa ws h1 (by omega) hca HL.out.1 _ (rc.out.front.below ((Below.refl _ _).alloc (Nat.le_refl _) _)) (ra3.out.below ((Below.refl _ _).alloc (Nat.le_refl _) _))).mono ?_; rintro e w4 ⟨rfl, HB⟩; have HB4 : Hid (Below w.heap.size w w4) := below_new HB3.out HB; have rc4 : Hid (RowV w4 c (ws ++ vs.map (W.shift (s.size + 1)))) := ((rc.out.below ((Below.refl _ _).alloc (Nat.le_refl _) _)).below HB); have rb4 : Hid (RowV w4 b vs) := ((rb3.out.below ((Below.refl _ _).alloc (Nat.le_refl _) _)).below HB); clear HB)
    | (have := HB2; go_at_call 9; refine (H3.out _ ((HW.out.below (Nat.le_refl _) HB2.out).new _)).mono ?_; rintro e w3 ⟨c, capc, P3, rfl, hcc, hrc, HB⟩; have a0 := kept_new f0 HB; have a1 := new_kept (i := 0) rfl HB; have lt2 := lt_new HB; have lt3 : w1.heap.size < w3.heap.size := (Nat.lt_trans lt1 lt2); have HB3 : Hid (Below w.heap.size w w3) := below_new HB2.out HB; have rc : Hid (RowV w3 c (ws ++ vs.map (W.shift (s.size + 1)))) := hrc; have ra3 : Hid (RowV w3 a ws) := ((ra2.out.below ((Below.refl _ _).alloc (Nat.le_refl _) _)).below HB); have rb3 : Hid (RowV w3 b vs) := ((rb2.out.below ((Below.refl _ _).alloc (Nat.le_refl _) _)).below HB); clear HB hrc f0 HB2)
    | (have := HB1; go_at_call 9; refine (H2.out _ ((HW.out.below (Nat.le_refl _) HB1.out).new _)).mono ?_; rintro e w2 ⟨b, capb, P2, rfl, hcb, hrb, HB⟩; have f0 := new_kept (i := 0) rfl HB; have lt1 := lt_new HB; have HB2 : Hid (Below w.heap.size w w2) := below_new HB1.out HB; have rb2 : Hid (RowV w2 b vs) := hrb; have ra2 : Hid (RowV w2 a ws) := ((ra1.out.below ((Below.refl _ _).alloc (Nat.le_refl _) _)).below HB); clear HB hrb HB1)
    | (have := D0; go_at_call 9; refine (H1.out _ HW.out).mono ?_; rintro e w1 ⟨a, capa, P1, rfl, hca, hra, HB⟩; have HB1 : Hid (Below w.heap.size w w1) := HB; have ra1 : Hid (RowV w1 a ws) := hra; clear HB hra D0))
  clear cat1 cat2
  go_loopw [11] (fun i wr => ∃ k : Nat, k ≤ n2 ∧ i = .int .i64 k ∧ Hid (Below w4.heap.size w4 wr)) (fun i _ => n2 - (intOf i).toNat)
  case atStart => exact ⟨0, Nat.zero_le _, rfl, Below.refl _ _⟩
  case round =>
    obtain ⟨j, hj, rfl, HBr⟩ := hrel
    by_cases hlt : j < n2
    · obtain ⟨b3, rfl, wc⟩ := (rc4.out.below HBr.out).back (i := j) (by rw [HL.out.2]; exact hlt)
      obtain ⟨b2, rfl, wb⟩ := (rb4.out.below HBr.out) j (by rw [HL.out.2]; exact hlt)
      obtain ⟨c0, c1, c2, c3⟩ := wc
      obtain ⟨d0, d1, d2, d3⟩ := wb
      rw [HL.out.1] at c0 c1 c2 c3
      unfold W.shift at c0 c1 c2 c3
      have hpos := HP.out j hlt
      simp only at c0 c1 c2 c3
      generalize (vs.getD j noW).kind = K at *
      generalize ba (vs.getD j noW).text = T at *
      generalize (vs.getD j noW).n = N at *
      generalize (vs.getD j noW).pos = P at *
      have i1 : (j : Int) < (n2 : Int) := by omega
      go_wp2
      have harith : (P : Int) + ((s.size : Int) + 1) - (s.size : Int) - 1 = (P : Int) := by omega
      rw [harith]
      obtain ⟨w5, hw5⟩ : ∃ w5, w5 = wr.alloc (.cells #[.int .i64 K, .string T, .int .i64 N, .int .i64 P] 32) := ⟨_, rfl⟩
      rw [← hw5]
      have k1 : w5.heap[wr.heap.size]? = some (.cells #[.int .i64 K, .string T, .int .i64 N, .int .i64 P] 32) := by rw [hw5, heap_alloc_new]
      have e0 : w5.cell? ⟨wr.heap.size, 0, none⟩ = some (.int .i64 K) := by rw [cell_of_row w5 _ 0 _ 32 (0, 0) k1]; rfl
      have e1 : w5.cell? ⟨wr.heap.size, 1, none⟩ = some (.string T) := by rw [cell_of_row w5 _ 1 _ 32 (0, 0) k1]; rfl
      have e2 : w5.cell? ⟨wr.heap.size, 2, none⟩ = some (.int .i64 N) := by rw [cell_of_row w5 _ 2 _ 32 (0, 0) k1]; rfl
      have e3 : w5.cell? ⟨wr.heap.size, 3, none⟩ = some (.int .i64 P) := by rw [cell_of_row w5 _ 3 _ 32 (0, 0) k1]; rfl
      have HBw : Below wr.heap.size wr w5 := by rw [hw5]; exact (Below.refl _ _).alloc (Nat.le_refl _) _
      have g0 := kept d0 HBw
      have g1 := kept d1 HBw
      have g2 := kept d2 HBw
      have g3 := kept d3 HBw
      have HB5 : Hid (Below w4.heap.size w4 w5) := HBr.out.trans (HBw.mono HBr.out.size)
      clear k1 hw5 c0 c1 c2 c3 d0 d1 d2 d3 HBw HBr harith
      generalize wr.heap.size = b5 at *
      go_quiet (fail)
      go_wp2
      go_roundw
      case rel => exact ⟨j + 1, by omega, by go_num, below_drewN HB5.out _⟩
      case measure => simp [intOf]; omega
    · have hjn : j = n2 := by omega
      subst hjn
      have HR : Hid (Held wr) := (HW.out.below (Nat.le_refl _) HB4.out).below (Nat.le_refl _) HBr.out
      go_wp2_with (go_at_call 8; refine (works_any _ HR.out).mono ?_; rintro e w5 ⟨rfl, HBx⟩; have HB5 : Hid (Below wr.heap.size wr w5) := HBx; clear HBx)
      go_ret
      exact ⟨rfl, (HB4.out.trans (HBr.out.mono HB4.out.size)).trans (HB5.out.mono (Nat.le_trans HB4.out.size HBr.out.size))⟩

set_option maxRecDepth 100000 in
theorem joins_all (s t : ByteArray) (w : World) (w0 : s.size ≤ maxLen) (w1 : t.size ≤ maxLen) (hw : Held w) :
    Calls Tryd.prog 6 #[.string s, .string t] w fun e w' => e = .returned (.bool true) ∧ Below w.heap.size w w' := by
  have HW : Hid (Held w) := hw
  by_cases hs : s.size ≤ 1500
  · by_cases ht : t.size ≤ 1500
    · have z1 := blanks_size s t ⟨#[32]⟩ hs ht (by decide)
      have T1 := told_of _ w0
      have T2 := told_of _ w1
      have T3 := told_of _ z1.2
      rcases lex_joins s t hs ht with ⟨k1, k2⟩ | ⟨k1, k2, k3⟩ | ⟨k1, k2, k3, k4⟩
      · exact joins_bad s t _ _ _ _ _ _ _ _ _ _ _ hs ht (fun h => k1 h.1) k2 (lex_err _) (lex_err _) rfl rfl z1.1 T1 T2 T3 w hw
      · exact joins_bad s t _ _ _ _ _ _ _ _ _ _ _ hs ht (fun h => k2 h.2) k3 (lex_err _) (lex_err _) rfl rfl z1.1 T1 T2 T3 w hw
      · rw [k1] at T1
        rw [k2] at T2
        rw [k3, k4] at T3
        refine joins_ok s t _ _ _ _ _ _ _ hs ht (lex_few _) (lex_few _) ?_ ⟨rfl, rfl⟩ ?_ rfl rfl z1.1 T1 T2 T3 w hw
        · rw [List.length_append, List.length_map]
        · intro i hi
          have h5 := getD_in hi
          have h6 : (lexOut t).ws = (sp t.data.toList 0).ws := by unfold lexOut; rw [if_pos (by omega)]
          rw [h6] at h5
          have := sp_in _ _ _ h5
          rw [h6]
          rw [size_list] at this
          omega
    · unfold maxLen at w0 w1
      clear hw
      go_enter Tryd.func6, Tryd.ntmps6
      go_wp2_with (go_at_call 8; refine (works_any _ HW.out).mono ?_; rintro e w' ⟨rfl, HB⟩)
      go_ret
      exact ⟨rfl, HB⟩
  · unfold maxLen at w0 w1
    clear hw
    go_enter Tryd.func6, Tryd.ntmps6
    go_wp2_with (go_at_call 8; refine (works_any _ HW.out).mono ?_; rintro e w' ⟨rfl, HB⟩)
    go_ret
    exact ⟨rfl, HB⟩

end Go.Proofs.YtepdcpdageeipaaDoor
