/-
  The document's Split: a contract.
-/
import Derived.Test.YtlfeejjlcclbdaaGreatDoorOneAll
namespace Go.Proofs.YtlfeejjlcclbdaaGreatDoor
open Go.RowKit Go.Maps
set_option linter.unusedVariables false


set_option maxRecDepth 100000 in
set_option maxHeartbeats 400000 in
theorem rsplit_walk (s : ByteArray) (hs : s.size ≤ 4096) (o : Out) (HO : Hid (sp s.data.toList 0 = o)) (w : World) :
    Calls Tryz.prog 30 #[.string s] w fun e w' => ∃ v, e = .returned (.tuple #[v, faultV o.err o.pos]) ∧ WordsV w' v o.ws ∧ Below w.heap.size w w' := by
  obtain ⟨w0, hw0⟩ : ∃ w0, w0 = w.alloc (.cells #[.int .i64 0, .int .i64 0] 33) := ⟨_, rfl⟩
  have HW0 : Hid (Below w.heap.size w w0 ∧ w0.heap.size = w.heap.size + 1 ∧ w0.heap[w.heap.size]? = some (.cells #[.int .i64 0, .int .i64 0] 33)) := by
    subst hw0
    exact ⟨(Below.refl _ _).alloc (Nat.le_refl _) _, size_alloc _ _, heap_alloc_new _ _⟩
  go_enter Tryz.func30, Tryz.ntmps30
  go_wp2
  rw [← hw0]
  clear hw0
  go_loopw [4, 5] (fun v i wr => ∃ (k : Nat), k ≤ s.size ∧ i = .int .i64 k ∧ Hid (∃ ws, Outs w0 wr v ws ∧ ws.length ≤ k ∧ join ws (sp (s.data.toList.drop k) k) = o)) (fun _ i _ => s.size - (intOf i).toNat)
  case atStart => exact ⟨0, Nat.zero_le _, rfl, [], Outs.start w0, Nat.le_refl _, by rw [List.drop_zero, sp_norm]; exact HO.out⟩
  case round =>
    obtain ⟨k, hk, rfl, HK⟩ := hrel
    by_cases hlt : k < s.size
    · have HF : Hid (From s k (s[k]'hlt) (s.data.toList.drop (k + 1))) := from_at hlt
      have hb : (s[k]'hlt).toNat < 256 := UInt8.toNat_lt _
      generalize hc : s[k]'hlt = c at *
      generalize s.data.toList.drop (k + 1) = r at *
      by_cases hbl : c.toNat = 32
      · have HE : Hid (∃ ws, Outs w0 wr u4 ws ∧ ws.length ≤ k + 1 ∧ join ws (sp (s.data.toList.drop (k + 1)) (k + 1)) = o) := by
          obtain ⟨ws, h1, h2, h3⟩ := HK.out
          exact ⟨ws, h1, by omega, step_blank h3 hlt (by rw [hc]; exact hbl)⟩
        clear HK HF
        go_wp2
        go_roundw
        case rel => exact ⟨k + 1, by omega, by go_num, HE.out⟩
        case measure => simp [intOf]; omega
      · obtain ⟨ws, hO, hl, hj⟩ := HK.out
        have HOu : Hid (Outs w0 wr u4 ws) := hO
        have HJ : Hid (join ws (sp (s.data.toList.drop k) k) = o) := hj
        have HL : Hid (ws.length ≤ k) := hl
        clear HK hO hj hl
        by_cases he : (one (c :: r)).err = 0
        · have HC : Hid (∀ w, Calls Tryz.prog 39 #[.string (s.extract k s.size)] w fun e w' => e = .returned (gotV (one (c :: r)).kind (ba (one (c :: r)).text) (one (c :: r)).n (one (c :: r)).len) ∧ Below w.heap.size w w') := by
            have := rone_any HF.out.cut (Nat.le_trans (cut_size s k) hs)
            unfold oneV at this
            rw [if_pos he] at this
            exact this
          have HN : Hid _ := step_word HJ.out c r HF.out hbl he
          have hlen := one_len_pos he
          have hfl := HF.out.len
          rw [List.length_cons] at hlen
          have hkL : k + (one (c :: r)).len ≤ s.size := by omega
          have hl1 : 1 ≤ (one (c :: r)).len := hlen.1
          clear HF he hfl hlen
          generalize (one (c :: r)).kind = K at *
          generalize (one (c :: r)).text = T at *
          generalize (one (c :: r)).n = N at *
          generalize (one (c :: r)).len = L at *
          unfold gotV at HC
          go_wp2_with (first
            | (go_at_call 39; refine (HC.out _).mono ?_; rintro e w1 ⟨rfl, HB⟩; have HO1 : Hid (Outs w0 w1 u4 ws) := HOu.out.moved HB; clear HB HC)
            | (at_builtin; refine wpList_add rfl (.tmp 42) (.tmp 44) rfl (HO1.out.moved ((Below.refl _ _).alloc (Nat.le_refl _) _)) rfl ⟨K, T, N, k⟩ rfl (by rw [size_alloc]) (Nat.le_trans HL.out (by omega)) ?_; intro v1 w2 hO2; have HO2 : Hid (Outs w0 w2 v1 (ws ++ [⟨K, T, N, k⟩])) := hO2; clear hO2 HO1))
          go_roundw
          case rel => exact ⟨k + L, hkL, by go_num, ws ++ [⟨K, T, N, k⟩], HO2.out, by have := HL.out; simp; omega, HN.out⟩
          case measure => simp [intOf]; omega
        · have HC : Hid (∀ w, Calls Tryz.prog 39 #[.string (s.extract k s.size)] w fun e w' => e = .returned (lostV (one (c :: r)).err (one (c :: r)).off) ∧ Below w.heap.size w w') := by
            have := rone_any HF.out.cut (Nat.le_trans (cut_size s k) hs)
            unfold oneV at this
            rw [if_neg he] at this
            exact this
          have HN : Hid _ := step_bad HJ.out c r HF.out hbl he
          have HB0 : Hid (Below w0.heap.size w0 wr) := HOu.out.bel
          have hofs := one_off he
          have hfl := HF.out.len
          rw [List.length_cons] at hofs
          have hkF : k + (one (c :: r)).off < s.size := by omega
          clear HF HOu HJ HL hofs hfl
          generalize (one (c :: r)).err = E at *
          generalize (one (c :: r)).off = F at *
          unfold lostV at HC
          go_wp2_with (go_at_call 39; refine (HC.out _).mono ?_; rintro e w1 ⟨rfl, HB⟩; have HB1 : Hid (Below w0.heap.size w0 w1) := HB0.out.trans (HB.mono HB0.out.size); clear HB HC; have k1 : w1.heap[w.heap.size]? = some (.cells #[.int .i64 0, .int .i64 0] 33) := (HB1.out.block _ (by rw [HW0.out.2.1]; omega)).trans HW0.out.2.2; have hlt1 : w.heap.size < w1.heap.size := (Array.getElem?_eq_some_iff.1 k1).1; have c0 : w1.cell? ⟨w.heap.size, 0, none⟩ = some (.int .i64 0) := (by rw [cell_of_row w1 _ 0 _ 33 (0, 0) k1]; rfl); have c1 : w1.cell? ⟨w.heap.size, 1, none⟩ = some (.int .i64 0) := (by rw [cell_of_row w1 _ 1 _ 33 (0, 0) k1]; rfl); have f0 : ∀ i, w1.frozen? ⟨w.heap.size, i, none⟩ = false := (by intro i; simp [World.frozen?, k1]); clear k1)
          have e1 : (k : Int) + (F : Int) = ((k + F : Nat) : Int) := by omega
          have hB0 : Below w.heap.size w w1 := HW0.out.1.trans (HB1.out.mono (by rw [HW0.out.2.1]; omega))
          have hB1 := Below.setCell (Below.setCell hB0 (p := ⟨w.heap.size, 0, none⟩) (Nat.le_refl _) (.int .i64 E)) (p := ⟨w.heap.size, 1, none⟩) (Nat.le_refl _) (.int .i64 ((k : Int) + F))
          refine bodyPost_ret (v := .tuple #[.slice none 0 0, faultV E (k + F)]) (by unfold faultV; simp [results, Tryz.results30, go_sem, c0, c1, hlt1]) rfl ⟨.slice none 0 0, ?_, ?_, ?_⟩
          · rw [HN.out]
          · rw [HN.out]; exact WordsV.nil _
          · exact hB1.alloc hB1.size _
    · have he : k = s.size := by omega
      subst he
      obtain ⟨ws, hO, hl, hj⟩ := HK.out
      have HE : Hid (o = ⟨ws, 0, 0⟩ ∧ ∀ w', (∀ g, w0.heap.size ≤ g → w'.heap[g]? = wr.heap[g]?) → WordsV w' u4 ws) := ⟨step_end hj, fun w' hg => hO.words_turned (by omega) hg⟩
      have hB := hO.bel
      have k1 : wr.heap[w.heap.size]? = some (.cells #[.int .i64 0, .int .i64 0] 33) := (hB.block _ (by rw [HW0.out.2.1]; omega)).trans HW0.out.2.2
      have c0 : wr.cell? ⟨w.heap.size, 0, none⟩ = some (.int .i64 0) := by rw [cell_of_row wr _ 0 _ 33 (0, 0) k1]; rfl
      have c1 : wr.cell? ⟨w.heap.size, 1, none⟩ = some (.int .i64 0) := by rw [cell_of_row wr _ 1 _ 33 (0, 0) k1]; rfl
      have f0 : ∀ i, wr.frozen? ⟨w.heap.size, i, none⟩ = false := by intro i; simp [World.frozen?, k1]
      have HB2 : Hid (Below w.heap.size w wr) := HW0.out.1.trans (hB.mono (by rw [HW0.out.2.1]; omega))
      clear hO hj HK hl hB k1
      have HZ : Hid (w0.heap.size = w.heap.size + 1) := HW0.out.2.1
      clear HW0
      generalize hb0 : w.heap.size = b0 at *
      go_wp2
      refine bodyPost_ret (v := .tuple #[u4, faultV 0 0]) (by unfold faultV; simp [results, Tryz.results30, go_sem, c0, c1]) rfl ⟨u4, ?_, ?_, ?_⟩
      · rw [HE.out.1]
      · rw [HE.out.1]
        refine HE.out.2 _ fun g hg => ?_
        rw [Below.heap_setCell _ _ _ _ (by rw [HZ.out] at hg; show g ≠ b0; omega), Below.heap_setCell _ _ _ _ (by rw [HZ.out] at hg; show g ≠ b0; omega)]
      · rw [hb0]; exact Below.setCell (Below.setCell HB2.out (p := ⟨b0, 0, none⟩) (Nat.le_refl b0) _) (p := ⟨b0, 1, none⟩) (Nat.le_refl b0) _
set_option maxRecDepth 100000 in
theorem rsplit_long (s : ByteArray) (hs : 4096 < s.size) (hm : s.size ≤ maxLen) (w : World) :
    Calls Tryz.prog 30 #[.string s] w fun e w' => e = .returned (.tuple #[.slice none 0 0, faultV 6 0]) ∧ Below w.heap.size w w' := by
  unfold maxLen at hm
  go_enter Tryz.func30, Tryz.ntmps30
  go_wp2
  refine bodyPost_ret (v := .tuple #[.slice none 0 0, faultV 6 0]) (by unfold faultV; simp [results, Tryz.results30, go_sem]) rfl ⟨rfl, ?_⟩
  exact (Below.refl _ _).alloc (Nat.le_refl _) _
theorem rsplit_any (s : ByteArray) (hm : s.size ≤ maxLen) (w : World) :
    Calls Tryz.prog 30 #[.string s] w fun e w' => ∃ v, e = .returned (.tuple #[v, faultV (lexOut s).err (lexOut s).pos]) ∧ WordsV w' v (lexOut s).ws ∧ Below w.heap.size w w' := by
  by_cases h : s.size ≤ 4096
  · unfold lexOut
    rw [if_pos h]
    exact rsplit_walk s h _ rfl w
  · unfold lexOut
    rw [if_neg h]
    refine (rsplit_long s (by omega) hm w).mono ?_
    rintro e w' ⟨rfl, hB⟩
    exact ⟨_, rfl, WordsV.nil _, hB⟩
end Go.Proofs.YtlfeejjlcclbdaaGreatDoor
