/-
  The document's Parse: a contract, over what Scan says.
-/
import Derived.Test.YtlfeejjlcclbdaaGreatDoorTreeA
import Derived.Test.YtlfeejjlcclbdaaGreatDoorRSplit
import Derived.Test.YtlfeejjlcclbdaaGreatDoorParse
import Derived.Test.YtlfeejjlcclbdaaGreatDoorNode
namespace Go.Proofs.YtlfeejjlcclbdaaGreatDoor
open Go.RowKit
set_option linter.unusedVariables false


theorem WordsV.lie {w : World} {v : Value} {ws : List W} (h : WordsV w v ws) (hne : ws ≠ []) : ∃ b cap, v = .slice (some ⟨b, 0, none⟩) ws.length cap ∧ ws.length ≤ cap ∧ ws.length ≤ 4096 ∧ Lie w b 0 ws := by
  obtain ⟨a, cap, h1, h2, h3, h4⟩ := h
  rcases h4 with h | ⟨b, rfl, hc⟩
  · exact absurd h hne
  · exact ⟨b, cap, h1, h2, h3, fun i hi => by rw [Nat.zero_add]; exact hc i hi⟩
/-- Scan, of words. -/
def ScanS (ws : List W) (en se sp : Nat) : Prop := ∀ (w : World) (a : Option Addr) (cap : Nat), WordsV w (.slice a ws.length cap) ws → Calls Tryz.prog 31 #[.slice a ws.length cap, .int .i64 en] w fun e w' => e = .returned (faultV se sp) ∧ Below w.heap.size w w'
set_option maxRecDepth 100000 in
set_option maxHeartbeats 800000 in
theorem rparse_fault (s : ByteArray) (o : Out) (he : o.err ≠ 0) (w : World)
    (HC : Hid (∀ w, Calls Tryz.prog 30 #[.string s] w fun e w' => ∃ v, e = .returned (.tuple #[v, faultV o.err o.pos]) ∧ WordsV w' v o.ws ∧ Below w.heap.size w w')) :
    Calls Tryz.prog 15 #[.string s] w (PPost w ⟨zeroT, o.err, o.pos⟩) := by
  unfold faultV at HC
  have he2 : ¬ (o.err : Int) = 0 := by omega
  generalize o.err = E at *
  generalize o.pos = F at *
  generalize o.ws = ws at *
  go_enter Tryz.func15, Tryz.ntmps15
  go_wp2_with (go_at_call 30; refine (HC.out _).mono ?_; rintro e w1 ⟨v, rfl, HV, HB⟩; obtain ⟨a, cap, rfl, _⟩ := HV.row; obtain ⟨⟨q0, q1, q2, q3, q4⟩, q5, q6, q7⟩ := (two_new w).below HB; have hl : w.heap.size + 1 < w1.heap.size := ((two_new w).below HB).lt; have HB1 : Hid (Below w.heap.size w w1) := (((Below.refl _ _).alloc (Nat.le_refl _) _).alloc (le_alloc _ _) _).trans (HB.mono (by rw [size_alloc, size_alloc]; omega)); clear HB HV)
  have hl2 : w.heap.size < w1.heap.size := by omega
  go_region
  all_goals go_wp2
  refine bodyPost_ret (v := .tuple #[.agg #[.int .i64 0, .int .i64 0, .string ⟨#[]⟩, .slice none 0 0], .agg #[.int .i64 E, .int .i64 F]]) (by simp [results, Tryz.results15, go_sem, q0, q1, q2, q3, q5, q6, hl, hl2]) rfl ⟨⟨_, _, _, _, _, _, rfl, Tre.leaf _ _ inR_zero inR_zero [] (Nat.zero_le _)⟩, ?_⟩
  have hs := six_below HB1.out (.int .i64 0) (.int .i64 0) (.string ⟨#[]⟩) (.slice none 0 0) (.int .i64 E) (.int .i64 F)
  exact Below.drew (hs.alloc hs.size _)
set_option maxRecDepth 100000 in
set_option maxHeartbeats 800000 in
theorem rparse_scan (s : ByteArray) (hm : s.size ≤ 9223372036854775807) (o : Out) (he : o.err = 0) (se sp : Nat) (hse : se ≠ 0) (w : World)
    (HC : Hid (∀ w, Calls Tryz.prog 30 #[.string s] w fun e w' => ∃ v, e = .returned (.tuple #[v, faultV o.err o.pos]) ∧ WordsV w' v o.ws ∧ Below w.heap.size w w'))
    (HSc : Hid (ScanS o.ws s.size se sp)) :
    Calls Tryz.prog 15 #[.string s] w (PPost w ⟨zeroT, se, sp⟩) := by
  unfold ScanS at HSc
  unfold faultV at HC HSc
  rw [he] at HC
  have he2 : ¬ (se : Int) = 0 := by omega
  generalize o.pos = F at *
  generalize o.ws = ws at *
  go_enter Tryz.func15, Tryz.ntmps15
  go_wp2_with (first
    | (go_at_call 31; refine (HSc.out _ _ _ (HV1.out.below ((Below.refl _ _).alloc (Nat.le_refl _) _))).mono ?_; rintro e w2 ⟨rfl, HB⟩; have HT2 : Hid (Two w2 w.heap.size) := (HT1.out.alloc _).below HB; have HV2 : Hid (WordsV w2 (.slice a ws.length cap) ws) := (HV1.out.below ((Below.refl _ _).alloc (Nat.le_refl _) _)).below HB; have HB2 : Hid (Below w.heap.size w w2) := (HB1.out.alloc HB1.out.size _).trans (HB.mono (Nat.le_trans HB1.out.size (le_alloc _ _))); obtain ⟨⟨q0, q1, q2, q3, q4⟩, q5, q6, q7⟩ := HT2.out; have hl : w.heap.size + 1 < w2.heap.size := HT2.out.lt; clear HB)
    | (go_at_call 30; refine (HC.out _).mono ?_; rintro e w1 ⟨v, rfl, HV, HB⟩; obtain ⟨a, cap, rfl, _⟩ := HV.row; have HV1 : Hid (WordsV w1 (.slice a ws.length cap) ws) := HV; have HT1 : Hid (Two w1 w.heap.size) := (two_new w).below HB; have HB1 : Hid (Below w.heap.size w w1) := (((Below.refl _ _).alloc (Nat.le_refl _) _).alloc (le_alloc _ _) _).trans (HB.mono (by rw [size_alloc, size_alloc]; omega)); clear HB HV))
  have hl2 : w.heap.size < w2.heap.size := by omega
  go_region
  all_goals go_wp2
  refine bodyPost_ret (v := .tuple #[.agg #[.int .i64 0, .int .i64 0, .string ⟨#[]⟩, .slice none 0 0], .agg #[.int .i64 se, .int .i64 sp]]) (by simp [results, Tryz.results15, go_sem, q0, q1, q2, q3, q5, q6, hl, hl2]) rfl ⟨⟨_, _, _, _, _, _, rfl, Tre.leaf _ _ inR_zero inR_zero [] (Nat.zero_le _)⟩, ?_⟩
  have hs := six_below HB2.out (.int .i64 0) (.int .i64 0) (.string ⟨#[]⟩) (.slice none 0 0) (.int .i64 se) (.int .i64 sp)
  exact Below.drew (hs.alloc hs.size _)
set_option maxRecDepth 100000 in
set_option maxHeartbeats 800000 in
theorem rparse_tree (s : ByteArray) (hm : s.size ≤ 9223372036854775807) (o : Out) (he : o.err = 0) (hne : o.ws ≠ []) (t : Tr) (w : World)
    (HC : Hid (∀ w, Calls Tryz.prog 30 #[.string s] w fun e w' => ∃ v, e = .returned (.tuple #[v, faultV o.err o.pos]) ∧ WordsV w' v o.ws ∧ Below w.heap.size w w'))
    (HSc : Hid (ScanS o.ws s.size 0 0))
    (HTr : Hid (∀ (w : World) (b cap : Nat), o.ws.length ≤ cap → Lie w b 0 o.ws → Calls Tryz.prog 32 #[.slice (some ⟨b, 0, none⟩) o.ws.length cap] w (TPost w t))) :
    Calls Tryz.prog 15 #[.string s] w (PPost w (if checkM 16 t ≠ 0 then ⟨zeroT, checkM 16 t, 0⟩ else ⟨t, 0, 0⟩)) := by
  unfold ScanS at HSc
  unfold faultV at HC HSc
  rw [he] at HC
  generalize o.pos = F at *
  generalize o.ws = ws at *
  have HCk : Hid (∀ k n s a l c w', Tre w' (fun g => w.heap.size + 1 < g) (.agg #[.int .i64 k, .int .i64 n, .string s, .slice a l c]) t → Calls Tryz.prog 9 #[.agg #[.int .i64 k, .int .i64 n, .string s, .slice a l c]] w' fun e w'' => e = .returned (.int .i64 (checkM 16 t)) ∧ Below w'.heap.size w' w'') := fun k n s a l c w' h => RCheck_any _ t k n s a l c w' h
  generalize checkM 16 t = ck at *
  by_cases hck : ck = 0
  · subst hck
    rw [if_neg (fun h => h rfl)]
    go_enter Tryz.func15, Tryz.ntmps15
    go_wp2_with (first
      | (go_at_call 9; refine (HCk.out _ _ _ _ _ _ _ (HT3.out.alloc _)).mono ?_; rintro e w4 ⟨rfl, HB⟩; obtain ⟨⟨q0, q1, q2, q3, q4⟩, q5, q6, q7⟩ := (HW3.out.alloc _).below HB; have hl : w.heap.size + 1 < w4.heap.size := ((HW3.out.alloc _).below HB).lt; obtain ⟨p0, p1, p2, p3, p4⟩ := (Cell4.new w3 (.int .i64 tk) (.int .i64 tn) (.string ts) (.slice ta tl tc) 24).below HB; have HT4 : Hid (Tre w4 (fun g => w.heap.size + 1 < g) (.agg #[.int .i64 tk, .int .i64 tn, .string ts, .slice ta tl tc]) t) := (HT3.out.alloc _).below HB; have HB4 : Hid (Below w.heap.size w w4) := (HB3.out.alloc HB3.out.size _).trans (HB.mono (Nat.le_trans HB3.out.size (le_alloc _ _))); clear HB)
      | (go_at_call 32; refine (HTr.out _ b cap hcap (HL2.out.alloc _)).mono ?_; rintro e w3 ⟨⟨tk, tn, ts, ta, tl, tc, rfl, HT'⟩, HB⟩; have HT3 : Hid (Tre w3 (fun g => w.heap.size + 1 < g) (.agg #[.int .i64 tk, .int .i64 tn, .string ts, .slice ta tl tc]) t) := HT'.sub (fun g hg => Nat.lt_of_lt_of_le (HT2.out.alloc _).lt hg); have HW3 : Hid (Two w3 w.heap.size) := (HT2.out.alloc _).below HB; have HB3 : Hid (Below w.heap.size w w3) := (HB2.out.alloc HB2.out.size _).trans (HB.mono (Nat.le_trans HB2.out.size (le_alloc _ _))); clear HB HT')
      | (go_at_call 31; refine (HSc.out _ _ _ (HV1.out.below ((Below.refl _ _).alloc (Nat.le_refl _) _))).mono ?_; rintro e w2 ⟨rfl, HB⟩; have HT2 : Hid (Two w2 w.heap.size) := (HT1.out.alloc _).below HB; have HV2 : Hid (WordsV w2 (.slice (some ⟨b, 0, none⟩) ws.length cap) ws) := (HV1.out.below ((Below.refl _ _).alloc (Nat.le_refl _) _)).below HB; have HB2 : Hid (Below w.heap.size w w2) := (HB1.out.alloc HB1.out.size _).trans (HB.mono (Nat.le_trans HB1.out.size (le_alloc _ _))); obtain ⟨⟨q0, q1, q2, q3, q4⟩, q5, q6, q7⟩ := HT2.out; have hl : w.heap.size + 1 < w2.heap.size := HT2.out.lt; have HL2 : Hid (Lie w2 b 0 ws) := (HL1.out.alloc _).below HB; clear HB)
      | (go_at_call 30; refine (HC.out _).mono ?_; rintro e w1 ⟨v, rfl, HV, HB⟩; obtain ⟨b, cap, rfl, hcap, _, HLi⟩ := HV.lie hne; have HV1 : Hid (WordsV w1 (.slice (some ⟨b, 0, none⟩) ws.length cap) ws) := HV; have HL1 : Hid (Lie w1 b 0 ws) := HLi; have HT1 : Hid (Two w1 w.heap.size) := (two_new w).below HB; have HB1 : Hid (Below w.heap.size w w1) := (((Below.refl _ _).alloc (Nat.le_refl _) _).alloc (le_alloc _ _) _).trans (HB.mono (by rw [size_alloc, size_alloc]; omega)); clear HB HV HLi))
    refine bodyPost_ret (v := .tuple #[.agg #[.int .i64 tk, .int .i64 tn, .string ts, .slice ta tl tc], .agg #[.int .i64 0, .int .i64 0]]) (by simp [results, Tryz.results15, go_sem, q0, q1, q2, q3, q5, q6]) rfl ⟨⟨_, _, _, _, _, _, rfl, six_tre HT4.out _ _ _ _ _ _⟩, ?_⟩
    exact six_below HB4.out _ _ _ _ _ _
  · rw [if_pos hck]
    have hck2 : ¬ (ck : Int) = 0 := by omega
    go_enter Tryz.func15, Tryz.ntmps15
    go_wp2_with (first
      | (go_at_call 9; refine (HCk.out _ _ _ _ _ _ _ (HT3.out.alloc _)).mono ?_; rintro e w4 ⟨rfl, HB⟩; obtain ⟨⟨q0, q1, q2, q3, q4⟩, q5, q6, q7⟩ := (HW3.out.alloc _).below HB; have hl : w.heap.size + 1 < w4.heap.size := ((HW3.out.alloc _).below HB).lt; obtain ⟨p0, p1, p2, p3, p4⟩ := (Cell4.new w3 (.int .i64 tk) (.int .i64 tn) (.string ts) (.slice ta tl tc) 24).below HB; have HT4 : Hid (Tre w4 (fun g => w.heap.size + 1 < g) (.agg #[.int .i64 tk, .int .i64 tn, .string ts, .slice ta tl tc]) t) := (HT3.out.alloc _).below HB; have HB4 : Hid (Below w.heap.size w w4) := (HB3.out.alloc HB3.out.size _).trans (HB.mono (Nat.le_trans HB3.out.size (le_alloc _ _))); clear HB)
      | (go_at_call 32; refine (HTr.out _ b cap hcap (HL2.out.alloc _)).mono ?_; rintro e w3 ⟨⟨tk, tn, ts, ta, tl, tc, rfl, HT'⟩, HB⟩; have HT3 : Hid (Tre w3 (fun g => w.heap.size + 1 < g) (.agg #[.int .i64 tk, .int .i64 tn, .string ts, .slice ta tl tc]) t) := HT'.sub (fun g hg => Nat.lt_of_lt_of_le (HT2.out.alloc _).lt hg); have HW3 : Hid (Two w3 w.heap.size) := (HT2.out.alloc _).below HB; have HB3 : Hid (Below w.heap.size w w3) := (HB2.out.alloc HB2.out.size _).trans (HB.mono (Nat.le_trans HB2.out.size (le_alloc _ _))); clear HB HT')
      | (go_at_call 31; refine (HSc.out _ _ _ (HV1.out.below ((Below.refl _ _).alloc (Nat.le_refl _) _))).mono ?_; rintro e w2 ⟨rfl, HB⟩; have HT2 : Hid (Two w2 w.heap.size) := (HT1.out.alloc _).below HB; have HV2 : Hid (WordsV w2 (.slice (some ⟨b, 0, none⟩) ws.length cap) ws) := (HV1.out.below ((Below.refl _ _).alloc (Nat.le_refl _) _)).below HB; have HB2 : Hid (Below w.heap.size w w2) := (HB1.out.alloc HB1.out.size _).trans (HB.mono (Nat.le_trans HB1.out.size (le_alloc _ _))); obtain ⟨⟨q0, q1, q2, q3, q4⟩, q5, q6, q7⟩ := HT2.out; have hl : w.heap.size + 1 < w2.heap.size := HT2.out.lt; have HL2 : Hid (Lie w2 b 0 ws) := (HL1.out.alloc _).below HB; clear HB)
      | (go_at_call 30; refine (HC.out _).mono ?_; rintro e w1 ⟨v, rfl, HV, HB⟩; obtain ⟨b, cap, rfl, hcap, _, HLi⟩ := HV.lie hne; have HV1 : Hid (WordsV w1 (.slice (some ⟨b, 0, none⟩) ws.length cap) ws) := HV; have HL1 : Hid (Lie w1 b 0 ws) := HLi; have HT1 : Hid (Two w1 w.heap.size) := (two_new w).below HB; have HB1 : Hid (Below w.heap.size w w1) := (((Below.refl _ _).alloc (Nat.le_refl _) _).alloc (le_alloc _ _) _).trans (HB.mono (by rw [size_alloc, size_alloc]; omega)); clear HB HV HLi))
    refine bodyPost_ret (v := .tuple #[.agg #[.int .i64 0, .int .i64 0, .string ⟨#[]⟩, .slice none 0 0], .agg #[.int .i64 ck, .int .i64 0]]) (by simp [results, Tryz.results15, go_sem, q0, q1, q2, q3, q5, q6]) rfl ⟨⟨_, _, _, _, _, _, rfl, Tre.leaf _ _ inR_zero inR_zero [] (Nat.zero_le _)⟩, ?_⟩
    exact six_below HB4.out _ _ _ _ _ _
end Go.Proofs.YtlfeejjlcclbdaaGreatDoor
