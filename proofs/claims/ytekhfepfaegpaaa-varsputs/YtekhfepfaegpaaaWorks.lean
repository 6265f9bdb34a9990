/-
  works: the example: the contract.
-/
import Derived.Test.YtekhfepfaegpaaaBackM
namespace Go.Proofs.Ytekhfepfaegpaaa
open Go.RowKit Pack
set_option linter.unusedVariables false

theorem one_form (s : ByteArray) (n : Int) (w : World) : Calls Try.prog 18 #[.string s, .int .i64 n] w fun e w' => ∃ a1 c1 a2 c2, e = .returned (.agg #[.slice a1 1 c1, .slice a2 1 c2]) ∧ Rd w' (.slice a1 1 c1) (strsV [s]) ∧ Rd w' (.slice a2 1 c2) (intsV [n]) ∧ Below w.heap.size w w' := by
  refine (One_any s n w).mono ?_
  rintro e w' ⟨r, rfl, ⟨sn, sv, rfl, h1, h2⟩, hb⟩
  have r1 := Rd.of_own h1
  have r2 := Rd.of_own h2
  obtain ⟨a1, c1, rfl⟩ := r1.form
  obtain ⟨a2, c2, rfl⟩ := r2.form
  exact ⟨a1, c1, a2, c2, rfl, r1, r2, hb⟩
/-- Variables as a value, of the length N. -/
def RdN (w : World) (N : Nat) (a1 : Option Addr) (c1 : Nat) (a2 : Option Addr) (c2 : Nat) (l : VL) : Prop := RdV w (.agg #[.slice a1 N c1, .slice a2 N c2]) (nmsOf l) (valsOf l)
theorem RdV.num {w : World} {v : Value} {l : VL} (h : RdV w v (nmsOf l) (valsOf l)) : ∃ a1 c1 a2 c2, v = .agg #[.slice a1 l.length c1, .slice a2 l.length c2] ∧ RdN w l.length a1 c1 a2 c2 l := by
  have h' := h
  obtain ⟨sn, sv, rfl, h1, h2⟩ := h
  obtain ⟨a1, c1, rfl⟩ := h1.form
  obtain ⟨a2, c2, rfl⟩ := h2.form
  rw [strsV_len, nmsOf_len] at *
  rw [intsV_len, valsOf_len] at *
  exact ⟨a1, c1, a2, c2, rfl, h'⟩
theorem RdN.below {w w' : World} {N : Nat} {a1 : Option Addr} {c1 : Nat} {a2 : Option Addr} {c2 : Nat} {l : VL} (h : RdN w N a1 c1 a2 c2 l) (hb : Below w.heap.size w w') : RdN w' N a1 c1 a2 c2 l := RdV.below h hb
theorem RdN.alloc {w : World} {N : Nat} {a1 : Option Addr} {c1 : Nat} {a2 : Option Addr} {c2 : Nat} {l : VL} (h : RdN w N a1 c1 a2 c2 l) (o : Obj) : RdN (w.alloc o) N a1 c1 a2 c2 l := RdV.below h ((Below.refl _ _).alloc (Nat.le_refl _) o)
theorem of_ex {w : World} {a1 a2 a3 a4 a5 a6 : Option Addr} {c1 c2 c3 c4 c5 c6 : Nat} (h1 : Rd w (.slice a1 1 c1) (strsV [bB])) (h2 : Rd w (.slice a2 1 c2) (intsV [2])) (h3 : Rd w (.slice a3 1 c3) (strsV [aB])) (h4 : Rd w (.slice a4 1 c4) (intsV [-1])) (h5 : Rd w (.slice a5 1 c5) (strsV [bB])) (h6 : Rd w (.slice a6 1 c6) (intsV [5])) :
    Calls Try.prog 15 #[.slice (some ⟨w.heap.size, 0, none⟩) 3 3] (w.alloc (.cells #[.slice a1 1 c1, .slice a2 1 c2, .slice a3 1 c3, .slice a4 1 c4, .slice a5 1 c5, .slice a6 1 c6] 25)) fun e w' => ∃ b1 d1 b2 d2, e = .returned (.tuple #[.agg #[.slice b1 2 d1, .slice b2 2 d2], .int .i64 0]) ∧ RdN w' 2 b1 d1 b2 d2 exA ∧ Below w.heap.size w w' := by
  have h := Of_any [([bB], [2]), ([aB], [-1]), ([bB], [5])] _ _ (RdL.new3 (x := ([bB], [2])) (y := ([aB], [-1])) (z := ([bB], [5])) h1 h2 h3 h4 h5 h6) (by
    intro x hx n hn
    simp at hx
    rcases hx with rfl | rfl | rfl <;> (simp at hn; subst hn; decide)) (by simp)
  refine h.mono ?_
  rintro e w' ⟨r, rfl, h7, hb⟩
  rw [ex_of] at h7 ⊢
  obtain ⟨b1, d1, b2, d2, rfl, hn⟩ := h7.read.num
  exact ⟨b1, d1, b2, d2, rfl, hn, ((Below.refl _ _).alloc (Nat.le_refl _) _).trans (hb.mono (base_le (Nat.le_refl _) _))⟩
theorem get_ex {w : World} {a1 a2 : Option Addr} {c1 c2 : Nat} (h : RdN w 2 a1 c1 a2 c2 exA) : Calls Try.prog 21 #[.agg #[.slice a1 2 c1, .slice a2 2 c2], .string ⟨#[98]⟩] w fun e w' => e = .returned (.tuple #[.int .i64 5, .bool true]) ∧ Below w.heap.size w w' := by
  have h2 := Get_any exA bB _ w h ex_srt (by decide)
  rw [ex_get.1, ex_get.2] at h2
  exact h2
theorem put_ex {w : World} {a1 a2 : Option Addr} {c1 c2 : Nat} (h : RdN w 2 a1 c1 a2 c2 exA) : Calls Try.prog 26 #[.slice none 0 0, .agg #[.slice a1 2 c1, .slice a2 2 c2]] w fun e w' => ∃ v', e = .returned v' ∧ Owns w' w.heap.size v' (packV exA) ∧ Below w.heap.size w w' := Put_any exA _ w h (by decide) ex_sizes
theorem ex_len : (packV exA).length ≤ 3000000 := by
  have h1 := packE_len (l := exA) ex_sizes
  have h2 := urow_len (n := exA.length) (by decide)
  unfold packV
  rw [List.length_append]
  have : exA.length = 2 := rfl
  omega
theorem read_ex {w : World} {v : Value} (h : ReadsV w v (packV exA ++ [7#8])) : Calls Try.prog 23 #[v] w fun e w' => ∃ a1 c1 a2 c2 a3 c3, e = .returned (.tuple #[.agg #[.slice a1 2 c1, .slice a2 2 c2], .slice a3 1 c3, .int .i64 0]) ∧ RdN w' 2 a1 c1 a2 c2 exA ∧ Below w.heap.size w w' := by
  have h2 := Read_any _ v w h (by rw [List.length_append]; have := ex_len; simp; omega)
  refine h2.mono ?_
  intro e w' h3
  unfold ReadPost at h3
  rw [ex_read] at h3
  obtain ⟨vv, rv, rfl, h4, h5, hb⟩ := h3
  obtain ⟨a1, c1, a2, c2, rfl, hn⟩ := h4.num
  obtain ⟨a3, c3, rfl, _⟩ := h5
  exact ⟨a1, c1, a2, c2, a3, c3, rfl, hn, hb⟩
theorem set_ex {w : World} {a1 a2 : Option Addr} {c1 c2 : Nat} (h : RdN w 2 a1 c1 a2 c2 exA) : Calls Try.prog 17 #[.agg #[.slice a1 2 c1, .slice a2 2 c2], .string ⟨#[110, 111]⟩, .int .i64 1] w fun e w' => ∃ b1 n1 d1 b2 n2 d2, e = .returned (.tuple #[.agg #[.slice b1 n1 d1, .slice b2 n2 d2], .int .i64 1]) ∧ Below w.heap.size w w' := by
  have h2 := Set_any _ _ _ noB 1 w h (fun m hm => by
    obtain ⟨q, hq, rfl⟩ := List.mem_map.1 hm
    have := (ex_sizes q hq).1
    omega) (by decide)
  refine h2.mono ?_
  rintro e w' ⟨r, rfl, h7, hb⟩
  rw [ex_set] at h7 ⊢
  obtain ⟨sn, sv, rfl, r1, r2⟩ := h7
  obtain ⟨b1, d1, rfl⟩ := (Rd.of_own r1).form
  obtain ⟨b2, d2, rfl⟩ := (Rd.of_own r2).form
  exact ⟨_, _, _, _, _, _, rfl, hb⟩
theorem same_ex {w : World} {a1 a2 b1 b2 : Option Addr} {c1 c2 d1 d2 : Nat} (h : RdN w 2 a1 c1 a2 c2 exA) (h' : RdN w 2 b1 d1 b2 d2 exA) : Calls Try.prog 12 #[.agg #[.slice a1 2 c1, .slice a2 2 c2], .agg #[.slice b1 2 d1, .slice b2 2 d2]] w fun e w' => e = .returned (.bool true) ∧ Below w.heap.size w w' := by
  have := Same_any _ _ _ _ _ _ w h h'
  simpa using this
theorem check_ex {w : World} {a1 a2 : Option Addr} {c1 c2 : Nat} (h : RdN w 2 a1 c1 a2 c2 exA) : Calls Try.prog 10 #[.agg #[.slice a1 2 c1, .slice a2 2 c2]] w fun e w' => e = .returned (.int .i64 0) ∧ Below w.heap.size w w' := by
  have := Check_any _ _ _ w h (fun m hm => by
    obtain ⟨q, hq, rfl⟩ := List.mem_map.1 hm
    have := (ex_sizes q hq).1
    omega)
  rwa [ex_chk] at this
theorem copy_ex {w : World} {a1 a2 : Option Addr} {c1 c2 : Nat} (h : RdN w 2 a1 c1 a2 c2 exA) : Calls Try.prog 14 #[.agg #[.slice a1 2 c1, .slice a2 2 c2]] w fun e w' => ∃ b1 d1 b2 d2, e = .returned (.agg #[.slice b1 2 d1, .slice b2 2 d2]) ∧ RdN w' 2 b1 d1 b2 d2 exA ∧ Below w.heap.size w w' := by
  refine (Copy_any _ _ _ w h (fun m hm => by
    obtain ⟨q, hq, rfl⟩ := List.mem_map.1 hm
    have := (ex_sizes q hq).1
    omega) (by decide) (by decide)).mono ?_
  rintro e w' ⟨r, rfl, h4, hb⟩
  obtain ⟨b1, d1, b2, d2, rfl, hn⟩ := h4.num
  exact ⟨b1, d1, b2, d2, rfl, hn, hb⟩
theorem reads_seven (w : World) : ReadsV (w.alloc (.cells #[.int .u8 7] 5)) (.slice (some ⟨w.heap.size, 0, none⟩) 1 1) [7#8] := reads_one' w 7 7#8 5 rfl
theorem HLen : (packV exA).length + ([7#8] : List (BitVec 8)).length ≤ 140737488355328 := by have := ex_len; simp; omega
set_option maxRecDepth 100000 in
set_option maxHeartbeats 4000000 in
theorem works_any (w : World) : Calls Try.prog 9 #[] w fun e w' => e = .returned (.bool true) ∧ Below w.heap.size w w' := by
  have HO : Hid (∀ s n w, Calls Try.prog 18 #[.string s, .int .i64 n] w fun e w' => ∃ a1 c1 a2 c2, e = .returned (.agg #[.slice a1 1 c1, .slice a2 1 c2]) ∧ Rd w' (.slice a1 1 c1) (strsV [s]) ∧ Rd w' (.slice a2 1 c2) (intsV [n]) ∧ Below w.heap.size w w') := one_form
  go_enter Try.func9, Try.ntmps9
  go_wp2_with (first
    | (go_at_call 17; have := M7; refine (set_ex M7.out.2.1).mono ?_; rintro e w8 ⟨b1, n1, d1, b2, n2, d2, rfl, HB⟩; have M8 : Hid (Below w.heap.size w w8 ∧ RdN w8 2 e1 f1 e2 f2 exA ∧ Two w8 w4.heap.size (.slice e1 2 f1) (.slice e2 2 f2) ∧ RdN w8 2 g1 h1 g2 h2 exA ∧ Two w8 w7.heap.size (.slice g1 2 h1) (.slice g2 2 h2)) := ⟨M7.out.1.trans (HB.mono M7.out.1.size), M7.out.2.1.below HB, M7.out.2.2.1.below HB, M7.out.2.2.2.1.below HB, M7.out.2.2.2.2.below HB⟩; clear HB M7)
    | (go_at_call 23; have := M6; refine (read_ex M6.out.2.2.2).mono ?_; rintro e w7 ⟨g1, h1, g2, h2, g3, h3, rfl, HR, HB⟩; have M7 : Hid (Below w.heap.size w (w7.alloc (.cells #[.slice g1 2 h1, .slice g2 2 h2] 25)) ∧ RdN (w7.alloc (.cells #[.slice g1 2 h1, .slice g2 2 h2] 25)) 2 e1 f1 e2 f2 exA ∧ Two (w7.alloc (.cells #[.slice g1 2 h1, .slice g2 2 h2] 25)) w4.heap.size (.slice e1 2 f1) (.slice e2 2 f2) ∧ RdN (w7.alloc (.cells #[.slice g1 2 h1, .slice g2 2 h2] 25)) 2 g1 h1 g2 h2 exA ∧ Two (w7.alloc (.cells #[.slice g1 2 h1, .slice g2 2 h2] 25)) w7.heap.size (.slice g1 2 h1) (.slice g2 2 h2)) := ⟨below_alloc (M6.out.1.trans (HB.mono M6.out.1.size)) (Nat.le_refl _) _, (M6.out.2.1.below HB).alloc _, (M6.out.2.2.1.below HB).alloc _, HR.alloc _, Two.new _ _ _ 25⟩; obtain ⟨t4, t0, t1, t2, t3⟩ := M7.out.2.2.1; clear HB HR M6)
    | (at_builtin; have := M5; refine wpList_append_bytes rfl (.tmp 25) (.tmp 26) 42 rfl w4b.heap.size Try.underlying42 Try.info5 _ (packV exA) rfl (M5.out.2.2.2.2.alloc _) _ [7#8] rfl (reads_seven _) HLen (Nat.le_trans M5.out.2.2.2.1.size (le_alloc _ _)) ?_; intro v6 w6 q1 q2; have M6 : Hid (Below w.heap.size w w6 ∧ RdN w6 2 e1 f1 e2 f2 exA ∧ Two w6 w4.heap.size (.slice e1 2 f1) (.slice e2 2 f2) ∧ ReadsV w6 v6 (packV exA ++ [7#8])) := ⟨M5.out.1.trans (((below_alloc M5.out.2.2.2.1 (Nat.le_refl _) _).trans q2).mono M5.out.1.size), M5.out.2.1.below ((below_alloc M5.out.2.2.2.1 (Nat.le_refl _) _).trans q2), M5.out.2.2.1.below ((below_alloc M5.out.2.2.2.1 (Nat.le_refl _) _).trans q2), ReadsV.of_own q1⟩; clear q1 q2 M5)
    | (go_at_call 26; have := M4; refine (put_ex M4.out.2.1).mono ?_; rintro e w5 ⟨v5, rfl, HR, HB⟩; have M5 : Hid (Below w.heap.size w w4b ∧ RdN w4b 2 e1 f1 e2 f2 exA ∧ Two w4b w4.heap.size (.slice e1 2 f1) (.slice e2 2 f2) ∧ Below w4b.heap.size w4b w5 ∧ Owns w5 w4b.heap.size v5 (packV exA)) := ⟨M4.out.1, M4.out.2.1, M4.out.2.2, HB, HR⟩; clear HB HR M4)
    | (go_at_call 21; have := M3; refine (get_ex M3.out.2.1).mono ?_; rintro e w4b ⟨rfl, HB⟩; have M4 : Hid (Below w.heap.size w w4b ∧ RdN w4b 2 e1 f1 e2 f2 exA ∧ Two w4b w4.heap.size (.slice e1 2 f1) (.slice e2 2 f2)) := ⟨M3.out.1.trans (HB.mono M3.out.1.size), M3.out.2.1.below HB, M3.out.2.2.below HB⟩; obtain ⟨t4, t0, t1, t2, t3⟩ := M4.out.2.2; clear HB M3)
    | (go_at_call 15; have := M2; refine (of_ex M2.out.1 M2.out.2.1 M2.out.2.2.1 M2.out.2.2.2.1 M2.out.2.2.2.2.1 M2.out.2.2.2.2.2.1).mono ?_; rintro e w4 ⟨e1, f1, e2, f2, rfl, HR, HB⟩; have M3 : Hid (Below w.heap.size w (w4.alloc (.cells #[.slice e1 2 f1, .slice e2 2 f2] 25)) ∧ RdN (w4.alloc (.cells #[.slice e1 2 f1, .slice e2 2 f2] 25)) 2 e1 f1 e2 f2 exA ∧ Two (w4.alloc (.cells #[.slice e1 2 f1, .slice e2 2 f2] 25)) w4.heap.size (.slice e1 2 f1) (.slice e2 2 f2)) := ⟨below_alloc (M2.out.2.2.2.2.2.2.trans (HB.mono M2.out.2.2.2.2.2.2.size)) (Nat.le_refl _) _, HR.alloc _, Two.new _ _ _ 25⟩; clear HB HR M2)
    | (go_at_call 18; have := M1; refine (HO.out _ _ _).mono ?_; rintro e w3 ⟨a5, c5, a6, c6, rfl, q1, q2, HB⟩; have M2 : Hid (Rd w3 (.slice a1 1 c1) (strsV [bB]) ∧ Rd w3 (.slice a2 1 c2) (intsV [2]) ∧ Rd w3 (.slice a3 1 c3) (strsV [aB]) ∧ Rd w3 (.slice a4 1 c4) (intsV [-1]) ∧ Rd w3 (.slice a5 1 c5) (strsV [bB]) ∧ Rd w3 (.slice a6 1 c6) (intsV [5]) ∧ Below w.heap.size w w3) := ⟨M1.out.1.below HB, M1.out.2.1.below HB, M1.out.2.2.1.below HB, M1.out.2.2.2.1.below HB, q1, q2, M1.out.2.2.2.2.trans (HB.mono M1.out.2.2.2.2.size)⟩; clear q1 q2 HB M1)
    | (go_at_call 18; have := M0; refine (HO.out _ _ _).mono ?_; rintro e w2 ⟨a3, c3, a4, c4, rfl, q1, q2, HB⟩; have M1 : Hid (Rd w2 (.slice a1 1 c1) (strsV [bB]) ∧ Rd w2 (.slice a2 1 c2) (intsV [2]) ∧ Rd w2 (.slice a3 1 c3) (strsV [aB]) ∧ Rd w2 (.slice a4 1 c4) (intsV [-1]) ∧ Below w.heap.size w w2) := ⟨M0.out.1.below HB, M0.out.2.1.below HB, q1, q2, M0.out.2.2.trans (HB.mono M0.out.2.2.size)⟩; clear q1 q2 HB M0)
    | (go_at_call 18; refine (HO.out _ _ _).mono ?_; rintro e w1 ⟨a1, c1, a2, c2, rfl, q1, q2, HB⟩; have M0 : Hid (Rd w1 (.slice a1 1 c1) (strsV [bB]) ∧ Rd w1 (.slice a2 1 c2) (intsV [2]) ∧ Below w.heap.size w w1) := ⟨q1, q2, HB⟩; clear q1 q2 HB))
  have HT : Hid (∀ w', Below (w8.alloc (.cells #[.slice b1 n1 d1, .slice b2 n2 d2] 25)).heap.size (w8.alloc (.cells #[.slice b1 n1 d1, .slice b2 n2 d2] 25)) w' → Below w.heap.size w w' ∧ RdN w' 2 e1 f1 e2 f2 exA ∧ Two w' w4.heap.size (.slice e1 2 f1) (.slice e2 2 f2) ∧ RdN w' 2 g1 h1 g2 h2 exA ∧ Two w' w7.heap.size (.slice g1 2 h1) (.slice g2 2 h2)) := fun w' hb => by
    have b0 : Below w.heap.size w (w8.alloc (.cells #[.slice b1 n1 d1, .slice b2 n2 d2] 25)) := below_alloc M8.out.1 (Nat.le_refl _) _
    exact ⟨b0.trans (hb.mono b0.size), (M8.out.2.1.alloc _).below hb, (M8.out.2.2.1.alloc _).below hb, (M8.out.2.2.2.1.alloc _).below hb, (M8.out.2.2.2.2.alloc _).below hb⟩
  obtain ⟨_, _, ⟨t4, t0, t1, t2, t3⟩, _, ⟨s4, s0, s1, s2, s3⟩⟩ := HT.out _ (Below.refl _ _)
  have HD : Hid (Below (w8.alloc (.cells #[.slice b1 n1 d1, .slice b2 n2 d2] 25)).heap.size (w8.alloc (.cells #[.slice b1 n1 d1, .slice b2 n2 d2] 25)) (w8.alloc (.cells #[.slice b1 n1 d1, .slice b2 n2 d2] 25)).drew) := Below.drew (Below.refl _ _)
  go_region_held3 (fun w' => w'.cell? ⟨w4.heap.size, 0, none⟩ = some (.slice e1 2 f1) ∧ w'.cell? ⟨w4.heap.size, 1, none⟩ = some (.slice e2 2 f2) ∧ w'.cell? ⟨w7.heap.size, 0, none⟩ = some (.slice g1 2 h1) ∧ w'.cell? ⟨w7.heap.size, 1, none⟩ = some (.slice g2 2 h2)) (go_keep) (first
    | (go_at_call 12; have := MB; refine (same_ex MB.out.2.1 MB.out.2.2).mono ?_; rintro e wd ⟨rfl, HB⟩; have MC : Hid (Below (w8.alloc (.cells #[.slice b1 n1 d1, .slice b2 n2 d2] 25)).heap.size (w8.alloc (.cells #[.slice b1 n1 d1, .slice b2 n2 d2] 25)) wd) := MB.out.1.trans (HB.mono MB.out.1.size); obtain ⟨_, _, ⟨t4, t0, t1, t2, t3⟩, _, ⟨s4, s0, s1, s2, s3⟩⟩ := HT.out _ MC.out; clear HB MB)
    | (go_at_call 14; have := MA; refine (copy_ex (HT.out _ MA.out).2.1).mono ?_; rintro e wc ⟨i1, j1, i2, j2, rfl, HR, HB⟩; have MB : Hid (Below (w8.alloc (.cells #[.slice b1 n1 d1, .slice b2 n2 d2] 25)).heap.size (w8.alloc (.cells #[.slice b1 n1 d1, .slice b2 n2 d2] 25)) wc ∧ RdN wc 2 e1 f1 e2 f2 exA ∧ RdN wc 2 i1 j1 i2 j2 exA) := ⟨MA.out.trans (HB.mono MA.out.size), (HT.out _ MA.out).2.1.below HB, HR⟩; obtain ⟨_, _, ⟨t4, t0, t1, t2, t3⟩, _, ⟨s4, s0, s1, s2, s3⟩⟩ := HT.out _ MB.out.1; clear HB HR MA)
    | (go_at_call 10; have := M9; refine (check_ex (HT.out _ M9.out).2.1).mono ?_; rintro e wb ⟨rfl, HB⟩; have MA : Hid (Below (w8.alloc (.cells #[.slice b1 n1 d1, .slice b2 n2 d2] 25)).heap.size (w8.alloc (.cells #[.slice b1 n1 d1, .slice b2 n2 d2] 25)) wb) := M9.out.trans (HB.mono M9.out.size); obtain ⟨_, _, ⟨t4, t0, t1, t2, t3⟩, _, ⟨s4, s0, s1, s2, s3⟩⟩ := HT.out _ MA.out; clear HB M9)
    | (go_at_call 12; refine (same_ex (HT.out _ HD.out).2.1 (HT.out _ HD.out).2.2.2.1).mono ?_; rintro e wa ⟨rfl, HB⟩; have M9 : Hid (Below (w8.alloc (.cells #[.slice b1 n1 d1, .slice b2 n2 d2] 25)).heap.size (w8.alloc (.cells #[.slice b1 n1 d1, .slice b2 n2 d2] 25)) wa) := HD.out.trans (HB.mono HD.out.size); obtain ⟨_, _, ⟨t4, t0, t1, t2, t3⟩, _, ⟨s4, s0, s1, s2, s3⟩⟩ := HT.out _ M9.out; clear HB))
  all_goals go_wp2
  all_goals
    (go_ret
     exact ⟨rfl, (HT.out _ MC.out).1⟩)
end Go.Proofs.Ytekhfepfaegpaaa
