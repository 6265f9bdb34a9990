/-
  The program's putPlace, Put: contracts.
-/
import Derived.Test.YtjafjheffbbkmaaPuB
namespace Go.Proofs.Ytjafjheffbbkmaa
open Go.RowKit
open V.Pack (byte urow zz unzz rd rd0_ok rd0_urow urow_len unzz_zz zz_unzz zz_lt byte_nat val_urow)
set_option linter.unusedVariables false

/-- What is ahead of a place's flows. -/
def preB (k m : Nat) (nm : Bs) (ar : List Tr) (n : Nat) : BB := byte k :: (textB nm ++ (urow m ++ (maybeB ar ++ urow n)))
set_option maxRecDepth 100000 in
set_option maxHeartbeats 1600000 in
theorem putPlace_walk (base k m N : Nat) (nm : Bs) (ar : List Tr) (ou : List Fl) (aa : Option Addr) (ca : Nat) (ao : Option Addr) (co : Nat) (b : Value) (l : BB) (w : World)
    (hk : k ≤ 9) (hm : m ≤ 9) (hnm : nm.length ≤ 32) (ha1 : ar.length ≤ 1) (hac : ∀ t ∈ ar, checkM 16 t = 0) (ho16 : ou.length ≤ 16) (hN : N ≤ 4096) (hof : ∀ f ∈ ou, 1 ≤ f.to ∧ f.to < N ∧ f.ifs.length ≤ 1 ∧ ∀ t ∈ f.ifs, checkM 16 t = 0)
    (hp : PlV w (fun g => g < base) ⟨k, nm, m, ar, ou⟩ aa ca ao co) (hO : V.Owns w base b l) (hb : base ≤ w.heap.size) (hl : l.length + (preB k m nm ar ou.length).length + (ou.flatMap flowB).length ≤ 1000000000000) :
    Calls Try.prog 45 #[b, .agg #[.int .i64 k, .string (ba nm), .int .i64 m, .slice aa ar.length ca, .slice ao ou.length co]] w fun e w' => ∃ b', e = .returned b' ∧ V.Owns w' base b' ((l ++ preB k m nm ar ou.length) ++ ou.flatMap flowB) ∧ V.Kp base w w' := by
  obtain ⟨hca, hla⟩ := hp.arg.cap
  obtain ⟨hco, hlo⟩ := hp.out.cap
  simp only at hca hla hco hlo
  have HO : Hid (V.Owns w base b l) := hO
  have HB : Hid (V.B (byte k) = (k : Int)) := (B_byte (by omega)).symm
  have HL1 : Hid (l.length + [byte k].length ≤ 140737488355328) := by show _ ≤ _; simp; omega
  have hlp : l.length + 1 + (textB nm).length + (urow m).length + (maybeB ar).length + (urow ou.length).length + (ou.flatMap flowB).length ≤ 1000000000000 := by
    unfold preB at hl; simp only [List.length_cons, List.length_append] at hl; omega
  have HF0 : Hid (ExsV w (fun g => g < base) (.slice aa ar.length ca) ar ∧ FlsV w (fun g => g < base) (.slice ao ou.length co) ou) := ⟨hp.arg, hp.out⟩
  obtain ⟨C, F, hcv, hF⟩ := conv_name nm (by omega)
  have H43 : Hid (∀ w1 v1, V.Kp base w w1 → V.Owns w1 base v1 (l ++ [byte k]) → Calls Try.prog 43 #[v1, .slice (some ⟨w1.heap.size, 0, none⟩) nm.length (C w1)] (F w1) fun e w' => ∃ v', e = .returned v' ∧ V.Owns w' base v' (l ++ byte k :: textB nm) ∧ V.Kp base w1 w') := fun w1 v1 hkk ho => by
    have hf := hF w1
    refine (V.bytes_k base v1 _ _ (nb nm) (F w1) (ho.below hf.2) hf.1 (Nat.le_trans hb (Nat.le_trans hkk.size hf.2.size)) (by simp; omega) (by rw [nb_len]; omega)).mono ?_
    rintro e w' ⟨v', rfl, h1, h2⟩
    exact ⟨v', rfl, by rw [nb_len] at h1; simpa [textB] using h1, (V.Kp.of_below hf.2).trans h2⟩
  have H44 : Hid (∀ w1 v1, V.Kp base w w1 → V.Owns w1 base v1 (l ++ byte k :: textB nm) → Calls Try.prog 44 #[v1, .int .u64 m] w1 fun e w' => ∃ v', e = .returned v' ∧ V.Owns w' base v' (l ++ byte k :: (textB nm ++ urow m)) ∧ V.Kp base w1 w') := fun w1 v1 hkk ho => by
    refine (V.uint_k base v1 _ m w1 ho (Nat.le_trans hb hkk.size) (by simp only [List.length_append, List.length_cons]; omega) (by omega)).mono ?_
    rintro e w' ⟨v', rfl, h1, h2⟩
    exact ⟨v', rfl, by simpa using h1, h2⟩
  have H78 : Hid (∀ w1 v1, V.Kp base w w1 → V.Owns w1 base v1 (l ++ byte k :: (textB nm ++ urow m)) → Calls Try.prog 78 #[v1, .slice aa ar.length ca] w1 fun e w' => ∃ v', e = .returned v' ∧ V.Owns w' base v' (l ++ byte k :: (textB nm ++ (urow m ++ maybeB ar))) ∧ V.Kp base w1 w') := fun w1 v1 hkk ho => by
    refine (putTrees_any base ar _ v1 _ w1 ha1 hac (HF0.out.1.kept (kept_base (hkk.below hb) fun g hg => hg)) ho (Nat.le_trans hb hkk.size) (by simp only [List.length_append, List.length_cons]; omega)).mono ?_
    rintro e w' ⟨v', rfl, h1, h2⟩
    exact ⟨v', rfl, by simpa using h1, h2⟩
  have H44b : Hid (∀ w1 v1, V.Kp base w w1 → V.Owns w1 base v1 (l ++ byte k :: (textB nm ++ (urow m ++ maybeB ar))) → Calls Try.prog 44 #[v1, .int .u64 ou.length] w1 fun e w' => ∃ v', e = .returned v' ∧ V.Owns w' base v' ((l ++ preB k m nm ar ou.length) ++ (ou.take 0).flatMap flowB) ∧ V.Kp base w1 w') := fun w1 v1 hkk ho => by
    refine (V.uint_k base v1 _ ou.length w1 ho (Nat.le_trans hb hkk.size) (by simp only [List.length_append, List.length_cons]; omega) (by omega)).mono ?_
    rintro e w' ⟨v', rfl, h1, h2⟩
    exact ⟨v', rfl, by simpa [preB] using h1, h2⟩
  have HFl : Hid (∀ j (h : j < ou.length) wr, V.Kp base w wr → ∃ fb fo ka kc, ao = some ⟨fb, fo, none⟩ ∧ FlAt wr (fun g => g < base) fb (fo + j * 2) ou[j] ka kc) := fun j h wr hkk => by
    obtain ⟨fb, fo, ka, kc, e1, e2, e3⟩ := (HF0.out.2.kept (kept_base (hkk.below hb) fun g hg => hg)).at j h
    rw [getD_memF h] at e3
    exact ⟨fb, fo, ka, kc, e1, e3⟩
  have H44c : Hid (∀ j (h : j < ou.length) (x : Int), x = ou[j].to → ∀ w1 v1, V.Kp base w w1 → V.Owns w1 base v1 ((l ++ preB k m nm ar ou.length) ++ (ou.take j).flatMap flowB) → Calls Try.prog 44 #[v1, .int .u64 x] w1 fun e w' => ∃ v', e = .returned v' ∧ V.Owns w' base v' (((l ++ preB k m nm ar ou.length) ++ (ou.take j).flatMap flowB) ++ urow ou[j].to.toNat) ∧ V.Kp base w1 w') := fun j h x hx w1 v1 hkk ho => by
    have hf := hof _ (List.getElem_mem h)
    have hp2 := flat_part flowB ou j
    refine (V.uint_keq x base v1 _ ou[j].to.toNat w1 (by omega) ho (Nat.le_trans hb hkk.size) (by simp only [List.length_append]; omega) (by omega)).mono ?_
    rintro e w' ⟨v', rfl, h1, h2⟩
    exact ⟨v', rfl, h1, h2⟩
  have H78c : Hid (∀ j (h : j < ou.length) ka kc w1 v1, V.Kp base w w1 → ExsV w1 (fun g => g < base) (.slice ka ou[j].ifs.length kc) ou[j].ifs → V.Owns w1 base v1 (((l ++ preB k m nm ar ou.length) ++ (ou.take j).flatMap flowB) ++ urow ou[j].to.toNat) → Calls Try.prog 78 #[v1, .slice ka ou[j].ifs.length kc] w1 fun e w' => ∃ v', e = .returned v' ∧ V.Owns w' base v' ((l ++ preB k m nm ar ou.length) ++ (ou.take (j + 1)).flatMap flowB) ∧ V.Kp base w1 w') := fun j h ka kc w1 v1 hkk hE ho => by
    have hf := hof _ (List.getElem_mem h)
    have hp2 := flat_both flowB ou j h
    have e1 : (flowB ou[j]).length = (urow ou[j].to.toNat).length + (maybeB ou[j].ifs).length := by unfold flowB; rw [List.length_append]
    refine (putTrees_any base ou[j].ifs _ v1 _ w1 hf.2.2.1 hf.2.2.2 hE ho (Nat.le_trans hb hkk.size) (by simp only [List.length_append]; omega)).mono ?_
    rintro e w' ⟨v', rfl, h1, h2⟩
    refine ⟨v', rfl, ?_, h2⟩
    rw [flat_step h]
    simpa [flowB] using h1
  have HTo : Hid (∀ j (h : j < ou.length), 1 ≤ ou[j].to ∧ ou[j].to < 4097) := fun j h => by have := hof _ (List.getElem_mem h); exact ⟨this.1, by omega⟩
  clear hp hO hac hof hF hl hlp
  generalize hPRE : l ++ preB k m nm ar ou.length = PRE at *
  have HPRE : Hid (l ++ preB k m nm ar ou.length = PRE) := hPRE
  clear hPRE
  generalize ba nm = s at *
  generalize nm.length = nl at *
  generalize ar.length = la at *
  go_enter Try.func45, Try.ntmps45
  go_wp2_with (first
    | (go_at_call 44; have := O4; refine (H44b.out _ _ O4.out.2.1 O4.out.1).mono ?_; rintro e w5 ⟨v5, rfl, h1, h2⟩; have O5 : Hid (V.Owns w5 base v5 (PRE ++ (ou.take 0).flatMap flowB) ∧ V.Kp base w w5) := ⟨h1, O4.out.2.1.trans h2⟩; obtain ⟨q0, q1, q2, q3, q4, q5⟩ := (O4.out.2.2.kp h2).c; clear h1 h2 O4)
    | (go_at_call 78; have := O3; refine (H78.out _ _ O3.out.2.1 O3.out.1).mono ?_; rintro e w4 ⟨v4, rfl, h1, h2⟩; have O4 : Hid (V.Owns w4 base v4 (l ++ byte k :: (textB nm ++ (urow m ++ maybeB ar))) ∧ V.Kp base w w4 ∧ C5N w4 w.heap.size (.int .i64 k) (.string s) (.int .i64 m) (.slice aa la ca) (.slice ao ou.length co)) := ⟨h1, O3.out.2.1.trans h2, O3.out.2.2.kp h2⟩; obtain ⟨q0, q1, q2, q3, q4, q5⟩ := O4.out.2.2.c; clear h1 h2 O3)
    | (go_at_call 44; have := O2; refine (H44.out _ _ O2.out.2.1 O2.out.1).mono ?_; rintro e w3 ⟨v3, rfl, h1, h2⟩; have O3 : Hid (V.Owns w3 base v3 (l ++ byte k :: (textB nm ++ urow m)) ∧ V.Kp base w w3 ∧ C5N w3 w.heap.size (.int .i64 k) (.string s) (.int .i64 m) (.slice aa la ca) (.slice ao ou.length co)) := ⟨h1, O2.out.2.1.trans h2, O2.out.2.2.kp h2⟩; obtain ⟨q0, q1, q2, q3, q4, q5⟩ := O3.out.2.2.c; clear h1 h2 O2)
    | (go_at_call 43; have := O1; refine (H43.out _ _ O1.out.2.1 O1.out.1).mono ?_; rintro e w2 ⟨v2, rfl, h1, h2⟩; have O2 : Hid (V.Owns w2 base v2 (l ++ byte k :: textB nm) ∧ V.Kp base w w2 ∧ C5N w2 w.heap.size (.int .i64 k) (.string s) (.int .i64 m) (.slice aa la ca) (.slice ao ou.length co)) := ⟨h1, O1.out.2.1.trans h2, O1.out.2.2.kp h2⟩; obtain ⟨q0, q1, q2, q3, q4, q5⟩ := O2.out.2.2.c; clear h1 h2 O1)
    | (at_builtin; refine V.wpList_append_kp rfl (.tmp 7) (.tmp 11) 32 rfl base Try.underlying32 V.Try.info5 _ l rfl ((HO.out.alloc _).alloc _) _ [byte k] rfl (reads_oneq _ _ _ _ _ HB.out.symm (size_alloc _ _).symm) HL1.out (V.base_le (V.base_le hb _) _) ?_; intro v1 w1 hown1 hg1; have O1 : Hid (V.Owns w1 base v1 (l ++ [byte k]) ∧ V.Kp base w w1 ∧ C5N w1 w.heap.size (.int .i64 k) (.string s) (.int .i64 m) (.slice aa la ca) (.slice ao ou.length co)) := ⟨hown1, hg1.new.new, (C5N.new w _ _ _ _ _ 57 (by decide)).kp hg1.new⟩; obtain ⟨q0, q1, q2, q3, q4, q5⟩ := O1.out.2.2.c; clear hown1 hg1))
  clear q0 q1 q2 q3 q4 q5
  go_loopw [0, 36] (fun v i wr => ∃ (j : Nat), j ≤ ou.length ∧ i = .int .i64 j ∧ Hid (V.Owns wr base v (PRE ++ (ou.take j).flatMap flowB) ∧ V.Kp base w wr)) (fun _ i _ => ou.length - (intOf i).toNat)
  case atStart => exact ⟨0, Nat.zero_le _, rfl, O5⟩
  case round =>
    obtain ⟨j, hj, rfl, HR⟩ := hrel
    by_cases hlt : j < ou.length
    · obtain ⟨fb, fo, ka, kc, rfl, hFA⟩ := HFl.out j hlt wr HR.out.2
      obtain ⟨f0, f1, f2, f3⟩ := hFA
      have HE : Hid (ExsV wr (fun g => g < base) (.slice ka ou[j].ifs.length kc) ou[j].ifs) := f2
      have hbl : fb < wr.heap.size := World.block_lt_of_cell? wr _ f0
      obtain ⟨ht1, ht2⟩ := HTo.out j hlt
      have HC1 : Hid (∀ o, Calls Try.prog 44 #[u0, .int .u64 ou[j].to] (wr.alloc o) fun e w' => ∃ v', e = .returned v' ∧ V.Owns w' base v' ((PRE ++ (ou.take j).flatMap flowB) ++ urow ou[j].to.toNat) ∧ V.Kp base (wr.alloc o) w') := fun o => H44c.out j hlt _ rfl _ _ (HR.out.2.alloc o) (HR.out.1.alloc o)
      have HC2 : Hid (∀ o w1 v1, V.Kp base (wr.alloc o) w1 → V.Owns w1 base v1 ((PRE ++ (ou.take j).flatMap flowB) ++ urow ou[j].to.toNat) → Calls Try.prog 78 #[v1, .slice ka ou[j].ifs.length kc] w1 fun e w' => ∃ v', e = .returned v' ∧ V.Owns w' base v' (PRE ++ (ou.take (j + 1)).flatMap flowB) ∧ V.Kp base w w') := fun o w1 v1 hkk ho => by
        have hk2 := (HR.out.2.alloc o).trans hkk
        refine (H78c.out j hlt ka kc w1 v1 hk2 (HE.out.kept (kept_base ((V.Kp.new hkk).below (Nat.le_trans hb HR.out.2.size)) fun g hg => hg)) ho).mono ?_
        rintro e w' ⟨v', rfl, h1, h2⟩
        exact ⟨v', rfl, h1, hk2.trans h2⟩
      clear f2 f3 HE H44c H78c HFl HTo
      generalize hFL : urow ou[j].to.toNat = FL at *
      have HFL : Hid (urow ou[j].to.toNat = FL) := hFL
      clear hFL
      generalize ou[j].ifs.length = yl at *
      generalize ou[j].to = yt at *
      go_wp2_with (first
        | (go_at_call 78; have := P1; refine (HC2.out _ _ _ P1.out.2.1 P1.out.1).mono ?_; rintro e w3 ⟨b3, rfl, h1, h2⟩; have HB3 : Hid (V.Owns w3 base b3 (PRE ++ (ou.take (j + 1)).flatMap flowB) ∧ V.Kp base w w3) := ⟨h1, h2⟩; clear h1 h2 P1)
        | (go_at_call 44; refine (HC1.out _).mono ?_; rintro e w2 ⟨b2, rfl, h1, h2⟩; have P1 : Hid (V.Owns w2 base b2 ((PRE ++ (ou.take j).flatMap flowB) ++ FL) ∧ V.Kp base (wr.alloc (.cells #[.int .i64 yt, .slice ka yl kc] 75)) w2 ∧ C2N w2 wr.heap.size (.int .i64 yt) (.slice ka yl kc)) := ⟨h1, h2, (C2N.new wr _ _ 75 (by decide)).kp h2⟩; obtain ⟨r0, r1, r2⟩ := P1.out.2.2.c; clear h1 h2))
      go_roundw
      case rel => exact ⟨j + 1, by omega, by go_num, HB3⟩
      case measure => simp [intOf]; omega
    · have he : j = ou.length := by omega
      subst he
      have HR2 : Hid (V.Owns wr base u0 (PRE ++ ou.flatMap flowB) ∧ V.Kp base w wr) := by have := HR.out; rw [List.take_length] at this; exact this
      clear HR
      go_wp2
      go_ret
      exact ⟨_, rfl, HR2.out⟩
end Go.Proofs.Ytjafjheffbbkmaa
