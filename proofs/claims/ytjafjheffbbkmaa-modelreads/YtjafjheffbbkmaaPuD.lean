/-
  The program's Put: the contract.
-/
import Derived.Test.YtjafjheffbbkmaaPuC
namespace Go.Proofs.Ytjafjheffbbkmaa
open Go.RowKit
open V.Pack (byte urow zz unzz rd rd0_ok rd0_urow urow_len unzz_zz zz_unzz zz_lt byte_nat val_urow)
set_option linter.unusedVariables false

theorem putPlace_any (base N : Nat) (p : Pl) (aa : Option Addr) (ca : Nat) (ao : Option Addr) (co : Nat) (b : Value) (l : BB) (w : World) (hN : N ≤ 4096) (hf : PFacts p N)
    (hp : PlV w (fun g => g < base) p aa ca ao co) (hO : V.Owns w base b l) (hb : base ≤ w.heap.size) (hl : l.length + (placeB p).length ≤ 1000000000000) :
    Calls Try.prog 45 #[b, .agg #[.int .i64 p.kind, .string (ba p.name), .int .i64 p.n, .slice aa p.arg.length ca, .slice ao p.out.length co]] w fun e w' => ∃ b', e = .returned b' ∧ V.Owns w' base b' (l ++ placeB p) ∧ V.Kp base w w' := by
  have hflow := hf.flow
  obtain ⟨lo, hi, nm, n0, n9, a1, ar, o16, ou⟩ := hf
  obtain ⟨k, s, m, ar', ou'⟩ := p
  simp only at *
  obtain ⟨k, rfl⟩ : ∃ j : Nat, k = (j : Int) := ⟨k.toNat, by omega⟩
  obtain ⟨m, rfl⟩ : ∃ j : Nat, m = (j : Int) := ⟨m.toNat, by omega⟩
  have e : placeB ⟨(k : Int), s, (m : Int), ar', ou'⟩ = preB k m s ar' ou'.length ++ ou'.flatMap flowB := by
    unfold placeB preB
    simp only [Int.toNat_natCast]
    simp
  rw [e] at hl ⊢
  rw [List.length_append] at hl
  have h := putPlace_walk base k m N s ar' ou' aa ca ao co b l w (by omega) (by omega) nm a1 ar o16 hN (fun f hf => by obtain ⟨last, q⟩ := hflow f hf; exact flow_facts q) hp hO hb (by omega)
  refine h.mono ?_
  rintro e w' ⟨b', rfl, h1, h2⟩
  exact ⟨b', rfl, by rw [← List.append_assoc]; exact h1, h2⟩
theorem kept_lt {w : World} {P : Nat → Prop} : ∀ g, P g → g < w.heap.size → w.heap[g]? = w.heap[g]? ∧ g < w.heap.size := fun g hg hlt => ⟨rfl, hlt⟩
set_option maxRecDepth 100000 in
theorem MPut_err (P : Nat → Prop) (d : Df) (a : Option Addr) (c : Nat) (w : World) (hd : DfV w P d a c) (hc : checkD d ≠ 0) :
    Calls Try.prog 21 #[dfA d a c] w fun e w' => e = .returned (.tuple #[.slice none 0 0, .int .i64 (checkD d : Nat)]) ∧ Below w.heap.size w w' := by
  have HC : Hid (∀ o, Calls Try.prog 11 #[.agg #[.string (ba d.id), .slice a d.places.length c]] (w.alloc o) fun e w' => e = .returned (.int .i64 (checkD d : Nat)) ∧ Below (w.alloc o).heap.size (w.alloc o) w') := fun o => MCheck_any P d a c _ (hd.kept (kept_below ((Below.refl _ _).alloc (Nat.le_refl _) o)))
  show Calls Try.prog 21 #[.agg #[.string (ba d.id), .slice a d.places.length c]] w _
  clear hd
  generalize checkD d = ck at *
  generalize ba d.id = s at *
  generalize d.places.length = N at *
  have hc1 : ¬ (ck : Int) = 0 := by omega
  go_enter Try.func21, Try.ntmps21
  go_wp2_with (go_at_call 11; refine (HC.out _).mono ?_; rintro e w1 ⟨rfl, HB⟩; have HB1 : Hid (Below w.heap.size w w1) := below_new HB; clear HB)
  go_ret2
  exact ⟨rfl, HB1.out⟩
set_option maxRecDepth 100000 in
set_option maxHeartbeats 1600000 in
theorem MPut_ok (P : Nat → Prop) (d : Df) (a : Option Addr) (c : Nat) (w : World) (hd0 : DfV w P d a c) (hc : checkD d = 0) :
    Calls Try.prog 21 #[dfA d a c] w fun e w' => ∃ b', e = .returned (.tuple #[b', .int .i64 0]) ∧ V.Owns w' w.heap.size b' (defB d) ∧ Below w.heap.size w w' := by
  have hd : DfV w (fun g => g < w.heap.size) d a c := hd0.kept kept_lt
  have hN := hd.nums
  obtain ⟨f1, f2, f3, f4⟩ := def_facts hc
  have hlen := defB_len (def_facts hc) hN
  obtain ⟨hca, hla⟩ := hd.places.cap
  have HC : Hid (∀ o, Calls Try.prog 11 #[.agg #[.string (ba d.id), .slice a d.places.length c]] (w.alloc o) fun e w' => e = .returned (.int .i64 0) ∧ Below (w.alloc o).heap.size (w.alloc o) w') := fun o => by
    have := MCheck_any _ d a c _ (hd.kept (kept_below ((Below.refl _ _).alloc (Nat.le_refl _) o)))
    rw [hc] at this; exact this
  obtain ⟨C, F, hcv, hF⟩ := conv_name d.id (by omega)
  have H43 : Hid (∀ w1, V.Kp w.heap.size w w1 → Calls Try.prog 43 #[.slice none 0 0, .slice (some ⟨w1.heap.size, 0, none⟩) d.id.length (C w1)] (F w1) fun e w' => ∃ v', e = .returned v' ∧ V.Owns w' w.heap.size v' (textB d.id) ∧ V.Kp w.heap.size w1 w') := fun w1 hkk => by
    have hf := hF w1
    refine (V.bytes_k w.heap.size _ _ [] (nb d.id) (F w1) (V.Owns.nil _ _) hf.1 (Nat.le_trans hkk.size hf.2.size) (by simp) (by rw [nb_len]; omega)).mono ?_
    rintro e w' ⟨v', rfl, h1, h2⟩
    exact ⟨v', rfl, by rw [nb_len] at h1; simpa [textB] using h1, (V.Kp.of_below hf.2).trans h2⟩
  have H44 : Hid (∀ w1 v1, V.Kp w.heap.size w w1 → V.Owns w1 w.heap.size v1 (textB d.id) → Calls Try.prog 44 #[v1, .int .u64 d.places.length] w1 fun e w' => ∃ v', e = .returned v' ∧ V.Owns w' w.heap.size v' ((textB d.id ++ urow d.places.length) ++ (d.places.take 0).flatMap placeB) ∧ V.Kp w.heap.size w1 w') := fun w1 v1 hkk ho => by
    refine (V.uint_k w.heap.size v1 _ d.places.length w1 ho hkk.size (by have := textB_len f1; omega) (by omega)).mono ?_
    rintro e w' ⟨v', rfl, h1, h2⟩
    exact ⟨v', rfl, by simpa using h1, h2⟩
  have hlp : (textB d.id ++ urow d.places.length).length + (d.places.flatMap placeB).length ≤ 1000000000000 := by
    unfold defB at hlen; simp only [List.length_append] at hlen ⊢; omega
  have HPl : Hid (∀ j (h : j < d.places.length) wr, V.Kp w.heap.size w wr → ∃ pb po aa ca ao co, a = some ⟨pb, po, none⟩ ∧ PlAt wr (fun g => g < w.heap.size) pb (po + j * 5) d.places[j] aa ca ao co) := fun j h wr hkk => by
    obtain ⟨pb, po, aa, ca, ao, co, e1, e2, e3⟩ := (hd.places.kept (kept_base (hkk.below (Nat.le_refl _)) fun g hg => hg)).at j h
    rw [getD_memP h] at e3
    exact ⟨pb, po, aa, ca, ao, co, e1, e3⟩
  have H45 : Hid (∀ j (h : j < d.places.length) aa ca ao co w1 v1, V.Kp w.heap.size w w1 → PlV w1 (fun g => g < w.heap.size) d.places[j] aa ca ao co → V.Owns w1 w.heap.size v1 ((textB d.id ++ urow d.places.length) ++ (d.places.take j).flatMap placeB) → Calls Try.prog 45 #[v1, .agg #[.int .i64 d.places[j].kind, .string (ba d.places[j].name), .int .i64 d.places[j].n, .slice aa d.places[j].arg.length ca, .slice ao d.places[j].out.length co]] w1 fun e w' => ∃ v', e = .returned v' ∧ V.Owns w' w.heap.size v' ((textB d.id ++ urow d.places.length) ++ (d.places.take (j + 1)).flatMap placeB) ∧ V.Kp w.heap.size w w') := fun j h aa ca ao co w1 v1 hkk hE ho => by
    have hp2 := flat_both placeB d.places j h
    refine (putPlace_any w.heap.size d.places.length d.places[j] aa ca ao co v1 _ w1 f2 (f4 _ (List.getElem_mem h)) hE ho hkk.size (by rw [List.length_append]; omega)).mono ?_
    rintro e w' ⟨v', rfl, h1, h2⟩
    refine ⟨v', rfl, ?_, hkk.trans h2⟩
    rw [flat_step h, ← List.append_assoc]
    exact h1
  have HEq : Hid (defB d = (textB d.id ++ urow d.places.length) ++ d.places.flatMap placeB) := by show _ = _; unfold defB; rw [List.append_assoc]
  rw [HEq.out]
  show Calls Try.prog 21 #[.agg #[.string (ba d.id), .slice a d.places.length c]] w _
  clear hd hd0 hc hN f1 f3 f4 hlen hF hlp HEq
  generalize hPRE : textB d.id ++ urow d.places.length = PRE at *
  have HPRE : Hid (textB d.id ++ urow d.places.length = PRE) := hPRE
  clear hPRE
  generalize textB d.id = TB at *
  generalize ba d.id = s at *
  generalize d.id.length = nl at *
  generalize d.places = pl at *
  go_enter Try.func21, Try.ntmps21
  go_wp2_with (first
    | (go_at_call 44; have := O2; refine (H44.out _ _ O2.out.2.1 O2.out.1).mono ?_; rintro e w3 ⟨v3, rfl, h1, h2⟩; have O3 : Hid (V.Owns w3 w.heap.size v3 (PRE ++ (pl.take 0).flatMap placeB) ∧ V.Kp w.heap.size w w3) := ⟨h1, O2.out.2.1.trans h2⟩; obtain ⟨q0, q1, q2⟩ := (O2.out.2.2.kp h2).c; clear h1 h2 O2)
    | (go_at_call 43; have := O1; refine (H43.out _ O1.out.1).mono ?_; rintro e w2 ⟨v2, rfl, h1, h2⟩; have O2 : Hid (V.Owns w2 w.heap.size v2 TB ∧ V.Kp w.heap.size w w2 ∧ C2N w2 w.heap.size (.string s) (.slice a pl.length c)) := ⟨h1, O1.out.1.trans h2, O1.out.2.kp h2⟩; obtain ⟨q0, q1, q2⟩ := O2.out.2.2.c; clear h1 h2 O1)
    | (go_at_call 11; refine (HC.out _).mono ?_; rintro e w1 ⟨rfl, HB⟩; have O1 : Hid (V.Kp w.heap.size w w1 ∧ C2N w1 w.heap.size (.string s) (.slice a pl.length c)) := ⟨((V.Kp.refl _ _).alloc _).trans (V.Kp.of_below HB), (C2N.new w _ _ 24 (by decide)).kp (V.Kp.of_below (B := 0) HB)⟩; obtain ⟨q0, q1, q2⟩ := O1.out.2.c; clear HB))
  clear q0 q1 q2
  go_loopw [5, 26] (fun v i wr => ∃ (j : Nat), j ≤ pl.length ∧ i = .int .i64 j ∧ Hid (V.Owns wr w.heap.size v (PRE ++ (pl.take j).flatMap placeB) ∧ V.Kp w.heap.size w wr)) (fun _ i _ => pl.length - (intOf i).toNat)
  case atStart => exact ⟨0, Nat.zero_le _, rfl, O3⟩
  case round =>
    obtain ⟨j, hj, rfl, HR⟩ := hrel
    by_cases hlt : j < pl.length
    · obtain ⟨pb, po, aa, ca, ao, co, rfl, hPA⟩ := HPl.out j hlt wr HR.out.2
      have HV : Hid (PlV wr (fun g => g < w.heap.size) pl[j] aa ca ao co) := hPA.val
      obtain ⟨p0, p1, p2, p3, p4, _⟩ := hPA
      have hbl : pb < wr.heap.size := World.block_lt_of_cell? wr _ p0
      have HC1 : Hid (∀ o, Calls Try.prog 45 #[u5, .agg #[.int .i64 pl[j].kind, .string (ba pl[j].name), .int .i64 pl[j].n, .slice aa pl[j].arg.length ca, .slice ao pl[j].out.length co]] (wr.alloc o) fun e w' => ∃ v', e = .returned v' ∧ V.Owns w' w.heap.size v' (PRE ++ (pl.take (j + 1)).flatMap placeB) ∧ V.Kp w.heap.size w w') := fun o => H45.out j hlt aa ca ao co _ _ (HR.out.2.alloc o) (HV.out.kept (kept_below ((Below.refl _ _).alloc (Nat.le_refl _) o))) (HR.out.1.alloc o)
      clear HV H45 HPl
      generalize pl[j].kind = yk at *
      generalize ba pl[j].name = ys at *
      generalize pl[j].n = yn at *
      generalize pl[j].arg.length = ya at *
      generalize pl[j].out.length = yo at *
      go_wp2_with (go_at_call 45; refine (HC1.out _).mono ?_; rintro e w3 ⟨b3, rfl, h1, h2⟩; have HB3 : Hid (V.Owns w3 w.heap.size b3 (PRE ++ (pl.take (j + 1)).flatMap placeB) ∧ V.Kp w.heap.size w w3) := ⟨h1, h2⟩; clear h1 h2)
      go_roundw
      case rel => exact ⟨j + 1, by omega, by go_num, HB3⟩
      case measure => simp [intOf]; omega
    · have he : j = pl.length := by omega
      subst he
      have HR2 : Hid (V.Owns wr w.heap.size u5 (PRE ++ pl.flatMap placeB) ∧ V.Kp w.heap.size w wr) := by have := HR.out; rw [List.take_length] at this; exact this
      clear HR
      go_wp2
      go_ret2
      exact ⟨_, rfl, HR2.out.1, HR2.out.2.below (Nat.le_refl _)⟩
end Go.Proofs.Ytjafjheffbbkmaa
