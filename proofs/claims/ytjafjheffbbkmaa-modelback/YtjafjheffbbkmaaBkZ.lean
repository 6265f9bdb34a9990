/-
  The law's walk: back.
-/
import Derived.Test.YtjafjheffbbkmaaWrZ
import Derived.Test.YtjafjheffbbkmaaRWt
import Derived.Test.YtjafjheffbbkmaaTkD
import Derived.Test.YtjafjheffbbkmaaRSZ
namespace Go.Proofs.Ytjafjheffbbkmaa
section
open Go.RowKit
set_option linter.unusedVariables false

/-- What stands behind the first call. -/
structure Bk1 (w w1 : World) (d : Df) (a : Option Addr) (c : Nat) (v2 : Value) (l : BB) : Prop where
  bel : Below w.heap.size w w1
  df : DfV w1 (fun _ => True) d a c
  more : V.ReadsV w1 v2 l
  cell : Cell2 w1 w.heap.size (.string (ba d.id)) (.slice a d.places.length c)
theorem Bk1.below {w w1 w2 : World} {d : Df} {a : Option Addr} {c : Nat} {v2 : Value} {l : BB} (h : Bk1 w w1 d a c v2 l) (hb : Below w1.heap.size w1 w2) : Bk1 w w2 d a c v2 l :=
  ⟨h.bel.trans (hb.mono h.bel.size), h.df.kept (kept_below hb), h.more.below hb, h.cell.below hb⟩
theorem Bk1.first {w w1 : World} {d : Df} {a : Option Addr} {c : Nat} {v2 : Value} {l : BB} (hd : DfV w (fun _ => True) d a c) (hl : V.ReadsV w v2 l) (hb : Below (w.alloc (.cells #[.string (ba d.id), .slice a d.places.length c] 24)).heap.size (w.alloc (.cells #[.string (ba d.id), .slice a d.places.length c] 24)) w1) : Bk1 w w1 d a c v2 l :=
  ⟨below_new hb, hd.kept (kept_below (below_new hb)), hl.below (below_new hb), (Cell2.new w _ _ 24).below hb⟩
/-- Behind Put. -/
structure Bk2 (w w2 : World) (d : Df) (a : Option Addr) (c : Nat) (v2 : Value) (l : BB) (base : Nat) (b' : Value) : Prop where
  one : Bk1 w w2 d a c v2 l
  own : V.Owns w2 base b' (defB d)
  lo : w.heap.size ≤ base
  hi : base ≤ w2.heap.size
theorem Bk2.below {w w1 w2 : World} {d : Df} {a : Option Addr} {c : Nat} {v2 : Value} {l : BB} {base : Nat} {b' : Value} (h : Bk2 w w1 d a c v2 l base b') (hb : Below w1.heap.size w1 w2) : Bk2 w w2 d a c v2 l base b' :=
  ⟨h.one.below hb, h.own.below hb, h.lo, Nat.le_trans h.hi hb.size⟩
theorem back_no (d : Df) (a : Option Addr) (c : Nat) (cut : Int) (v2 : Value) (l : BB) (w : World) (hd : DfV w (fun _ => True) d a c) (hl : V.ReadsV w v2 l) (hc : checkD d ≠ 0) :
    Calls Try.prog 7 #[.agg #[.string (ba d.id), .slice a d.places.length c], .int .i64 cut, v2] w fun e w' => e = .returned (.bool true) ∧ Below w.heap.size w w' := by
  have H9 : Hid (Calls Try.prog 9 #[.agg #[.string (ba d.id), .slice a d.places.length c]] (w.alloc (.cells #[.string (ba d.id), .slice a d.places.length c] 24)) fun e w' => (∃ b, e = .returned (.bool b)) ∧ Bk1 w w' d a c v2 l) := by
    refine (light_any (fun _ => True) d a c _ (hd.kept (kept_below ((Below.refl _ _).alloc (Nat.le_refl _) _)))).mono ?_
    rintro e w' ⟨q1, q2⟩
    exact ⟨q1, Bk1.first hd hl q2⟩
  have H21 : Hid (∀ w1, Bk1 w w1 d a c v2 l → Calls Try.prog 21 #[.agg #[.string (ba d.id), .slice a d.places.length c]] w1 fun e w' => e = .returned (.tuple #[.slice none 0 0, .int .i64 (checkD d : Nat)]) ∧ Bk1 w w' d a c v2 l) := fun w1 q => by
    refine (MPut_err _ d a c w1 q.df hc).mono ?_
    rintro e w' ⟨q1, q2⟩
    exact ⟨q1, q.below q2⟩
  have H10 : Hid (∀ w1, Below w.heap.size w w1 → Calls Try.prog 10 #[] w1 fun e w' => e = .returned (.bool true) ∧ Below w.heap.size w w') := fun w1 q => by
    refine (works_any w1).mono ?_
    rintro e w' ⟨q1, q2⟩
    exact ⟨q1, q.trans (q2.mono q.size)⟩
  have hc2 : (((checkD d : Nat) : Int) != 0) = true := by simp; omega
  have HC : Hid (∀ w1, Bk1 w w1 d a c v2 l → Cell2 w1 w.heap.size (.string (ba d.id)) (.slice a d.places.length c)) := fun _ q => q.cell
  obtain ⟨va, vc, rfl, hv1, hv2, hv3, hv4⟩ := hl
  clear hv4 hd hv1 hc
  have hlm := hv3
  rw [V.maxLen_eq] at hlm
  generalize checkD d = ck at *
  generalize ba d.id = s at *
  generalize d.places.length = pn at *
  generalize l.length = n at *
  go_enter Try.func7, Try.ntmps7
  go_wp2_with (first
    | (go_at_call 10; have := T2; refine (H10.out _ T2.out.bel).mono ?_; rintro e wz ⟨rfl, qz⟩; have TZ : Hid (Below w.heap.size w wz) := qz; clear qz)
    | (go_at_call 21; have := T1; refine (H21.out _ T1.out).mono ?_; rintro e w2 ⟨rfl, q1⟩; have T2 : Hid (Bk1 w w2 d a c (.slice va n vc) l) := q1; clear q1)
    | (go_at_call 10; have := T1; refine (H10.out _ T1.out.bel).mono ?_; rintro e wz ⟨rfl, qz⟩; have TZ : Hid (Below w.heap.size w wz) := qz; clear qz)
    | (go_at_call 9; refine H9.out.mono ?_; rintro e w1 ⟨⟨b, rfl⟩, q1⟩; have T1 : Hid (Bk1 w w1 d a c (.slice va n vc) l) := q1; obtain ⟨x0, x1, x2⟩ := HC.out _ q1; clear q1; cases b))
  all_goals go_ret
  all_goals exact ⟨rfl, TZ.out⟩
end
section
open Go.RowKit
set_option linter.unusedVariables false

theorem read_app {d : Df} (h : checkD d = 0) (hN : DNums d) (l : BB) (w : World) (v : Value) (q : V.ReadsV w v (defB d ++ l)) :
    Calls Try.prog 23 #[v] w fun e w' => (∃ s ra n rc, e = .returned (.tuple #[.agg #[.string s, .slice ra n rc], .int .i64 (if l.length = 0 then 0 else 3)])) ∧ Below w.heap.size w w' := by
  by_cases hl : l = []
  · subst hl
    rw [List.append_nil] at q
    refine (Read_ok v _ w q d (read_back h hN)).mono ?_
    rintro e w' ⟨ra, rc, rfl, _, q2⟩
    exact ⟨⟨_, _, _, _, rfl⟩, q2⟩
  · refine (Read_err v _ w q 3 (read_more h hN hl)).mono ?_
    rintro e w' ⟨rfl, q2⟩
    have : l.length ≠ 0 := fun h => hl (List.length_eq_zero_iff.1 h)
    rw [if_neg this]
    exact ⟨⟨_, _, _, _, rfl⟩, q2⟩
theorem defB_pos (d : Df) : 0 < (defB d).length := by
  unfold defB textB
  simp only [List.length_append]
  have := V.Pack.urow_pos d.id.length
  omega
theorem cut_in (cut : Int) (m : Nat) (hp : 0 < m) (hm : m ≤ 204800000100) : 0 ≤ wrap64 ((IntKind.u64.wrap cut).tmod (m : Int)) ∧ wrap64 ((IntKind.u64.wrap cut).tmod (m : Int)) < m := by
  have h0 : 0 ≤ IntKind.u64.wrap cut := by simp [IntKind.wrap, IntKind.signed, IntKind.bits]; omega
  generalize IntKind.u64.wrap cut = x at *
  have h1 : x.tmod (m : Int) = x % (m : Int) := Int.tmod_eq_emod_of_nonneg h0
  have h2 := Int.emod_nonneg x (show (m : Int) ≠ 0 by omega)
  have h3 := Int.emod_lt_of_pos x (show (0 : Int) < m by omega)
  rw [h1]
  generalize x % (m : Int) = y at *
  unfold wrap64
  omega
theorem back_yes (d : Df) (a : Option Addr) (c : Nat) (cut : Int) (v2 : Value) (l : BB) (w : World) (hd : DfV w (fun _ => True) d a c) (hl : V.ReadsV w v2 l) (hc : checkD d = 0) :
    Calls Try.prog 7 #[.agg #[.string (ba d.id), .slice a d.places.length c], .int .i64 cut, v2] w fun e w' => e = .returned (.bool true) ∧ Below w.heap.size w w' := by
  have hN := hd.nums
  have hp := defB_pos d
  have hlen := defB_len (def_facts hc) hN
  have H9 : Hid (Calls Try.prog 9 #[.agg #[.string (ba d.id), .slice a d.places.length c]] (w.alloc (.cells #[.string (ba d.id), .slice a d.places.length c] 24)) fun e w' => (∃ b, e = .returned (.bool b)) ∧ Bk1 w w' d a c v2 l) := by
    refine (light_any (fun _ => True) d a c _ (hd.kept (kept_below ((Below.refl _ _).alloc (Nat.le_refl _) _)))).mono ?_
    rintro e w' ⟨q1, q2⟩
    exact ⟨q1, Bk1.first hd hl q2⟩
  have H21 : Hid (∀ w1, Bk1 w w1 d a c v2 l → Calls Try.prog 21 #[.agg #[.string (ba d.id), .slice a d.places.length c]] w1 fun e w' => ∃ g cap, e = .returned (.tuple #[.slice (some ⟨g, 0, none⟩) (defB d).length cap, .int .i64 0]) ∧ (defB d).length ≤ cap ∧ cap ≤ 9223372036854775807 ∧ Bk2 w w' d a c v2 l w1.heap.size (.slice (some ⟨g, 0, none⟩) (defB d).length cap)) := fun w1 q => by
    refine (MPut_ok _ d a c w1 q.df hc).mono ?_
    rintro e w' ⟨b', rfl, q1, q2⟩
    obtain ⟨g, cap, rfl, q3, q4, _⟩ := own_some q1 rfl hp
    exact ⟨g, cap, rfl, q3, q4, q.below q2, q1, q.bel.size, q2.size⟩
  have H23 : Hid (∀ w2 base g cap, Bk2 w w2 d a c v2 l base (.slice (some ⟨g, 0, none⟩) (defB d).length cap) → Calls Try.prog 23 #[.slice (some ⟨g, 0, none⟩) (defB d).length cap] w2 fun e w' => ∃ ra rc, e = .returned (.tuple #[.agg #[.string (ba d.id), .slice ra d.places.length rc], .int .i64 0]) ∧ DfV w' (fun _ => True) d ra rc ∧ Bk2 w w' d a c v2 l base (.slice (some ⟨g, 0, none⟩) (defB d).length cap)) := fun w2 base g cap q => by
    refine (Read_ok _ _ w2 (V.ReadsV.of_own q.own) d (read_back hc hN)).mono ?_
    rintro e w' ⟨ra, rc, rfl, q1, q2⟩
    exact ⟨ra, rc, rfl, q1.kept (kept_sub fun _ _ => trivial), q.below q2⟩
  have H25 : Hid (∀ w3 base b' ra rc, Bk2 w w3 d a c v2 l base b' → DfV w3 (fun _ => True) d ra rc → Calls Try.prog 25 #[.agg #[.string (ba d.id), .slice ra d.places.length rc], .agg #[.string (ba d.id), .slice a d.places.length c]] w3 fun e w' => e = .returned (.bool true) ∧ Below w3.heap.size w3 w') := fun w3 base b' ra rc q q1 => by
    refine (RDSame_any _ _ d d ra rc a c w3 q1 q.one.df).mono ?_
    rintro e w' ⟨q3, q4⟩
    exact ⟨q3.of_yes rfl, q4⟩
  have H26 : Hid (∀ w3 base b' ra rc, Bk2 w w3 d a c v2 l base b' → DfV w3 (fun _ => True) d ra rc → Calls Try.prog 26 #[.agg #[.string (ba d.id), .slice ra d.places.length rc], .agg #[.string (ba d.id), .slice a d.places.length c]] w3 fun e w' => e = .returned (.bool true) ∧ Below w3.heap.size w3 w') := fun w3 base b' ra rc q q1 => by
    refine (MSame_any _ _ d d ra rc a c w3 q1 q.one.df).mono ?_
    rintro e w' ⟨q3, q4⟩
    exact ⟨q3.of_yes rfl, q4⟩
  have H23b : Hid (∀ w2 base g cap k, k < (defB d).length → Bk2 w w2 d a c v2 l base (.slice (some ⟨g, 0, none⟩) (defB d).length cap) → Calls Try.prog 23 #[.slice (some ⟨g, 0, none⟩) k cap] w2 fun e w' => ∃ ec : Nat, e = .returned (.tuple #[.agg #[.string ⟨#[]⟩, .slice none 0 0], .int .i64 ec]) ∧ ec ≠ 0 ∧ Bk2 w w' d a c v2 l base (.slice (some ⟨g, 0, none⟩) (defB d).length cap)) := fun w2 base g cap k hk q => by
    obtain ⟨ec, hec, hez⟩ := read_cut hc hN hk
    refine (Read_err _ _ w2 (reads_take (V.ReadsV.of_own q.own) (Nat.le_of_lt hk)) ec hec).mono ?_
    rintro e w' ⟨rfl, q2⟩
    exact ⟨ec, rfl, hez, q.below q2⟩
  have H23c : Hid (∀ w5 v, V.ReadsV w5 v (defB d ++ l) → Below w.heap.size w w5 → Calls Try.prog 23 #[v] w5 fun e w' => (∃ s ra n rc, e = .returned (.tuple #[.agg #[.string s, .slice ra n rc], .int .i64 (if l.length = 0 then 0 else 3)])) ∧ Below w.heap.size w w') := fun w5 v q q1 => by
    refine (read_app hc hN l w5 v q).mono ?_
    rintro e w' ⟨q2, q3⟩
    exact ⟨q2, q1.trans (q3.mono q1.size)⟩
  have H10 : Hid (∀ w1, Below w.heap.size w w1 → Calls Try.prog 10 #[] w1 fun e w' => e = .returned (.bool true) ∧ Below w.heap.size w w') := fun w1 q => by
    refine (works_any w1).mono ?_
    rintro e w' ⟨q1, q2⟩
    exact ⟨q1, q.trans (q2.mono q.size)⟩
  have HC : Hid (∀ w1, Bk1 w w1 d a c v2 l → Cell2 w1 w.heap.size (.string (ba d.id)) (.slice a d.places.length c)) := fun _ q => q.cell
  obtain ⟨va, vc, rfl, hv1, hv2, hv3, hv4⟩ := hl
  clear hv4 hd hv1 hc hN
  have hlm := hv3
  rw [V.maxLen_eq] at hlm
  generalize hs : ba d.id = s at *
  generalize hpn : d.places.length = pn at *
  generalize hnn : l.length = n at *
  generalize hdd : defB d = bs at *
  generalize hmm : bs.length = m at *
  obtain ⟨hk0, hk1⟩ := cut_in cut m hp hlen
  have HL : Hid (n ≤ 1000 → m + n ≤ 140737488355328) := fun h => by omega
  go_enter Try.func7, Try.ntmps7
  go_wp2_with (first
    | (go_at_call 10; have := T8; refine (H10.out _ T8.out).mono ?_; rintro e wz ⟨rfl, qz⟩; have TZ : Hid (Below w.heap.size w wz) := qz; clear qz)
    | (go_at_call 23; have := T7; refine (H23c.out _ _ T7.out.1 T7.out.2).mono ?_; rintro e w8 ⟨⟨s8, ra8, n8, rc8, rfl⟩, q1⟩; have T8 : Hid (Below w.heap.size w (w8.alloc (.cells #[.string s8, .slice ra8 n8 rc8] 24))) := q1.alloc q1.size _; clear q1 T7; rcases Nat.eq_zero_or_pos n with hn0 | hn0 <;> first | (rw [if_pos hn0]; have hn1 : ((n : Int) == 0) = true := (by simp; omega)) | (rw [if_neg (Nat.ne_of_gt hn0)]; have hn1 : ((n : Int) == 0) = false := (by simp; omega)))
    | (at_builtin; have := T6; refine V.wpList_append_bytes rfl (.tmp 77) (.tmp 78) 32 rfl w1.heap.size Try.underlying32 V.Try.info5 _ bs rfl (by have q := T6.out.own; rw [hdd] at q; exact q.alloc _) _ l rfl (T6.out.one.more.below ((Below.refl _ _).alloc (Nat.le_refl _) _)) (by rw [hmm, hnn]; exact HL.out (by omega)) (by rw [size_alloc]; have := T6.out.hi; omega) ?_; intro v7 w7 q1 q2; have T7 : Hid (V.ReadsV w7 v7 (bs ++ l) ∧ Below w.heap.size w w7) := ⟨V.ReadsV.of_own q1, T6.out.one.bel.trans (((Below.refl _ _).alloc (Nat.le_refl _) _ |>.mono T6.out.one.bel.size).trans (q2.mono T6.out.lo))⟩; clear q1 q2 T6)
    | (go_at_call 23; have := T5; refine (H23b.out _ _ _ _ _ (by omega) T5.out).mono ?_; rintro e w6 ⟨ec, rfl, hez, q1⟩; have hez1 : ((ec : Int) == 0) = false := (by simp; omega); have hez2 : ¬ ((ec : Int) = 0) := (by omega); have T6 : Hid (Bk2 w w6 d a c (.slice va n vc) l w1.heap.size (.slice (some ⟨g, 0, none⟩) m cap)) := q1; clear q1 T5)
    | (go_at_call 26; have := T4; refine (H26.out _ _ _ _ _ T4.out.1 T4.out.2.1).mono ?_; rintro e w5 ⟨rfl, q1⟩; have T5 : Hid (Bk2 w w5 d a c (.slice va n vc) l w1.heap.size (.slice (some ⟨g, 0, none⟩) m cap)) := T4.out.1.below q1; clear q1 T4)
    | (go_at_call 25; have := T3; refine (H25.out _ _ _ _ _ (T3.out.1.below ((Below.refl _ _).alloc (Nat.le_refl _) _)) (T3.out.2.kept (kept_below ((Below.refl _ _).alloc (Nat.le_refl _) _)))).mono ?_; rintro e w4 ⟨rfl, q1⟩; have T4 : Hid (Bk2 w w4 d a c (.slice va n vc) l w1.heap.size (.slice (some ⟨g, 0, none⟩) m cap) ∧ DfV w4 (fun _ => True) d ra rc ∧ Cell2 w4 w3.heap.size (.string s) (.slice ra pn rc)) := ⟨T3.out.1.below (below_new q1), T3.out.2.kept (kept_below (below_new q1)), (Cell2.new w3 (.string s) (.slice ra pn rc) 24).below q1⟩; obtain ⟨y0, y1, y2⟩ := T4.out.2.2; obtain ⟨z0, z1, z2⟩ := HC.out _ T4.out.1.one; clear q1 T3)
    | (go_at_call 23; have := T2; refine (H23.out _ _ _ _ T2.out).mono ?_; rintro e w3 ⟨ra, rc, rfl, q1, q2⟩; have T3 : Hid (Bk2 w w3 d a c (.slice va n vc) l w1.heap.size (.slice (some ⟨g, 0, none⟩) m cap) ∧ DfV w3 (fun _ => True) d ra rc) := ⟨q2, q1⟩; obtain ⟨z0, z1, z2⟩ := HC.out _ q2.one; have hlz := World.block_lt_of_cell? _ _ z0; clear q1 q2 T2)
    | (go_at_call 21; have := T1; refine (H21.out _ T1.out).mono ?_; rintro e w2 ⟨g, cap, rfl, hcap1, hcap2, q1⟩; have T2 : Hid (Bk2 w w2 d a c (.slice va n vc) l w1.heap.size (.slice (some ⟨g, 0, none⟩) m cap)) := q1; clear q1)
    | (go_at_call 10; have := T1; refine (H10.out _ T1.out.bel).mono ?_; rintro e wz ⟨rfl, qz⟩; have TZ : Hid (Below w.heap.size w wz) := qz; clear qz)
    | (go_at_call 9; refine H9.out.mono ?_; rintro e w1 ⟨⟨b, rfl⟩, q1⟩; have T1 : Hid (Bk1 w w1 d a c (.slice va n vc) l) := q1; obtain ⟨x0, x1, x2⟩ := HC.out _ q1; clear q1; cases b))
  all_goals (try go_ret)
  all_goals (first | exact ⟨rfl, TZ.out⟩ | (refine ⟨?_, TZ.out⟩; simp [hn1]) | (exfalso; simp_all))
theorem back_walk (d : Df) (a : Option Addr) (c : Nat) (cut : Int) (v2 : Value) (l : BB) (w : World) (hd : DfV w (fun _ => True) d a c) (hl : V.ReadsV w v2 l) :
    Calls Try.prog 7 #[dfA d a c, .int .i64 cut, v2] w fun e w' => e = .returned (.bool true) ∧ Below w.heap.size w w' := by
  by_cases hc : checkD d = 0
  · exact back_yes d a c cut v2 l w hd hl hc
  · exact back_no d a c cut v2 l w hd hl hc
end
end Go.Proofs.Ytjafjheffbbkmaa
