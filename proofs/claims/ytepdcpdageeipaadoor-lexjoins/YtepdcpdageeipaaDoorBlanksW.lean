/-
  The walk of LexBlanks.
-/
import Derived.Test.YtepdcpdageeipaaDoorLists
import Derived.BigQuiet
namespace Go.Proofs.YtepdcpdageeipaaDoor
open Go.RowKit Go.Maps
set_option linter.unusedVariables false

theorem ba_cat' (a b : Bs) : ba a ++ ba b = ba (a ++ b) := by
  rw [← ba_of (ba a ++ ba b)]
  congr 1
theorem cat_list (s t : ByteArray) : (s ++ t).data.toList = s.data.toList ++ t.data.toList := by
  rw [← ba_of s, ← ba_of t, ba_cat']; rfl
theorem cat_size (s t : ByteArray) : (s ++ t).size = s.size + t.size := by
  rw [← size_list, cat_list, List.length_append, size_list, size_list]

theorem sp_err (l : Bs) (p : Nat) : (sp l p).err ≤ 100 := by
  refine by_len (P := fun l p => (sp l p).err ≤ 100) ?_ ?_ ?_ ?_ l p
  · intro p; exact Nat.zero_le _
  · intro c r p h ih; rw [sp_blank r p h]; exact ih
  · intro c r p h he
    rw [sp_fault p h he]
    show (one (c :: r)).err ≤ 100
    rcases one_ways c r with ⟨e, _⟩ | e | e | e | e | ⟨e, _⟩ <;> rw [e] <;> simp
  · intro c r p h he ih
    rw [sp_word p h he]
    unfold join
    split
    · exact Nat.zero_le _
    · exact ih
theorem lex_err (s : ByteArray) : (lexOut s).err ≤ 100 := by
  unfold lexOut
  split
  · exact sp_err _ _
  · show 6 ≤ 100; decide
/-- Two outcomes that are alike, but for places. -/
structure Alike (o1 o2 : Out) : Prop where
  err : o2.err = o1.err
  len : o2.ws.length = o1.ws.length
  eq : ∀ i, i < o1.ws.length → (o2.ws.getD i noW).kind = (o1.ws.getD i noW).kind ∧ (o2.ws.getD i noW).text = (o1.ws.getD i noW).text ∧ (o2.ws.getD i noW).n = (o1.ws.getD i noW).n
theorem Alike.refl (o : Out) : Alike o o := ⟨rfl, rfl, fun i _ => ⟨rfl, rfl, rfl⟩⟩
theorem shift_getD (d : Nat) (l : List W) (i : Nat) (h : i < l.length) : (l.map (W.shift d)).getD i noW = (l.getD i noW).shift d := by
  simp [List.getD, h]
theorem alike_join (a : List W) (l : Bs) (p d : Nat) : Alike (join a (sp l p)) (join a (sp l (p + d))) := by
  obtain ⟨h1, h2⟩ := sp_shift d l p
  by_cases h : (sp l p).err = 0
  · have e1 : join a (sp l p) = ⟨a ++ (sp l p).ws, 0, 0⟩ := by unfold join; rw [if_pos h]
    have e2 : join a (sp l (p + d)) = ⟨a ++ (sp l p).ws.map (W.shift d), 0, 0⟩ := by unfold join; rw [if_pos (by rw [h2]; exact h), h1]
    rw [e1, e2]
    refine ⟨rfl, by simp, fun i hi => ?_⟩
    have hi' : i < a.length + (sp l p).ws.length := by simpa using hi
    by_cases hi2 : i < a.length
    · have g1 : (a ++ (sp l p).ws).getD i noW = a.getD i noW := by simp [List.getD, List.getElem?_append_left hi2]
      have g2 : (a ++ (sp l p).ws.map (W.shift d)).getD i noW = a.getD i noW := by simp [List.getD, List.getElem?_append_left hi2]
      show ((a ++ (sp l p).ws.map (W.shift d)).getD i noW).kind = ((a ++ (sp l p).ws).getD i noW).kind ∧ _
      rw [g1, g2]; exact ⟨rfl, rfl, rfl⟩
    · have g1 : (a ++ (sp l p).ws).getD i noW = (sp l p).ws.getD (i - a.length) noW := by simp [List.getD, List.getElem?_append_right (show a.length ≤ i by omega)]
      have g2 : (a ++ (sp l p).ws.map (W.shift d)).getD i noW = ((sp l p).ws.map (W.shift d)).getD (i - a.length) noW := by simp [List.getD, List.getElem?_append_right (show a.length ≤ i by omega)]
      show ((a ++ (sp l p).ws.map (W.shift d)).getD i noW).kind = ((a ++ (sp l p).ws).getD i noW).kind ∧ _
      rw [g1, g2, shift_getD d _ _ (by omega)]; exact ⟨rfl, rfl, rfl⟩
  · have e1 : join a (sp l p) = ⟨[], (sp l p).err, (sp l p).pos⟩ := by unfold join; rw [if_neg h]
    have e2 : join a (sp l (p + d)) = ⟨[], (sp l p).err, (sp l (p + d)).pos⟩ := by unfold join; rw [if_neg (by rw [h2]; exact h), h2]
    rw [e1, e2]
    exact ⟨rfl, rfl, fun i hi => by simp at hi⟩
theorem lex_blanks (s t : ByteArray) (hs : s.size ≤ 1500) (ht : t.size ≤ 1500) (q : Nat) (hq : q ≤ 60) : Alike (lexOut (s ++ ⟨#[32]⟩ ++ t)) (lexOut (s ++ ba (List.replicate (q + 1) blank) ++ t)) := by
  have z1 : (s ++ ⟨#[32]⟩ ++ t).size ≤ 4096 := by rw [cat_size, cat_size]; show s.size + 1 + t.size ≤ 4096; omega
  have z2 : (s ++ ba (List.replicate (q + 1) blank) ++ t).size ≤ 4096 := by rw [cat_size, cat_size, ba_size, List.length_replicate]; omega
  have l1 : (s ++ ⟨#[32]⟩ ++ t).data.toList = s.data.toList ++ blank :: t.data.toList := by
    rw [cat_list, cat_list, List.append_assoc]; rfl
  have l2 : (s ++ ba (List.replicate (q + 1) blank) ++ t).data.toList = s.data.toList ++ blank :: (List.replicate q blank ++ t.data.toList) := by
    rw [cat_list, cat_list, List.append_assoc, ba_list, List.replicate_succ]; rfl
  unfold lexOut
  rw [if_pos z1, if_pos z2, l1, l2, sp_app, sp_app, sp_blanks]
  split
  · exact alike_join _ _ _ _
  · exact Alike.refl _

/-- Two rows of words, as the law holds them. -/
structure Two (w : World) (a b : Option Addr) (n : Nat) (ws vs : List W) : Prop where
  la : ws.length = n
  lb : vs.length = n
  ra : RowV w a ws
  rb : RowV w b vs
  eq : ∀ i, i < n → (vs.getD i noW).kind = (ws.getD i noW).kind ∧ (vs.getD i noW).text = (ws.getD i noW).text ∧ (vs.getD i noW).n = (ws.getD i noW).n

def Told (x : ByteArray) (n E : Nat) (ws : List W) : Prop := ∀ w, Held w → Calls Tryd.prog 9 #[.string x] w fun e w' => ∃ (a : Option Addr) (cap P : Nat), e = .returned (.tuple #[.slice a n cap, .agg #[.int .i64 E, .int .i64 P]]) ∧ n ≤ cap ∧ RowV w' a ws ∧ Below w.heap.size w w'
theorem told_of (x : ByteArray) (hx : x.size ≤ maxLen) : Told x (lexOut x).ws.length (lexOut x).err (lexOut x).ws := by
  intro w hw
  refine (split_any x hx w hw).mono ?_
  rintro e w' ⟨v, rfl, hV, hB⟩
  obtain ⟨a, cap, rfl, h1, _, h2⟩ := hV.row
  exact ⟨a, cap, _, rfl, h1, h2, hB⟩

set_option maxRecDepth 100000 in
set_option maxHeartbeats 400000 in
theorem blanks_walk (s t y1 x1 y2 x2 m : ByteArray) (q n E : Nat) (ws vs : List W) (hs : s.size ≤ 1500) (ht : t.size ≤ 1500) (hq : q < 256) (hn : n ≤ 4096) (hE : E ≤ 100)
    (HM : Hid (m = ba (List.replicate (q % 60 + 1) blank))) (hm : m.size ≤ 61)
    (cat1 : s ++ ⟨#[32]⟩ = y1) (cat2 : y1 ++ t = x1) (cat3 : s ++ m = y2) (cat4 : y2 ++ t = x2) (z1 : y1.size ≤ 1600) (z2 : y2.size ≤ 1600)
    (H1 : Hid (Told x1 n E ws)) (H2 : Hid (Told x2 n E vs)) (HE : Hid (ws.length = n ∧ vs.length = n ∧ ∀ i, i < n → (vs.getD i noW).kind = (ws.getD i noW).kind ∧ (vs.getD i noW).text = (ws.getD i noW).text ∧ (vs.getD i noW).n = (ws.getD i noW).n)) (w : World) (HW : Hid (Held w)) :
    Calls Tryd.prog 5 #[.string s, .string t, .int .u8 q] w fun e w' => e = .returned (.bool true) ∧ Below w.heap.size w w' := by
  go_enter Tryd.func5, Tryd.ntmps5
  go_wp2
  go_loop [7, 8] (fun v i => ∃ k : Nat, k ≤ q % 60 ∧ i = .int .i64 k ∧ v = .string (ba (List.replicate (k + 1) blank))) (fun _ i => q % 60 - (intOf i).toNat)
  case atStart => exact ⟨0, Nat.zero_le _, rfl, rfl⟩
  case round =>
    obtain ⟨k, hk, rfl, rfl⟩ := hrel
    by_cases hlt : k < q % 60
    · have hcat : ba (List.replicate (k + 1) blank) ++ (⟨#[32]⟩ : ByteArray) = ba (List.replicate (k + 1 + 1) blank) := by
        have := ba_cat' (List.replicate (k + 1) blank) [blank]
        rw [← List.replicate_succ'] at this; exact this
      have hz1 : (⟨#[32]⟩ : ByteArray).size = 1 := rfl
      have hz2 : (ba (List.replicate (k + 1) blank)).size ≤ 100 := by rw [ba_size, List.length_replicate]; omega
      generalize ba (List.replicate (k + 1) blank) = x at *
      clear cat1 cat2 cat3 cat4
      go_wp2
      go_round
      case rel => exact ⟨k + 1, by omega, by go_num, rfl⟩
      case measure => simp [intOf]; omega
    · have hk2 : k = q % 60 := by omega
      have hmm : ba (List.replicate (k + 1) blank) = m := by rw [HM.out, hk2]
      rw [hmm]
      clear hmm HM
      have hz1 : (⟨#[32]⟩ : ByteArray).size = 1 := rfl
      go_wp2_with (first
        | (have := D1; go_at_call 9; refine (H2.out _ K1.out).mono ?_; rintro e w2 ⟨b, capb, Q, rfl, hcb, hrb, HB⟩; have rbx : Hid (RowV w2 b vs) := hrb; have rax : Hid (RowV w2 a ws) := (RA.out.below HB); have c0 := new_kept (i := 0) rfl HB; have lt1 := lt_new HB; have HB2 : Hid (Below w.heap.size w w2) := below_new HB1.out HB; clear HB D1 hrb RA)
        | (go_at_call 9; refine (H1.out _ HW.out).mono ?_; rintro e w1 ⟨a, capa, P, rfl, hca, hra, HB⟩; have HB1 : Hid (Below w.heap.size w w1) := HB; have RA : Hid (RowV (w1.alloc (.cells #[.int .i64 E, .int .i64 P] 26)) a ws) := hra.below ((Below.refl _ _).alloc (Nat.le_refl _) _); have K1 : Hid (Held (w1.alloc (.cells #[.int .i64 E, .int .i64 P] 26))) := ((HW.out.below (Nat.le_refl _) HB).new _); have D1 : Hid True := trivial; clear HB hra))
      obtain ⟨w4, hw4⟩ : ∃ w4, w4 = w2.alloc (.cells #[.int .i64 E, .int .i64 Q] 26) := ⟨_, rfl⟩
      rw [← hw4]
      have HT : Hid (RowV w4 a ws ∧ RowV w4 b vs ∧ Below w.heap.size w w4) := by
        rw [hw4]
        exact ⟨rax.out.below ((Below.refl _ _).alloc (Nat.le_refl _) _), rbx.out.below ((Below.refl _ _).alloc (Nat.le_refl _) _), HB2.out.alloc HB2.out.size _⟩
      have HH : Hid (Held w4) := HW.out.below (Nat.le_refl _) HT.out.2.2
      clear hw4 rax rbx HB2 c0 lt1 cat1 cat2 cat3 cat4 H1 H2 K1 HB1
      go_loopw [13] (fun i wr => ∃ k : Nat, k ≤ n ∧ i = .int .i64 k ∧ Hid (Below w4.heap.size w4 wr)) (fun i _ => n - (intOf i).toNat)
      case atStart => exact ⟨0, Nat.zero_le _, rfl, Below.refl _ _⟩
      case round =>
        obtain ⟨j, hj, rfl, HB⟩ := hrel
        by_cases hlt2 : j < n
        · obtain ⟨b1, rfl, wa⟩ := HT.out.1.below HB.out j (by rw [HE.out.1]; exact hlt2)
          obtain ⟨b2, rfl, wb⟩ := HT.out.2.1.below HB.out j (by rw [HE.out.2.1]; exact hlt2)
          obtain ⟨g1, g2, g3⟩ := HE.out.2.2 j hlt2
          obtain ⟨c0, c1, c2, c3⟩ := wa
          obtain ⟨d0, d1, d2, d3⟩ := wb
          rw [g1] at d0
          rw [g2] at d1
          rw [g3] at d2
          clear g1 g2 g3 c3 d3
          generalize (ws.getD j noW).kind = K at *
          generalize ba (ws.getD j noW).text = T at *
          generalize (ws.getD j noW).n = N at *
          have i1 : (j : Int) < (n : Int) := by omega
          go_wp2
          go_quiet (fail)
          go_wp2
          go_roundw
          case rel => exact ⟨j + 1, by omega, by go_num, below_drewN HB.out _⟩
          case measure => simp [intOf]; omega
        · have hjn : j = n := by omega
          subst hjn
          have HR : Hid (Held wr) := HH.out.below (Nat.le_refl _) HB.out
          go_wp2_with (go_at_call 8; refine (works_any _ HR.out).mono ?_; rintro e w5 ⟨rfl, HBx⟩; have HB5 : Hid (Below wr.heap.size wr w5) := HBx; clear HBx)
          go_ret
          exact ⟨rfl, (HT.out.2.2.trans (HB.out.mono HT.out.2.2.size)).trans (HB5.out.mono (Nat.le_trans HT.out.2.2.size HB.out.size))⟩

theorem blanks_size (s t m : ByteArray) (hs : s.size ≤ 1500) (ht : t.size ≤ 1500) (hm : m.size ≤ 61) : (s ++ m).size ≤ 1600 ∧ (s ++ m ++ t).size ≤ maxLen := by
  unfold maxLen
  have e1 := cat_size s m
  have e2 := cat_size (s ++ m) t
  omega
set_option maxRecDepth 100000 in
theorem blanks_all (s t : ByteArray) (q : Nat) (hq : q < 256) (w : World) (w0 : s.size ≤ maxLen) (w1 : t.size ≤ maxLen) (hw : Held w) :
    Calls Tryd.prog 5 #[.string s, .string t, .int .u8 q] w fun e w' => e = .returned (.bool true) ∧ Below w.heap.size w w' := by
  have HW : Hid (Held w) := hw
  have HM : Hid (s.size ≤ maxLen ∧ t.size ≤ maxLen) := ⟨w0, w1⟩
  unfold maxLen at w0 w1
  by_cases hs : s.size ≤ 1500
  · by_cases ht : t.size ≤ 1500
    · have hm : (ba (List.replicate (q % 60 + 1) blank)).size ≤ 61 := by rw [ba_size, List.length_replicate]; omega
      have z1 := blanks_size s t ⟨#[32]⟩ hs ht (by decide)
      have z2 := blanks_size s t (ba (List.replicate (q % 60 + 1) blank)) hs ht hm
      have HA := lex_blanks s t hs ht (q % 60) (by omega)
      have T1 := told_of _ z1.2
      have T2 := told_of _ z2.2
      rw [HA.len, HA.err] at T2
      exact blanks_walk s t _ _ _ _ _ q _ _ _ _ hs ht hq (lex_few _) (lex_err _) rfl hm rfl rfl rfl rfl z1.1 z2.1 T1 T2 ⟨rfl, HA.len, HA.eq⟩ w hw
    · clear hw HM
      go_enter Tryd.func5, Tryd.ntmps5
      go_wp2_with (go_at_call 8; refine (works_any _ HW.out).mono ?_; rintro e w' ⟨rfl, HB⟩)
      go_ret
      exact ⟨rfl, HB⟩
  · clear hw HM
    go_enter Tryd.func5, Tryd.ntmps5
    go_wp2_with (go_at_call 8; refine (works_any _ HW.out).mono ?_; rintro e w' ⟨rfl, HB⟩)
    go_ret
    exact ⟨rfl, HB⟩

end Go.Proofs.YtepdcpdageeipaaDoor
