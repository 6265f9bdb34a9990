/-
  The program's Reset: its contract.
-/
import Derived.Test.YtmpmbgjdbahmbaaBhd
namespace Go.Proofs.Ytmpmbgjdbahmbaa
open Go.RowKit
set_option linter.unusedVariables false

set_option maxRecDepth 100000 in
set_option maxHeartbeats 800000 in
theorem Reset_any (b bt : Int) (a : Option Addr) (c : Nat) (es : List En) (p t : Int) (w : World) (hb : 0 ≤ b) (hb2 : b ≤ 1099511627776) (hp : InR p) (ht0 : InR t) (hE : EnsV w (fun _ => True) a c es) (hs : Small es) : Calls Try.prog 33 #[.agg #[.int .i64 b, .int .i64 bt, .slice a es.length c], .int .i64 p, .int .i64 t] w fun e w' => ∃ ra rc, e = .returned (.agg #[.int .i64 p, .int .i64 t, .slice ra (resetM b bt es p t).2.2.length rc]) ∧ EnsV w' (fun _ => True) ra rc (resetM b bt es p t).2.2 ∧ Below w.heap.size w w' := by
  have h3 := hs.1
  have HT : Hid (∀ wx, Below w.heap.size w wx → Calls Try.prog 17 #[.agg #[.int .i64 b, .int .i64 bt, .slice a es.length c], .int .i64 p] wx fun e w' => e = .returned (.tuple #[.int .i64 (termM b bt es p).1, .bool (termM b bt es p).2]) ∧ Below wx.heap.size wx w') := fun wx h => Term_any _ b bt a c es p wx hb (by omega) (by omega) hp (hE.below h)
  by_cases hc : (termM b bt es p).2 = true ∧ (termM b bt es p).1 = t
  · have e1 : resetM b bt es p t = (p, t, es.drop (p - b).toNat) := by unfold resetM; rw [if_pos hc]
    rw [e1]
    obtain ⟨ht, hx⟩ := hc
    have HF2 : Hid (∀ wx, Below w.heap.size w wx → Calls Try.prog 30 #[.agg #[.int .i64 b, .int .i64 bt, .slice a es.length c], .int .i64 p] wx fun e w' => ∃ ra rc, e = .returned (.tuple #[.agg #[.int .i64 p, .int .i64 t, .slice ra (es.drop (p - b).toNat).length rc], .int .i64 0]) ∧ EnsV w' (fun g => wx.heap.size ≤ g) ra rc (es.drop (p - b).toNat) ∧ Below wx.heap.size wx w') := fun wx h => by
      have := Compact_any _ b bt a c es p wx hb (by omega) hp (hE.below h) hs
      rw [show compM b bt es p = ((p, (termM b bt es p).1, es.drop (p - b).toNat), 0) by unfold compM; rw [if_pos ht], hx] at this
      exact this
    rw [ht, hx] at HT
    clear e1 ht hx hE hs
    generalize es.drop (p - b).toNat = fs at *
    have HG : Hid (∀ (ra : Option Addr) (rc : Nat) w', EnsV w' (fun _ => True) ra rc fs → Below w.heap.size w w' → ∃ ra' rc', Ending.returned (.agg #[.int .i64 p, .int .i64 t, .slice ra fs.length rc]) = .returned (.agg #[.int .i64 p, .int .i64 t, .slice ra' fs.length rc']) ∧ EnsV w' (fun _ => True) ra' rc' fs ∧ Below w.heap.size w w') := fun ra rc w' q1 q2 => ⟨ra, rc, rfl, q1, q2⟩
    generalize fs.length = fl at *
    generalize es.length = n at *
    go_enter Try.func33, Try.ntmps33
    go_wp2_with (first
      | (go_at_call 30; have := H1; refine (HF2.out _ (Bx2.at_ (w := w) (b := b) (bt := bt) (v := .slice a n c) (b' := 0) (bt' := 0) (v' := .slice none 0 0) H1.out).2).mono ?_; rintro e w2 ⟨ra, rc, rfl, HE, HB⟩; have H2 : Hid (Below (w.heap.size + 1 + 1) ((w.alloc (.cells #[.int .i64 b, .int .i64 bt, .slice a n c] 24)).alloc (.cells #[.int .i64 0, .int .i64 0, .slice none 0 0] 24)) w2 ∧ EnsV w2 (fun g => w1.heap.size ≤ g) ra rc fs ∧ w.heap.size + 1 < w1.heap.size) := ⟨two_up H1.out HB, HE, kal⟩; obtain ⟨⟨⟨kb0, kb1, kb2, kb3⟩, ⟨kb4, kb5, kb6, kb7⟩⟩, _⟩ := Bx2.at_ (w := w) (b := b) (bt := bt) (v := .slice a n c) (b' := 0) (bt' := 0) (v' := .slice none 0 0) H2.out.1; have kbl : w.heap.size + 1 < _ := World.block_lt_of_cell? _ _ kb4; clear HB HE)
      | (go_at_call 17; refine (HT.out _ (Bx2.at_ (w := w) (b := b) (bt := bt) (v := .slice a n c) (b' := 0) (bt' := 0) (v' := .slice none 0 0) (Below.refl _ _)).2).mono ?_; rintro e w1 ⟨rfl, HB⟩; have H1 : Hid (Below (w.heap.size + 1 + 1) ((w.alloc (.cells #[.int .i64 b, .int .i64 bt, .slice a n c] 24)).alloc (.cells #[.int .i64 0, .int .i64 0, .slice none 0 0] 24)) w1) := two_up (Below.refl _ _) HB; obtain ⟨⟨⟨ka0, ka1, ka2, ka3⟩, ⟨ka4, ka5, ka6, ka7⟩⟩, _⟩ := Bx2.at_ (w := w) (b := b) (bt := bt) (v := .slice a n c) (b' := 0) (bt' := 0) (v' := .slice none 0 0) H1.out; have kal : w.heap.size + 1 < _ := World.block_lt_of_cell? _ _ ka4; clear HB))
    obtain ⟨e0, e1, e2, _⟩ := (boxed (w0 := w) (v0 := .int .i64 p) (v1 := .int .i64 t) (v2 := .slice ra fl rc) (Bx2.at_ (w := w) (b := b) (bt := bt) (v := .slice a n c) (b' := 0) (bt' := 0) (v' := .slice none 0 0) H2.out.1).1.g).below ((Below.refl _ _).alloc (Nat.le_refl _) (.cells #[.int .i64 p, .int .i64 t, .slice ra fl rc] 24))
    have HBl := boxed_below (u0 := .int .i64 p) (u1 := .int .i64 t) (u2 := .slice ra fl rc) (Bx2.at_ (w := w) (b := b) (bt := bt) (v := .slice a n c) (b' := 0) (bt' := 0) (v' := .slice none 0 0) H2.out.1).2 (Nat.le_succ _)
    exact bodyPost_ret (v := .agg #[.int .i64 p, .int .i64 t, .slice ra fl rc]) (by simp [results, Try.results33, go_sem, e0, e1, e2]) rfl (HG.out _ _ _ ((boxed_ens H2.out.2.1 (fun g hg => ⟨by have := H2.out.2.2; omega, trivial⟩)).alloc _) (HBl.alloc HBl.size _))
  · have e1 : resetM b bt es p t = (p, t, []) := by unfold resetM; rw [if_neg hc]
    rw [e1]
    have HMd : Hid (∀ wx, Calls Try.prog 38 #[.int .i64 p, .int .i64 t, .slice none 0 0] wx fun e w' => ∃ ra rc, e = .returned (.agg #[.int .i64 p, .int .i64 t, .slice ra 0 rc]) ∧ EnsV w' (fun g => wx.heap.size ≤ g) ra rc [] ∧ Below wx.heap.size wx w') := fun wx => made_any p t none 0 0 [] rfl wx (LsV.nil _) (by simp) (fun i hi => by simp at hi)
    have HG : Hid (∀ (ra : Option Addr) (rc : Nat) w', EnsV w' (fun _ => True) ra rc [] → Below w.heap.size w w' → ∃ ra' rc', Ending.returned (.agg #[.int .i64 p, .int .i64 t, .slice ra 0 rc]) = .returned (.agg #[.int .i64 p, .int .i64 t, .slice ra' 0 rc']) ∧ EnsV w' (fun _ => True) ra' rc' [] ∧ Below w.heap.size w w') := fun ra rc w' q1 q2 => ⟨ra, rc, rfl, q1, q2⟩
    have hk : (termM b bt es p).2 = false ∨ ((termM b bt es p).2 = true ∧ ((termM b bt es p).1 == t) = false ∧ ((termM b bt es p).1 != t) = true) := by
      cases h : (termM b bt es p).2 with
      | false => exact .inl rfl
      | true => exact .inr ⟨rfl, beq_eq_false_iff_ne.2 fun q => hc ⟨h, q⟩, by simp; exact fun q => hc ⟨h, q⟩⟩
    clear hE hs e1 hc
    generalize (termM b bt es p).1 = x at *
    generalize (termM b bt es p).2 = y at *
    generalize es.length = n at *
    rcases hk with rfl | ⟨rfl, hk, hk2⟩
    all_goals (
      go_enter Try.func33, Try.ntmps33
      go_wp2_with (first
        | (go_at_call 38; have := H1; refine (HMd.out _).mono ?_; rintro e w2 ⟨ra, rc, rfl, HE, HB⟩; have H2 : Hid (Below (w.heap.size + 1 + 1) ((w.alloc (.cells #[.int .i64 b, .int .i64 bt, .slice a n c] 24)).alloc (.cells #[.int .i64 0, .int .i64 0, .slice none 0 0] 24)) w2 ∧ EnsV w2 (fun g => w1.heap.size ≤ g) ra rc [] ∧ w.heap.size + 1 < w1.heap.size) := ⟨two_up H1.out HB, HE, kal⟩; obtain ⟨⟨⟨kb0, kb1, kb2, kb3⟩, ⟨kb4, kb5, kb6, kb7⟩⟩, _⟩ := Bx2.at_ (w := w) (b := b) (bt := bt) (v := .slice a n c) (b' := 0) (bt' := 0) (v' := .slice none 0 0) H2.out.1; have kbl : w.heap.size + 1 < _ := World.block_lt_of_cell? _ _ kb4; clear HB HE)
        | (go_at_call 17; refine (HT.out _ (Bx2.at_ (w := w) (b := b) (bt := bt) (v := .slice a n c) (b' := 0) (bt' := 0) (v' := .slice none 0 0) (Below.refl _ _)).2).mono ?_; rintro e w1 ⟨rfl, HB⟩; have H1 : Hid (Below (w.heap.size + 1 + 1) ((w.alloc (.cells #[.int .i64 b, .int .i64 bt, .slice a n c] 24)).alloc (.cells #[.int .i64 0, .int .i64 0, .slice none 0 0] 24)) w1) := two_up (Below.refl _ _) HB; obtain ⟨⟨⟨ka0, ka1, ka2, ka3⟩, ⟨ka4, ka5, ka6, ka7⟩⟩, _⟩ := Bx2.at_ (w := w) (b := b) (bt := bt) (v := .slice a n c) (b' := 0) (bt' := 0) (v' := .slice none 0 0) H1.out; have kal : w.heap.size + 1 < _ := World.block_lt_of_cell? _ _ ka4; clear HB))
      obtain ⟨e0, e1, e2, _⟩ := boxed (w0 := w) (v0 := .int .i64 p) (v1 := .int .i64 t) (v2 := .slice ra 0 rc) (Bx2.at_ (w := w) (b := b) (bt := bt) (v := .slice a n c) (b' := 0) (bt' := 0) (v' := .slice none 0 0) H2.out.1).1.g
      exact bodyPost_ret (v := .agg #[.int .i64 p, .int .i64 t, .slice ra 0 rc]) (by simp [results, Try.results33, go_sem, e0, e1, e2]) rfl (HG.out _ _ _ (boxed_ens H2.out.2.1 (fun g hg => ⟨by have := H2.out.2.2; omega, trivial⟩)) (boxed_below (Bx2.at_ (w := w) (b := b) (bt := bt) (v := .slice a n c) (b' := 0) (bt' := 0) (v' := .slice none 0 0) H2.out.1).2 (Nat.le_succ _))))
end Go.Proofs.Ytmpmbgjdbahmbaa
