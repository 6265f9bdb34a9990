/-
  The last term, which log is newer, of both sides; what stands ahead of a term: contracts.
-/
import Derived.Test.YtmpmbgjdbahmbaaSme
namespace Go.Proofs.Ytmpmbgjdbahmbaa
open Go.RowKit
set_option linter.unusedVariables false

/-- One log in its box. -/
theorem Bx1.at_ {w wx : World} {v0 v1 v2 : Value} (h : Below (w.heap.size + 1) (w.alloc (.cells #[v0, v1, v2] 24)) wx) : Cell3 wx w.heap.size v0 v1 v2 ∧ Below w.heap.size w wx := by
  have e : (w.alloc (.cells #[v0, v1, v2] 24)).heap.size = w.heap.size + 1 := by rw [size_alloc]
  rw [← e] at h
  exact ⟨(Cell3.new w v0 v1 v2 24).below h, b1 h⟩
theorem Bx1.up {w wx w' : World} {o : Obj} (h : Below (w.heap.size + 1) (w.alloc o) wx) (h2 : Below wx.heap.size wx w') : Below (w.heap.size + 1) (w.alloc o) w' := h.trans (h2.mono (by have := h.size; rw [size_alloc] at this; exact this))
set_option maxRecDepth 100000 in
set_option maxHeartbeats 400000 in
theorem LastTerm_any (P : Nat → Prop) (b bt : Int) (a : Option Addr) (c : Nat) (es : List En) (w : World) (hb : 0 ≤ b) (hb2 : b ≤ 2199023255552) (hn : es.length ≤ 2000) (hE : EnsV w P a c es) : Calls Try.prog 21 #[.agg #[.int .i64 b, .int .i64 bt, .slice a es.length c]] w fun e w' => e = .returned (.int .i64 (termM b bt es (b + es.length)).1) ∧ Below w.heap.size w w' := by
  have HL : Hid (∀ wx, Below (w.heap.size + 1) (w.alloc (.cells #[.int .i64 b, .int .i64 bt, .slice a es.length c] 24)) wx → Calls Try.prog 20 #[.agg #[.int .i64 b, .int .i64 bt, .slice a es.length c]] wx fun e w' => e = .returned (.int .i64 (b + es.length)) ∧ Below (w.heap.size + 1) (w.alloc (.cells #[.int .i64 b, .int .i64 bt, .slice a es.length c] 24)) w') := fun wx q => (Last_any b bt a es.length c wx hb hb2 hn).mono fun e w' q2 => ⟨q2.1, Bx1.up q q2.2⟩
  have HT : Hid (∀ wx, Below (w.heap.size + 1) (w.alloc (.cells #[.int .i64 b, .int .i64 bt, .slice a es.length c] 24)) wx → Calls Try.prog 17 #[.agg #[.int .i64 b, .int .i64 bt, .slice a es.length c], .int .i64 (b + es.length)] wx fun e w' => e = .returned (.tuple #[.int .i64 (termM b bt es (b + es.length)).1, .bool (termM b bt es (b + es.length)).2]) ∧ Below (w.heap.size + 1) (w.alloc (.cells #[.int .i64 b, .int .i64 bt, .slice a es.length c] 24)) w') := fun wx q => (Term_any P b bt a c es _ wx hb hb2 hn ⟨by omega, by omega⟩ (hE.below (Bx1.at_ q).2)).mono fun e w' q2 => ⟨q2.1, Bx1.up q q2.2⟩
  generalize (termM b bt es (b + es.length)).1 = x at *
  generalize (termM b bt es (b + es.length)).2 = y at *
  generalize es.length = n at *
  clear hE
  go_enter Try.func21, Try.ntmps21
  go_wp2
  go_region_held3 (fun w' => w'.cell? ⟨w.heap.size, 0, none⟩ = some (.int .i64 b) ∧ w'.cell? ⟨w.heap.size, 1, none⟩ = some (.int .i64 bt) ∧ w'.cell? ⟨w.heap.size, 2, none⟩ = some (.slice a n c)) (go_keep) (first
    | (go_at_call 20; refine (HL.out _ (Below.refl _ _).drew).mono ?_; rintro e w4 ⟨rfl, HB⟩; have HC : Hid (Below (w.heap.size + 1) (w.alloc (.cells #[.int .i64 b, .int .i64 bt, .slice a n c] 24)) w4) := HB; obtain ⟨⟨k0, k1, k2, k3⟩, _⟩ := Bx1.at_ HB; clear HB)
    | (go_at_call 17; refine (HT.out _ HC.out).mono ?_; rintro e w5 ⟨rfl, HB⟩; have HC5 : Hid (Below (w.heap.size + 1) (w.alloc (.cells #[.int .i64 b, .int .i64 bt, .slice a n c] 24)) w5) := HB; obtain ⟨⟨k4, k5, k6, k7⟩, _⟩ := Bx1.at_ HB; clear HB))
  go_wp2
  go_ret
  exact ⟨rfl, (Bx1.at_ HC5.out).2⟩
theorem newer_gt {b bt : Int} {es : List En} {t p : Int} (h : (termM b bt es (b + es.length)).1 < t) : newerM b bt es t p = true := by unfold newerM; rw [decide_eq_true h]; rfl
theorem newer_eq {b bt : Int} {es : List En} {t p : Int} (h : t = (termM b bt es (b + es.length)).1) : newerM b bt es t p = decide (b + es.length ≤ p) := by unfold newerM; rw [decide_eq_false (by omega), decide_eq_true h]; simp
theorem newer_lt {b bt : Int} {es : List En} {t p : Int} (h : t < (termM b bt es (b + es.length)).1) : newerM b bt es t p = false := by unfold newerM; rw [decide_eq_false (by omega), decide_eq_false (by omega)]; rfl
set_option maxRecDepth 100000 in
set_option maxHeartbeats 400000 in
theorem Newer_any (P : Nat → Prop) (b bt : Int) (a : Option Addr) (c : Nat) (es : List En) (t p : Int) (w : World) (hb : 0 ≤ b) (hb2 : b ≤ 2199023255552) (hn : es.length ≤ 2000) (hE : EnsV w P a c es) : Calls Try.prog 25 #[.agg #[.int .i64 b, .int .i64 bt, .slice a es.length c], .int .i64 t, .int .i64 p] w fun e w' => e = .returned (.bool (newerM b bt es t p)) ∧ Below w.heap.size w w' := by
  have HT : Hid (∀ o, Calls Try.prog 21 #[.agg #[.int .i64 b, .int .i64 bt, .slice a es.length c]] (w.alloc o) fun e w' => e = .returned (.int .i64 (termM b bt es (b + es.length)).1) ∧ Below (w.alloc o).heap.size (w.alloc o) w') := fun o => LastTerm_any P b bt a c es _ hb hb2 hn (hE.alloc o)
  have HL : Hid (∀ wx, Calls Try.prog 20 #[.agg #[.int .i64 b, .int .i64 bt, .slice a es.length c]] wx fun e w' => e = .returned (.int .i64 (b + es.length)) ∧ Below wx.heap.size wx w') := fun wx => Last_any b bt a es.length c wx hb hb2 hn
  have g1 := newer_gt (b := b) (bt := bt) (es := es) (t := t) (p := p)
  have g2 := newer_eq (b := b) (bt := bt) (es := es) (t := t) (p := p)
  have g3 := newer_lt (b := b) (bt := bt) (es := es) (t := t) (p := p)
  generalize newerM b bt es t p = r at *
  generalize (termM b bt es (b + es.length)).1 = x at *
  generalize es.length = n at *
  clear hE
  by_cases c1 : x < t
  · have hr := g1 c1
    subst hr
    clear g1 g2 g3
    go_enter Try.func25, Try.ntmps25
    go_wp2_with (go_at_call 21; refine (HT.out _).mono ?_; rintro e w1 ⟨rfl, HB⟩; have H1 : Hid (Below w.heap.size w w1) := b1 HB; obtain ⟨k0, k1, k2, k3⟩ := (Cell3.new w (.int .i64 b) (.int .i64 bt) (.slice a n c) 24).below HB; clear HB)
    go_ret
    exact ⟨rfl, H1.out⟩
  · by_cases c2 : t = x
    · have hr := g2 c2
      subst hr
      subst c2
      clear g1 g2 g3
      go_enter Try.func25, Try.ntmps25
      go_wp2_with (first
        | (go_at_call 20; have := H1; refine (HL.out _).mono ?_; rintro e w2 ⟨rfl, HB⟩; have H2 : Hid (Below w.heap.size w w2) := H1.out.trans (HB.mono H1.out.size); clear HB)
        | (go_at_call 21; refine (HT.out _).mono ?_; rintro e w1 ⟨rfl, HB⟩; have H1 : Hid (Below w.heap.size w w1) := b1 HB; obtain ⟨k0, k1, k2, k3⟩ := (Cell3.new w (.int .i64 b) (.int .i64 bt) (.slice a n c) 24).below HB; clear HB))
      go_ret
      exact ⟨rfl, H2.out⟩
    · have hr := g3 (by omega)
      subst hr
      have c3 : (t == x) = false := beq_eq_false_iff_ne.2 c2
      have c4 : decide (x < t) = false := decide_eq_false c1
      clear g1 g2 g3
      go_enter Try.func25, Try.ntmps25
      go_wp2_with (go_at_call 21; refine (HT.out _).mono ?_; rintro e w1 ⟨rfl, HB⟩; have H1 : Hid (Below w.heap.size w w1) := b1 HB; obtain ⟨k0, k1, k2, k3⟩ := (Cell3.new w (.int .i64 b) (.int .i64 bt) (.slice a n c) 24).below HB; clear HB)
      go_ret
      exact ⟨rfl, H1.out⟩
set_option maxRecDepth 100000 in
set_option maxHeartbeats 400000 in
theorem RNewer_any (P : Nat → Prop) (b bt : Int) (a : Option Addr) (c : Nat) (es : List En) (t p : Int) (w : World) (hb : 0 ≤ b) (hb2 : b ≤ 2199023255552) (hn : es.length ≤ 2000) (hE : EnsV w P a c es) : Calls Try.prog 26 #[.agg #[.int .i64 b, .int .i64 bt, .slice a es.length c], .int .i64 t, .int .i64 p] w fun e w' => e = .returned (.bool (newerM b bt es t p)) ∧ Below w.heap.size w w' := by
  have HL : Hid (∀ wx, Below (w.heap.size + 1) (w.alloc (.cells #[.int .i64 b, .int .i64 bt, .slice a es.length c] 24)) wx → Calls Try.prog 19 #[.agg #[.int .i64 b, .int .i64 bt, .slice a es.length c]] wx fun e w' => e = .returned (.int .i64 (b + es.length)) ∧ Below (w.heap.size + 1) (w.alloc (.cells #[.int .i64 b, .int .i64 bt, .slice a es.length c] 24)) w') := fun wx q => (RLast_any b bt a es.length c wx hb hb2 hn).mono fun e w' q2 => ⟨q2.1, Bx1.up q q2.2⟩
  have HT : Hid (∀ wx, Below (w.heap.size + 1) (w.alloc (.cells #[.int .i64 b, .int .i64 bt, .slice a es.length c] 24)) wx → Calls Try.prog 18 #[.agg #[.int .i64 b, .int .i64 bt, .slice a es.length c], .int .i64 (b + es.length)] wx fun e w' => e = .returned (.tuple #[.int .i64 (termM b bt es (b + es.length)).1, .bool (termM b bt es (b + es.length)).2]) ∧ Below (w.heap.size + 1) (w.alloc (.cells #[.int .i64 b, .int .i64 bt, .slice a es.length c] 24)) w') := fun wx q => (RTerm_any P b bt a c es _ wx hb hb2 hn ⟨by omega, by omega⟩ (hE.below (Bx1.at_ q).2)).mono fun e w' q2 => ⟨q2.1, Bx1.up q q2.2⟩
  have g1 := newer_gt (b := b) (bt := bt) (es := es) (t := t) (p := p)
  have g2 := newer_eq (b := b) (bt := bt) (es := es) (t := t) (p := p)
  have g3 := newer_lt (b := b) (bt := bt) (es := es) (t := t) (p := p)
  generalize newerM b bt es t p = r at *
  generalize (termM b bt es (b + es.length)).1 = x at *
  generalize (termM b bt es (b + es.length)).2 = y at *
  generalize es.length = n at *
  clear hE
  by_cases c2 : t = x
  · have hr := g2 c2
    subst hr
    subst c2
    clear g1 g2 g3
    go_enter Try.func26, Try.ntmps26
    go_wp2
    go_region_held3 (fun w' => w'.cell? ⟨w.heap.size, 0, none⟩ = some (.int .i64 b) ∧ w'.cell? ⟨w.heap.size, 1, none⟩ = some (.int .i64 bt) ∧ w'.cell? ⟨w.heap.size, 2, none⟩ = some (.slice a n c)) (go_keep) (first
      | (go_at_call 19; refine (HL.out _ (Below.refl _ _).drew).mono ?_; rintro e w4 ⟨rfl, HB⟩; have HC : Hid (Below (w.heap.size + 1) (w.alloc (.cells #[.int .i64 b, .int .i64 bt, .slice a n c] 24)) w4) := HB; obtain ⟨⟨k0, k1, k2, k3⟩, _⟩ := Bx1.at_ HB; clear HB)
      | (go_at_call 18; refine (HT.out _ HC.out).mono ?_; rintro e w5 ⟨rfl, HB⟩; have HC5 : Hid (Below (w.heap.size + 1) (w.alloc (.cells #[.int .i64 b, .int .i64 bt, .slice a n c] 24)) w5) := HB; obtain ⟨⟨k4, k5, k6, k7⟩, _⟩ := Bx1.at_ HB; clear HB))
    go_wp2_with (go_at_call 19; refine (HL.out _ HC5.out).mono ?_; rintro e w6 ⟨rfl, HB⟩; have HC6 : Hid (Below (w.heap.size + 1) (w.alloc (.cells #[.int .i64 b, .int .i64 bt, .slice a n c] 24)) w6) := HB; clear HB)
    go_ret
    exact ⟨rfl, (Bx1.at_ HC6.out).2⟩
  · have c3 : (t == x) = false := beq_eq_false_iff_ne.2 c2
    have hr : r = decide (x < t) := by
      by_cases c4 : x < t
      · rw [g1 c4, decide_eq_true c4]
      · rw [g3 (by omega), decide_eq_false c4]
    subst hr
    clear g1 g2 g3
    go_enter Try.func26, Try.ntmps26
    go_wp2
    go_region_held3 (fun w' => w'.cell? ⟨w.heap.size, 0, none⟩ = some (.int .i64 b) ∧ w'.cell? ⟨w.heap.size, 1, none⟩ = some (.int .i64 bt) ∧ w'.cell? ⟨w.heap.size, 2, none⟩ = some (.slice a n c)) (go_keep) (first
      | (go_at_call 19; refine (HL.out _ (Below.refl _ _).drew).mono ?_; rintro e w4 ⟨rfl, HB⟩; have HC : Hid (Below (w.heap.size + 1) (w.alloc (.cells #[.int .i64 b, .int .i64 bt, .slice a n c] 24)) w4) := HB; obtain ⟨⟨k0, k1, k2, k3⟩, _⟩ := Bx1.at_ HB; clear HB)
      | (go_at_call 18; refine (HT.out _ HC.out).mono ?_; rintro e w5 ⟨rfl, HB⟩; have HC5 : Hid (Below (w.heap.size + 1) (w.alloc (.cells #[.int .i64 b, .int .i64 bt, .slice a n c] 24)) w5) := HB; obtain ⟨⟨k4, k5, k6, k7⟩, _⟩ := Bx1.at_ HB; clear HB))
    go_wp2
    go_ret
    exact ⟨rfl, (Bx1.at_ HC5.out).2⟩
end Go.Proofs.Ytmpmbgjdbahmbaa
