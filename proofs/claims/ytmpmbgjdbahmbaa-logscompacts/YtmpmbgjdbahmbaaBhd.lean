/-
  The program's Behind and Reset, the document's Compact and Reset: contracts.
-/
import Derived.Test.YtmpmbgjdbahmbaaRfc
import Derived.Test.YtmpmbgjdbahmbaaLwa
namespace Go.Proofs.Ytmpmbgjdbahmbaa
open Go.RowKit
set_option linter.unusedVariables false

theorem light1 {e : En} (h : e.2.length ≤ 100000) : Small [e] := ⟨by simp, fun j hj => by
  obtain rfl : j = 0 := by simp at hj; omega
  exact h⟩
theorem three_size (w : World) (o o2 o3 : Obj) : (((w.alloc o).alloc o2).alloc o3).heap.size = w.heap.size + 1 + 1 + 1 := by rw [size_alloc, size_alloc, size_alloc]
set_option maxRecDepth 100000 in
set_option maxHeartbeats 400000 in
theorem Behind_any (P : Nat → Prop) (b bt : Int) (a : Option Addr) (c : Nat) (es : List En) (e : En) (ka : Option Addr) (kc : Nat) (w : World) (hE : EnsV w P a c es) (hs : Small es) (hi : InR e.1) (hr : ReadsV w (.slice ka e.2.length kc) e.2) (hl : e.2.length ≤ 100000) : Calls Try.prog 32 #[.agg #[.int .i64 b, .int .i64 bt, .slice a es.length c], .agg #[.int .i64 e.1, .slice ka e.2.length kc]] w (LogP b bt (es ++ [e]) w) := by
  have HM : Hid (∀ o o2 o3, Calls Try.prog 38 #[.int .i64 b, .int .i64 bt, .slice (some ⟨w.heap.size + 1 + 1 + 1 + 1, 0, none⟩) 2 2] (((((w.alloc o).alloc o2).alloc o3).alloc (.cells #[.int .i64 e.1, .slice ka e.2.length kc] 45)).alloc (.cells #[.slice a es.length c, .slice (some ⟨w.heap.size + 1 + 1 + 1, 0, none⟩) 1 1] 22)) (LogP b bt (es ++ [e]) ((((w.alloc o).alloc o2).alloc o3).alloc (.cells #[.int .i64 e.1, .slice ka e.2.length kc] 45)))) := fun o o2 o3 => by
    have hB : Below w.heap.size w (((w.alloc o).alloc o2).alloc o3) := (below2 w o o2).alloc (by rw [two_size]; omega) o3
    have h1 := EnsV.one (w := ((w.alloc o).alloc o2).alloc o3) (P := fun _ => True) (u0 := .int .i64 e.1) (u1 := .slice ka e.2.length kc) (e := e) (three_size w o o2 o3).symm trivial ⟨ka, kc, rfl, rfl, hr.below hB, fun _ _ _ => trivial, hi⟩
    exact made2 b bt ((hE.all.below hB).alloc _) rfl hs h1 rfl (light1 hl) (by rw [size_alloc, three_size])
  have HG : Hid (∀ wx w' ra rc u0 u1 u2, EnsV w' (fun g => wx.heap.size ≤ g) ra rc (es ++ [e]) → Below wx.heap.size wx w' → Below w.heap.size w wx → Cell3 wx (w.heap.size + 1 + 1) u0 u1 u2 → LogP b bt (es ++ [e]) w (.returned (.agg #[.int .i64 b, .int .i64 bt, .slice ra (es ++ [e]).length rc])) (((w'.setCell ⟨w.heap.size + 1 + 1, 0, none⟩ (.int .i64 b)).setCell ⟨w.heap.size + 1 + 1, 1, none⟩ (.int .i64 bt)).setCell ⟨w.heap.size + 1 + 1, 2, none⟩ (.slice ra (es ++ [e]).length rc))) := fun wx w' ra rc u0 u1 u2 q1 q2 q3 q4 => LogP.box q1 q2 q3 q4 (by omega)
  have HB4 : Hid (∀ o o2 o3 o4, Below w.heap.size w ((((w.alloc o).alloc o2).alloc o3).alloc o4)) := fun o o2 o3 o4 => (((below2 w o o2).alloc (by rw [two_size]; omega) o3)).alloc (by rw [three_size]; omega) o4
  have HC4 : Hid (∀ o o2 v0 v1 v2 o4, Cell3 ((((w.alloc o).alloc o2).alloc (.cells #[v0, v1, v2] 24)).alloc o4) (w.heap.size + 1 + 1) v0 v1 v2) := fun o o2 v0 v1 v2 o4 => by
    have := Cell3.new ((w.alloc o).alloc o2) v0 v1 v2 24
    rw [two_size] at this
    exact this.below ((Below.refl _ _).alloc (Nat.le_refl _) o4)
  clear hE hs hr hi hl
  generalize hjl : es ++ [e] = jl at *
  clear hjl
  generalize e.2.length = el at *
  generalize e.1 = et at *
  generalize es.length = n at *
  go_enter Try.func32, Try.ntmps32
  go_wp2_with (go_at_call 38; refine (HM.out _ _ _).mono ?_; rintro e w1 ⟨ra, rc, rfl, HE, HB⟩; have HE1 : Hid (EnsV w1 (fun g => ((((w.alloc (.cells #[.int .i64 b, .int .i64 bt, .slice a n c] 24)).alloc (.cells #[.int .i64 et, .slice ka el kc] 45)).alloc (.cells #[.int .i64 0, .int .i64 0, .slice none 0 0] 24)).alloc (.cells #[.int .i64 et, .slice ka el kc] 45)).heap.size ≤ g) ra rc jl ∧ Below ((((w.alloc (.cells #[.int .i64 b, .int .i64 bt, .slice a n c] 24)).alloc (.cells #[.int .i64 et, .slice ka el kc] 45)).alloc (.cells #[.int .i64 0, .int .i64 0, .slice none 0 0] 24)).alloc (.cells #[.int .i64 et, .slice ka el kc] 45)).heap.size ((((w.alloc (.cells #[.int .i64 b, .int .i64 bt, .slice a n c] 24)).alloc (.cells #[.int .i64 et, .slice ka el kc] 45)).alloc (.cells #[.int .i64 0, .int .i64 0, .slice none 0 0] 24)).alloc (.cells #[.int .i64 et, .slice ka el kc] 45)) w1) := ⟨HE, HB⟩; have HC3 : Hid (Cell3 w1 (w.heap.size + 1 + 1) (.int .i64 0) (.int .i64 0) (.slice none 0 0)) := (HC4.out _ _ _ _ _ _).below HB; obtain ⟨z0, z1, z2, z3⟩ := HC3.out; clear HE HB)
  obtain ⟨e0, e1, e2, _⟩ := boxed (w0 := w) (v0 := .int .i64 b) (v1 := .int .i64 bt) (v2 := .slice ra jl.length rc) HC3.out
  exact bodyPost_ret (v := .agg #[.int .i64 b, .int .i64 bt, .slice ra jl.length rc]) (by simp [results, Try.results32, go_sem, e0, e1, e2]) rfl (HG.out _ _ _ _ _ _ _ HE1.out.1 HE1.out.2 (HB4.out _ _ _ _) (HC4.out _ _ _ _ _ _))
set_option maxRecDepth 100000 in
set_option maxHeartbeats 800000 in
theorem RCompact_any (b bt : Int) (a : Option Addr) (c : Nat) (es : List En) (p : Int) (w : World) (hb : 0 ≤ b) (hb2 : b ≤ 1099511627776) (hp : InR p) (hE : EnsV w (fun _ => True) a c es) (hs : Small es) : Calls Try.prog 31 #[.agg #[.int .i64 b, .int .i64 bt, .slice a es.length c], .int .i64 p] w fun e w' => ∃ ra rc, e = .returned (.tuple #[.agg #[.int .i64 (compM b bt es p).1.1, .int .i64 (compM b bt es p).1.2.1, .slice ra (compM b bt es p).1.2.2.length rc], .int .i64 (compM b bt es p).2]) ∧ EnsV w' (fun _ => True) ra rc (compM b bt es p).1.2.2 ∧ Below w.heap.size w w' := by
  have h1 := hE.cap1
  have h2 := hE.cap2
  have h3 := hs.1
  have HT : Hid (∀ wx, Below w.heap.size w wx → Calls Try.prog 18 #[.agg #[.int .i64 b, .int .i64 bt, .slice a es.length c], .int .i64 p] wx fun e w' => e = .returned (.tuple #[.int .i64 (termM b bt es p).1, .bool (termM b bt es p).2]) ∧ Below wx.heap.size wx w') := fun wx h => RTerm_any _ b bt a c es p wx hb (by omega) (by omega) hp (hE.below h)
  have HF : Hid ((termM b bt es p).2 = true → ∀ wx, Below w.heap.size w wx → Calls Try.prog 24 #[.agg #[.int .i64 b, .int .i64 bt, .slice a es.length c], .int .i64 (p + 1), .int .i64 es.length] wx fun e w' => ∃ ra rc, e = .returned (.slice ra (es.drop (p - b).toNat).length rc) ∧ EnsV w' (fun g => g < w.heap.size ∨ wx.heap.size + 1 ≤ g) ra rc (es.drop (p - b).toNat) ∧ Below wx.heap.size wx w') := fun ht wx h => by
    have hw := term_where ht
    have := RFrom_any _ b bt a c es (p + 1) es.length wx hb (by omega) ⟨by omega, by omega⟩ ⟨by omega, by omega⟩ (hE.low.below h) hs.1 (fun g hg => Nat.lt_of_lt_of_le hg h.size)
    rw [show fromM b es (p + 1) es.length = es.drop (p - b).toNat by unfold fromM; rw [if_neg (by omega), show (p + 1 - b - 1).toNat = (p - b).toNat by omega, List.take_of_length_le (by rw [List.length_drop]; omega)]] at this
    exact this
  obtain ⟨p1, p2⟩ := hp
  cases ht : (termM b bt es p).2 with
  | false =>
    have e1 : compM b bt es p = ((0, 0, []), 2) := by unfold compM; rw [if_neg (by rw [ht]; decide)]
    rw [e1]
    rw [ht] at HT
    have HG : Hid (∀ w', Below w.heap.size w w' → ∃ ra rc, Ending.returned (.tuple #[.agg #[.int .i64 0, .int .i64 0, .slice none 0 0], .int .i64 2]) = .returned (.tuple #[.agg #[.int .i64 0, .int .i64 0, .slice ra 0 rc], .int .i64 2]) ∧ EnsV w' (fun _ => True) ra rc [] ∧ Below w.heap.size w w') := fun w' q => ⟨none, 0, rfl, EnsV.nil _ _, q⟩
    generalize (termM b bt es p).1 = x at *
    generalize es.length = n at *
    clear hE hs e1 HF ht
    go_enter Try.func31, Try.ntmps31
    go_wp2_with (go_at_call 18; refine (HT.out _ (Bx2.at_ (w := w) (b := b) (bt := bt) (v := .slice a n c) (b' := 0) (bt' := 0) (v' := .slice none 0 0) (Below.refl _ _)).2).mono ?_; rintro e w1 ⟨rfl, HB⟩; have H1 : Hid (Below (w.heap.size + 1 + 1) ((w.alloc (.cells #[.int .i64 b, .int .i64 bt, .slice a n c] 24)).alloc (.cells #[.int .i64 0, .int .i64 0, .slice none 0 0] 24)) w1) := two_up (Below.refl _ _) HB; obtain ⟨⟨⟨ka0, ka1, ka2, ka3⟩, ⟨ka4, ka5, ka6, ka7⟩⟩, _⟩ := Bx2.at_ (w := w) (b := b) (bt := bt) (v := .slice a n c) (b' := 0) (bt' := 0) (v' := .slice none 0 0) H1.out; have kal : w.heap.size + 1 < _ := World.block_lt_of_cell? _ _ ka4; clear HB)
    obtain ⟨e0, e1, e2, _⟩ := boxed (w0 := w) (v0 := .int .i64 0) (v1 := .int .i64 0) (v2 := .slice none 0 0) (Bx2.at_ (w := w) (b := b) (bt := bt) (v := .slice a n c) (b' := 0) (bt' := 0) (v' := .slice none 0 0) H1.out).1.g
    exact bodyPost_ret (v := .tuple #[.agg #[.int .i64 0, .int .i64 0, .slice none 0 0], .int .i64 2]) (by simp [results, Try.results31, go_sem, e0, e1, e2]) rfl (HG.out _ (boxed_below (Bx2.at_ (w := w) (b := b) (bt := bt) (v := .slice a n c) (b' := 0) (bt' := 0) (v' := .slice none 0 0) H1.out).2 (Nat.le_succ _)))
  | true =>
    have e1 : compM b bt es p = ((p, (termM b bt es p).1, es.drop (p - b).toNat), 0) := by unfold compM; rw [if_pos ht]
    rw [e1]
    have HF2 : Hid (∀ wx, Below w.heap.size w wx → Calls Try.prog 24 #[.agg #[.int .i64 b, .int .i64 bt, .slice a es.length c], .int .i64 (p + 1), .int .i64 es.length] wx fun e w' => ∃ ra rc, e = .returned (.slice ra (es.drop (p - b).toNat).length rc) ∧ EnsV w' (fun g => g < w.heap.size ∨ wx.heap.size + 1 ≤ g) ra rc (es.drop (p - b).toNat) ∧ Below wx.heap.size wx w') := HF.out ht
    obtain ⟨w8, w9⟩ := term_where ht
    rw [ht] at HT
    have hpx : p ≤ 2199023255552 := by omega
    clear e1 ht HF hE hs
    generalize (termM b bt es p).1 = x at *
    generalize es.drop (p - b).toNat = fs at *
    have HG : Hid (∀ (ra : Option Addr) (rc : Nat) w', EnsV w' (fun _ => True) ra rc fs → Below w.heap.size w w' → ∃ ra' rc', Ending.returned (.tuple #[.agg #[.int .i64 p, .int .i64 x, .slice ra fs.length rc], .int .i64 0]) = .returned (.tuple #[.agg #[.int .i64 p, .int .i64 x, .slice ra' fs.length rc'], .int .i64 0]) ∧ EnsV w' (fun _ => True) ra' rc' fs ∧ Below w.heap.size w w') := fun ra rc w' q1 q2 => ⟨ra, rc, rfl, q1, q2⟩
    generalize fs.length = fl at *
    generalize es.length = n at *
    go_enter Try.func31, Try.ntmps31
    go_wp2_with (first
      | (go_at_call 24; have := H1; refine (HF2.out _ (Bx2.at_ (w := w) (b := b) (bt := bt) (v := .slice a n c) (b' := 0) (bt' := 0) (v' := .slice none 0 0) H1.out).2).mono ?_; rintro e w2 ⟨ra, rc, rfl, HE, HB⟩; have H2 : Hid (Below (w.heap.size + 1 + 1) ((w.alloc (.cells #[.int .i64 b, .int .i64 bt, .slice a n c] 24)).alloc (.cells #[.int .i64 0, .int .i64 0, .slice none 0 0] 24)) w2 ∧ EnsV w2 (fun g => g < w.heap.size ∨ w1.heap.size + 1 ≤ g) ra rc fs ∧ w.heap.size + 1 < w1.heap.size) := ⟨two_up H1.out HB, HE, kal⟩; obtain ⟨⟨⟨kb0, kb1, kb2, kb3⟩, ⟨kb4, kb5, kb6, kb7⟩⟩, _⟩ := Bx2.at_ (w := w) (b := b) (bt := bt) (v := .slice a n c) (b' := 0) (bt' := 0) (v' := .slice none 0 0) H2.out.1; have kbl : w.heap.size + 1 < _ := World.block_lt_of_cell? _ _ kb4; clear HB HE)
      | (go_at_call 18; refine (HT.out _ (Bx2.at_ (w := w) (b := b) (bt := bt) (v := .slice a n c) (b' := 0) (bt' := 0) (v' := .slice none 0 0) (Below.refl _ _)).2).mono ?_; rintro e w1 ⟨rfl, HB⟩; have H1 : Hid (Below (w.heap.size + 1 + 1) ((w.alloc (.cells #[.int .i64 b, .int .i64 bt, .slice a n c] 24)).alloc (.cells #[.int .i64 0, .int .i64 0, .slice none 0 0] 24)) w1) := two_up (Below.refl _ _) HB; obtain ⟨⟨⟨ka0, ka1, ka2, ka3⟩, ⟨ka4, ka5, ka6, ka7⟩⟩, _⟩ := Bx2.at_ (w := w) (b := b) (bt := bt) (v := .slice a n c) (b' := 0) (bt' := 0) (v' := .slice none 0 0) H1.out; have kal : w.heap.size + 1 < _ := World.block_lt_of_cell? _ _ ka4; clear HB))
    obtain ⟨e0, e1, e2, _⟩ := boxed (w0 := w) (v0 := .int .i64 p) (v1 := .int .i64 x) (v2 := .slice ra fl rc) (Bx2.at_ (w := w) (b := b) (bt := bt) (v := .slice a n c) (b' := 0) (bt' := 0) (v' := .slice none 0 0) H2.out.1).1.g
    exact bodyPost_ret (v := .tuple #[.agg #[.int .i64 p, .int .i64 x, .slice ra fl rc], .int .i64 0]) (by simp [results, Try.results31, go_sem, e0, e1, e2]) rfl (HG.out _ _ _ (boxed_ens H2.out.2.1 (fun g hg => ⟨by have := H2.out.2.2; omega, trivial⟩)) (boxed_below (Bx2.at_ (w := w) (b := b) (bt := bt) (v := .slice a n c) (b' := 0) (bt' := 0) (v' := .slice none 0 0) H2.out.1).2 (Nat.le_succ _)))
set_option maxRecDepth 100000 in
set_option maxHeartbeats 800000 in
theorem RReset_any (b bt : Int) (a : Option Addr) (c : Nat) (es : List En) (p t : Int) (w : World) (hb : 0 ≤ b) (hb2 : b ≤ 1099511627776) (hp : InR p) (ht0 : InR t) (hE : EnsV w (fun _ => True) a c es) (hs : Small es) : Calls Try.prog 34 #[.agg #[.int .i64 b, .int .i64 bt, .slice a es.length c], .int .i64 p, .int .i64 t] w fun e w' => ∃ ra rc, e = .returned (.agg #[.int .i64 p, .int .i64 t, .slice ra (resetM b bt es p t).2.2.length rc]) ∧ EnsV w' (fun _ => True) ra rc (resetM b bt es p t).2.2 ∧ Below w.heap.size w w' := by
  have h1 := hE.cap1
  have h2 := hE.cap2
  have h3 := hs.1
  have HT : Hid (∀ wx, Below w.heap.size w wx → Calls Try.prog 18 #[.agg #[.int .i64 b, .int .i64 bt, .slice a es.length c], .int .i64 p] wx fun e w' => e = .returned (.tuple #[.int .i64 (termM b bt es p).1, .bool (termM b bt es p).2]) ∧ Below wx.heap.size wx w') := fun wx h => RTerm_any _ b bt a c es p wx hb (by omega) (by omega) hp (hE.below h)
  have HF : Hid ((termM b bt es p).2 = true → ∀ wx, Below w.heap.size w wx → Calls Try.prog 24 #[.agg #[.int .i64 b, .int .i64 bt, .slice a es.length c], .int .i64 (p + 1), .int .i64 es.length] wx fun e w' => ∃ ra rc, e = .returned (.slice ra (es.drop (p - b).toNat).length rc) ∧ EnsV w' (fun g => g < w.heap.size ∨ wx.heap.size + 1 ≤ g) ra rc (es.drop (p - b).toNat) ∧ Below wx.heap.size wx w') := fun ht wx h => by
    have hw := term_where ht
    have := RFrom_any _ b bt a c es (p + 1) es.length wx hb (by omega) ⟨by omega, by omega⟩ ⟨by omega, by omega⟩ (hE.low.below h) hs.1 (fun g hg => Nat.lt_of_lt_of_le hg h.size)
    rw [show fromM b es (p + 1) es.length = es.drop (p - b).toNat by unfold fromM; rw [if_neg (by omega), show (p + 1 - b - 1).toNat = (p - b).toNat by omega, List.take_of_length_le (by rw [List.length_drop]; omega)]] at this
    exact this
  obtain ⟨p1, p2⟩ := hp
  by_cases hc : (termM b bt es p).2 = true ∧ (termM b bt es p).1 = t
  · have e1 : resetM b bt es p t = (p, t, es.drop (p - b).toNat) := by unfold resetM; rw [if_pos hc]
    rw [e1]
    obtain ⟨ht, hx⟩ := hc
    have HF2 : Hid (∀ wx, Below w.heap.size w wx → Calls Try.prog 24 #[.agg #[.int .i64 b, .int .i64 bt, .slice a es.length c], .int .i64 (p + 1), .int .i64 es.length] wx fun e w' => ∃ ra rc, e = .returned (.slice ra (es.drop (p - b).toNat).length rc) ∧ EnsV w' (fun g => g < w.heap.size ∨ wx.heap.size + 1 ≤ g) ra rc (es.drop (p - b).toNat) ∧ Below wx.heap.size wx w') := HF.out ht
    obtain ⟨w8, w9⟩ := term_where ht
    rw [ht, hx] at HT
    have hpx : p ≤ 2199023255552 := by omega
    clear e1 ht hx HF hE hs
    generalize es.drop (p - b).toNat = fs at *
    have HG : Hid (∀ (ra : Option Addr) (rc : Nat) w', EnsV w' (fun _ => True) ra rc fs → Below w.heap.size w w' → ∃ ra' rc', Ending.returned (.agg #[.int .i64 p, .int .i64 t, .slice ra fs.length rc]) = .returned (.agg #[.int .i64 p, .int .i64 t, .slice ra' fs.length rc']) ∧ EnsV w' (fun _ => True) ra' rc' fs ∧ Below w.heap.size w w') := fun ra rc w' q1 q2 => ⟨ra, rc, rfl, q1, q2⟩
    generalize fs.length = fl at *
    generalize es.length = n at *
    go_enter Try.func34, Try.ntmps34
    go_wp2_with (first
      | (go_at_call 24; have := H1; refine (HF2.out _ (Bx2.at_ (w := w) (b := b) (bt := bt) (v := .slice a n c) (b' := 0) (bt' := 0) (v' := .slice none 0 0) H1.out).2).mono ?_; rintro e w2 ⟨ra, rc, rfl, HE, HB⟩; have H2 : Hid (Below (w.heap.size + 1 + 1) ((w.alloc (.cells #[.int .i64 b, .int .i64 bt, .slice a n c] 24)).alloc (.cells #[.int .i64 0, .int .i64 0, .slice none 0 0] 24)) w2 ∧ EnsV w2 (fun g => g < w.heap.size ∨ w1.heap.size + 1 ≤ g) ra rc fs ∧ w.heap.size + 1 < w1.heap.size) := ⟨two_up H1.out HB, HE, kal⟩; obtain ⟨⟨⟨kb0, kb1, kb2, kb3⟩, ⟨kb4, kb5, kb6, kb7⟩⟩, _⟩ := Bx2.at_ (w := w) (b := b) (bt := bt) (v := .slice a n c) (b' := 0) (bt' := 0) (v' := .slice none 0 0) H2.out.1; have kbl : w.heap.size + 1 < _ := World.block_lt_of_cell? _ _ kb4; clear HB HE)
      | (go_at_call 18; refine (HT.out _ (Bx2.at_ (w := w) (b := b) (bt := bt) (v := .slice a n c) (b' := 0) (bt' := 0) (v' := .slice none 0 0) (Below.refl _ _)).2).mono ?_; rintro e w1 ⟨rfl, HB⟩; have H1 : Hid (Below (w.heap.size + 1 + 1) ((w.alloc (.cells #[.int .i64 b, .int .i64 bt, .slice a n c] 24)).alloc (.cells #[.int .i64 0, .int .i64 0, .slice none 0 0] 24)) w1) := two_up (Below.refl _ _) HB; obtain ⟨⟨⟨ka0, ka1, ka2, ka3⟩, ⟨ka4, ka5, ka6, ka7⟩⟩, _⟩ := Bx2.at_ (w := w) (b := b) (bt := bt) (v := .slice a n c) (b' := 0) (bt' := 0) (v' := .slice none 0 0) H1.out; have kal : w.heap.size + 1 < _ := World.block_lt_of_cell? _ _ ka4; clear HB))
    obtain ⟨e0, e1, e2, _⟩ := boxed (w0 := w) (v0 := .int .i64 p) (v1 := .int .i64 t) (v2 := .slice ra fl rc) (Bx2.at_ (w := w) (b := b) (bt := bt) (v := .slice a n c) (b' := 0) (bt' := 0) (v' := .slice none 0 0) H2.out.1).1.g
    exact bodyPost_ret (v := .agg #[.int .i64 p, .int .i64 t, .slice ra fl rc]) (by simp [results, Try.results34, go_sem, e0, e1, e2]) rfl (HG.out _ _ _ (boxed_ens H2.out.2.1 (fun g hg => ⟨by have := H2.out.2.2; omega, trivial⟩)) (boxed_below (Bx2.at_ (w := w) (b := b) (bt := bt) (v := .slice a n c) (b' := 0) (bt' := 0) (v' := .slice none 0 0) H2.out.1).2 (Nat.le_succ _)))
  · have e1 : resetM b bt es p t = (p, t, []) := by unfold resetM; rw [if_neg hc]
    rw [e1]
    have HG : Hid (∀ w', Below w.heap.size w w' → ∃ ra rc, Ending.returned (.agg #[.int .i64 p, .int .i64 t, .slice none 0 0]) = .returned (.agg #[.int .i64 p, .int .i64 t, .slice ra 0 rc]) ∧ EnsV w' (fun _ => True) ra rc [] ∧ Below w.heap.size w w') := fun w' q => ⟨none, 0, rfl, EnsV.nil _ _, q⟩
    have hk : (termM b bt es p).2 = false ∨ ((termM b bt es p).2 = true ∧ ((termM b bt es p).1 == t) = false) := by
      cases h : (termM b bt es p).2 with
      | false => exact .inl rfl
      | true => exact .inr ⟨rfl, beq_eq_false_iff_ne.2 fun q => hc ⟨h, q⟩⟩
    clear hE hs e1 HF hc
    generalize (termM b bt es p).1 = x at *
    generalize (termM b bt es p).2 = y at *
    generalize es.length = n at *
    rcases hk with rfl | ⟨rfl, hk⟩
    all_goals (
      go_enter Try.func34, Try.ntmps34
      go_wp2_with (go_at_call 18; refine (HT.out _ (Bx2.at_ (w := w) (b := b) (bt := bt) (v := .slice a n c) (b' := 0) (bt' := 0) (v' := .slice none 0 0) (Below.refl _ _)).2).mono ?_; rintro e w1 ⟨rfl, HB⟩; have H1 : Hid (Below (w.heap.size + 1 + 1) ((w.alloc (.cells #[.int .i64 b, .int .i64 bt, .slice a n c] 24)).alloc (.cells #[.int .i64 0, .int .i64 0, .slice none 0 0] 24)) w1) := two_up (Below.refl _ _) HB; obtain ⟨⟨⟨ka0, ka1, ka2, ka3⟩, ⟨ka4, ka5, ka6, ka7⟩⟩, _⟩ := Bx2.at_ (w := w) (b := b) (bt := bt) (v := .slice a n c) (b' := 0) (bt' := 0) (v' := .slice none 0 0) H1.out; have kal : w.heap.size + 1 < _ := World.block_lt_of_cell? _ _ ka4; clear HB)
      obtain ⟨e0, e1, e2, _⟩ := boxed (w0 := w) (v0 := .int .i64 p) (v1 := .int .i64 t) (v2 := .slice none 0 0) (Bx2.at_ (w := w) (b := b) (bt := bt) (v := .slice a n c) (b' := 0) (bt' := 0) (v' := .slice none 0 0) H1.out).1.g
      exact bodyPost_ret (v := .agg #[.int .i64 p, .int .i64 t, .slice none 0 0]) (by simp [results, Try.results34, go_sem, e0, e1, e2]) rfl (HG.out _ (boxed_below (Bx2.at_ (w := w) (b := b) (bt := bt) (v := .slice a n c) (b' := 0) (bt' := 0) (v' := .slice none 0 0) H1.out).2 (Nat.le_succ _))))
end Go.Proofs.Ytmpmbgjdbahmbaa
