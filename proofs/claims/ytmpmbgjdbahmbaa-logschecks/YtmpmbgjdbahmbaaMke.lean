/-
  The program's Compact, Reset, From, Behind: contracts.
-/
import Derived.Test.YtmpmbgjdbahmbaaMkd
namespace Go.Proofs.Ytmpmbgjdbahmbaa
open Go.RowKit
set_option linter.unusedVariables false

/-- A log that was made, and a number. -/
def LogN (b bt : Int) (es : List En) (k : Int) (w : World) (e : Ending) (w' : World) : Prop := ∃ ra rc, e = .returned (.tuple #[.agg #[.int .i64 b, .int .i64 bt, .slice ra es.length rc], .int .i64 k]) ∧ EnsV w' (fun g => w.heap.size ≤ g) ra rc es ∧ Below w.heap.size w w'
theorem small_drop {es : List En} (h : Small es) (k : Nat) : Small (es.drop k) := ⟨by rw [List.length_drop]; have := h.1; omega, fun j hj => by
  rw [List.length_drop] at hj
  rw [getD_drop]
  exact h.2 _ (by omega)⟩
theorem small_take {es : List En} (h : Small es) (k : Nat) : Small (es.take k) := ⟨by rw [List.length_take]; have := h.1; omega, fun j hj => by
  rw [List.length_take] at hj
  rw [getD_take (by omega)]
  exact h.2 _ (by omega)⟩
theorem EnsV.drop0 {w : World} {P : Nat → Prop} {a : Option Addr} {c : Nat} {es : List En} (h : EnsV w P a c es) {k : Nat} (hk : k ≤ es.length) (hc : c = k) : EnsV w P a 0 (es.drop k) := by
  have := h.drop hk
  rw [if_pos hc, show c - k = 0 by omega] at this
  exact this
theorem EnsV.dropN {w : World} {P : Nat → Prop} {a : Option Addr} {c : Nat} {es : List En} (h : EnsV w P a c es) {k : Nat} (hk : k ≤ es.length) (hc : ¬ c = k) : EnsV w P (Option.map (fun x => x.add (k * 2)) a) (c - k) (es.drop k) := by
  have := h.drop hk
  rw [if_neg hc] at this
  exact this
theorem LogN.box {b bt : Int} {es : List En} {k : Int} {w0 wx : World} {M : Nat} {u0 u1 u2 v0 v1 : Value} {ra : Option Addr} {rc : Nat} {w' : World} (hE : EnsV w' (fun g => wx.heap.size ≤ g) ra rc es) (hB : Below wx.heap.size wx w') (hb : Below w0.heap.size w0 wx) (hC : Cell3 wx M u0 u1 u2) (hM : w0.heap.size ≤ M) : LogN b bt es k w0 (.returned (.tuple #[.agg #[.int .i64 b, .int .i64 bt, .slice ra es.length rc], .int .i64 k])) (((w'.setCell ⟨M, 0, none⟩ v0).setCell ⟨M, 1, none⟩ v1).setCell ⟨M, 2, none⟩ (.slice ra es.length rc)) := by
  have hl := hC.lt
  have hs := hb.size
  exact ⟨ra, rc, rfl, boxed_ens hE (fun g hg => ⟨by omega, by omega⟩), boxed_below (hb.trans (hB.mono hs)) hM⟩
set_option maxRecDepth 100000 in
set_option maxHeartbeats 800000 in
theorem Compact_any (P : Nat → Prop) (b bt : Int) (a : Option Addr) (c : Nat) (es : List En) (p : Int) (w : World) (hb : 0 ≤ b) (hb2 : b ≤ 2199023255552) (hp : InR p) (hE : EnsV w P a c es) (hs : Small es) : Calls Try.prog 30 #[.agg #[.int .i64 b, .int .i64 bt, .slice a es.length c], .int .i64 p] w (LogN (compM b bt es p).1.1 (compM b bt es p).1.2.1 (compM b bt es p).1.2.2 (compM b bt es p).2 w) := by
  have h1 := hE.cap1
  have h2 := hE.cap2
  have h3 := hs.1
  have HT : Hid (∀ o o2, Calls Try.prog 17 #[.agg #[.int .i64 b, .int .i64 bt, .slice a es.length c], .int .i64 p] ((w.alloc o).alloc o2) fun e w' => e = .returned (.tuple #[.int .i64 (termM b bt es p).1, .bool (termM b bt es p).2]) ∧ Below ((w.alloc o).alloc o2).heap.size ((w.alloc o).alloc o2) w') := fun o o2 => Term_any P b bt a c es p _ hb hb2 (by omega) hp ((hE.alloc o).alloc o2)
  obtain ⟨p1, p2⟩ := hp
  cases ht : (termM b bt es p).2 with
  | false =>
    have e1 : compM b bt es p = ((0, 0, []), 2) := by unfold compM; rw [if_neg (by rw [ht]; decide)]
    rw [e1]
    rw [ht] at HT
    have HG : Hid (∀ w', Below w.heap.size w w' → LogN 0 0 [] 2 w (.returned (.tuple #[.agg #[.int .i64 0, .int .i64 0, .slice none 0 0], .int .i64 2])) w') := fun w' q => ⟨none, 0, rfl, EnsV.nil _ _, q⟩
    generalize (termM b bt es p).1 = x at *
    generalize es.length = n at *
    clear hE hs e1
    go_enter Try.func30, Try.ntmps30
    go_wp2_with (go_at_call 17; refine (HT.out _ _).mono ?_; rintro e w1 ⟨rfl, HB⟩; have HC1 := (Bx2.new w b bt (.slice a n c) 0 0 (.slice none 0 0)).below HB; have H1 : Hid (Below w.heap.size w w1 ∧ Cell3 w1 (w.heap.size + 1) (.int .i64 0) (.int .i64 0) (.slice none 0 0)) := ⟨b2 HB, HC1.g⟩; obtain ⟨z4, z5, z6, z7⟩ := H1.out.2; clear HB HC1)
    obtain ⟨e0, e1, e2, _⟩ := boxed (w0 := w) (v0 := .int .i64 0) (v1 := .int .i64 0) (v2 := .slice none 0 0) H1.out.2
    exact bodyPost_ret (v := .tuple #[.agg #[.int .i64 0, .int .i64 0, .slice none 0 0], .int .i64 2]) (by simp [results, Try.results30, go_sem, e0, e1, e2]) rfl (HG.out _ (boxed_below H1.out.1 (Nat.le_succ _)))
  | true =>
    have e1 : compM b bt es p = ((p, (termM b bt es p).1, es.drop (p - b).toNat), 0) := by unfold compM; rw [if_pos ht]
    rw [e1]
    obtain ⟨w1, w2⟩ := term_where ht
    rw [ht] at HT
    obtain ⟨k, hk⟩ : ∃ k, (p - b).toNat = k := ⟨_, rfl⟩
    have hkl : k ≤ es.length := by omega
    rw [hk]
    generalize (termM b bt es p).1 = x at *
    clear e1 ht
    generalize hn0 : es.length = n at *
    have hsf := small_drop hs k
    have hfl : (es.drop k).length = n - k := by rw [List.length_drop, hn0]
    have HDD : Hid (∀ wx, Below w.heap.size w wx → (c = k → EnsV wx (fun _ => True) a 0 (es.drop k)) ∧ (¬ c = k → EnsV wx (fun _ => True) (Option.map (fun x => x.add (k * 2)) a) (c - k) (es.drop k))) := fun wx q => ⟨fun e => (hE.all.below q).drop0 (by omega) e, fun e => (hE.all.below q).dropN (by omega) e⟩
    clear hs
    generalize es.drop k = fs at *
    by_cases hck : c = k
    · have hnk : n = k := by omega
      have HD : Hid (∀ wx, Below w.heap.size w wx → EnsV wx (fun _ => True) a 0 fs) := fun wx q => (HDD.out wx q).1 hck
      have HLen : Hid (fs.length = 0) := by show _ = _; omega
      clear HDD hfl
      have hck2 : c = n := by omega
      subst hck2
      subst hnk
      have HM : Hid (∀ wx, Below w.heap.size w wx → Calls Try.prog 38 #[.int .i64 p, .int .i64 x, .slice (some ⟨wx.heap.size, 0, none⟩) 1 1] (wx.alloc (.cells #[.slice a (0) 0] 22)) (LogP p x (fs) wx)) := fun wx q => made1 p x (HD.out wx q) HLen.out.symm hsf rfl
      have HG : Hid (∀ wx w' ra rc u0 u1 u2, EnsV w' (fun g => wx.heap.size ≤ g) ra rc (fs) → Below wx.heap.size wx w' → Below w.heap.size w wx → Cell3 wx (w.heap.size + 1) u0 u1 u2 → LogN p x (fs) 0 w (.returned (.tuple #[.agg #[.int .i64 p, .int .i64 x, .slice ra (0) rc], .int .i64 0])) (((w'.setCell ⟨w.heap.size + 1, 0, none⟩ (.int .i64 p)).setCell ⟨w.heap.size + 1, 1, none⟩ (.int .i64 x)).setCell ⟨w.heap.size + 1, 2, none⟩ (.slice ra (0) rc))) := fun wx w' ra rc u0 u1 u2 q1 q2 q3 q4 => by
        have q5 := LogN.box (b := p) (bt := x) (k := 0) (v0 := .int .i64 p) (v1 := .int .i64 x) q1 q2 q3 q4 (Nat.le_succ _)
        rw [HLen.out] at q5
        exact q5
      clear HD hsf hn0 hE
      go_enter Try.func30, Try.ntmps30
      go_wp2_with (first
        | (go_at_call 38; have := H1; refine (HM.out _ H1.out.1).mono ?_; rintro e w2 ⟨ra, rc, rfl, HE, HB⟩; rw [HLen.out]; have H2 : Hid (EnsV w2 (fun g => w1.heap.size ≤ g) ra rc fs ∧ Below w1.heap.size w1 w2 ∧ Cell3 w2 (w.heap.size + 1) (.int .i64 0) (.int .i64 0) (.slice none 0 0)) := ⟨HE, HB, H1.out.2.below HB⟩; obtain ⟨y0, y1, y2, y3⟩ := H2.out.2.2; clear HE HB)
        | (go_at_call 17; refine (HT.out _ _).mono ?_; rintro e w1 ⟨rfl, HB⟩; have HC1 := (Bx2.new w b bt (.slice a c c) 0 0 (.slice none 0 0)).below HB; have H1 : Hid (Below w.heap.size w w1 ∧ Cell3 w1 (w.heap.size + 1) (.int .i64 0) (.int .i64 0) (.slice none 0 0)) := ⟨b2 HB, HC1.g⟩; obtain ⟨z0, z1, z2, z3⟩ := HC1.f; obtain ⟨z4, z5, z6, z7⟩ := H1.out.2; clear HB HC1))
      obtain ⟨e0, e1, e2, _⟩ := boxed (w0 := w) (v0 := .int .i64 p) (v1 := .int .i64 x) (v2 := .slice ra (0) rc) H2.out.2.2
      exact bodyPost_ret (v := .tuple #[.agg #[.int .i64 p, .int .i64 x, .slice ra (0) rc], .int .i64 0]) (by simp [results, Try.results30, go_sem, e0, e1, e2]) rfl (HG.out _ _ _ _ _ _ _ H2.out.1 H2.out.2.1 H1.out.1 H1.out.2)
    · have HD : Hid (∀ wx, Below w.heap.size w wx → EnsV wx (fun _ => True) (Option.map (fun x => x.add (k * 2)) a) (c - k) fs) := fun wx q => (HDD.out wx q).2 hck
      have HLen : Hid (fs.length = n - k) := hfl
      clear HDD hfl
      have HM : Hid (∀ wx, Below w.heap.size w wx → Calls Try.prog 38 #[.int .i64 p, .int .i64 x, .slice (some ⟨wx.heap.size, 0, none⟩) 1 1] (wx.alloc (.cells #[.slice (Option.map (fun x => x.add (k * 2)) a) (n - k) (c - k)] 22)) (LogP p x (fs) wx)) := fun wx q => made1 p x (HD.out wx q) HLen.out.symm hsf rfl
      have HG : Hid (∀ wx w' ra rc u0 u1 u2, EnsV w' (fun g => wx.heap.size ≤ g) ra rc (fs) → Below wx.heap.size wx w' → Below w.heap.size w wx → Cell3 wx (w.heap.size + 1) u0 u1 u2 → LogN p x (fs) 0 w (.returned (.tuple #[.agg #[.int .i64 p, .int .i64 x, .slice ra (n - k) rc], .int .i64 0])) (((w'.setCell ⟨w.heap.size + 1, 0, none⟩ (.int .i64 p)).setCell ⟨w.heap.size + 1, 1, none⟩ (.int .i64 x)).setCell ⟨w.heap.size + 1, 2, none⟩ (.slice ra (n - k) rc))) := fun wx w' ra rc u0 u1 u2 q1 q2 q3 q4 => by
        have q5 := LogN.box (b := p) (bt := x) (k := 0) (v0 := .int .i64 p) (v1 := .int .i64 x) q1 q2 q3 q4 (Nat.le_succ _)
        rw [HLen.out] at q5
        exact q5
      clear HD hsf hn0 hE
      go_enter Try.func30, Try.ntmps30
      go_wp2_with (first
        | (go_at_call 38; have := H1; refine (HM.out _ H1.out.1).mono ?_; rintro e w2 ⟨ra, rc, rfl, HE, HB⟩; rw [HLen.out]; have H2 : Hid (EnsV w2 (fun g => w1.heap.size ≤ g) ra rc fs ∧ Below w1.heap.size w1 w2 ∧ Cell3 w2 (w.heap.size + 1) (.int .i64 0) (.int .i64 0) (.slice none 0 0)) := ⟨HE, HB, H1.out.2.below HB⟩; obtain ⟨y0, y1, y2, y3⟩ := H2.out.2.2; clear HE HB)
        | (go_at_call 17; refine (HT.out _ _).mono ?_; rintro e w1 ⟨rfl, HB⟩; have HC1 := (Bx2.new w b bt (.slice a n c) 0 0 (.slice none 0 0)).below HB; have H1 : Hid (Below w.heap.size w w1 ∧ Cell3 w1 (w.heap.size + 1) (.int .i64 0) (.int .i64 0) (.slice none 0 0)) := ⟨b2 HB, HC1.g⟩; obtain ⟨z0, z1, z2, z3⟩ := HC1.f; obtain ⟨z4, z5, z6, z7⟩ := H1.out.2; clear HB HC1))
      obtain ⟨e0, e1, e2, _⟩ := boxed (w0 := w) (v0 := .int .i64 p) (v1 := .int .i64 x) (v2 := .slice ra (n - k) rc) H2.out.2.2
      exact bodyPost_ret (v := .tuple #[.agg #[.int .i64 p, .int .i64 x, .slice ra (n - k) rc], .int .i64 0]) (by simp [results, Try.results30, go_sem, e0, e1, e2]) rfl (HG.out _ _ _ _ _ _ _ H2.out.1 H2.out.2.1 H1.out.1 H1.out.2)
end Go.Proofs.Ytmpmbgjdbahmbaa
