/-
  The program's From: its contract.
-/
import Derived.Test.YtmpmbgjdbahmbaaMke
namespace Go.Proofs.Ytmpmbgjdbahmbaa
open Go.RowKit
set_option linter.unusedVariables false

theorem copies1 {ka : Option Addr} {kn kc g : Nat} {l : List En} {wx : World} (hE : EnsV wx (fun _ => True) ka kc l) (hn : kn = l.length) (hs : Small l) (hg : g = wx.heap.size) : Calls Try.prog 39 #[.slice (some ⟨g, 0, none⟩) 1 1] (wx.alloc (.cells #[.slice ka kn kc] 22)) fun e w' => ∃ ra rc, e = .returned (.slice ra l.length rc) ∧ EnsV w' (fun _ => True) ra rc l ∧ Below wx.heap.size wx w' := by
  refine (copies_any (some ⟨g, 0, none⟩) 1 [l] _ (LsV.one hg hn hE) (by simp) (fun i hi => ?_)).mono fun e w' ⟨ra, rc, q1, q2, q3⟩ => ?_
  · obtain rfl : i = 0 := by simp at hi; omega
    exact hs
  · rw [show [l].flatten = l by simp] at q1 q2
    exact ⟨ra, rc, q1, q2.all, b1 q3⟩
def FromP (fs : List En) (w : World) (e : Ending) (w' : World) : Prop := ∃ ra rc, e = .returned (.slice ra fs.length rc) ∧ EnsV w' (fun _ => True) ra rc fs ∧ Below w.heap.size w w'
theorem FromP.none {w w' : World} (h : Below w.heap.size w w') : FromP [] w (.returned (.slice none 0 0)) w' := ⟨_, _, rfl, EnsV.nil _ _, h⟩
set_option maxRecDepth 100000 in
set_option maxHeartbeats 800000 in
theorem From_any (P : Nat → Prop) (b bt : Int) (a : Option Addr) (c : Nat) (es : List En) (p q : Int) (w : World) (hb : 0 ≤ b) (hb2 : b ≤ 2199023255552) (hp : InR p) (hq : InR q) (hE : EnsV w P a c es) (hs : Small es) : Calls Try.prog 23 #[.agg #[.int .i64 b, .int .i64 bt, .slice a es.length c], .int .i64 p, .int .i64 q] w (FromP (fromM b es p q) w) := by
  have h1 := hE.cap1
  have h2 := hE.cap2
  have h3 := hs.1
  obtain ⟨p1, p2⟩ := hp
  obtain ⟨q1, q2⟩ := hq
  have HL : Hid (∀ wx, Calls Try.prog 20 #[.agg #[.int .i64 b, .int .i64 bt, .slice a es.length c]] wx fun e w' => e = .returned (.int .i64 (b + es.length)) ∧ Below wx.heap.size wx w') := fun wx => Last_any b bt a es.length c wx hb hb2 (by omega)
  have HB0 : Hid (∀ o, Below w.heap.size w (w.alloc o)) := fun o => (Below.refl _ _).alloc (Nat.le_refl _) o
  by_cases c1 : p ≤ b
  · rw [show fromM b es p q = [] from if_pos c1]
    generalize es.length = n at *
    clear hE hs
    go_enter Try.func23, Try.ntmps23
    go_wp2
    go_ret
    exact FromP.none (HB0.out _)
  have d1 : decide (p ≤ b) = false := decide_eq_false c1
  have e0 : fromM b es p q = (es.drop (p - b - 1).toNat).take q.toNat := if_neg c1
  by_cases c2 : b + es.length < p
  · rw [e0, List.drop_of_length_le (by omega), List.take_nil]
    have d2 : decide (b + (es.length : Int) < p) = true := decide_eq_true c2
    generalize es.length = n at *
    clear hE hs e0
    go_enter Try.func23, Try.ntmps23
    go_wp2_with (go_at_call 20; refine (HL.out _).mono ?_; rintro e w1 ⟨rfl, HB⟩; have H1 : Hid (Below w.heap.size w w1) := b1 HB; clear HB)
    go_ret
    exact FromP.none H1.out
  have d2 : decide (b + (es.length : Int) < p) = false := decide_eq_false c2
  by_cases c3 : q ≤ 0
  · rw [e0, show q.toNat = 0 by omega, List.take_zero]
    generalize es.length = n at *
    clear hE hs e0
    go_enter Try.func23, Try.ntmps23
    go_wp2_with (go_at_call 20; refine (HL.out _).mono ?_; rintro e w1 ⟨rfl, HB⟩; have H1 : Hid (Below w.heap.size w w1) := b1 HB; clear HB)
    go_ret
    exact FromP.none H1.out
  have d3 : decide (q ≤ 0) = false := decide_eq_false c3
  obtain ⟨k, hk⟩ : ∃ k, (p - b - 1).toNat = k := ⟨_, rfl⟩
  have hk2 : (p - b).toNat - 1 = k := by omega
  have hkn : k < es.length := by omega
  have hck : ¬ c = k := by omega
  rw [e0, hk]
  obtain ⟨sa, hsa⟩ : ∃ sa, Option.map (fun x => x.add (k * 2)) a = sa := ⟨_, rfl⟩
  have hid : Option.map (fun x => x) sa = sa := by cases sa <;> rfl
  have hfl : ((es.drop k).take q.toNat).length = min q.toNat (es.length - k) := by rw [List.length_take, List.length_drop]
  have hsf := small_take (small_drop hs k) q.toNat
  have HFs : Hid (∀ wx, Below w.heap.size w wx → EnsV wx (fun _ => True) sa (c - k) ((es.drop k).take q.toNat)) := fun wx h => by
    have q5 := (hE.all.below h).dropN (k := k) (by omega) hck
    rw [hsa] at q5
    by_cases hm : q.toNat ≤ (es.drop k).length
    · exact q5.take hm
    · rw [List.take_of_length_le (by omega)]; exact q5
  generalize (es.drop k).take q.toNat = fs at *
  clear hE hs e0
  generalize es.length = n at *
  by_cases hm : q ≤ ((n - k : Nat) : Int)
  · have hm2 : q.toNat ≤ n - k := by omega
    have HC : Hid (∀ wx, Below w.heap.size w wx → Calls Try.prog 39 #[.slice (some ⟨wx.heap.size, 0, none⟩) 1 1] (wx.alloc (.cells #[.slice sa q.toNat (c - k)] 22)) fun e w' => ∃ ra rc, e = .returned (.slice ra fs.length rc) ∧ EnsV w' (fun _ => True) ra rc fs ∧ Below wx.heap.size wx w') := fun wx h => copies1 ((HFs.out wx h)) (by omega) hsf rfl
    have HG : Hid (∀ e w', (∃ ra rc, e = .returned (.slice ra fs.length rc) ∧ EnsV w' (fun _ => True) ra rc fs ∧ Below w.heap.size w w') → FromP fs w e w') := fun e w' q => q
    clear HFs hsf
    generalize hfl2 : fs.length = fl at *
    clear hfl
    go_enter Try.func23, Try.ntmps23
    go_wp2_with (first
      | (go_at_call 39; have := H1; refine (HC.out _ H1.out).mono ?_; rintro e w2 ⟨ra, rc, rfl, HE, HB⟩; have H2 : Hid (EnsV w2 (fun _ => True) ra rc fs ∧ Below w.heap.size w w2) := ⟨HE, H1.out.trans (HB.mono H1.out.size)⟩; clear HE HB)
      | (go_at_call 20; refine (HL.out _).mono ?_; rintro e w1 ⟨rfl, HB⟩; have H1 : Hid (Below w.heap.size w w1) := b1 HB; obtain ⟨z0, z1, z2, z3⟩ := (Cell3.new w (.int .i64 b) (.int .i64 bt) (.slice a n c) 24).below HB; clear HB))
    go_ret
    exact HG.out _ _ ⟨ra, rc, rfl, H2.out.1, H2.out.2⟩
  · have hm2 : ((n - k : Nat) : Int) < q := by omega
    have HC : Hid (∀ wx, Below w.heap.size w wx → Calls Try.prog 39 #[.slice (some ⟨wx.heap.size, 0, none⟩) 1 1] (wx.alloc (.cells #[.slice sa (n - k) (c - k)] 22)) fun e w' => ∃ ra rc, e = .returned (.slice ra fs.length rc) ∧ EnsV w' (fun _ => True) ra rc fs ∧ Below wx.heap.size wx w') := fun wx h => copies1 ((HFs.out wx h)) (by omega) hsf rfl
    have HG : Hid (∀ e w', (∃ ra rc, e = .returned (.slice ra fs.length rc) ∧ EnsV w' (fun _ => True) ra rc fs ∧ Below w.heap.size w w') → FromP fs w e w') := fun e w' q => q
    clear HFs hsf
    generalize hfl2 : fs.length = fl at *
    clear hfl
    go_enter Try.func23, Try.ntmps23
    go_wp2_with (first
      | (go_at_call 39; have := H1; refine (HC.out _ H1.out).mono ?_; rintro e w2 ⟨ra, rc, rfl, HE, HB⟩; have H2 : Hid (EnsV w2 (fun _ => True) ra rc fs ∧ Below w.heap.size w w2) := ⟨HE, H1.out.trans (HB.mono H1.out.size)⟩; clear HE HB)
      | (go_at_call 20; refine (HL.out _).mono ?_; rintro e w1 ⟨rfl, HB⟩; have H1 : Hid (Below w.heap.size w w1) := b1 HB; obtain ⟨z0, z1, z2, z3⟩ := (Cell3.new w (.int .i64 b) (.int .i64 bt) (.slice a n c) 24).below HB; clear HB))
    go_ret
    exact HG.out _ _ ⟨ra, rc, rfl, H2.out.1, H2.out.2⟩
end Go.Proofs.Ytmpmbgjdbahmbaa
