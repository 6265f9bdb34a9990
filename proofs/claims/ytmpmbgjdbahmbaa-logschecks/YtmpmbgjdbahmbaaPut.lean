/-
  The program's Put: its contract.
-/
import Derived.Test.YtmpmbgjdbahmbaaJoi
namespace Go.Proofs.Ytmpmbgjdbahmbaa
open Go.RowKit
set_option linter.unusedVariables false

/-- What Put answers. -/
def PutP (b bt : Int) (x : List En × Int × Bool) (w : World) (e : Ending) (w' : World) : Prop := ∃ ra rc, e = .returned (.tuple #[.agg #[.int .i64 b, .int .i64 bt, .slice ra x.1.length rc], .int .i64 x.2.1, .bool x.2.2]) ∧ EnsV w' (fun g => w.heap.size ≤ g) ra rc x.1 ∧ Below w.heap.size w w'
theorem PutP.box {b bt : Int} {es : List En} {q : Int} {y : Bool} {w0 wx : World} {M : Nat} {u0 u1 u2 v0 v1 : Value} {ra : Option Addr} {rc : Nat} {w' : World} (hE : EnsV w' (fun g => wx.heap.size ≤ g) ra rc es) (hB : Below wx.heap.size wx w') (hb : Below w0.heap.size w0 wx) (hC : Cell3 wx M u0 u1 u2) (hM : w0.heap.size ≤ M) : PutP b bt (es, q, y) w0 (.returned (.tuple #[.agg #[.int .i64 b, .int .i64 bt, .slice ra es.length rc], .int .i64 q, .bool y])) (((w'.setCell ⟨M, 0, none⟩ v0).setCell ⟨M, 1, none⟩ v1).setCell ⟨M, 2, none⟩ (.slice ra es.length rc)) := by
  have hl := hC.lt
  have hs := hb.size
  exact ⟨ra, rc, rfl, boxed_ens hE (fun g hg => ⟨by omega, by omega⟩), boxed_below (hb.trans (hB.mono hs)) hM⟩
theorem two_up {w wx w' : World} {o o2 : Obj} (h : Below (w.heap.size + 1 + 1) ((w.alloc o).alloc o2) wx) (h2 : Below wx.heap.size wx w') : Below (w.heap.size + 1 + 1) ((w.alloc o).alloc o2) w' := h.trans (h2.mono (by have := h.size; rw [two_size] at this; exact this))
set_option maxRecDepth 100000 in
set_option maxHeartbeats 1600000 in
theorem Put_any (P Q : Nat → Prop) (b bt : Int) (a a2 : Option Addr) (c c2 : Nat) (es r : List En) (p t : Int) (w : World) (hb : 0 ≤ b) (hb2 : b ≤ 2199023255552) (hp : 0 ≤ p) (hp2 : p ≤ 4398046511104) (ht : InR t) (hbt : InR bt) (hE : EnsV w P a c es) (hs : Small es) (hR : EnsV w Q a2 c2 r) (hsr : Small r) : Calls Try.prog 28 #[.agg #[.int .i64 b, .int .i64 bt, .slice a es.length c], .int .i64 p, .int .i64 t, .slice a2 r.length c2] w (PutP b bt (putM b bt es p t r) w) := by
  have h3 := hE.cap1
  have h4 := hE.cap2
  have h5 := hR.cap1
  have h6 := hR.cap2
  have h7 := hs.1
  have h8 := hsr.1
  obtain ⟨t1, t2⟩ := ht
  obtain ⟨t3, t4⟩ := hbt
  have HCo : Hid (∀ wx, Below w.heap.size w wx → Calls Try.prog 15 #[.agg #[.int .i64 b, .int .i64 bt, .slice a es.length c]] wx (LogP b bt es wx)) := fun wx q => Copy_any _ b bt a c es wx (hE.below q) hs
  have HLa : Hid (∀ wx, Calls Try.prog 20 #[.agg #[.int .i64 b, .int .i64 bt, .slice a es.length c]] wx fun e w' => e = .returned (.int .i64 (b + es.length)) ∧ Below wx.heap.size wx w') := fun wx => Last_any b bt a es.length c wx hb hb2 (by omega)
  have HTe : Hid (∀ q wx, InR q → Below w.heap.size w wx → Calls Try.prog 17 #[.agg #[.int .i64 b, .int .i64 bt, .slice a es.length c], .int .i64 q] wx fun e w' => e = .returned (.tuple #[.int .i64 (termM b bt es q).1, .bool (termM b bt es q).2]) ∧ Below wx.heap.size wx w') := fun q wx hq h => Term_any P b bt a c es q wx hb hb2 (by omega) hq (hE.below h)
  have HAh : Hid (∀ q x wx, b ≤ q → q ≤ b + es.length → Below w.heap.size w wx → Calls Try.prog 40 #[.agg #[.int .i64 b, .int .i64 bt, .slice a es.length c], .int .i64 q, .int .i64 x] wx fun e w' => e = .returned (.int .i64 (b + downM es x (q - b).toNat)) ∧ Below wx.heap.size wx w') := fun q x wx h1 h2 h => ahead_any P b bt a c es q x wx hb hb2 (by omega) h1 h2 (hE.below h)
  have HJo : Hid (∀ q wx (ra : Option Addr) (rn rc : Nat) (rs : List En), b ≤ q → q ≤ b + es.length → rn = rs.length → EnsV w (fun _ => True) ra rc rs → Small rs → Below w.heap.size w wx → Calls Try.prog 41 #[.agg #[.int .i64 b, .int .i64 bt, .slice a es.length c], .int .i64 q, .slice ra rn rc] wx (LogP b bt (es.take (q - b).toNat ++ tailM (es.drop (q - b).toNat) rs) wx)) := fun q wx ra rn rc rs h1 h2 hn h9 h10 h => by
    subst hn
    exact joined_any P _ b bt a ra c rc es rs q wx hb hb2 h1 h2 (hE.below h) hs (h9.below h) h10
  by_cases c0 : p < b
  · by_cases c1 : (r.length : Int) < b - p
    · rw [show putM b bt es p t r = (es, b, true) by unfold putM; rw [if_pos c0, if_pos c1]]
      generalize r.length = n2 at *
      generalize hnl : es.length = n at *
      have HG : Hid (∀ wx w' ra rc u0 u1 u2, EnsV w' (fun g => wx.heap.size ≤ g) ra rc es → Below wx.heap.size wx w' → Below w.heap.size w wx → Cell3 wx (w.heap.size + 1) u0 u1 u2 → PutP b bt (es, b, true) w (.returned (.tuple #[.agg #[.int .i64 b, .int .i64 bt, .slice ra n rc], .int .i64 b, .bool true])) (((w'.setCell ⟨w.heap.size + 1, 0, none⟩ (.int .i64 b)).setCell ⟨w.heap.size + 1, 1, none⟩ (.int .i64 bt)).setCell ⟨w.heap.size + 1, 2, none⟩ (.slice ra n rc))) := fun wx w' ra rc u0 u1 u2 q1 q2 q3 q4 => by
        have q5 := PutP.box (b := b) (bt := bt) (q := b) (y := true) (v0 := .int .i64 b) (v1 := .int .i64 bt) q1 q2 q3 q4 (Nat.le_succ _)
        rw [hnl] at q5
        exact q5
      clear hE hR hs hsr HTe HAh HJo HLa
      have hu : (n2 : Int) < b - p := c1
      go_enter Try.func28, Try.ntmps28
      go_wp2
      go_region_held3 (fun w' => w'.cell? ⟨w.heap.size, 0, none⟩ = some (.int .i64 b) ∧ w'.cell? ⟨w.heap.size, 1, none⟩ = some (.int .i64 bt) ∧ w'.cell? ⟨w.heap.size, 2, none⟩ = some (.slice a n c)) (go_keep) (first
        | (go_at_call 15; refine (HCo.out _ (Bx2.at_ (w := w) (b := b) (bt := bt) (v := .slice a n c) (b' := 0) (bt' := 0) (v' := .slice none 0 0) (Below.refl _ _).drew).2).mono ?_; rintro e w4 ⟨ra, rc, rfl, HE, HB⟩; rw [hnl]; have H4 : Hid (EnsV w4 (fun g => ((w.alloc (.cells #[.int .i64 b, .int .i64 bt, .slice a n c] 24)).alloc (.cells #[.int .i64 0, .int .i64 0, .slice none 0 0] 24)).drew.heap.size ≤ g) ra rc es ∧ Below ((w.alloc (.cells #[.int .i64 b, .int .i64 bt, .slice a n c] 24)).alloc (.cells #[.int .i64 0, .int .i64 0, .slice none 0 0] 24)).drew.heap.size ((w.alloc (.cells #[.int .i64 b, .int .i64 bt, .slice a n c] 24)).alloc (.cells #[.int .i64 0, .int .i64 0, .slice none 0 0] 24)).drew w4 ∧ Below (w.heap.size + 1 + 1) ((w.alloc (.cells #[.int .i64 b, .int .i64 bt, .slice a n c] 24)).alloc (.cells #[.int .i64 0, .int .i64 0, .slice none 0 0] 24)) w4) := ⟨HE, HB, two_up (Below.refl _ _).drew HB⟩; obtain ⟨⟨⟨z0, z1, z2, z3⟩, ⟨z4, z5, z6, z7⟩⟩, _⟩ := Bx2.at_ (w := w) (b := b) (bt := bt) (v := .slice a n c) (b' := 0) (bt' := 0) (v' := .slice none 0 0) H4.out.2.2; clear HE HB))
      go_wp2
      obtain ⟨e0, e1, e2, _⟩ := boxed (w0 := w) (v0 := .int .i64 b) (v1 := .int .i64 bt) (v2 := .slice ra n rc) (Bx2.at_ (w := w) (b := b) (bt := bt) (v := .slice a n c) (b' := 0) (bt' := 0) (v' := .slice none 0 0) H4.out.2.2).1.g
      exact bodyPost_ret (v := .tuple #[.agg #[.int .i64 b, .int .i64 bt, .slice ra n rc], .int .i64 b, .bool true]) (by simp [results, Try.results28, go_sem, e0, e1, e2]) rfl (HG.out _ _ _ _ _ _ _ H4.out.1 H4.out.2.1 (Bx2.at_ (w := w) (b := b) (bt := bt) (v := .slice a n c) (b' := 0) (bt' := 0) (v' := .slice none 0 0) (Below.refl _ _).drew).2 (Bx2.at_ (w := w) (b := b) (bt := bt) (v := .slice a n c) (b' := 0) (bt' := 0) (v' := .slice none 0 0) (Below.refl _ _).drew).1.g)
    · rw [show putM b bt es p t r = put2M b bt es b bt (r.drop (b - p).toNat) by unfold putM; rw [if_pos c0, if_neg c1], put2_yes (by rw [term_base]) (by rw [term_base]), show (b - b).toNat = 0 by omega]
      have HT : Hid (∀ wx, Below w.heap.size w wx → Calls Try.prog 17 #[.agg #[.int .i64 b, .int .i64 bt, .slice a es.length c], .int .i64 b] wx fun e w' => e = .returned (.tuple #[.int .i64 bt, .bool true]) ∧ Below wx.heap.size wx w') := fun wx h => by have := HTe.out b wx ⟨by omega, by omega⟩ h; rw [term_base] at this; exact this
      obtain ⟨k, hk⟩ : ∃ k, (b - p).toNat = k := ⟨_, rfl⟩
      rw [hk]
      have hkr : k ≤ r.length := by omega
      have hlr : (r.drop k).length = r.length - k := List.length_drop
      have HJ0 : Hid (∀ wx (ra : Option Addr) (rn rc : Nat), rn = (r.drop k).length → EnsV w (fun _ => True) ra rc (r.drop k) → Below w.heap.size w wx → Calls Try.prog 41 #[.agg #[.int .i64 b, .int .i64 bt, .slice a es.length c], .int .i64 b, .slice ra rn rc] wx (LogP b bt (es.take 0 ++ tailM (es.drop 0) (r.drop k)) wx)) := fun wx ra rn rc h1 h2 h => by
        have := HJo.out b wx ra rn rc (r.drop k) (Int.le_refl _) (by omega) h1 h2 (small_drop hsr k) h
        rw [show (b - b).toNat = 0 by omega] at this
        exact this
      have HDD : Hid ((c2 = k → EnsV w (fun _ => True) a2 0 (r.drop k)) ∧ (¬ c2 = k → EnsV w (fun _ => True) (Option.map (fun x => x.add (k * 2)) a2) (c2 - k) (r.drop k))) := ⟨fun e => hR.all.drop0 hkr e, fun e => hR.all.dropN hkr e⟩
      generalize es.take 0 ++ tailM (es.drop 0) (r.drop k) = jl at *
      generalize r.drop k = fs at *
      generalize r.length = n2 at *
      generalize hnl : es.length = n at *
      clear hE hR hs hsr HTe HAh HJo HLa HCo
      have u1 : IntKind.u64.wrap b = b := by rw [IntKind.wrap_u64]; omega
      have u2 : IntKind.u64.wrap p = p := by rw [IntKind.wrap_u64]; omega
      have u3 : IntKind.u64.wrap (b - p) = b - p := by rw [IntKind.wrap_u64]; omega
      have u4 : 0 ≤ b - p := by omega
      have u5 : b - p ≤ (n2 : Int) := by omega
      have u6 : b - p ≤ (c2 : Int) := by omega
      by_cases hck : c2 = k
      · have HJ : Hid (∀ wx, Below w.heap.size w wx → Calls Try.prog 41 #[.agg #[.int .i64 b, .int .i64 bt, .slice a n c], .int .i64 b, .slice a2 0 0] wx (LogP b bt jl wx)) := fun wx h => HJ0.out wx _ _ _ (by omega) (HDD.out.1 hck) h
        have HQ : Hid (b + (fs.length : Int) = b) := by show _ = _; omega
        have hn2 : n2 = k := by omega
        have hcc : c2 = n2 := by omega
        rw [HQ.out]
        have HG : Hid (∀ wx w' ra rc u0 u1 u2, EnsV w' (fun g => wx.heap.size ≤ g) ra rc jl → Below wx.heap.size wx w' → Below w.heap.size w wx → Cell3 wx (w.heap.size + 1) u0 u1 u2 → PutP b bt (jl, b, true) w (.returned (.tuple #[.agg #[.int .i64 b, .int .i64 bt, .slice ra jl.length rc], .int .i64 b, .bool true])) (((w'.setCell ⟨w.heap.size + 1, 0, none⟩ (.int .i64 b)).setCell ⟨w.heap.size + 1, 1, none⟩ (.int .i64 bt)).setCell ⟨w.heap.size + 1, 2, none⟩ (.slice ra jl.length rc))) := fun wx w' ra rc u0 u1 u2 q1 q2 q3 q4 => by
          have q5 := PutP.box (b := b) (bt := bt) (q := b) (y := true) (v0 := .int .i64 b) (v1 := .int .i64 bt) q1 q2 q3 q4 (Nat.le_succ _)
          skip
          exact q5
        clear HJ0 HDD hlr HQ
        subst hcc
        subst hn2
        go_enter Try.func28, Try.ntmps28
        go_wp2
        go_quiet (fail)
        have HW : Hid (Below (w.heap.size + 1 + 1) ((w.alloc (.cells #[.int .i64 b, .int .i64 bt, .slice a n c] 24)).alloc (.cells #[.int .i64 0, .int .i64 0, .slice none 0 0] 24)) (((w.alloc (.cells #[.int .i64 b, .int .i64 bt, .slice a n c] 24)).alloc (.cells #[.int .i64 0, .int .i64 0, .slice none 0 0] 24)).drewN nq)) := below_drewN (Below.refl _ _) _
        obtain ⟨wq, hwq⟩ : ∃ wq, ((w.alloc (.cells #[.int .i64 b, .int .i64 bt, .slice a n c] 24)).alloc (.cells #[.int .i64 0, .int .i64 0, .slice none 0 0] 24)).drewN nq = wq := ⟨_, rfl⟩
        rw [hwq] at HW ⊢
        clear hwq
        obtain ⟨⟨⟨m0, m1, m2, m3⟩, ⟨m4, m5, m6, m7⟩⟩, _⟩ := Bx2.at_ (w := w) (b := b) (bt := bt) (v := .slice a n c) (b' := 0) (bt' := 0) (v' := .slice none 0 0) HW.out
        go_wp2_with (first
          | (go_at_call 41; have := H1; refine (HJ.out _ (Bx2.at_ (w := w) (b := b) (bt := bt) (v := .slice a n c) (b' := 0) (bt' := 0) (v' := .slice none 0 0) H1.out).2).mono ?_; rintro e w2 ⟨ra, rc, rfl, HE, HB⟩; have H2 : Hid (EnsV w2 (fun g => w1.heap.size ≤ g) ra rc jl ∧ Below w1.heap.size w1 w2 ∧ Below (w.heap.size + 1 + 1) ((w.alloc (.cells #[.int .i64 b, .int .i64 bt, .slice a n c] 24)).alloc (.cells #[.int .i64 0, .int .i64 0, .slice none 0 0] 24)) w2) := ⟨HE, HB, two_up H1.out HB⟩; obtain ⟨⟨⟨z0, z1, z2, z3⟩, ⟨z4, z5, z6, z7⟩⟩, _⟩ := Bx2.at_ (w := w) (b := b) (bt := bt) (v := .slice a n c) (b' := 0) (bt' := 0) (v' := .slice none 0 0) H2.out.2.2; clear HE HB)
          | (go_at_call 17; refine (HT.out _ (Bx2.at_ (w := w) (b := b) (bt := bt) (v := .slice a n c) (b' := 0) (bt' := 0) (v' := .slice none 0 0) HW.out).2).mono ?_; rintro e w1 ⟨rfl, HB⟩; have H1 : Hid (Below (w.heap.size + 1 + 1) ((w.alloc (.cells #[.int .i64 b, .int .i64 bt, .slice a n c] 24)).alloc (.cells #[.int .i64 0, .int .i64 0, .slice none 0 0] 24)) w1) := two_up HW.out HB; obtain ⟨⟨⟨k0, k1, k2, k3⟩, ⟨k4, k5, k6, k7⟩⟩, _⟩ := Bx2.at_ (w := w) (b := b) (bt := bt) (v := .slice a n c) (b' := 0) (bt' := 0) (v' := .slice none 0 0) H1.out; clear HB))
        obtain ⟨e0, e1, e2, _⟩ := boxed (w0 := w) (v0 := .int .i64 b) (v1 := .int .i64 bt) (v2 := .slice ra jl.length rc) (Bx2.at_ (w := w) (b := b) (bt := bt) (v := .slice a n c) (b' := 0) (bt' := 0) (v' := .slice none 0 0) H2.out.2.2).1.g
        exact bodyPost_ret (v := .tuple #[.agg #[.int .i64 b, .int .i64 bt, .slice ra jl.length rc], .int .i64 b, .bool true]) (by simp [results, Try.results28, go_sem, e0, e1, e2]) rfl (HG.out _ _ _ _ _ _ _ H2.out.1 H2.out.2.1 (Bx2.at_ (w := w) (b := b) (bt := bt) (v := .slice a n c) (b' := 0) (bt' := 0) (v' := .slice none 0 0) H1.out).2 (Bx2.at_ (w := w) (b := b) (bt := bt) (v := .slice a n c) (b' := 0) (bt' := 0) (v' := .slice none 0 0) H1.out).1.g)
      · have HJ : Hid (∀ wx, Below w.heap.size w wx → Calls Try.prog 41 #[.agg #[.int .i64 b, .int .i64 bt, .slice a n c], .int .i64 b, .slice (Option.map (fun x => x.add (k * 2)) a2) (n2 - k) (c2 - k)] wx (LogP b bt jl wx)) := fun wx h => HJ0.out wx _ _ _ (by omega) (HDD.out.2 hck) h
        have HQ : Hid (b + (fs.length : Int) = (b + (((n2 - k) : Nat) : Int))) := by show _ = _; omega
        rw [HQ.out]
        have HG : Hid (∀ wx w' ra rc u0 u1 u2, EnsV w' (fun g => wx.heap.size ≤ g) ra rc jl → Below wx.heap.size wx w' → Below w.heap.size w wx → Cell3 wx (w.heap.size + 1) u0 u1 u2 → PutP b bt (jl, (b + (((n2 - k) : Nat) : Int)), true) w (.returned (.tuple #[.agg #[.int .i64 b, .int .i64 bt, .slice ra jl.length rc], .int .i64 (b + (((n2 - k) : Nat) : Int)), .bool true])) (((w'.setCell ⟨w.heap.size + 1, 0, none⟩ (.int .i64 b)).setCell ⟨w.heap.size + 1, 1, none⟩ (.int .i64 bt)).setCell ⟨w.heap.size + 1, 2, none⟩ (.slice ra jl.length rc))) := fun wx w' ra rc u0 u1 u2 q1 q2 q3 q4 => by
          have q5 := PutP.box (b := b) (bt := bt) (q := (b + (((n2 - k) : Nat) : Int))) (y := true) (v0 := .int .i64 b) (v1 := .int .i64 bt) q1 q2 q3 q4 (Nat.le_succ _)
          skip
          exact q5
        clear HJ0 HDD hlr HQ
        go_enter Try.func28, Try.ntmps28
        go_wp2
        go_quiet (fail)
        have HW : Hid (Below (w.heap.size + 1 + 1) ((w.alloc (.cells #[.int .i64 b, .int .i64 bt, .slice a n c] 24)).alloc (.cells #[.int .i64 0, .int .i64 0, .slice none 0 0] 24)) (((w.alloc (.cells #[.int .i64 b, .int .i64 bt, .slice a n c] 24)).alloc (.cells #[.int .i64 0, .int .i64 0, .slice none 0 0] 24)).drewN nq)) := below_drewN (Below.refl _ _) _
        obtain ⟨wq, hwq⟩ : ∃ wq, ((w.alloc (.cells #[.int .i64 b, .int .i64 bt, .slice a n c] 24)).alloc (.cells #[.int .i64 0, .int .i64 0, .slice none 0 0] 24)).drewN nq = wq := ⟨_, rfl⟩
        rw [hwq] at HW ⊢
        clear hwq
        obtain ⟨⟨⟨m0, m1, m2, m3⟩, ⟨m4, m5, m6, m7⟩⟩, _⟩ := Bx2.at_ (w := w) (b := b) (bt := bt) (v := .slice a n c) (b' := 0) (bt' := 0) (v' := .slice none 0 0) HW.out
        go_wp2_with (first
          | (go_at_call 41; have := H1; refine (HJ.out _ (Bx2.at_ (w := w) (b := b) (bt := bt) (v := .slice a n c) (b' := 0) (bt' := 0) (v' := .slice none 0 0) H1.out).2).mono ?_; rintro e w2 ⟨ra, rc, rfl, HE, HB⟩; have H2 : Hid (EnsV w2 (fun g => w1.heap.size ≤ g) ra rc jl ∧ Below w1.heap.size w1 w2 ∧ Below (w.heap.size + 1 + 1) ((w.alloc (.cells #[.int .i64 b, .int .i64 bt, .slice a n c] 24)).alloc (.cells #[.int .i64 0, .int .i64 0, .slice none 0 0] 24)) w2) := ⟨HE, HB, two_up H1.out HB⟩; obtain ⟨⟨⟨z0, z1, z2, z3⟩, ⟨z4, z5, z6, z7⟩⟩, _⟩ := Bx2.at_ (w := w) (b := b) (bt := bt) (v := .slice a n c) (b' := 0) (bt' := 0) (v' := .slice none 0 0) H2.out.2.2; clear HE HB)
          | (go_at_call 17; refine (HT.out _ (Bx2.at_ (w := w) (b := b) (bt := bt) (v := .slice a n c) (b' := 0) (bt' := 0) (v' := .slice none 0 0) HW.out).2).mono ?_; rintro e w1 ⟨rfl, HB⟩; have H1 : Hid (Below (w.heap.size + 1 + 1) ((w.alloc (.cells #[.int .i64 b, .int .i64 bt, .slice a n c] 24)).alloc (.cells #[.int .i64 0, .int .i64 0, .slice none 0 0] 24)) w1) := two_up HW.out HB; obtain ⟨⟨⟨k0, k1, k2, k3⟩, ⟨k4, k5, k6, k7⟩⟩, _⟩ := Bx2.at_ (w := w) (b := b) (bt := bt) (v := .slice a n c) (b' := 0) (bt' := 0) (v' := .slice none 0 0) H1.out; clear HB))
        obtain ⟨e0, e1, e2, _⟩ := boxed (w0 := w) (v0 := .int .i64 b) (v1 := .int .i64 bt) (v2 := .slice ra jl.length rc) (Bx2.at_ (w := w) (b := b) (bt := bt) (v := .slice a n c) (b' := 0) (bt' := 0) (v' := .slice none 0 0) H2.out.2.2).1.g
        exact bodyPost_ret (v := .tuple #[.agg #[.int .i64 b, .int .i64 bt, .slice ra jl.length rc], .int .i64 (b + (((n2 - k) : Nat) : Int)), .bool true]) (by simp [results, Try.results28, go_sem, e0, e1, e2]) rfl (HG.out _ _ _ _ _ _ _ H2.out.1 H2.out.2.1 (Bx2.at_ (w := w) (b := b) (bt := bt) (v := .slice a n c) (b' := 0) (bt' := 0) (v' := .slice none 0 0) H1.out).2 (Bx2.at_ (w := w) (b := b) (bt := bt) (v := .slice a n c) (b' := 0) (bt' := 0) (v' := .slice none 0 0) H1.out).1.g)
  · rw [show putM b bt es p t r = put2M b bt es p t r by unfold putM; rw [if_neg c0]]
    have HT : Hid (∀ wx, Below w.heap.size w wx → Calls Try.prog 17 #[.agg #[.int .i64 b, .int .i64 bt, .slice a es.length c], .int .i64 p] wx fun e w' => e = .returned (.tuple #[.int .i64 (termM b bt es p).1, .bool (termM b bt es p).2]) ∧ Below wx.heap.size wx w') := fun wx h => HTe.out p wx ⟨by omega, by omega⟩ h
    cases hf : (termM b bt es p).2 with
    | false =>
      rw [put2_none hf]
      rw [hf] at HT
      generalize (termM b bt es p).1 = x at *
      generalize r.length = n2 at *
      generalize hnl : es.length = n at *
      have e9 : b + ((n : Nat) : Int) = b + (n : Int) := rfl
      have HG : Hid (∀ wx w' ra rc u0 u1 u2, EnsV w' (fun g => wx.heap.size ≤ g) ra rc es → Below wx.heap.size wx w' → Below w.heap.size w wx → Cell3 wx (w.heap.size + 1) u0 u1 u2 → PutP b bt (es, (b + (n : Int)), false) w (.returned (.tuple #[.agg #[.int .i64 b, .int .i64 bt, .slice ra n rc], .int .i64 (b + (n : Int)), .bool false])) (((w'.setCell ⟨w.heap.size + 1, 0, none⟩ (.int .i64 b)).setCell ⟨w.heap.size + 1, 1, none⟩ (.int .i64 bt)).setCell ⟨w.heap.size + 1, 2, none⟩ (.slice ra n rc))) := fun wx w' ra rc u0 u1 u2 q1 q2 q3 q4 => by
        have q5 := PutP.box (b := b) (bt := bt) (q := (b + (n : Int))) (y := false) (v0 := .int .i64 b) (v1 := .int .i64 bt) q1 q2 q3 q4 (Nat.le_succ _)
        rw [hnl] at q5
        exact q5
      clear hE hR hs hsr HTe HAh HJo e9
      go_enter Try.func28, Try.ntmps28
      go_wp2_with (go_at_call 17; refine (HT.out _ (Bx2.at_ (w := w) (b := b) (bt := bt) (v := .slice a n c) (b' := 0) (bt' := 0) (v' := .slice none 0 0) (Below.refl _ _)).2).mono ?_; rintro e w1 ⟨rfl, HB⟩; have H1 : Hid (Below (w.heap.size + 1 + 1) ((w.alloc (.cells #[.int .i64 b, .int .i64 bt, .slice a n c] 24)).alloc (.cells #[.int .i64 0, .int .i64 0, .slice none 0 0] 24)) w1) := two_up (Below.refl _ _) HB; obtain ⟨⟨⟨k0, k1, k2, k3⟩, ⟨k4, k5, k6, k7⟩⟩, _⟩ := Bx2.at_ (w := w) (b := b) (bt := bt) (v := .slice a n c) (b' := 0) (bt' := 0) (v' := .slice none 0 0) H1.out; clear HB)
      have H1d : Hid (Below (w.heap.size + 1 + 1) ((w.alloc (.cells #[.int .i64 b, .int .i64 bt, .slice a n c] 24)).alloc (.cells #[.int .i64 0, .int .i64 0, .slice none 0 0] 24)) w1.drew) := H1.out.drew
      go_region_held3 (fun w' => w'.cell? ⟨w.heap.size, 0, none⟩ = some (.int .i64 b) ∧ w'.cell? ⟨w.heap.size, 1, none⟩ = some (.int .i64 bt) ∧ w'.cell? ⟨w.heap.size, 2, none⟩ = some (.slice a n c)) (go_keep) (first
        | (go_at_call 15; refine (HCo.out _ (Bx2.at_ (w := w) (b := b) (bt := bt) (v := .slice a n c) (b' := 0) (bt' := 0) (v' := .slice none 0 0) H1d.out).2).mono ?_; rintro e w4 ⟨ra, rc, rfl, HE, HB⟩; rw [hnl]; have H4 : Hid (EnsV w4 (fun g => w1.drew.heap.size ≤ g) ra rc es ∧ Below w1.drew.heap.size w1.drew w4 ∧ Below (w.heap.size + 1 + 1) ((w.alloc (.cells #[.int .i64 b, .int .i64 bt, .slice a n c] 24)).alloc (.cells #[.int .i64 0, .int .i64 0, .slice none 0 0] 24)) w4) := ⟨HE, HB, two_up H1d.out HB⟩; obtain ⟨⟨⟨z0, z1, z2, z3⟩, ⟨z4, z5, z6, z7⟩⟩, _⟩ := Bx2.at_ (w := w) (b := b) (bt := bt) (v := .slice a n c) (b' := 0) (bt' := 0) (v' := .slice none 0 0) H4.out.2.2; clear HE HB)
        | (go_at_call 20; have := H4; refine (HLa.out _).mono ?_; rintro e w5 ⟨rfl, HB⟩; have H5 : Hid (EnsV w5 (fun g => w1.drew.heap.size ≤ g) ra rc es ∧ Below w1.drew.heap.size w1.drew w5 ∧ Below (w.heap.size + 1 + 1) ((w.alloc (.cells #[.int .i64 b, .int .i64 bt, .slice a n c] 24)).alloc (.cells #[.int .i64 0, .int .i64 0, .slice none 0 0] 24)) w5) := ⟨H4.out.1.below HB, H4.out.2.1.trans (HB.mono H4.out.2.1.size), two_up H4.out.2.2 HB⟩; obtain ⟨⟨⟨y0, y1, y2, y3⟩, ⟨y4, y5, y6, y7⟩⟩, _⟩ := Bx2.at_ (w := w) (b := b) (bt := bt) (v := .slice a n c) (b' := 0) (bt' := 0) (v' := .slice none 0 0) H5.out.2.2; clear HB))
      go_wp2
      obtain ⟨e0, e1, e2, _⟩ := boxed (w0 := w) (v0 := .int .i64 b) (v1 := .int .i64 bt) (v2 := .slice ra n rc) (Bx2.at_ (w := w) (b := b) (bt := bt) (v := .slice a n c) (b' := 0) (bt' := 0) (v' := .slice none 0 0) H5.out.2.2).1.g
      exact bodyPost_ret (v := .tuple #[.agg #[.int .i64 b, .int .i64 bt, .slice ra n rc], .int .i64 (b + (n : Int)), .bool false]) (by simp [results, Try.results28, go_sem, e0, e1, e2]) rfl (HG.out _ _ _ _ _ _ _ H5.out.1 H5.out.2.1 (Bx2.at_ (w := w) (b := b) (bt := bt) (v := .slice a n c) (b' := 0) (bt' := 0) (v' := .slice none 0 0) H1d.out).2 (Bx2.at_ (w := w) (b := b) (bt := bt) (v := .slice a n c) (b' := 0) (bt' := 0) (v' := .slice none 0 0) H1d.out).1.g)
    | true =>
      obtain ⟨w8, w9⟩ := term_where hf
      rw [hf] at HT
      by_cases hx : (termM b bt es p).1 = t
      · rw [put2_yes hf hx]
        rw [hx] at HT
        have HJ : Hid (∀ wx, Below w.heap.size w wx → Calls Try.prog 41 #[.agg #[.int .i64 b, .int .i64 bt, .slice a es.length c], .int .i64 p, .slice a2 r.length c2] wx (LogP b bt (es.take (p - b).toNat ++ tailM (es.drop (p - b).toNat) r) wx)) := fun wx h => HJo.out p wx _ _ _ r w8 w9 rfl hR.all hsr h
        generalize es.take (p - b).toNat ++ tailM (es.drop (p - b).toNat) r = jl at *
        generalize r.length = n2 at *
        generalize hnl : es.length = n at *
        have HG : Hid (∀ wx w' ra rc u0 u1 u2, EnsV w' (fun g => wx.heap.size ≤ g) ra rc jl → Below wx.heap.size wx w' → Below w.heap.size w wx → Cell3 wx (w.heap.size + 1) u0 u1 u2 → PutP b bt (jl, (p + (n2 : Int)), true) w (.returned (.tuple #[.agg #[.int .i64 b, .int .i64 bt, .slice ra jl.length rc], .int .i64 (p + (n2 : Int)), .bool true])) (((w'.setCell ⟨w.heap.size + 1, 0, none⟩ (.int .i64 b)).setCell ⟨w.heap.size + 1, 1, none⟩ (.int .i64 bt)).setCell ⟨w.heap.size + 1, 2, none⟩ (.slice ra jl.length rc))) := fun wx w' ra rc u0 u1 u2 q1 q2 q3 q4 => by
          have q5 := PutP.box (b := b) (bt := bt) (q := (p + (n2 : Int))) (y := true) (v0 := .int .i64 b) (v1 := .int .i64 bt) q1 q2 q3 q4 (Nat.le_succ _)
          skip
          exact q5
        clear hE hR hs hsr HTe HAh HJo hx hf HCo HLa
        go_enter Try.func28, Try.ntmps28
        go_wp2_with (first
          | (go_at_call 41; have := H1; refine (HJ.out _ (Bx2.at_ (w := w) (b := b) (bt := bt) (v := .slice a n c) (b' := 0) (bt' := 0) (v' := .slice none 0 0) H1.out).2).mono ?_; rintro e w2 ⟨ra, rc, rfl, HE, HB⟩; have H2 : Hid (EnsV w2 (fun g => w1.heap.size ≤ g) ra rc jl ∧ Below w1.heap.size w1 w2 ∧ Below (w.heap.size + 1 + 1) ((w.alloc (.cells #[.int .i64 b, .int .i64 bt, .slice a n c] 24)).alloc (.cells #[.int .i64 0, .int .i64 0, .slice none 0 0] 24)) w2) := ⟨HE, HB, two_up H1.out HB⟩; obtain ⟨⟨⟨z0, z1, z2, z3⟩, ⟨z4, z5, z6, z7⟩⟩, _⟩ := Bx2.at_ (w := w) (b := b) (bt := bt) (v := .slice a n c) (b' := 0) (bt' := 0) (v' := .slice none 0 0) H2.out.2.2; clear HE HB)
          | (go_at_call 17; refine (HT.out _ (Bx2.at_ (w := w) (b := b) (bt := bt) (v := .slice a n c) (b' := 0) (bt' := 0) (v' := .slice none 0 0) (Below.refl _ _)).2).mono ?_; rintro e w1 ⟨rfl, HB⟩; have H1 : Hid (Below (w.heap.size + 1 + 1) ((w.alloc (.cells #[.int .i64 b, .int .i64 bt, .slice a n c] 24)).alloc (.cells #[.int .i64 0, .int .i64 0, .slice none 0 0] 24)) w1) := two_up (Below.refl _ _) HB; obtain ⟨⟨⟨k0, k1, k2, k3⟩, ⟨k4, k5, k6, k7⟩⟩, _⟩ := Bx2.at_ (w := w) (b := b) (bt := bt) (v := .slice a n c) (b' := 0) (bt' := 0) (v' := .slice none 0 0) H1.out; clear HB))
        obtain ⟨e0, e1, e2, _⟩ := boxed (w0 := w) (v0 := .int .i64 b) (v1 := .int .i64 bt) (v2 := .slice ra jl.length rc) (Bx2.at_ (w := w) (b := b) (bt := bt) (v := .slice a n c) (b' := 0) (bt' := 0) (v' := .slice none 0 0) H2.out.2.2).1.g
        exact bodyPost_ret (v := .tuple #[.agg #[.int .i64 b, .int .i64 bt, .slice ra jl.length rc], .int .i64 (p + (n2 : Int)), .bool true]) (by simp [results, Try.results28, go_sem, e0, e1, e2]) rfl (HG.out _ _ _ _ _ _ _ H2.out.1 H2.out.2.1 (Bx2.at_ (w := w) (b := b) (bt := bt) (v := .slice a n c) (b' := 0) (bt' := 0) (v' := .slice none 0 0) H1.out).2 (Bx2.at_ (w := w) (b := b) (bt := bt) (v := .slice a n c) (b' := 0) (bt' := 0) (v' := .slice none 0 0) H1.out).1.g)
      · rw [put2_other hf hx]
        have HA : Hid (∀ wx, Below w.heap.size w wx → Calls Try.prog 40 #[.agg #[.int .i64 b, .int .i64 bt, .slice a es.length c], .int .i64 p, .int .i64 (termM b bt es p).1] wx fun e w' => e = .returned (.int .i64 (b + downM es (termM b bt es p).1 (p - b).toNat)) ∧ Below wx.heap.size wx w') := fun wx h => HAh.out p _ wx w8 w9 h
        have hx2 : ((termM b bt es p).1 == t) = false := beq_eq_false_iff_ne.2 hx
        generalize b + (downM es (termM b bt es p).1 (p - b).toNat : Int) = d at *
        generalize (termM b bt es p).1 = x at *
        generalize r.length = n2 at *
        generalize hnl : es.length = n at *
        have HG : Hid (∀ wx w' ra rc u0 u1 u2, EnsV w' (fun g => wx.heap.size ≤ g) ra rc es → Below wx.heap.size wx w' → Below w.heap.size w wx → Cell3 wx (w.heap.size + 1) u0 u1 u2 → PutP b bt (es, d, false) w (.returned (.tuple #[.agg #[.int .i64 b, .int .i64 bt, .slice ra n rc], .int .i64 d, .bool false])) (((w'.setCell ⟨w.heap.size + 1, 0, none⟩ (.int .i64 b)).setCell ⟨w.heap.size + 1, 1, none⟩ (.int .i64 bt)).setCell ⟨w.heap.size + 1, 2, none⟩ (.slice ra n rc))) := fun wx w' ra rc u0 u1 u2 q1 q2 q3 q4 => by
          have q5 := PutP.box (b := b) (bt := bt) (q := d) (y := false) (v0 := .int .i64 b) (v1 := .int .i64 bt) q1 q2 q3 q4 (Nat.le_succ _)
          rw [hnl] at q5
          exact q5
        clear hE hR hs hsr HTe HAh HJo hf HLa
        go_enter Try.func28, Try.ntmps28
        go_wp2_with (go_at_call 17; refine (HT.out _ (Bx2.at_ (w := w) (b := b) (bt := bt) (v := .slice a n c) (b' := 0) (bt' := 0) (v' := .slice none 0 0) (Below.refl _ _)).2).mono ?_; rintro e w1 ⟨rfl, HB⟩; have H1 : Hid (Below (w.heap.size + 1 + 1) ((w.alloc (.cells #[.int .i64 b, .int .i64 bt, .slice a n c] 24)).alloc (.cells #[.int .i64 0, .int .i64 0, .slice none 0 0] 24)) w1) := two_up (Below.refl _ _) HB; obtain ⟨⟨⟨k0, k1, k2, k3⟩, ⟨k4, k5, k6, k7⟩⟩, _⟩ := Bx2.at_ (w := w) (b := b) (bt := bt) (v := .slice a n c) (b' := 0) (bt' := 0) (v' := .slice none 0 0) H1.out; clear HB)
        have H1d : Hid (Below (w.heap.size + 1 + 1) ((w.alloc (.cells #[.int .i64 b, .int .i64 bt, .slice a n c] 24)).alloc (.cells #[.int .i64 0, .int .i64 0, .slice none 0 0] 24)) w1.drew) := H1.out.drew
        go_region_held3 (fun w' => w'.cell? ⟨w.heap.size, 0, none⟩ = some (.int .i64 b) ∧ w'.cell? ⟨w.heap.size, 1, none⟩ = some (.int .i64 bt) ∧ w'.cell? ⟨w.heap.size, 2, none⟩ = some (.slice a n c)) (go_keep) (first
          | (go_at_call 15; refine (HCo.out _ (Bx2.at_ (w := w) (b := b) (bt := bt) (v := .slice a n c) (b' := 0) (bt' := 0) (v' := .slice none 0 0) H1d.out).2).mono ?_; rintro e w4 ⟨ra, rc, rfl, HE, HB⟩; rw [hnl]; have H4 : Hid (EnsV w4 (fun g => w1.drew.heap.size ≤ g) ra rc es ∧ Below w1.drew.heap.size w1.drew w4 ∧ Below (w.heap.size + 1 + 1) ((w.alloc (.cells #[.int .i64 b, .int .i64 bt, .slice a n c] 24)).alloc (.cells #[.int .i64 0, .int .i64 0, .slice none 0 0] 24)) w4) := ⟨HE, HB, two_up H1d.out HB⟩; obtain ⟨⟨⟨z0, z1, z2, z3⟩, ⟨z4, z5, z6, z7⟩⟩, _⟩ := Bx2.at_ (w := w) (b := b) (bt := bt) (v := .slice a n c) (b' := 0) (bt' := 0) (v' := .slice none 0 0) H4.out.2.2; clear HE HB)
          | (go_at_call 40; have := H4; refine (HA.out _ (Bx2.at_ (w := w) (b := b) (bt := bt) (v := .slice a n c) (b' := 0) (bt' := 0) (v' := .slice none 0 0) H4.out.2.2).2).mono ?_; rintro e w5 ⟨rfl, HB⟩; have H5 : Hid (EnsV w5 (fun g => w1.drew.heap.size ≤ g) ra rc es ∧ Below w1.drew.heap.size w1.drew w5 ∧ Below (w.heap.size + 1 + 1) ((w.alloc (.cells #[.int .i64 b, .int .i64 bt, .slice a n c] 24)).alloc (.cells #[.int .i64 0, .int .i64 0, .slice none 0 0] 24)) w5) := ⟨H4.out.1.below HB, H4.out.2.1.trans (HB.mono H4.out.2.1.size), two_up H4.out.2.2 HB⟩; obtain ⟨⟨⟨y0, y1, y2, y3⟩, ⟨y4, y5, y6, y7⟩⟩, _⟩ := Bx2.at_ (w := w) (b := b) (bt := bt) (v := .slice a n c) (b' := 0) (bt' := 0) (v' := .slice none 0 0) H5.out.2.2; clear HB))
        go_wp2
        obtain ⟨e0, e1, e2, _⟩ := boxed (w0 := w) (v0 := .int .i64 b) (v1 := .int .i64 bt) (v2 := .slice ra n rc) (Bx2.at_ (w := w) (b := b) (bt := bt) (v := .slice a n c) (b' := 0) (bt' := 0) (v' := .slice none 0 0) H5.out.2.2).1.g
        exact bodyPost_ret (v := .tuple #[.agg #[.int .i64 b, .int .i64 bt, .slice ra n rc], .int .i64 d, .bool false]) (by simp [results, Try.results28, go_sem, e0, e1, e2]) rfl (HG.out _ _ _ _ _ _ _ H5.out.1 H5.out.2.1 (Bx2.at_ (w := w) (b := b) (bt := bt) (v := .slice a n c) (b' := 0) (bt' := 0) (v' := .slice none 0 0) H1d.out).2 (Bx2.at_ (w := w) (b := b) (bt := bt) (v := .slice a n c) (b' := 0) (bt' := 0) (v' := .slice none 0 0) H1d.out).1.g)
end Go.Proofs.Ytmpmbgjdbahmbaa
