/-
  The program's joined: its contract.
-/
import Derived.Test.YtmpmbgjdbahmbaaMke
import Derived.Test.YtmpmbgjdbahmbaaAhd
namespace Go.Proofs.Ytmpmbgjdbahmbaa
open Go.RowKit
set_option linter.unusedVariables false

theorem join_at {es r : List En} {k i : Nat} (h : ∀ j, j < i → j < (es.drop k).length ∧ tOf (es.drop k) j = tOf r j) (hi : i < r.length) (hd : (es.drop k).length ≤ i ∨ tOf (es.drop k) i ≠ tOf r i) : es.take (k + i) ++ r.drop i = es.take k ++ tailM (es.drop k) r := by
  rw [tail_at _ _ i h hi hd, List.take_add, List.append_assoc]
theorem join_all {es r : List En} {k : Nat} (h : ∀ j, j < r.length → j < (es.drop k).length ∧ tOf (es.drop k) j = tOf r j) : es = es.take k ++ tailM (es.drop k) r := by
  rw [tail_all _ _ h, List.take_append_drop]
set_option maxRecDepth 100000 in
set_option maxHeartbeats 1600000 in
theorem joined_any (P Q : Nat → Prop) (b bt : Int) (a a2 : Option Addr) (c c2 : Nat) (es r : List En) (p : Int) (w : World) (hb : 0 ≤ b) (hb2 : b ≤ 2199023255552) (h1 : b ≤ p) (h2 : p ≤ b + es.length) (hE : EnsV w P a c es) (hs : Small es) (hR : EnsV w Q a2 c2 r) (hsr : Small r) : Calls Try.prog 41 #[.agg #[.int .i64 b, .int .i64 bt, .slice a es.length c], .int .i64 p, .slice a2 r.length c2] w (LogP b bt (es.take (p - b).toNat ++ tailM (es.drop (p - b).toNat) r) w) := by
  have h3 := hE.cap1
  have h4 := hE.cap2
  have h5 := hR.cap1
  have h6 := hR.cap2
  have h7 := hs.1
  have h8 := hsr.1
  obtain ⟨k, hk⟩ : ∃ k, (p - b).toNat = k := ⟨_, rfl⟩
  rw [hk]
  have hkl : k ≤ es.length := by omega
  have HCr : Hid (∀ i, i < r.length → ∃ g o ka kn kc, a2 = some ⟨g, o, none⟩ ∧ w.cell? ⟨g, o + i * 2, none⟩ = some (.int .i64 (tOf r i)) ∧ w.cell? ⟨g, o + i * 2 + 1, none⟩ = some (.slice ka kn kc) ∧ g < w.heap.size) := fun i hi => by
    obtain ⟨g, o, ka, kc, q1, q2, q3, q4, q5, q6, _⟩ := hR.at_ hi
    exact ⟨g, o, ka, _, kc, q1, q2, q3, q6⟩
  have HIr : Hid (∀ i, i < r.length → InR (tOf r i)) := hR.inr
  have HMk : Hid (∀ i g o, i < r.length → a2 = some ⟨g, o, none⟩ → ((∀ j, j < i → j < (es.drop k).length ∧ tOf (es.drop k) j = tOf r j) → ((es.drop k).length ≤ i ∨ tOf (es.drop k) i ≠ tOf r i) → k + i ≤ es.length → ∀ wx, Below w.heap.size w wx → Calls Try.prog 38 #[.int .i64 b, .int .i64 bt, .slice (some ⟨wx.heap.size, 0, none⟩) 2 2] (wx.alloc (.cells #[.slice a (k + i) c, .slice (some ⟨g, o + i * 2, none⟩) (r.length - i) (c2 - i)] 22)) (LogP b bt (es.take k ++ tailM (es.drop k) r) wx))) := fun i g o hi ha hj hd hki wx q => by
    rw [← join_at hj hi hd]
    have e2 := (hR.all.below q).dropN (k := i) (by omega) (by omega)
    rw [ha, Option.map_some, add2] at e2
    exact made2 b bt ((hE.all.below q).take hki) (by rw [List.length_take]; omega) (small_take hs _) e2 (by rw [List.length_drop]) (small_drop hsr _) rfl
  have HY : Hid ((∀ j, j < r.length → j < (es.drop k).length ∧ tOf (es.drop k) j = tOf r j) → es = es.take k ++ tailM (es.drop k) r) := fun q => join_all q
  have HCo : Hid (∀ wx, Below w.heap.size w wx → Calls Try.prog 15 #[.agg #[.int .i64 b, .int .i64 bt, .slice a es.length c]] wx (LogP b bt es wx)) := fun wx q => Copy_any _ b bt a c es wx (hE.below q) hs
  have HDD : Hid ((c = k → EnsV w (fun _ => True) a 0 (es.drop k)) ∧ (¬ c = k → EnsV w (fun _ => True) (Option.map (fun x => x.add (k * 2)) a) (c - k) (es.drop k))) := ⟨fun e => hE.all.drop0 hkl e, fun e => hE.all.dropN hkl e⟩
  have hfl : (es.drop k).length = es.length - k := List.length_drop
  generalize hjl : es.take k ++ tailM (es.drop k) r = jl at *
  generalize es.drop k = fs at *
  generalize r.length = n2 at *
  generalize es.length = n at *
  clear hE hs hR hsr hjl
  by_cases hck : c = k
  · have hnk : n = k := by omega
    have hf0 : fs.length = 0 := by omega
    have HCs : Hid True := trivial
    clear HDD
    have hck2 : c = n := by omega
    subst hck2
    subst hnk
    go_enter Try.func41, Try.ntmps41
    go_wp2
    go_loopw [19] (fun y wr => ∃ (i : Nat), i ≤ n2 ∧ y = .int .i64 i ∧ Hid (Below (w.heap.size + 1 + 1) ((w.alloc (.cells #[.int .i64 b, .int .i64 bt, .slice a c c] 24)).alloc (.cells #[.int .i64 0, .int .i64 0, .slice none 0 0] 24)) wr ∧ ∀ j, j < i → j < fs.length ∧ tOf fs j = tOf r j)) (fun y _ => n2 - (intOf y).toNat)
    case atStart => exact ⟨0, Nat.zero_le _, rfl, Below.refl _ _, fun j hj => absurd hj (Nat.not_lt_zero _)⟩
    case round =>
      obtain ⟨i, hi, rfl, HR⟩ := hrel
      obtain ⟨⟨⟨k0, k1, k2, k3⟩, ⟨k4, k5, k6, k7⟩⟩, kb⟩ := Bx2.at_ (w := w) (b := b) (bt := bt) (v := .slice a c c) (b' := 0) (bt' := 0) (v' := .slice none 0 0) HR.out.1
      have HB : Hid (Below w.heap.size w wr) := kb
      have HBx : Hid (Bx2 wr w.heap.size (w.heap.size + 1) b bt (.slice a c c) 0 0 (.slice none 0 0)) := (Bx2.at_ (w := w) (b := b) (bt := bt) (v := .slice a c c) (b' := 0) (bt' := 0) (v' := .slice none 0 0) HR.out.1).1
      have hs : w.heap.size + 1 < wr.heap.size := World.block_lt_of_cell? _ _ k4
      clear kb
      by_cases hlt : i < n2
      · obtain ⟨g, o, ka, kn, kc, ha2, x1, x2, x3⟩ := HCr.out i hlt
        subst ha2
        have y1 := (cell_kept (HB.out.block g x3) (o + i * 2)).trans x1
        have y2 := (cell_kept (HB.out.block g x3) (o + i * 2 + 1)).trans x2
        have y3 : g < wr.heap.size := Nat.lt_of_lt_of_le x3 HB.out.size
        have hc2i : ¬ c2 = i := by omega
        have hkt : (p - b + (i : Int)).toNat = c + i := by omega
        have HBN : Hid (∀ O m, Below (w.heap.size + 1 + 1) ((w.alloc (.cells #[.int .i64 b, .int .i64 bt, .slice a c c] 24)).alloc (.cells #[.int .i64 0, .int .i64 0, .slice none 0 0] 24)) ((wr.alloc O).drewN m)) := fun O m => below_drewN (HR.out.1.alloc (by omega) O) m
        have hil : i ≤ fs.length := Nat.le_of_not_lt fun q => Nat.lt_irrefl _ (HR.out.2 fs.length q).1
        have HMi := HMk.out i g o hlt rfl HR.out.2
        have hd : fs.length ≤ i ∨ tOf fs i ≠ tOf r i := .inl (by omega)
        have hz : i = 0 := by omega
        subst hz
        rw [Nat.zero_mul, Nat.add_zero] at y1 y2
        have HM0 : ∀ wx, Below w.heap.size w wx → Calls Try.prog 38 #[.int .i64 b, .int .i64 bt, .slice (some ⟨wx.heap.size, 0, none⟩) 2 2] (wx.alloc (.cells #[.slice a (c) c, .slice (some ⟨g, o, none⟩) (n2) (c2)] 22)) (LogP b bt jl wx) := by simpa using HMi hd (by omega)
        have HM : Hid (∀ wx, Below w.heap.size w wx → Calls Try.prog 38 #[.int .i64 b, .int .i64 bt, .slice (some ⟨wx.heap.size, 0, none⟩) 2 2] (wx.alloc (.cells #[.slice a (c) c, .slice (some ⟨g, o, none⟩) (n2) (c2)] 22)) (LogP b bt jl wx)) := HM0
        clear HM0
        have hb5 : 0 ≤ p - b := by omega
        have hb6 : p - b ≤ (c : Int) := by omega
        have hid : Option.map (fun x => x) a = a := by cases a <;> rfl
        have hw1 : IntKind.i64.wrap (p - b) = p - b := by rw [IntKind.wrap_i64]; omega
        clear HMk HMi HCr HIr HY HR HCo HCs hd
        generalize tOf r 0 = t at *
        go_wp2
        go_quiet (fail)
        have HW : Hid (Below (w.heap.size + 1 + 1) ((w.alloc (.cells #[.int .i64 b, .int .i64 bt, .slice a c c] 24)).alloc (.cells #[.int .i64 0, .int .i64 0, .slice none 0 0] 24)) ((wr.alloc (.cells #[.int .i64 t, .slice ka kn kc] 45)).drewN nq)) := HBN.out _ _
        obtain ⟨wq, hwq⟩ : ∃ wq, (wr.alloc (.cells #[.int .i64 t, .slice ka kn kc] 45)).drewN nq = wq := ⟨_, rfl⟩
        rw [hwq] at HW ⊢
        clear hwq k0 k1 k2 k3 k4 k5 k6 k7 x1 x2 y1 y2 HBN HBx HB
        obtain ⟨⟨⟨m0, m1, m2, m3⟩, ⟨m4, m5, m6, m7⟩⟩, _⟩ := Bx2.at_ (w := w) (b := b) (bt := bt) (v := .slice a c c) (b' := 0) (bt' := 0) (v' := .slice none 0 0) HW.out
        have HWd : Hid (Below (w.heap.size + 1 + 1) ((w.alloc (.cells #[.int .i64 b, .int .i64 bt, .slice a c c] 24)).alloc (.cells #[.int .i64 0, .int .i64 0, .slice none 0 0] 24)) wq.drew) := HW.out.drew
        go_wp2
        go_region_held3 (fun w' => w'.cell? ⟨w.heap.size, 0, none⟩ = some (.int .i64 b) ∧ w'.cell? ⟨w.heap.size, 1, none⟩ = some (.int .i64 bt) ∧ w'.cell? ⟨w.heap.size, 2, none⟩ = some (.slice a c c)) (go_keep) (first
          | (go_at_call 38; refine (HM.out _ (Bx2.at_ (w := w) (b := b) (bt := bt) (v := .slice a c c) (b' := 0) (bt' := 0) (v' := .slice none 0 0) HWd.out).2).mono ?_; rintro e w2 ⟨ra, rc, rfl, HE, HB2⟩; have H2 : Hid (EnsV w2 (fun g => wq.drew.heap.size ≤ g) ra rc jl ∧ Below wq.drew.heap.size wq.drew w2 ∧ Bx2 w2 w.heap.size (w.heap.size + 1) b bt (.slice a c c) 0 0 (.slice none 0 0)) := ⟨HE, HB2, (Bx2.at_ (w := w) (b := b) (bt := bt) (v := .slice a c c) (b' := 0) (bt' := 0) (v' := .slice none 0 0) HWd.out).1.below HB2⟩; obtain ⟨⟨z0, z1, z2, z3⟩, ⟨z4, z5, z6, z7⟩⟩ := H2.out.2.2; clear HE HB2))
        go_wp2
        obtain ⟨e0, e1, e2, _⟩ := boxed (w0 := w) (v0 := .int .i64 b) (v1 := .int .i64 bt) (v2 := .slice ra jl.length rc) H2.out.2.2.g
        exact bodyPost_ret (v := .agg #[.int .i64 b, .int .i64 bt, .slice ra jl.length rc]) (by simp [results, Try.results41, go_sem, e0, e1, e2]) rfl (LogP.box H2.out.1 H2.out.2.1 (Bx2.at_ (w := w) (b := b) (bt := bt) (v := .slice a c c) (b' := 0) (bt' := 0) (v' := .slice none 0 0) HWd.out).2 (Bx2.at_ (w := w) (b := b) (bt := bt) (v := .slice a c c) (b' := 0) (bt' := 0) (v' := .slice none 0 0) HWd.out).1.g (Nat.le_succ _))
      · have HJ : Hid (es = jl) := HY.out fun j hj => HR.out.2 j (by omega)
        have HCp : Hid (∀ wx, Below w.heap.size w wx → Calls Try.prog 15 #[.agg #[.int .i64 b, .int .i64 bt, .slice a c c]] wx (LogP b bt jl wx)) := fun wx q => HJ.out ▸ HCo.out wx q
        clear HMk HCr HIr HY HR HCo HCs
        go_wp2_with (go_at_call 15; refine (HCp.out _ HB.out).mono ?_; rintro e w2 ⟨ra, rc, rfl, HE, HB2⟩; have H2 : Hid (EnsV w2 (fun g => wr.heap.size ≤ g) ra rc jl ∧ Below wr.heap.size wr w2 ∧ Bx2 w2 w.heap.size (w.heap.size + 1) b bt (.slice a c c) 0 0 (.slice none 0 0)) := ⟨HE, HB2, HBx.out.below HB2⟩; obtain ⟨⟨z0, z1, z2, z3⟩, ⟨z4, z5, z6, z7⟩⟩ := H2.out.2.2; clear HE HB2)
        obtain ⟨e0, e1, e2, _⟩ := boxed (w0 := w) (v0 := .int .i64 b) (v1 := .int .i64 bt) (v2 := .slice ra jl.length rc) H2.out.2.2.g
        exact bodyPost_ret (v := .agg #[.int .i64 b, .int .i64 bt, .slice ra jl.length rc]) (by simp [results, Try.results41, go_sem, e0, e1, e2]) rfl (LogP.box H2.out.1 H2.out.2.1 HB.out HBx.out.g (Nat.le_succ _))
  · have HE0 := HDD.out.2 hck
    obtain ⟨sa, hsa⟩ : ∃ sa, Option.map (fun x => x.add (k * 2)) a = sa := ⟨_, rfl⟩
    rw [hsa] at HE0
    have HCs : Hid (∀ i, i < fs.length → ∃ g o, sa = some ⟨g, o, none⟩ ∧ w.cell? ⟨g, o + i * 2, none⟩ = some (.int .i64 (tOf fs i)) ∧ g < w.heap.size) := fun i hi => by
      obtain ⟨g, o, ka, kc, q1, q2, q3, q4, q5, q6, _⟩ := HE0.at_ hi
      exact ⟨g, o, q1, q2, q6⟩
    clear HDD HE0
    go_enter Try.func41, Try.ntmps41
    go_wp2
    go_loopw [19] (fun y wr => ∃ (i : Nat), i ≤ n2 ∧ y = .int .i64 i ∧ Hid (Below (w.heap.size + 1 + 1) ((w.alloc (.cells #[.int .i64 b, .int .i64 bt, .slice a n c] 24)).alloc (.cells #[.int .i64 0, .int .i64 0, .slice none 0 0] 24)) wr ∧ ∀ j, j < i → j < fs.length ∧ tOf fs j = tOf r j)) (fun y _ => n2 - (intOf y).toNat)
    case atStart => exact ⟨0, Nat.zero_le _, rfl, Below.refl _ _, fun j hj => absurd hj (Nat.not_lt_zero _)⟩
    case round =>
      obtain ⟨i, hi, rfl, HR⟩ := hrel
      obtain ⟨⟨⟨k0, k1, k2, k3⟩, ⟨k4, k5, k6, k7⟩⟩, kb⟩ := Bx2.at_ (w := w) (b := b) (bt := bt) (v := .slice a n c) (b' := 0) (bt' := 0) (v' := .slice none 0 0) HR.out.1
      have HB : Hid (Below w.heap.size w wr) := kb
      have HBx : Hid (Bx2 wr w.heap.size (w.heap.size + 1) b bt (.slice a n c) 0 0 (.slice none 0 0)) := (Bx2.at_ (w := w) (b := b) (bt := bt) (v := .slice a n c) (b' := 0) (bt' := 0) (v' := .slice none 0 0) HR.out.1).1
      have hs : w.heap.size + 1 < wr.heap.size := World.block_lt_of_cell? _ _ k4
      clear kb
      by_cases hlt : i < n2
      · obtain ⟨g, o, ka, kn, kc, ha2, x1, x2, x3⟩ := HCr.out i hlt
        subst ha2
        have y1 := (cell_kept (HB.out.block g x3) (o + i * 2)).trans x1
        have y2 := (cell_kept (HB.out.block g x3) (o + i * 2 + 1)).trans x2
        have y3 : g < wr.heap.size := Nat.lt_of_lt_of_le x3 HB.out.size
        have hc2i : ¬ c2 = i := by omega
        have hkt : (p - b + (i : Int)).toNat = k + i := by omega
        have HBN : Hid (∀ O m, Below (w.heap.size + 1 + 1) ((w.alloc (.cells #[.int .i64 b, .int .i64 bt, .slice a n c] 24)).alloc (.cells #[.int .i64 0, .int .i64 0, .slice none 0 0] 24)) ((wr.alloc O).drewN m)) := fun O m => below_drewN (HR.out.1.alloc (by omega) O) m
        have hil : i ≤ fs.length := Nat.le_of_not_lt fun q => Nat.lt_irrefl _ (HR.out.2 fs.length q).1
        have HMi := HMk.out i g o hlt rfl HR.out.2
        by_cases hd0 : i = fs.length
        · have hd : fs.length ≤ i ∨ tOf fs i ≠ tOf r i := .inl (by omega)
          have hz : ((i : Int) == ((n - k : Nat) : Int)) = true := by rw [beq_iff_eq]; omega
          have hkn : k + i ≤ n := by omega
          clear hd0
          have HM0 : ∀ wx, Below w.heap.size w wx → Calls Try.prog 38 #[.int .i64 b, .int .i64 bt, .slice (some ⟨wx.heap.size, 0, none⟩) 2 2] (wx.alloc (.cells #[.slice a (k + i) c, .slice (some ⟨g, o + i * 2, none⟩) (n2 - i) (c2 - i)] 22)) (LogP b bt jl wx) := by simpa using HMi hd (by omega)
          have HM : Hid (∀ wx, Below w.heap.size w wx → Calls Try.prog 38 #[.int .i64 b, .int .i64 bt, .slice (some ⟨wx.heap.size, 0, none⟩) 2 2] (wx.alloc (.cells #[.slice a (k + i) c, .slice (some ⟨g, o + i * 2, none⟩) (n2 - i) (c2 - i)] 22)) (LogP b bt jl wx)) := HM0
          clear HM0
          have hb5 : 0 ≤ p - b + (i : Int) := by omega
          have hb6 : p - b + (i : Int) ≤ (c : Int) := by omega
          have hid : Option.map (fun x => x) a = a := by cases a <;> rfl
          have hw1 : IntKind.i64.wrap (p - b) = p - b := by rw [IntKind.wrap_i64]; omega
          have hw2 : IntKind.i64.wrap (p - b + (i : Int)) = p - b + (i : Int) := by rw [IntKind.wrap_i64]; omega
          have hc0 : ¬ c = 0 := by omega
          have hc1 : ¬ c ≤ 0 := by omega
          have hb7 : (i : Int) ≤ (c2 : Int) := by omega
          clear HMk HMi HCr HIr HY HR HCo HCs hd
          generalize tOf r i = t at *
          go_wp2
          go_quiet (fail)
          have HW : Hid (Below (w.heap.size + 1 + 1) ((w.alloc (.cells #[.int .i64 b, .int .i64 bt, .slice a n c] 24)).alloc (.cells #[.int .i64 0, .int .i64 0, .slice none 0 0] 24)) ((wr.alloc (.cells #[.int .i64 t, .slice ka kn kc] 45)).drewN nq)) := HBN.out _ _
          obtain ⟨wq, hwq⟩ : ∃ wq, (wr.alloc (.cells #[.int .i64 t, .slice ka kn kc] 45)).drewN nq = wq := ⟨_, rfl⟩
          rw [hwq] at HW ⊢
          clear hwq k0 k1 k2 k3 k4 k5 k6 k7 x1 x2 y1 y2 HBN HBx HB
          obtain ⟨⟨⟨m0, m1, m2, m3⟩, ⟨m4, m5, m6, m7⟩⟩, _⟩ := Bx2.at_ (w := w) (b := b) (bt := bt) (v := .slice a n c) (b' := 0) (bt' := 0) (v' := .slice none 0 0) HW.out
          have HWd : Hid (Below (w.heap.size + 1 + 1) ((w.alloc (.cells #[.int .i64 b, .int .i64 bt, .slice a n c] 24)).alloc (.cells #[.int .i64 0, .int .i64 0, .slice none 0 0] 24)) wq.drew) := HW.out.drew
          go_wp2
          go_region_held3 (fun w' => w'.cell? ⟨w.heap.size, 0, none⟩ = some (.int .i64 b) ∧ w'.cell? ⟨w.heap.size, 1, none⟩ = some (.int .i64 bt) ∧ w'.cell? ⟨w.heap.size, 2, none⟩ = some (.slice a n c)) (go_keep) (first
            | (go_at_call 38; refine (HM.out _ (Bx2.at_ (w := w) (b := b) (bt := bt) (v := .slice a n c) (b' := 0) (bt' := 0) (v' := .slice none 0 0) HWd.out).2).mono ?_; rintro e w2 ⟨ra, rc, rfl, HE, HB2⟩; have H2 : Hid (EnsV w2 (fun g => wq.drew.heap.size ≤ g) ra rc jl ∧ Below wq.drew.heap.size wq.drew w2 ∧ Bx2 w2 w.heap.size (w.heap.size + 1) b bt (.slice a n c) 0 0 (.slice none 0 0)) := ⟨HE, HB2, (Bx2.at_ (w := w) (b := b) (bt := bt) (v := .slice a n c) (b' := 0) (bt' := 0) (v' := .slice none 0 0) HWd.out).1.below HB2⟩; obtain ⟨⟨z0, z1, z2, z3⟩, ⟨z4, z5, z6, z7⟩⟩ := H2.out.2.2; clear HE HB2))
          go_wp2
          obtain ⟨e0, e1, e2, _⟩ := boxed (w0 := w) (v0 := .int .i64 b) (v1 := .int .i64 bt) (v2 := .slice ra jl.length rc) H2.out.2.2.g
          exact bodyPost_ret (v := .agg #[.int .i64 b, .int .i64 bt, .slice ra jl.length rc]) (by simp [results, Try.results41, go_sem, e0, e1, e2]) rfl (LogP.box H2.out.1 H2.out.2.1 (Bx2.at_ (w := w) (b := b) (bt := bt) (v := .slice a n c) (b' := 0) (bt' := 0) (v' := .slice none 0 0) HWd.out).2 (Bx2.at_ (w := w) (b := b) (bt := bt) (v := .slice a n c) (b' := 0) (bt' := 0) (v' := .slice none 0 0) HWd.out).1.g (Nat.le_succ _))
        · have hz : ((i : Int) == ((n - k : Nat) : Int)) = false := by rw [beq_eq_false_iff_ne]; omega
          have hin : i < n - k := by omega
          clear hd0
          obtain ⟨g3, o3, hsa3, v1, v2⟩ := HCs.out i (by omega)
          subst hsa3
          have v4 := (cell_kept (HB.out.block g3 v2) (o3 + i * 2)).trans v1
          have v5 : g3 < wr.heap.size := Nat.lt_of_lt_of_le v2 HB.out.size
          by_cases hd1 : tOf fs i = tOf r i
          · have HQ : Hid (∀ j, j < i + 1 → j < fs.length ∧ tOf fs j = tOf r j) := fun j hj => by
              by_cases e : j = i
              · subst e; exact ⟨by omega, hd1⟩
              · exact HR.out.2 j (by omega)
            rw [hd1] at v1 v4
            clear HMk HMi HCr HIr HY HR HCo HCs hd1
            generalize tOf r i = t at *
            go_wp2
            go_quiet (fail)
            go_wp2
            go_roundw
            case rel => exact ⟨i + 1, by omega, by go_num, HBN.out _ _, HQ.out⟩
            case measure => simp [intOf]; omega
          · have hd : fs.length ≤ i ∨ tOf fs i ≠ tOf r i := .inr hd1
            have hz2 : (tOf fs i == tOf r i) = false := beq_eq_false_iff_ne.2 hd1
            have hz3 : (tOf fs i != tOf r i) = true := by rw [bne, hz2]; rfl
            have HM0 : ∀ wx, Below w.heap.size w wx → Calls Try.prog 38 #[.int .i64 b, .int .i64 bt, .slice (some ⟨wx.heap.size, 0, none⟩) 2 2] (wx.alloc (.cells #[.slice a (k + i) c, .slice (some ⟨g, o + i * 2, none⟩) (n2 - i) (c2 - i)] 22)) (LogP b bt jl wx) := by simpa using HMi hd (by omega)
            have HM : Hid (∀ wx, Below w.heap.size w wx → Calls Try.prog 38 #[.int .i64 b, .int .i64 bt, .slice (some ⟨wx.heap.size, 0, none⟩) 2 2] (wx.alloc (.cells #[.slice a (k + i) c, .slice (some ⟨g, o + i * 2, none⟩) (n2 - i) (c2 - i)] 22)) (LogP b bt jl wx)) := HM0
            clear HM0
            have hb5 : 0 ≤ p - b + (i : Int) := by omega
            have hb6 : p - b + (i : Int) ≤ (c : Int) := by omega
            have hid : Option.map (fun x => x) a = a := by cases a <;> rfl
            have hw1 : IntKind.i64.wrap (p - b) = p - b := by rw [IntKind.wrap_i64]; omega
            have hw2 : IntKind.i64.wrap (p - b + (i : Int)) = p - b + (i : Int) := by rw [IntKind.wrap_i64]; omega
            have hc0 : ¬ c = 0 := by omega
            have hc1 : ¬ c ≤ 0 := by omega
            have hb7 : (i : Int) ≤ (c2 : Int) := by omega
            clear HMk HMi HCr HIr HY HR HCo HCs hd
            generalize tOf r i = t at *
            go_wp2
            go_quiet (fail)
            have HW : Hid (Below (w.heap.size + 1 + 1) ((w.alloc (.cells #[.int .i64 b, .int .i64 bt, .slice a n c] 24)).alloc (.cells #[.int .i64 0, .int .i64 0, .slice none 0 0] 24)) ((wr.alloc (.cells #[.int .i64 t, .slice ka kn kc] 45)).drewN nq)) := HBN.out _ _
            obtain ⟨wq, hwq⟩ : ∃ wq, (wr.alloc (.cells #[.int .i64 t, .slice ka kn kc] 45)).drewN nq = wq := ⟨_, rfl⟩
            rw [hwq] at HW ⊢
            clear hwq k0 k1 k2 k3 k4 k5 k6 k7 x1 x2 y1 y2 HBN HBx HB
            obtain ⟨⟨⟨m0, m1, m2, m3⟩, ⟨m4, m5, m6, m7⟩⟩, _⟩ := Bx2.at_ (w := w) (b := b) (bt := bt) (v := .slice a n c) (b' := 0) (bt' := 0) (v' := .slice none 0 0) HW.out
            have HWd : Hid (Below (w.heap.size + 1 + 1) ((w.alloc (.cells #[.int .i64 b, .int .i64 bt, .slice a n c] 24)).alloc (.cells #[.int .i64 0, .int .i64 0, .slice none 0 0] 24)) wq.drew) := HW.out.drew
            go_wp2
            go_region_held3 (fun w' => w'.cell? ⟨w.heap.size, 0, none⟩ = some (.int .i64 b) ∧ w'.cell? ⟨w.heap.size, 1, none⟩ = some (.int .i64 bt) ∧ w'.cell? ⟨w.heap.size, 2, none⟩ = some (.slice a n c)) (go_keep) (first
              | (go_at_call 38; refine (HM.out _ (Bx2.at_ (w := w) (b := b) (bt := bt) (v := .slice a n c) (b' := 0) (bt' := 0) (v' := .slice none 0 0) HWd.out).2).mono ?_; rintro e w2 ⟨ra, rc, rfl, HE, HB2⟩; have H2 : Hid (EnsV w2 (fun g => wq.drew.heap.size ≤ g) ra rc jl ∧ Below wq.drew.heap.size wq.drew w2 ∧ Bx2 w2 w.heap.size (w.heap.size + 1) b bt (.slice a n c) 0 0 (.slice none 0 0)) := ⟨HE, HB2, (Bx2.at_ (w := w) (b := b) (bt := bt) (v := .slice a n c) (b' := 0) (bt' := 0) (v' := .slice none 0 0) HWd.out).1.below HB2⟩; obtain ⟨⟨z0, z1, z2, z3⟩, ⟨z4, z5, z6, z7⟩⟩ := H2.out.2.2; clear HE HB2))
            go_wp2
            obtain ⟨e0, e1, e2, _⟩ := boxed (w0 := w) (v0 := .int .i64 b) (v1 := .int .i64 bt) (v2 := .slice ra jl.length rc) H2.out.2.2.g
            exact bodyPost_ret (v := .agg #[.int .i64 b, .int .i64 bt, .slice ra jl.length rc]) (by simp [results, Try.results41, go_sem, e0, e1, e2]) rfl (LogP.box H2.out.1 H2.out.2.1 (Bx2.at_ (w := w) (b := b) (bt := bt) (v := .slice a n c) (b' := 0) (bt' := 0) (v' := .slice none 0 0) HWd.out).2 (Bx2.at_ (w := w) (b := b) (bt := bt) (v := .slice a n c) (b' := 0) (bt' := 0) (v' := .slice none 0 0) HWd.out).1.g (Nat.le_succ _))
      · have HJ : Hid (es = jl) := HY.out fun j hj => HR.out.2 j (by omega)
        have HCp : Hid (∀ wx, Below w.heap.size w wx → Calls Try.prog 15 #[.agg #[.int .i64 b, .int .i64 bt, .slice a n c]] wx (LogP b bt jl wx)) := fun wx q => HJ.out ▸ HCo.out wx q
        clear HMk HCr HIr HY HR HCo HCs
        go_wp2_with (go_at_call 15; refine (HCp.out _ HB.out).mono ?_; rintro e w2 ⟨ra, rc, rfl, HE, HB2⟩; have H2 : Hid (EnsV w2 (fun g => wr.heap.size ≤ g) ra rc jl ∧ Below wr.heap.size wr w2 ∧ Bx2 w2 w.heap.size (w.heap.size + 1) b bt (.slice a n c) 0 0 (.slice none 0 0)) := ⟨HE, HB2, HBx.out.below HB2⟩; obtain ⟨⟨z0, z1, z2, z3⟩, ⟨z4, z5, z6, z7⟩⟩ := H2.out.2.2; clear HE HB2)
        obtain ⟨e0, e1, e2, _⟩ := boxed (w0 := w) (v0 := .int .i64 b) (v1 := .int .i64 bt) (v2 := .slice ra jl.length rc) H2.out.2.2.g
        exact bodyPost_ret (v := .agg #[.int .i64 b, .int .i64 bt, .slice ra jl.length rc]) (by simp [results, Try.results41, go_sem, e0, e1, e2]) rfl (LogP.box H2.out.1 H2.out.2.1 HB.out HBx.out.g (Nat.le_succ _))
end Go.Proofs.Ytmpmbgjdbahmbaa
