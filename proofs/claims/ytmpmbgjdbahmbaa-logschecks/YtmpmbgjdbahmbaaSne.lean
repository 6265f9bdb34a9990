/-
  logs.Same: logs that begin elsewhere.
-/
import Derived.Test.YtmpmbgjdbahmbaaSme
namespace Go.Proofs.Ytmpmbgjdbahmbaa
open Go.RowKit
set_option linter.unusedVariables false
set_option linter.unusedSimpArgs false

set_option maxRecDepth 100000 in
set_option maxHeartbeats 1200000 in
theorem Same_ne (b bt b' bt' : Int) (a a2 : Option Addr) (c c2 : Nat) (x y : Nat) (w : World) (e1 : ¬ (b = b' ∧ bt = bt')) : Calls Try.prog 13 #[.agg #[.int .i64 b, .int .i64 bt, .slice a x c], .agg #[.int .i64 b', .int .i64 bt', .slice a2 y c2]] w fun e w' => e = .returned (.bool false) ∧ Below w.heap.size w w' := by
  have e3 : ((b == b') && (bt == bt')) = false := by
    cases h : ((b == b') && (bt == bt')) with
    | false => rfl
    | true => simp at h; exact absurd h e1
  have q55 : ∀ w, (Op.equalIn 10000 55 (.agg #[.int .i64 b, .int .i64 bt]) (.agg #[.int .i64 b', .int .i64 bt'])).run Try.prog w = .ok false w := fun w => by rw [eq55, e3]
  have g55 := guard55
  clear e1 e3
  have HBg : Hid (∀ (z1 z2 : Int) (a0 : Option Addr) (n0 c0 : Nat) (wx : World), Below (w.heap.size + 1 + 1) ((w.alloc (.cells #[.int .i64 b, .int .i64 bt, .slice a x c] 24)).alloc (.cells #[.int .i64 b', .int .i64 bt', .slice a2 y c2] 24)) wx → Calls Try.prog 36 #[.agg #[.int .i64 z1, .int .i64 z2, .slice a0 n0 c0]] wx fun e w' => e = .returned (.agg #[.int .i64 z1, .int .i64 z2]) ∧ Below (w.heap.size + 1 + 1) ((w.alloc (.cells #[.int .i64 b, .int .i64 bt, .slice a x c] 24)).alloc (.cells #[.int .i64 b', .int .i64 bt', .slice a2 y c2] 24)) w') := fun z1 z2 a0 n0 c0 wx q => (begin_any z1 z2 a0 n0 c0 wx).mono fun e w' q2 => ⟨q2.1, q.trans (q2.2.mono (by have := q.size; rw [size_alloc, size_alloc] at this; omega))⟩
  go_enter Try.func13, Try.ntmps13
  go_wp2
  refine wp_region_held_drew (S := (fun w' => w'.cell? ⟨w.heap.size, 0, none⟩ = some (.int .i64 b) ∧ w'.cell? ⟨w.heap.size, 1, none⟩ = some (.int .i64 bt) ∧ w'.cell? ⟨w.heap.size, 2, none⟩ = some (.slice a x c) ∧ w'.cell? ⟨w.heap.size + 1, 0, none⟩ = some (.int .i64 b') ∧ w'.cell? ⟨w.heap.size + 1, 1, none⟩ = some (.int .i64 bt') ∧ w'.cell? ⟨w.heap.size + 1, 2, none⟩ = some (.slice a2 y c2))) (by kernel_rfl) (by (try dsimp only); go_keep) (fun hHeld => ?_)
  refine wpAnyH_take (i := 0) (oi := { dst := some 7, op := Op.load 24 (Operand.tmp 2), type := 24, pos := "logs.go:152", after := #[], guard := none }) (v := (.agg #[.int .i64 b, .int .i64 bt, .slice a x c])) rfl (by kernel_rfl) (by kernel_rfl) (by kernel_rfl) (fun _ _ _ h => h) (Or.inl ⟨by rfl, ?_⟩) hHeld ?_
  · intro w hSw; (try dsimp only at hSw); go_simp
  try simp only [Act.put, List.setIfInBounds_toArray, List.set_cons_zero, List.set_cons_succ]
  refine wpAnyH_take (i := 2) (oi := { dst := some 9, op := Op.load 24 (Operand.tmp 3), type := 24, pos := "logs.go:152", after := #[], guard := none }) (v := (.agg #[.int .i64 b', .int .i64 bt', .slice a2 y c2])) rfl (by kernel_rfl) (by kernel_rfl) (by kernel_rfl) (fun _ _ _ h => h) (Or.inl ⟨by rfl, ?_⟩) hHeld ?_
  · intro w hSw; (try dsimp only at hSw); go_simp
  try simp only [Act.put, List.setIfInBounds_toArray, List.set_cons_zero, List.set_cons_succ]
  refine wpAnyH_ready (rs := [1]) (by kernel_rfl) (by simp) ?_
  refine AllReadyH.cons (o := { dst := some 8, op := Op.call { callee := Callee.value (Operand.func 36), args := #[Operand.tmp 7], argTypes := #[24] }, type := 55, pos := "logs.go:152", after := #[{ on := 0, ground := Ground.data }], guard := none }) rfl (fun K hK => ?_) AllReadyH.nil
  go_simp
  (go_at_call 36; refine (HBg.out _ _ _ _ _ _ (Below.refl _ _).drew).mono ?_; rintro e w4 ⟨rfl, HB⟩; have HC : Hid (Below (w.heap.size + 1 + 1) ((w.alloc (.cells #[.int .i64 b, .int .i64 bt, .slice a x c] 24)).alloc (.cells #[.int .i64 b', .int .i64 bt', .slice a2 y c2] 24)) w4) := HB; obtain ⟨⟨⟨k0, k1, k2, k3⟩, ⟨k4, k5, k6, k7⟩⟩, _⟩ := Bx2.at_ HB; clear HB)
  go_wp2_with fail
  clear hHeld
  refine hK.out _ _ ⟨k0, k1, k2, k4, k5, k6⟩ (fun hHeld => ?_)
  clear hK K
  try simp only [Act.put, List.setIfInBounds_toArray, List.set_cons_zero, List.set_cons_succ]
  refine wpAnyH_ready (rs := [3]) (by kernel_rfl) (by simp) ?_
  refine AllReadyH.cons (o := { dst := some 10, op := Op.call { callee := Callee.value (Operand.func 36), args := #[Operand.tmp 9], argTypes := #[24] }, type := 55, pos := "logs.go:152", after := #[{ on := 2, ground := Ground.data }, { on := 1, ground := Ground.chain }], guard := none }) rfl (fun K hK => ?_) AllReadyH.nil
  go_simp
  (go_at_call 36; refine (HBg.out _ _ _ _ _ _ HC.out).mono ?_; rintro e w5 ⟨rfl, HB⟩; have HD : Hid (Below (w.heap.size + 1 + 1) ((w.alloc (.cells #[.int .i64 b, .int .i64 bt, .slice a x c] 24)).alloc (.cells #[.int .i64 b', .int .i64 bt', .slice a2 y c2] 24)) w5) := HB; obtain ⟨⟨⟨j0, j1, j2, j3⟩, ⟨j4, j5, j6, j7⟩⟩, _⟩ := Bx2.at_ HB; clear HB)
  go_wp2_with fail
  clear hHeld
  refine hK.out _ _ ⟨j0, j1, j2, j4, j5, j6⟩ (fun hHeld => ?_)
  clear hK K
  try simp only [Act.put, List.setIfInBounds_toArray, List.set_cons_zero, List.set_cons_succ]
  refine wpAnyH_take (i := 4) (oi := { dst := some 11, op := Op.binOp BinOp.neq 55 (Operand.tmp 8) (Operand.tmp 10) 55, type := 4, pos := "logs.go:152", after := #[{ on := 1, ground := Ground.data }, { on := 3, ground := Ground.data }], guard := none }) (v := (.bool true)) rfl (by kernel_rfl) (by kernel_rfl) (by kernel_rfl) (fun _ _ _ h => h) (Or.inl ⟨by rfl, ?_⟩) hHeld ?_
  · intro w hSw; (try dsimp only at hSw); go_simp
  try simp only [Act.put, List.setIfInBounds_toArray, List.set_cons_zero, List.set_cons_succ]
  refine wpAnyH_take (i := 5) (oi := { dst := some 12, op := Op.move (Operand.tmp 11), type := 4, pos := "logs.go:152", after := #[{ on := 4, ground := Ground.data }, { on := 3, ground := Ground.chain }], guard := none }) (v := (.bool true)) rfl (by kernel_rfl) (by kernel_rfl) (by kernel_rfl) (fun _ _ _ h => h) (Or.inl ⟨by rfl, ?_⟩) hHeld ?_
  · intro w hSw; (try dsimp only at hSw); go_simp
  try simp only [Act.put, List.setIfInBounds_toArray, List.set_cons_zero, List.set_cons_succ]
  refine wpAnyH_take (i := 6) (oi := { dst := some 13, op := Op.fieldAddr 24 (Operand.tmp 2) 2, type := 0, pos := "logs.go:152", after := #[{ on := 5, ground := Ground.guard }], guard := some (5, false) }) (v := undef) rfl (by kernel_rfl) (by kernel_rfl) (by kernel_rfl) (fun _ _ _ h => h) (Or.inr ⟨by rfl, rfl⟩) hHeld ?_
  try simp only [Act.put, List.setIfInBounds_toArray, List.set_cons_zero, List.set_cons_succ]
  refine wpAnyH_take (i := 7) (oi := { dst := some 14, op := Op.load 22 (Operand.tmp 13), type := 22, pos := "logs.go:152", after := #[{ on := 6, ground := Ground.data }, { on := 5, ground := Ground.guard }], guard := some (5, false) }) (v := undef) rfl (by kernel_rfl) (by kernel_rfl) (by kernel_rfl) (fun _ _ _ h => h) (Or.inr ⟨by rfl, rfl⟩) hHeld ?_
  try simp only [Act.put, List.setIfInBounds_toArray, List.set_cons_zero, List.set_cons_succ]
  refine wpAnyH_take (i := 8) (oi := { dst := some 15, op := Op.call { callee := Callee.builtin Builtin.len, args := #[Operand.tmp 14], argTypes := #[22] }, type := 3, pos := "logs.go:152", after := #[{ on := 7, ground := Ground.data }, { on := 5, ground := Ground.guard }], guard := some (5, false) }) (v := undef) rfl (by kernel_rfl) (by kernel_rfl) (by kernel_rfl) (fun _ _ _ h => h) (Or.inr ⟨by rfl, rfl⟩) hHeld ?_
  try simp only [Act.put, List.setIfInBounds_toArray, List.set_cons_zero, List.set_cons_succ]
  refine wpAnyH_take (i := 9) (oi := { dst := some 16, op := Op.fieldAddr 24 (Operand.tmp 3) 2, type := 0, pos := "logs.go:152", after := #[{ on := 5, ground := Ground.guard }], guard := some (5, false) }) (v := undef) rfl (by kernel_rfl) (by kernel_rfl) (by kernel_rfl) (fun _ _ _ h => h) (Or.inr ⟨by rfl, rfl⟩) hHeld ?_
  try simp only [Act.put, List.setIfInBounds_toArray, List.set_cons_zero, List.set_cons_succ]
  refine wpAnyH_take (i := 10) (oi := { dst := some 17, op := Op.load 22 (Operand.tmp 16), type := 22, pos := "logs.go:152", after := #[{ on := 9, ground := Ground.data }, { on := 5, ground := Ground.guard }], guard := some (5, false) }) (v := undef) rfl (by kernel_rfl) (by kernel_rfl) (by kernel_rfl) (fun _ _ _ h => h) (Or.inr ⟨by rfl, rfl⟩) hHeld ?_
  try simp only [Act.put, List.setIfInBounds_toArray, List.set_cons_zero, List.set_cons_succ]
  refine wpAnyH_take (i := 11) (oi := { dst := some 18, op := Op.call { callee := Callee.builtin Builtin.len, args := #[Operand.tmp 17], argTypes := #[22] }, type := 3, pos := "logs.go:152", after := #[{ on := 10, ground := Ground.data }, { on := 5, ground := Ground.guard }], guard := some (5, false) }) (v := undef) rfl (by kernel_rfl) (by kernel_rfl) (by kernel_rfl) (fun _ _ _ h => h) (Or.inr ⟨by rfl, rfl⟩) hHeld ?_
  try simp only [Act.put, List.setIfInBounds_toArray, List.set_cons_zero, List.set_cons_succ]
  refine wpAnyH_take (i := 12) (oi := { dst := some 19, op := Op.binOp BinOp.neq 3 (Operand.tmp 15) (Operand.tmp 18) 3, type := 4, pos := "logs.go:152", after := #[{ on := 8, ground := Ground.data }, { on := 11, ground := Ground.data }, { on := 5, ground := Ground.guard }], guard := some (5, false) }) (v := undef) rfl (by kernel_rfl) (by kernel_rfl) (by kernel_rfl) (fun _ _ _ h => h) (Or.inr ⟨by rfl, rfl⟩) hHeld ?_
  try simp only [Act.put, List.setIfInBounds_toArray, List.set_cons_zero, List.set_cons_succ]
  refine wpAnyH_take (i := 13) (oi := { dst := some 20, op := Op.pick (Operand.tmp 12) (Operand.const (Value.bool true)) (Operand.tmp 19), type := 4, pos := "logs.go:152", after := #[{ on := 5, ground := Ground.data }, { on := 12, ground := Ground.data }], guard := none }) (v := (.bool true)) rfl (by kernel_rfl) (by kernel_rfl) (by kernel_rfl) (fun _ _ _ h => h) (Or.inl ⟨by rfl, ?_⟩) hHeld ?_
  · intro w hSw; (try dsimp only at hSw); go_simp
  try simp only [Act.put, List.setIfInBounds_toArray, List.set_cons_zero, List.set_cons_succ]
  refine wpAnyH_done (by kernel_rfl) ?_ _
  go_wp2
  go_ret
  exact ⟨rfl, (Bx2.at_ HD.out).2⟩
end Go.Proofs.Ytmpmbgjdbahmbaa
