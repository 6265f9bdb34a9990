/-
  The reader's small methods: contracts.
-/
import Derived.Test.YtlfeejjlcclbdaaGreatDoorMem
import Derived.Test.YtlfeejjlcclbdaaGreatDoorSmall
namespace Go.Proofs.YtlfeejjlcclbdaaGreatDoor
open Go.RowKit
set_option linter.unusedVariables false


def headW (en : Nat) : List W → W
  | [] => ⟨0, [], 0, en⟩
  | x :: _ => x
def wordV (x : W) : Value := .agg #[.int .i64 x.kind, .string (ba x.text), .int .i64 x.n, .int .i64 x.pos]
theorem atW_head (en : Nat) (ws : List W) : atW en ws = (headW en ws).pos := by cases ws <;> rfl
theorem rd_pass {w : World} {rb en : Nat} {x : W} {ws : List W} (h : Rd w rb en (x :: ws)) {a : Option Addr} {cap : Nat} (hw : WsAt w rb a ws) (hc : ws.length ≤ cap) :
    Rd (w.setCell ⟨rb, 0, none⟩ (.slice a ws.length cap)) rb en ws := by
  obtain ⟨a0, cap0, h1, h2, h4⟩ := h.cells
  refine ⟨⟨a, cap, World.cell?_setCell_same' _ _ _ (by rw [h1]; rfl), hc, hw.fr ((Fr.refl rb w).setCell (.inl rfl) _)⟩, ?_, fun i => ?_, fun y hy => h.ok y (List.mem_cons_of_mem _ hy), ?_⟩
  · rw [World.cell?_setCell_other _ _ _ _ (by simp)]; exact h.last
  · rw [World.frozen?_setCell]; exact h.free i
  · have := h.len; simp at this; omega
set_option maxRecDepth 100000 in
set_option maxHeartbeats 400000 in
theorem word_any (rb en : Nat) (ws : List W) (w : World) (HR : Hid (Rd w rb en ws)) :
    Calls Tryz.prog 55 #[.pointer (some ⟨rb, 0, none⟩)] w fun e w' => e = .returned (wordV (headW en ws)) ∧ Below w.heap.size w w' := by
  obtain ⟨a, cap, hc, hcap, hw⟩ := HR.out.cells
  have h1 := HR.out.last
  have hlt : rb < w.heap.size := HR.out.lt
  have hlen := HR.out.len
  cases ws with
  | nil =>
    clear HR
    go_enter Tryz.func55, Tryz.ntmps55
    go_wp2
    refine bodyPost_ret (v := wordV _) (by unfold wordV; simp [results, Tryz.results55, go_sem]; exact ⟨rfl, rfl, rfl, rfl⟩) rfl ⟨rfl, (Below.refl _ _).alloc (Nat.le_refl _) _⟩
  | cons x r =>
    obtain ⟨b, o, rfl, hb, hx, hr⟩ := hw
    obtain ⟨x0, x1, x2, x3⟩ := hx
    clear HR hr
    have hb2 : b < w.heap.size := by omega
    go_enter Tryz.func55, Tryz.ntmps55
    go_wp2
    refine bodyPost_ret (v := wordV x) (by unfold wordV; simp [results, Tryz.results55, go_sem]) rfl ⟨rfl, (Below.refl _ _).alloc (Nat.le_refl _) _⟩
set_option maxRecDepth 100000 in
set_option maxHeartbeats 400000 in
theorem pass_any (rb en : Nat) (x : W) (ws : List W) (w : World) (HR : Hid (Rd w rb en (x :: ws))) :
    Calls Tryz.prog 54 #[.pointer (some ⟨rb, 0, none⟩)] w fun e w' => e = .returned (.tuple #[]) ∧ Rd w' rb en ws ∧ Fr rb w w' := by
  obtain ⟨a, cap, hc, hcap, hw⟩ := HR.out.cells
  have h1 := HR.out.last
  have hlt : rb < w.heap.size := HR.out.lt
  have hlen := HR.out.len
  have hfr := HR.out.free 0
  obtain ⟨b, o, rfl, hb, hx, hr⟩ := hw
  have HW : Hid (WsAt w rb (some ⟨b, o + 4, none⟩) ws) := hr
  clear hr hx
  go_enter Tryz.func54, Tryz.ntmps54
  go_wp2
  · have h0 : ws = [] := by
      cases ws with
      | nil => rfl
      | cons _ _ => exfalso; simp only [List.length_cons] at *; omega
    subst h0
    go_end0
    exact ⟨rfl, rd_pass HR.out True.intro (Nat.le_refl _), (Fr.refl _ _).setCell (p := ⟨rb, 0, none⟩) (.inl rfl) _⟩
  · go_end0
    exact ⟨rfl, rd_pass HR.out HW.out (by simp at hcap; omega), (Fr.refl _ _).setCell (p := ⟨rb, 0, none⟩) (.inl rfl) _⟩
theorem fieldW3 (k n p : Int) (t : ByteArray) (w : World) : (Instr.field 57 (.agg #[.int .i64 k, .string t, .int .i64 n, .int .i64 p]) 3).run Tryz.prog w = .ok (.int .i64 p) w := by kernel_rfl
theorem fieldW1 (k n p : Int) (t : ByteArray) (w : World) : (Instr.field 57 (.agg #[.int .i64 k, .string t, .int .i64 n, .int .i64 p]) 1).run Tryz.prog w = .ok (.string t) w := by kernel_rfl
set_option maxRecDepth 100000 in
set_option maxHeartbeats 400000 in
theorem throw_any (rb en x : Nat) (ws : List W) (w : World) (HR : Hid (Rd w rb en ws)) :
    Calls Tryz.prog 37 #[.pointer (some ⟨rb, 0, none⟩), .int .i64 x] w fun e w' => e = .panicked [{ v := .iface 33 (.agg #[.int .i64 x, .int .i64 (atW en ws)]), recovered := false }] ∧ Below w.heap.size w w' := by
  rw [atW_head]
  have HC : Hid (∀ w, Rd w rb en ws → Calls Tryz.prog 55 #[.pointer (some ⟨rb, 0, none⟩)] w fun e w' => e = .returned (wordV (headW en ws)) ∧ Below w.heap.size w w') := fun w h => word_any rb en ws w h
  generalize headW en ws = y at *
  unfold wordV at HC
  have hfd := fieldW3
  go_enter Tryz.func37, Tryz.ntmps37
  go_wp2_with (go_at_call 55; refine (HC.out _ HR.out).mono ?_; rintro e w1 ⟨rfl, HB⟩)
  refine ⟨rfl, rfl, HB⟩
end Go.Proofs.YtlfeejjlcclbdaaGreatDoor
