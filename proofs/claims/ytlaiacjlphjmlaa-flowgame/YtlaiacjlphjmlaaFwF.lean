/-
  The program's begin: its contract.
-/
import Derived.Test.YtlaiacjlphjmlaaFwE
import Derived.Deep.OwnRows
namespace Go.Proofs.Ytlaiacjlphjmlaa
open Go.RowKit
set_option linter.unusedVariables false

theorem infoB : (Try.prog.info? 4).map (fun i => (i.zero, i.size, i.bytes)) = some (some (.bool false), 1, 1) := by kernel_rfl
theorem made_at (z : Value) (n i : Nat) (h : i < n) : (madeCells #[z] n)[i]? = some z := by
  have e : (madeCells #[z] n)[i]? = (madeCells #[z] n).toList[i]? := by simp
  rw [e, toList_madeCells_one, List.getElem?_replicate, if_pos h]
theorem rowN_new {W : World} {b n : Nat} (h : W.heap[b]? = some (.cells (madeCells #[.int .i64 0] n) 3 (0, 0))) : RowN W b (List.replicate n 0) := by
  refine ⟨fun i hi => ?_, fun i => by simp only [World.frozen?]; rw [h]; simp⟩
  have hi2 : i < n := by simpa using hi
  rw [cell_of_row _ _ _ _ 3 (0, 0) h, made_at _ _ _ hi2]
  simp [List.getD_eq_getElem?_getD, hi2]
theorem rowT_new {W : World} {b n : Nat} (h : W.heap[b]? = some (.cells (madeCells #[.bool false] n) 4 (0, 0))) : RowT W b (List.replicate n false) := by
  refine ⟨fun i hi => ?_, fun i => by simp only [World.frozen?]; rw [h]; simp⟩
  have hi2 : i < n := by simpa using hi
  rw [cell_of_row _ _ _ _ 4 (0, 0) h, made_at _ _ _ hi2]
  simp [List.getD_eq_getElem?_getD, hi2]
def Pos (b s : Nat) (o1 o2 o3 o4 o : Obj) : Prop := (b = s ∧ o1 = o) ∨ (b = s + 1 ∧ o2 = o) ∨ (b = s + 1 + 1 ∧ o3 = o) ∨ (b = s + 1 + 1 + 1 ∧ o4 = o)
theorem five_new (w : World) (o1 o2 o3 o4 o5 : Obj) :
    let W := (((((w.alloc o1).alloc o2).alloc o3).alloc o4).alloc o5).drew
    W.heap[w.heap.size]? = some o1 ∧ W.heap[w.heap.size + 1]? = some o2 ∧ W.heap[w.heap.size + 1 + 1]? = some o3 ∧ W.heap[w.heap.size + 1 + 1 + 1]? = some o4 ∧ W.heap[w.heap.size + 1 + 1 + 1 + 1]? = some o5 ∧ W.heap.size = w.heap.size + 1 + 1 + 1 + 1 + 1 ∧ Below w.heap.size w W := by
  have s1 := size_alloc w o1
  have s2 := size_alloc (w.alloc o1) o2
  have s3 := size_alloc ((w.alloc o1).alloc o2) o3
  have s4 := size_alloc (((w.alloc o1).alloc o2).alloc o3) o4
  have s5 := size_alloc ((((w.alloc o1).alloc o2).alloc o3).alloc o4) o5
  have a1 := heap_alloc_new w o1
  have a2 := heap_alloc_new (w.alloc o1) o2
  have a3 := heap_alloc_new ((w.alloc o1).alloc o2) o3
  have a4 := heap_alloc_new (((w.alloc o1).alloc o2).alloc o3) o4
  have a5 := heap_alloc_new ((((w.alloc o1).alloc o2).alloc o3).alloc o4) o5
  have k2 : ∀ g, g < (w.alloc o1).heap.size → ((w.alloc o1).alloc o2).heap[g]? = (w.alloc o1).heap[g]? := fun g hg => heap_alloc_old _ _ hg
  have k3 : ∀ g, g < ((w.alloc o1).alloc o2).heap.size → (((w.alloc o1).alloc o2).alloc o3).heap[g]? = ((w.alloc o1).alloc o2).heap[g]? := fun g hg => heap_alloc_old _ _ hg
  have k4 : ∀ g, g < (((w.alloc o1).alloc o2).alloc o3).heap.size → ((((w.alloc o1).alloc o2).alloc o3).alloc o4).heap[g]? = (((w.alloc o1).alloc o2).alloc o3).heap[g]? := fun g hg => heap_alloc_old _ _ hg
  have k5 : ∀ g, g < ((((w.alloc o1).alloc o2).alloc o3).alloc o4).heap.size → (((((w.alloc o1).alloc o2).alloc o3).alloc o4).alloc o5).heap[g]? = ((((w.alloc o1).alloc o2).alloc o3).alloc o4).heap[g]? := fun g hg => heap_alloc_old _ _ hg
  refine ⟨?_, ?_, ?_, ?_, ?_, ?_, ?_⟩
  · exact (k5 _ (by omega)).trans ((k4 _ (by omega)).trans ((k3 _ (by omega)).trans ((k2 _ (by omega)).trans a1)))
  · rw [s1] at a2; exact (k5 _ (by omega)).trans ((k4 _ (by omega)).trans ((k3 _ (by omega)).trans a2))
  · rw [s2, s1] at a3; exact (k5 _ (by omega)).trans ((k4 _ (by omega)).trans a3)
  · rw [s3, s2, s1] at a4; exact (k5 _ (by omega)).trans a4
  · rw [s4, s3, s2, s1] at a5; exact a5
  · show (((((w.alloc o1).alloc o2).alloc o3).alloc o4).alloc o5).heap.size = _
    omega
  · exact ((((((Below.refl _ _).alloc (Nat.le_refl _) _).alloc (by omega) _).alloc (by omega) _).alloc (by omega) _).alloc (by omega) _).drew
theorem pos_at {W : World} {b s : Nat} {o1 o2 o3 o4 o : Obj} (h : Pos b s o1 o2 o3 o4 o) (h1 : W.heap[s]? = some o1) (h2 : W.heap[s + 1]? = some o2) (h3 : W.heap[s + 1 + 1]? = some o3) (h4 : W.heap[s + 1 + 1 + 1]? = some o4) : W.heap[b]? = some o ∧ s ≤ b ∧ b < s + 1 + 1 + 1 + 1 := by
  rcases h with ⟨rfl, rfl⟩ | ⟨rfl, rfl⟩ | ⟨rfl, rfl⟩ | ⟨rfl, rfl⟩
  · exact ⟨h1, by omega, by omega⟩
  · exact ⟨h2, by omega, by omega⟩
  · exact ⟨h3, by omega, by omega⟩
  · exact ⟨h4, by omega, by omega⟩
theorem enter_new (w : World) (pa : Option Addr) (pc n : Nat) (o1 o2 o3 o4 : Obj) (fb db jb cb : Nat) (hn0 : 0 < n) (hn : n ≤ 4096)
    (h1 : Pos fb w.heap.size o1 o2 o3 o4 (.cells (madeCells #[.int .i64 0] n) 3)) (h2 : Pos db w.heap.size o1 o2 o3 o4 (.cells (madeCells #[.int .i64 0] n) 3)) (h3 : Pos jb w.heap.size o1 o2 o3 o4 (.cells (madeCells #[.int .i64 0] n) 3)) (h4 : Pos cb w.heap.size o1 o2 o3 o4 (.cells (madeCells #[.bool false] n) 4))
    (hne : fb ≠ db ∧ fb ≠ jb ∧ fb ≠ cb ∧ db ≠ jb ∧ db ≠ cb ∧ jb ≠ cb) :
    Calls Try.prog 31 #[.pointer (some ⟨w.heap.size + 1 + 1 + 1 + 1, 0, none⟩), .int .i64 0, .int .i64 0, .int .i64 0] (((((w.alloc o1).alloc o2).alloc o3).alloc o4).alloc (.cells #[.slice pa n pc, .slice (some ⟨fb, 0, none⟩) n n, .slice (some ⟨db, 0, none⟩) n n, .slice (some ⟨jb, 0, none⟩) n n, .slice (some ⟨cb, 0, none⟩) n n, .slice none 0 0] 59)).drew
      fun e w' => e = .returned (.tuple #[]) ∧ Wn w' w.heap.size (w.heap.size + 1 + 1 + 1 + 1 + 1) (w.heap.size + 1 + 1 + 1 + 1) fb db jb cb pa pc n (beginS n) ∧ Below w.heap.size w w' := by
  obtain ⟨a1, a2, a3, a4, a5, a6, a7⟩ := five_new w o1 o2 o3 o4 (.cells #[.slice pa n pc, .slice (some ⟨fb, 0, none⟩) n n, .slice (some ⟨db, 0, none⟩) n n, .slice (some ⟨jb, 0, none⟩) n n, .slice (some ⟨cb, 0, none⟩) n n, .slice none 0 0] 59)
  obtain ⟨f1, f2, f3⟩ := pos_at h1 a1 a2 a3 a4
  obtain ⟨d1, d2, d3⟩ := pos_at h2 a1 a2 a3 a4
  obtain ⟨j1, j2, j3⟩ := pos_at h3 a1 a2 a3 a4
  obtain ⟨c1, c2, c3⟩ := pos_at h4 a1 a2 a3 a4
  obtain ⟨n1, n2, n3, n4, n5, n6⟩ := hne
  have hW : Wk (((((w.alloc o1).alloc o2).alloc o3).alloc o4).alloc (.cells #[.slice pa n pc, .slice (some ⟨fb, 0, none⟩) n n, .slice (some ⟨db, 0, none⟩) n n, .slice (some ⟨jb, 0, none⟩) n n, .slice (some ⟨cb, 0, none⟩) n n, .slice none 0 0] 59)).drew w.heap.size (w.heap.size + 1 + 1 + 1 + 1 + 1) (w.heap.size + 1 + 1 + 1 + 1) fb db jb cb pa pc n (.slice none 0 0) (emptyS n) := by
    refine ⟨?_, ?_, ?_, ?_, ?_, ?_, fun i => ?_, rowN_new f1, rowN_new d1, rowN_new j1, rowT_new c1, Gw.nil _ _ _ _ _, ⟨by omega, f2, d2, j2, c2, by omega, by omega, by omega, by omega, by omega, by omega, by omega, by omega, by omega, n1, n2, n3, n4, n5, n6⟩, by rw [a6]; omega⟩
    iterate 6 (rw [cell_of_row _ _ _ _ 59 (0, 0) a5]; rfl)
    simp only [World.frozen?]; rw [a5]; simp
  have h0 : Fok n (emptyS n) := ⟨by simp [emptyS], by simp [emptyS], by simp [emptyS], by simp [emptyS], fun x hx => by rw [(List.mem_replicate.mp hx).2]; exact hn0, fun x hx => by rw [(List.mem_replicate.mp hx).2]; omega, fun x hx => by rw [(List.mem_replicate.mp hx).2]; exact hn0, fun x hx => by simp [emptyS] at hx, by simp [emptyS, List.count_replicate]⟩
  refine (enter_any _ _ _ fb db jb cb pa pc n (emptyS n) 0 0 0 _ ⟨⟨_, hW⟩, h0⟩ hn hn0 hn0 (by omega) (by simp [emptyS, List.getD_eq_getElem?_getD, List.getElem?_replicate]; split <;> rfl)).mono ?_
  rintro e w' ⟨rfl, q1, q2⟩
  exact ⟨rfl, q1, a7.trans q2⟩
set_option maxRecDepth 100000 in
set_option maxHeartbeats 4000000 in
theorem begin_any (pa : Option Addr) (pc n : Nat) (w : World) (hn0 : 0 < n) (hn : n ≤ 4096) (hpc : n ≤ pc) :
    Calls Try.prog 19 #[.slice pa n pc] w fun e w' => ∃ wb fb db jb cb B0, e = .returned (.pointer (some ⟨wb, 0, none⟩)) ∧ Wn w' w.heap.size B0 wb fb db jb cb pa pc n (beginS n) ∧ Below w.heap.size w w' := by
  have m1 : ∀ w : World, (Instr.makeSlice 27 (.int .i64 (n : Int)) (.int .i64 (n : Int))).run Try.prog w = .ok (.slice (some ⟨w.heap.size, 0, none⟩) n n) (w.alloc (.cells (madeCells #[.int .i64 0] n) 3)) := fun w => run_make_row' 27 3 (.int .i64 0) 8 Try.underlying27 infoI rfl .i64 .i64 n (by omega) (by omega) w
  have m2 : ∀ w : World, (Instr.makeSlice 57 (.int .i64 (n : Int)) (.int .i64 (n : Int))).run Try.prog w = .ok (.slice (some ⟨w.heap.size, 0, none⟩) n n) (w.alloc (.cells (madeCells #[.bool false] n) 4)) := fun w => run_make_row' 57 4 (.bool false) 1 Try.underlying57 infoB rfl .i64 .i64 n (by omega) (by omega) w
  have HE : Hid (∀ o1 o2 o3 o4 fb db jb cb, Pos fb w.heap.size o1 o2 o3 o4 (.cells (madeCells #[.int .i64 0] n) 3) → Pos db w.heap.size o1 o2 o3 o4 (.cells (madeCells #[.int .i64 0] n) 3) → Pos jb w.heap.size o1 o2 o3 o4 (.cells (madeCells #[.int .i64 0] n) 3) → Pos cb w.heap.size o1 o2 o3 o4 (.cells (madeCells #[.bool false] n) 4) → (fb ≠ db ∧ fb ≠ jb ∧ fb ≠ cb ∧ db ≠ jb ∧ db ≠ cb ∧ jb ≠ cb) → Calls Try.prog 31 #[.pointer (some ⟨w.heap.size + 1 + 1 + 1 + 1, 0, none⟩), .int .i64 0, .int .i64 0, .int .i64 0] (((((w.alloc o1).alloc o2).alloc o3).alloc o4).alloc (.cells #[.slice pa n pc, .slice (some ⟨fb, 0, none⟩) n n, .slice (some ⟨db, 0, none⟩) n n, .slice (some ⟨jb, 0, none⟩) n n, .slice (some ⟨cb, 0, none⟩) n n, .slice none 0 0] 59)).drew
      fun e w' => e = .returned (.tuple #[]) ∧ ∃ fb db jb cb, Wn w' w.heap.size (w.heap.size + 1 + 1 + 1 + 1 + 1) (w.heap.size + 1 + 1 + 1 + 1) fb db jb cb pa pc n (beginS n) ∧ Below w.heap.size w w') := fun o1 o2 o3 o4 fb db jb cb q1 q2 q3 q4 q5 => (enter_new w pa pc n o1 o2 o3 o4 fb db jb cb hn0 hn q1 q2 q3 q4 q5).mono fun e w' q => ⟨q.1, fb, db, jb, cb, q.2⟩
  have hne : ∀ {b s : Nat} {o1 o2 o3 o4 o : Obj}, True := fun {_ _ _ _ _ _ _} => True.intro
  clear hne
  generalize hZ1 : madeCells #[Value.int .i64 0] n = Z1 at *
  generalize hZ2 : madeCells #[Value.bool false] n = Z2 at *
  clear hZ1 hZ2
  go_enter Try.func19, Try.ntmps19
  go_wp2
  go_region
  all_goals go_wp2_with (go_at_call 31; refine (HE.out _ _ _ _ _ _ _ _ (by first | exact .inl ⟨rfl, rfl⟩ | exact .inr (.inl ⟨rfl, rfl⟩) | exact .inr (.inr (.inl ⟨rfl, rfl⟩)) | exact .inr (.inr (.inr ⟨rfl, rfl⟩))) (by first | exact .inl ⟨rfl, rfl⟩ | exact .inr (.inl ⟨rfl, rfl⟩) | exact .inr (.inr (.inl ⟨rfl, rfl⟩)) | exact .inr (.inr (.inr ⟨rfl, rfl⟩))) (by first | exact .inl ⟨rfl, rfl⟩ | exact .inr (.inl ⟨rfl, rfl⟩) | exact .inr (.inr (.inl ⟨rfl, rfl⟩)) | exact .inr (.inr (.inr ⟨rfl, rfl⟩))) (by first | exact .inl ⟨rfl, rfl⟩ | exact .inr (.inl ⟨rfl, rfl⟩) | exact .inr (.inr (.inl ⟨rfl, rfl⟩)) | exact .inr (.inr (.inr ⟨rfl, rfl⟩))) (by omega)).mono ?_; rintro e w2 ⟨rfl, fb, db, jb, cb, q1, q2⟩; have HQ : Hid (Wn w2 w.heap.size (w.heap.size + 1 + 1 + 1 + 1 + 1) (w.heap.size + 1 + 1 + 1 + 1) fb db jb cb pa pc n (beginS n) ∧ Below w.heap.size w w2) := ⟨q1, q2⟩; clear q1 q2)
  all_goals (
    go_ret
    exact ⟨_, fb, db, jb, cb, _, rfl, HQ.out.1, HQ.out.2⟩)
end Go.Proofs.Ytlaiacjlphjmlaa
