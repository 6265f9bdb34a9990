/-
  Parse: the closure that recovers, and the face: contracts.
-/
import Derived.Test.YtlfeejjlcclbdaaGreatDoorSide
import Derived.Test.YtlfeejjlcclbdaaGreatDoorCheck
import Derived.Test.YtlfeejjlcclbdaaGreatDoorSplit
import Derived.Test.YtlfeejjlcclbdaaGreatDoorWordy
import Derived.Defers
import Derived.Recover
namespace Go.Proofs.YtlfeejjlcclbdaaGreatDoor
open Go.RowKit
set_option linter.unusedVariables false


/-- The cells of what is told: the tree's four and the fault's two. -/
structure Two (w : World) (b : Nat) : Prop where
  x : Zero4 w b
  f0 : w.cell? ⟨b + 1, 0, none⟩ = some (.int .i64 0)
  f1 : w.cell? ⟨b + 1, 1, none⟩ = some (.int .i64 0)
  ff : ∀ i, w.frozen? ⟨b + 1, i, none⟩ = false
theorem assert_fault (x p : Int) (w : World) : (Instr.typeAssert (.iface 33 (.agg #[.int .i64 x, .int .i64 p])) 20 33 false).run Tryz.prog w = .ok (.agg #[.int .i64 x, .int .i64 p]) w := by kernel_rfl
set_option maxRecDepth 100000 in
theorem catch_panicking (b : Nat) (x p : Int) (older : List PanicEntry) (w : World) (h : Two w b) :
    CallsD Tryz.prog 21 #[.pointer (some ⟨b, 0, none⟩), .pointer (some ⟨b + 1, 0, none⟩)] (.panicking ({ v := .iface 33 (.agg #[.int .i64 x, .int .i64 p]), recovered := false } :: older)) w fun e u' w' =>
      e = .returned (.tuple #[]) ∧ u' = .panicking ({ v := .iface 33 (.agg #[.int .i64 x, .int .i64 p]), recovered := true } :: older) ∧
        w' = ((((((w.setCell ⟨b, 0, none⟩ (.int .i64 0)).setCell ⟨b, 1, none⟩ (.int .i64 0)).setCell ⟨b, 2, none⟩ (.string ⟨#[]⟩)).setCell ⟨b, 3, none⟩ (.slice none 0 0)).setCell ⟨b + 1, 0, none⟩ (.int .i64 x)).setCell ⟨b + 1, 1, none⟩ (.int .i64 p)).drew := by
  obtain ⟨⟨c0, c1, c2, c3, c4⟩, f0, f1, ff⟩ := h
  refine callsD_of_wpS Tryz.func21 rfl fun c₀ cs hu => ?_
  apply wpS_seq
  apply wpS_region
  simp [wpOpsS, go_sem, recoverD, hu, Tryz.ntmps21, Exit.thenS]
  refine wpS_of_wp ?_
  rw [show (#[Value.pointer (some ⟨b, 0, none⟩), .pointer (some ⟨b + 1, 0, none⟩)] ++ ((Array.replicate 7 undef).setIfInBounds 1 (Value.iface 33 (.agg #[.int .i64 x, .int .i64 p]))).setIfInBounds 0 (Value.iface 33 (.agg #[.int .i64 x, .int .i64 p]))) = #[Value.pointer (some ⟨b, 0, none⟩), .pointer (some ⟨b + 1, 0, none⟩), Value.iface 33 (.agg #[.int .i64 x, .int .i64 p]), Value.iface 33 (.agg #[.int .i64 x, .int .i64 p]), undef, undef, undef, undef, undef] from rfl]
  have hta := assert_fault
  go_wp2
  go_region
  all_goals go_wp2
  exact ⟨rfl, _, rfl, .tuple #[], by simp [results, Tryz.results21, go_sem], rfl, rfl, rfl⟩
set_option maxRecDepth 100000 in
theorem catch_idle (b : Nat) (w : World) :
    CallsD Tryz.prog 21 #[.pointer (some ⟨b, 0, none⟩), .pointer (some ⟨b + 1, 0, none⟩)] .returning w fun e u' w' => e = .returned (.tuple #[]) ∧ u' = .returning ∧ w' = w := by
  refine callsD_of_wpS Tryz.func21 rfl fun c₀ cs hu => ?_
  apply wpS_seq
  apply wpS_region
  simp [wpOpsS, go_sem, recoverD, hu, Tryz.ntmps21, Exit.thenS]
  refine wpS_of_wp ?_
  rw [show (#[Value.pointer (some ⟨b, 0, none⟩), .pointer (some ⟨b + 1, 0, none⟩)] ++ ((Array.replicate 7 undef).setIfInBounds 1 Value.nilIface).setIfInBounds 0 Value.nilIface) = #[Value.pointer (some ⟨b, 0, none⟩), .pointer (some ⟨b + 1, 0, none⟩), Value.nilIface, Value.nilIface, undef, undef, undef, undef, undef] from rfl]
  go_wp2
  exact ⟨rfl, .returning, by rw [← hu], .tuple #[], by simp [results, Tryz.results21, go_sem], rfl, rfl, rfl⟩
theorem two_new (w : World) : Two ((w.alloc zeroObj).alloc (.cells #[.int .i64 0, .int .i64 0] 33)) w.heap.size := by
  have k := heap_alloc_new (w.alloc zeroObj) (.cells #[.int .i64 0, .int .i64 0] 33)
  rw [size_alloc] at k
  refine ⟨(Cell4.new w _ _ _ _ 24).alloc _, ?_, ?_, fun i => by simp only [World.frozen?]; rw [k]; simp⟩ <;> (rw [cell_of_row _ _ _ _ 33 (0, 0) k]; rfl)
theorem Two.fr {w w' : World} {b rb : Nat} (h : Two w b) (hf : Fr rb w w') (hb : b + 1 < rb) : Two w' b := by
  have hl : b + 1 < w.heap.size := World.block_lt_of_cell? w _ h.f0
  exact ⟨h.x.fr hf (by omega), hf.cell (by omega) h.f0, hf.cell (by omega) h.f1, fun i => (hf.frozen (by omega) hl).trans (h.ff i)⟩
theorem Two.below {w w' : World} {b : Nat} (h : Two w b) (hf : Below w.heap.size w w') : Two w' b := h.fr (rb := b + 2) (.of_below hf) (by omega)
theorem Two.alloc {w : World} {b : Nat} (h : Two w b) (o : Obj) : Two (w.alloc o) b := h.below ((Below.refl _ _).alloc (Nat.le_refl _) o)
theorem Two.lt {w : World} {b : Nat} (h : Two w b) : b + 1 < w.heap.size := World.block_lt_of_cell? w _ h.f0
/-- The words lie so as the reader wants them. -/
theorem ws_at {w : World} {rb b : Nat} (hb : b < rb) : ∀ (ws : List W) (o : Nat), (∀ i, i < ws.length → WAt w b (o + i * 4) (ws.getD i noW)) → WsAt w rb (some ⟨b, o, none⟩) ws
  | [], _, _ => True.intro
  | x :: r, o, h => by
    refine ⟨b, o, rfl, hb, by simpa using h 0 (by simp), ws_at hb r (o + 4) fun i hi => ?_⟩
    have := h (i + 1) (by simpa using hi)
    simp only [List.getD_cons_succ] at this
    rw [show o + 4 + i * 4 = o + (i + 1) * 4 by omega]
    exact this
theorem rd_new {w : World} {a : Option Addr} {cap : Nat} {ws : List W} (en : Nat) (hw : WordsV w (.slice a ws.length cap) ws) (hok : ∀ x ∈ ws, Wok x) : Rd (w.alloc (.cells #[.slice a ws.length cap, .int .i64 en] 46)) w.heap.size en ws := by
  have k := heap_alloc_new w (.cells #[.slice a ws.length cap, .int .i64 en] 46)
  obtain ⟨a', cap', e, h2, h3, h4⟩ := hw
  simp only [Value.slice.injEq] at e
  obtain ⟨rfl, _, rfl⟩ := e
  refine ⟨⟨a, cap, ?_, h2, ?_⟩, ?_, fun i => by simp only [World.frozen?]; rw [k]; simp, hok, h3⟩
  · rw [cell_of_row _ _ _ _ 46 (0, 0) k]; rfl
  · rcases h4 with h | ⟨b, rfl, hc⟩
    · subst h; exact True.intro
    · cases ws with
      | nil => exact True.intro
      | cons x r =>
        have hlt : b < w.heap.size := World.block_lt_of_cell? w _ (hc 0 (by simp)).c0
        exact ws_at hlt _ 0 fun i hi => by rw [Nat.zero_add]; exact (hc i hi).below ((Below.refl _ _).alloc (Nat.le_refl _) _)
  · rw [cell_of_row _ _ _ _ 46 (0, 0) k]; rfl
theorem rd_new2 {w : World} {a : Option Addr} {cap : Nat} {ws : List W} (en : Nat) (hw : WordsV w (.slice a ws.length cap) ws) (hok : ∀ x ∈ ws, Wok x) (o : Obj) : Rd ((w.alloc o).alloc (.cells #[.slice a ws.length cap, .int .i64 en] 46)) (w.heap.size + 1) en ws := by
  have := rd_new (w := w.alloc o) en (hw.below ((Below.refl _ _).alloc (Nat.le_refl _) _)) hok
  rw [size_alloc] at this
  exact this
theorem lex_ok (s : ByteArray) : ∀ x ∈ (lexOut s).ws, Wok x := by
  unfold lexOut
  split
  · rename_i h
    intro x hx
    obtain ⟨h1, h2, h3⟩ := sp_wd _ _ x hx
    rw [size_list] at h3
    exact h1.ok (by omega)
  · intro x hx; simp at hx
/-- What Parse leaves. -/
def PPost (w : World) (q : Pd) (e : Ending) (w' : World) : Prop :=
  (∃ (k n : Int) (s : ByteArray) (a : Option Addr) (l c : Nat), e = .returned (.tuple #[.agg #[.int .i64 k, .int .i64 n, .string s, .slice a l c], .agg #[.int .i64 q.err, .int .i64 q.pos]]) ∧ Tre w' (fun g => w.heap.size ≤ g) (.agg #[.int .i64 k, .int .i64 n, .string s, .slice a l c]) q.t) ∧ Below w.heap.size w w'
/-- The six cells of what is told are set. -/
def six (w : World) (b : Nat) (v0 v1 v2 v3 v4 v5 : Value) : World :=
  (((((w.setCell ⟨b, 0, none⟩ v0).setCell ⟨b, 1, none⟩ v1).setCell ⟨b, 2, none⟩ v2).setCell ⟨b, 3, none⟩ v3).setCell ⟨b + 1, 0, none⟩ v4).setCell ⟨b + 1, 1, none⟩ v5
theorem six_below {w w1 : World} (h : Below w.heap.size w w1) (v0 v1 v2 v3 v4 v5 : Value) : Below w.heap.size w (six w1 w.heap.size v0 v1 v2 v3 v4 v5) := by
  have h1 := h.setCell (p := ⟨w.heap.size, 0, none⟩) (Nat.le_refl _) v0
  have h2 := h1.setCell (p := ⟨w.heap.size, 1, none⟩) (Nat.le_refl _) v1
  have h3 := h2.setCell (p := ⟨w.heap.size, 2, none⟩) (Nat.le_refl _) v2
  have h4 := h3.setCell (p := ⟨w.heap.size, 3, none⟩) (Nat.le_refl _) v3
  have h5 := h4.setCell (p := ⟨w.heap.size + 1, 0, none⟩) (Nat.le_succ _) v4
  exact h5.setCell (p := ⟨w.heap.size + 1, 1, none⟩) (Nat.le_succ _) v5
theorem six_tre {w w1 : World} {v : Value} {t : Tr} (h : Tre w1 (fun g => w.heap.size + 1 < g) v t) (v0 v1 v2 v3 v4 v5 : Value) : Tre (six w1 w.heap.size v0 v1 v2 v3 v4 v5) (fun g => w.heap.size ≤ g) v t := by
  have ne0 : ∀ i, ¬ (fun g => w.heap.size + 1 < g) (⟨w.heap.size, i, none⟩ : Addr).block := fun i h => by simp at h; omega
  have ne1 : ∀ i, ¬ (fun g => w.heap.size + 1 < g) (⟨w.heap.size + 1, i, none⟩ : Addr).block := fun i h => by simp at h
  exact ((((((h.set (ne0 0) v0).set (ne0 1) v1).set (ne0 2) v2).set (ne0 3) v3).set (ne1 0) v4).set (ne1 1) v5).sub fun g hg => by omega
theorem Tre.drew {w : World} {P : Nat → Prop} {v : Value} {t : Tr} (h : Tre w P v t) : Tre w.drew P v t := h.kept fun g hg _ => ⟨rfl, hg⟩
set_option maxRecDepth 100000 in
set_option maxHeartbeats 800000 in
theorem parse_fault (s : ByteArray) (o : Out) (he : o.err ≠ 0) (w : World)
    (HC : Hid (∀ w, Held w → Calls Tryz.prog 20 #[.string s] w fun e w' => ∃ v, e = .returned (.tuple #[v, faultV o.err o.pos]) ∧ WordsV w' v o.ws ∧ Below w.heap.size w w')) (HW : Hid (Held w)) :
    Calls Tryz.prog 11 #[.string s] w (PPost w ⟨zeroT, o.err, o.pos⟩) := by
  have hmf : ∀ (fn : Fn) (first cap : Array Value) (w : World), (Instr.makeFunc fn first cap).run Tryz.prog w = .ok (.func fn first cap) w := fun _ _ _ _ => rfl
  have HW0 : Hid (Held ((w.alloc zeroObj).alloc (.cells #[.int .i64 0, .int .i64 0] 33))) := HW.out.below (Nat.le_refl _) (((Below.refl _ _).alloc (Nat.le_refl _) _).alloc (le_alloc _ _) _)
  unfold faultV at HC
  have he2 : ¬ (o.err : Int) = 0 := by omega
  generalize o.err = E at *
  generalize o.pos = F at *
  generalize o.ws = ws at *
  go_enter_defers Tryz.func11, Tryz.ntmps11
  go_wp2_with (go_at_call 20; refine (HC.out _ HW0.out).mono ?_; rintro e w1 ⟨v, rfl, HV, HB⟩; obtain ⟨a, cap, rfl, _⟩ := HV.row; obtain ⟨⟨q0, q1, q2, q3, q4⟩, q5, q6, q7⟩ := (two_new w).below HB; have hl : w.heap.size + 1 < w1.heap.size := ((two_new w).below HB).lt; have HB1 : Hid (Below w.heap.size w w1) := (((Below.refl _ _).alloc (Nat.le_refl _) _).alloc (le_alloc _ _) _).trans (HB.mono (by rw [size_alloc, size_alloc]; omega)); clear HB HV)
  have hl2 : w.heap.size < w1.heap.size := by omega
  go_region
  all_goals go_wp2
  refine ⟨.tuple #[.agg #[.int .i64 0, .int .i64 0, .string ⟨#[]⟩, .slice none 0 0], .agg #[.int .i64 E, .int .i64 F]], by simp [results, Tryz.results11, go_sem, q0, q1, q2, q3, q5, q6, hl, hl2], ⟨_, _, _, _, _, _, rfl, Tre.leaf _ _ inR_zero inR_zero [] (Nat.zero_le _)⟩, ?_⟩
  have hs := six_below HB1.out (.int .i64 0) (.int .i64 0) (.string ⟨#[]⟩) (.slice none 0 0) (.int .i64 E) (.int .i64 F)
  exact Below.drew (hs.alloc hs.size _)
set_option maxRecDepth 100000 in
set_option maxHeartbeats 800000 in
theorem parse_words (s : ByteArray) (o : Out) (he : o.err = 0) (hok : ∀ x ∈ o.ws, Wok x) (w : World) (hm : s.size ≤ 9223372036854775807)
    (HC : Hid (∀ w, Held w → Calls Tryz.prog 20 #[.string s] w fun e w' => ∃ v, e = .returned (.tuple #[v, faultV o.err o.pos]) ∧ WordsV w' v o.ws ∧ Below w.heap.size w w')) (HW : Hid (Held w)) :
    Calls Tryz.prog 11 #[.string s] w (PPost w (treeM s.size o.ws)) := by
  have hmf : ∀ (fn : Fn) (first cap : Array Value) (w : World), (Instr.makeFunc fn first cap).run Tryz.prog w = .ok (.func fn first cap) w := fun _ _ _ _ => rfl
  have HW0 : Hid (Held ((w.alloc zeroObj).alloc (.cells #[.int .i64 0, .int .i64 0] 33))) := HW.out.below (Nat.le_refl _) (((Below.refl _ _).alloc (Nat.le_refl _) _).alloc (le_alloc _ _) _)
  unfold faultV at HC
  rw [he] at HC
  generalize o.pos = F at *
  generalize o.ws = ws at *
  have HK : Hid (∀ x ∈ ws, Wok x) := hok
  clear hok
  have HD : Hid (∀ w rb, Rd w rb s.size ws → Calls Tryz.prog 22 #[.pointer (some ⟨rb, 0, none⟩)] w (Post rb s.size w (wholeR ws))) := fun w rb h => whole_any rb s.size ws w h
  have HR : Hid (treeM s.size ws = match wholeR ws with | .error (e, r) => ⟨zeroT, e, atW s.size r⟩ | .ok (x, _) => if checkM 16 x ≠ 0 then ⟨zeroT, checkM 16 x, 0⟩ else ⟨x, 0, 0⟩) := by
    show treeM s.size ws = _
    unfold treeM wholeM wholeR
    cases sdM 16 1 ws with
    | error x => rfl
    | ok x => obtain ⟨x, r⟩ := x; cases r <;> rfl
  rw [HR.out]
  generalize hwr : wholeR ws = R at *
  cases R with
  | error x =>
    obtain ⟨x, r⟩ := x
    clear HR hwr
    go_enter_defers Tryz.func11, Tryz.ntmps11
    go_wp2_with (first
      | (go_at_call 22; refine (HD.out _ (w1.heap.size + 1) HRd.out).mono ?_; rintro e w2 ⟨rfl, HF2⟩; have HT2 : Hid (Two w2 w.heap.size) := ((HT1.out.alloc _).alloc _).fr HF2 (Nat.lt_trans HT1.out.lt (Nat.lt_succ_self _)); have HB2 : Hid (Below w.heap.size w w2) := ((HB1.out.alloc HB1.out.size _).alloc (Nat.le_trans HB1.out.size (le_alloc _ _)) _).trans (HF2.below (Nat.le_trans HB1.out.size (Nat.le_succ _)) (Nat.le_trans HB1.out.size (Nat.le_trans (Nat.le_succ _) HL1.out))); clear HF2)
      | (go_at_call 20; refine (HC.out _ HW0.out).mono ?_; rintro e w1 ⟨v, rfl, HV, HB⟩; obtain ⟨a, cap, rfl, _⟩ := HV.row; have HT1 : Hid (Two w1 w.heap.size) := (two_new w).below HB; have HRd : Hid (Rd ((w1.alloc (.cells #[.int .i64 0, .int .i64 F] 33)).alloc (.cells #[.slice a ws.length cap, .int .i64 s.size] 46)) (w1.heap.size + 1) s.size ws) := rd_new2 s.size HV HK.out _; have HL1 : Hid (w1.heap.size + 1 ≤ ((w1.alloc (.cells #[.int .i64 0, .int .i64 F] 33)).alloc (.cells #[.slice a ws.length cap, .int .i64 s.size] 46)).heap.size) := Nat.le_of_lt HRd.out.lt; have HB1 : Hid (Below w.heap.size w w1) := (((Below.refl _ _).alloc (Nat.le_refl _) _).alloc (le_alloc _ _) _).trans (HB.mono (by rw [size_alloc, size_alloc]; omega)); clear HB HV))
    refine leaves_cons (f := 21) (args := #[.pointer (some ⟨w.heap.size, 0, none⟩), .pointer (some ⟨w.heap.size + 1, 0, none⟩)]) (by simp) (by simp [go_sem]) ?_
    refine (catch_panicking w.heap.size x (atW s.size r) [] w2 HT2.out).mono ?_
    rintro e u' w'' ⟨rfl, rfl, rfl⟩
    obtain ⟨⟨q0, q1, q2, q3, q4⟩, q5, q6, q7⟩ := HT2.out
    show ∃ v, (results Tryz.f11 _).run Tryz.prog _ = .ok v _ ∧ PPost w _ (.returned v) _
    refine ⟨.tuple #[.agg #[.int .i64 0, .int .i64 0, .string ⟨#[]⟩, .slice none 0 0], .agg #[.int .i64 x, .int .i64 (atW s.size r)]], by simp [results, Tryz.results11, go_sem, q0, q1, q2, q3, q5, q6], ⟨_, _, _, _, _, _, rfl, Tre.leaf _ _ inR_zero inR_zero [] (Nat.zero_le _)⟩, ?_⟩
    exact Below.drew (six_below HB2.out _ _ _ _ _ _)
  | ok x =>
    obtain ⟨t, r⟩ := x
    clear HR hwr
    have HCk : Hid (∀ k n s a l c w', Tre w' (fun g => w.heap.size + 1 < g) (.agg #[.int .i64 k, .int .i64 n, .string s, .slice a l c]) t → Calls Tryz.prog 8 #[.agg #[.int .i64 k, .int .i64 n, .string s, .slice a l c]] w' fun e w'' => e = .returned (.int .i64 (checkM 16 t)) ∧ Below w'.heap.size w' w'') := fun k n s a l c w' h => Check_any _ t k n s a l c w' h
    show Calls Tryz.prog 11 #[.string s] w (PPost w (if checkM 16 t ≠ 0 then ⟨zeroT, checkM 16 t, 0⟩ else ⟨t, 0, 0⟩))
    generalize checkM 16 t = ck at *
    by_cases hck : ck = 0
    · subst hck
      rw [if_neg (fun h => h rfl)]
      go_enter_defers Tryz.func11, Tryz.ntmps11
      go_wp2_with (first
        | (go_at_call 8; refine (HCk.out _ _ _ _ _ _ _ (HT.out.alloc _)).mono ?_; rintro e w3 ⟨rfl, HB⟩; obtain ⟨⟨q0, q1, q2, q3, q4⟩, q5, q6, q7⟩ := (HT2.out.alloc _).below HB; have hl : w.heap.size + 1 < w3.heap.size := ((HT2.out.alloc _).below HB).lt; obtain ⟨p0, p1, p2, p3, p4⟩ := (Cell4.new w2 (.int .i64 tk) (.int .i64 tn) (.string ts) (.slice ta tl tc) 24).below HB; have HT3 : Hid (Tre w3 (fun g => w.heap.size + 1 < g) (.agg #[.int .i64 tk, .int .i64 tn, .string ts, .slice ta tl tc]) t) := (HT.out.alloc _).below HB; have HB3 : Hid (Below w.heap.size w w3) := (HB2.out.alloc HB2.out.size _).trans (HB.mono (Nat.le_trans HB2.out.size (le_alloc _ _))); clear HB)
        | (go_at_call 22; refine (HD.out _ (w1.heap.size + 1) HRd.out).mono ?_; rintro e w2 ⟨⟨tk, tn, ts, ta, tl, tc, rfl, HT'⟩, _, HF2⟩; have HT : Hid (Tre w2 (fun g => w.heap.size + 1 < g) (.agg #[.int .i64 tk, .int .i64 tn, .string ts, .slice ta tl tc]) t) := HT'.sub (fun g hg => Nat.lt_of_lt_of_le (Nat.lt_of_lt_of_le (Nat.lt_trans HT1.out.lt (Nat.lt_succ_self _)) HL1.out) hg); have HT2 : Hid (Two w2 w.heap.size) := ((HT1.out.alloc _).alloc _).fr HF2 (Nat.lt_trans HT1.out.lt (Nat.lt_succ_self _)); have HB2 : Hid (Below w.heap.size w w2) := ((HB1.out.alloc HB1.out.size _).alloc (Nat.le_trans HB1.out.size (le_alloc _ _)) _).trans (HF2.below (Nat.le_trans HB1.out.size (Nat.le_succ _)) (Nat.le_trans HB1.out.size (Nat.le_trans (Nat.le_succ _) HL1.out))); clear HF2 HT')
        | (go_at_call 20; refine (HC.out _ HW0.out).mono ?_; rintro e w1 ⟨v, rfl, HV, HB⟩; obtain ⟨a, cap, rfl, _⟩ := HV.row; have HT1 : Hid (Two w1 w.heap.size) := (two_new w).below HB; have HRd : Hid (Rd ((w1.alloc (.cells #[.int .i64 0, .int .i64 F] 33)).alloc (.cells #[.slice a ws.length cap, .int .i64 s.size] 46)) (w1.heap.size + 1) s.size ws) := rd_new2 s.size HV HK.out _; have HL1 : Hid (w1.heap.size + 1 ≤ ((w1.alloc (.cells #[.int .i64 0, .int .i64 F] 33)).alloc (.cells #[.slice a ws.length cap, .int .i64 s.size] 46)).heap.size) := Nat.le_of_lt HRd.out.lt; have HB1 : Hid (Below w.heap.size w w1) := (((Below.refl _ _).alloc (Nat.le_refl _) _).alloc (le_alloc _ _) _).trans (HB.mono (by rw [size_alloc, size_alloc]; omega)); clear HB HV))
      refine leaves_cons (f := 21) (args := #[.pointer (some ⟨w.heap.size, 0, none⟩), .pointer (some ⟨w.heap.size + 1, 0, none⟩)]) (by simp) (by simp [go_sem]) ?_
      refine (catch_idle w.heap.size _).mono ?_
      rintro e u' w'' ⟨rfl, rfl, rfl⟩
      show ∃ v, (results Tryz.f11 _).run Tryz.prog _ = .ok v _ ∧ PPost w _ (.returned v) _
      refine ⟨.tuple #[.agg #[.int .i64 tk, .int .i64 tn, .string ts, .slice ta tl tc], .agg #[.int .i64 0, .int .i64 0]], by simp [results, Tryz.results11, go_sem, q0, q1, q2, q3, q5, q6], ⟨_, _, _, _, _, _, rfl, six_tre HT3.out _ _ _ _ _ _⟩, ?_⟩
      exact six_below HB3.out _ _ _ _ _ _
    · rw [if_pos hck]
      have hck2 : ¬ (ck : Int) = 0 := by omega
      go_enter_defers Tryz.func11, Tryz.ntmps11
      go_wp2_with (first
        | (go_at_call 8; refine (HCk.out _ _ _ _ _ _ _ (HT.out.alloc _)).mono ?_; rintro e w3 ⟨rfl, HB⟩; obtain ⟨⟨q0, q1, q2, q3, q4⟩, q5, q6, q7⟩ := (HT2.out.alloc _).below HB; have hl : w.heap.size + 1 < w3.heap.size := ((HT2.out.alloc _).below HB).lt; obtain ⟨p0, p1, p2, p3, p4⟩ := (Cell4.new w2 (.int .i64 tk) (.int .i64 tn) (.string ts) (.slice ta tl tc) 24).below HB; have HT3 : Hid (Tre w3 (fun g => w.heap.size + 1 < g) (.agg #[.int .i64 tk, .int .i64 tn, .string ts, .slice ta tl tc]) t) := (HT.out.alloc _).below HB; have HB3 : Hid (Below w.heap.size w w3) := (HB2.out.alloc HB2.out.size _).trans (HB.mono (Nat.le_trans HB2.out.size (le_alloc _ _))); clear HB)
        | (go_at_call 22; refine (HD.out _ (w1.heap.size + 1) HRd.out).mono ?_; rintro e w2 ⟨⟨tk, tn, ts, ta, tl, tc, rfl, HT'⟩, _, HF2⟩; have HT : Hid (Tre w2 (fun g => w.heap.size + 1 < g) (.agg #[.int .i64 tk, .int .i64 tn, .string ts, .slice ta tl tc]) t) := HT'.sub (fun g hg => Nat.lt_of_lt_of_le (Nat.lt_of_lt_of_le (Nat.lt_trans HT1.out.lt (Nat.lt_succ_self _)) HL1.out) hg); have HT2 : Hid (Two w2 w.heap.size) := ((HT1.out.alloc _).alloc _).fr HF2 (Nat.lt_trans HT1.out.lt (Nat.lt_succ_self _)); have HB2 : Hid (Below w.heap.size w w2) := ((HB1.out.alloc HB1.out.size _).alloc (Nat.le_trans HB1.out.size (le_alloc _ _)) _).trans (HF2.below (Nat.le_trans HB1.out.size (Nat.le_succ _)) (Nat.le_trans HB1.out.size (Nat.le_trans (Nat.le_succ _) HL1.out))); clear HF2 HT')
        | (go_at_call 20; refine (HC.out _ HW0.out).mono ?_; rintro e w1 ⟨v, rfl, HV, HB⟩; obtain ⟨a, cap, rfl, _⟩ := HV.row; have HT1 : Hid (Two w1 w.heap.size) := (two_new w).below HB; have HRd : Hid (Rd ((w1.alloc (.cells #[.int .i64 0, .int .i64 F] 33)).alloc (.cells #[.slice a ws.length cap, .int .i64 s.size] 46)) (w1.heap.size + 1) s.size ws) := rd_new2 s.size HV HK.out _; have HL1 : Hid (w1.heap.size + 1 ≤ ((w1.alloc (.cells #[.int .i64 0, .int .i64 F] 33)).alloc (.cells #[.slice a ws.length cap, .int .i64 s.size] 46)).heap.size) := Nat.le_of_lt HRd.out.lt; have HB1 : Hid (Below w.heap.size w w1) := (((Below.refl _ _).alloc (Nat.le_refl _) _).alloc (le_alloc _ _) _).trans (HB.mono (by rw [size_alloc, size_alloc]; omega)); clear HB HV))
      refine leaves_cons (f := 21) (args := #[.pointer (some ⟨w.heap.size, 0, none⟩), .pointer (some ⟨w.heap.size + 1, 0, none⟩)]) (by simp) (by simp [go_sem]) ?_
      refine (catch_idle w.heap.size _).mono ?_
      rintro e u' w'' ⟨rfl, rfl, rfl⟩
      show ∃ v, (results Tryz.f11 _).run Tryz.prog _ = .ok v _ ∧ PPost w _ (.returned v) _
      refine ⟨.tuple #[.agg #[.int .i64 0, .int .i64 0, .string ⟨#[]⟩, .slice none 0 0], .agg #[.int .i64 ck, .int .i64 0]], by simp [results, Tryz.results11, go_sem, q0, q1, q2, q3, q5, q6], ⟨_, _, _, _, _, _, rfl, Tre.leaf _ _ inR_zero inR_zero [] (Nat.zero_le _)⟩, ?_⟩
      exact six_below HB3.out _ _ _ _ _ _
/-- The tree that a text is. -/
def parseM (s : ByteArray) : Pd := parseO s.size (lexOut s)
theorem parse_any (s : ByteArray) (hm : s.size ≤ 9223372036854775807) (w : World) (HW : Held w) : Calls Tryz.prog 11 #[.string s] w (PPost w (parseM s)) := by
  unfold parseM parseO
  have hc : ∀ w, Held w → Calls Tryz.prog 20 #[.string s] w fun e w' => ∃ v, e = .returned (.tuple #[v, faultV (lexOut s).err (lexOut s).pos]) ∧ WordsV w' v (lexOut s).ws ∧ Below w.heap.size w w' := fun w h => split_any s hm w h
  by_cases he : (lexOut s).err ≠ 0
  · rw [if_pos he]; exact parse_fault s _ he w hc HW
  · rw [if_neg he]; exact parse_words s _ (by omega) (lex_ok s) w hm hc HW
end Go.Proofs.YtlfeejjlcclbdaaGreatDoor
