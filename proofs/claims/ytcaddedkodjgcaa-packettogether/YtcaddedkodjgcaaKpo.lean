/-
  What is asked of the program's calls.
-/
import Derived.Test.YtcaddedkodjgcaaKtg
import Derived.Test.YtcaddedkodjgcaaTkm
namespace Go.Proofs.Ytcaddedkodjgcaa
open Go.RowKit Pack
set_option linter.unusedVariables false
set_option linter.unusedSimpArgs false

/-- What the program's Together answers. -/
def TogP (p : List Pk) (w : World) (e : Ending) (w' : World) : Prop := ∃ a c, e = .returned (.slice a p.length c) ∧ RwV pkR w' (fun _ => True) a c p ∧ Below w.heap.size w w'
theorem ReadP.plain {p : Pk × Int} {v : Value} {w w' : World} {e : Ending} (h : ReadP p v w e w') : ∃ a c, e = .returned (.tuple #[.agg #[.int .i64 p.1.1, .int .i64 p.1.2.1, .slice a p.1.2.2.length c], .int .i64 p.2]) ∧ RwV msR w' (fun _ => True) a c p.1.2.2 ∧ Below w.heap.size w w' := by
  obtain ⟨a, c, h1, h2, h3⟩ := h
  exact ⟨a, c, h1, h2.sub (fun _ _ _ => trivial), h3⟩
structure PgOk : Prop where
  put : ∀ {w : World} {P : Nat → Prop} {f t : Int} {a : Option Addr} {c : Nat} {l : List Ms}, RwV msR w P a c l → wtMs l ≤ 2000 → (∀ m ∈ l, MsR m) → InR f → InR t → Calls Try.prog 11 #[.agg #[.int .i64 f, .int .i64 t, .slice a l.length c]] w (PutP f t l w)
  chk : ∀ {w : World} {P : Nat → Prop} {f t : Int} {a : Option Addr} {c : Nat} {l : List Ms}, RwV msR w P a c l → l.length ≤ 1000 → (∀ m ∈ l, MsR m) → InR f → InR t → Calls Try.prog 14 #[.agg #[.int .i64 f, .int .i64 t, .slice a l.length c]] w fun e w' => e = .returned (.int .i64 (pchk f t l)) ∧ Below w.heap.size w w'
  rd : ∀ {w : World} {v : Value} {b : BB}, ReadsV w v b → b.length ≤ 1000000 → Calls Try.prog 16 #[v] w (ReadP (readM b) v w)
  tog : ∀ {w : World} {P : Nat → Prop} {f : Int} {a : Option Addr} {c : Nat} {l : List Ms}, RwV msR w P a c l → wtMs l ≤ 300 → (∀ m ∈ l, MsR m) → InR f → Calls Try.prog 20 #[.int .i64 f, .slice a l.length c] w (TogP (togS f l 7) w)
theorem RTog_ok {w : World} {P : Nat → Prop} {f : Int} {a : Option Addr} {c : Nat} {l : List Ms} (hl : RwV msR w P a c l) (hw : wtMs l ≤ 300) : Calls Try.prog 22 #[.int .i64 f, .slice a l.length c] w (TogP (togS f l 7) w) := RTog_any f hl (by have := wtMs_len l; omega)

set_option maxRecDepth 100000 in
theorem light_any {w : World} {P : Nat → Prop} {a : Option Addr} {c : Nat} {l : List Ms} (hl : RwV msR w P a c l) : Calls Try.prog 9 #[.slice a l.length c] w fun e w' => ∃ b : Bool, e = .returned (.bool b) ∧ (b = true → wtMs l ≤ 300) ∧ w' = w := by
  have HW : Hid (∀ wr, wr = w → Calls Try.prog 23 #[.slice a l.length c, .int .i64 300] wr fun e w' => ∃ k : Int, e = .returned (.int .i64 k) ∧ (k ≤ 300 → wtMs l ≤ 300) ∧ w' = wr) := fun wr q => by subst q; exact Weight_any P a c l wr hl
  clear hl
  generalize l.length = n at *
  go_enter Try.func9, Try.ntmps9
  go_wp2_with (go_at_call 23; refine (HW.out _ rfl).mono ?_; rintro e w1 ⟨k, rfl, hk, rfl⟩; have HK : Hid (k ≤ 300 → wtMs l ≤ 300) := hk; clear hk)
  go_ret
  exact ⟨decide (k ≤ 300), rfl, fun q => HK.out (of_decide_eq_true q), rfl⟩

/-- How long a packet of a small weight is. -/
theorem pkt_len {f t : Int} {l : List Ms} (h : pchk f t l = 0) (hw : wtMs l ≤ 300) : (sealB (bodyB f t l)).length ≤ 1000000 := by
  obtain ⟨hf, ht, _, hn256, hall⟩ := pchk_zero h
  have h1 := mss_take_len hall l.length (Nat.le_refl _)
  rw [List.take_length] at h1
  have h2 : (numsB [f, t, (l.length : Int)]).length ≤ 30 := nums_len (l := [f, t, (l.length : Int)]) fun x hx => by
    simp only [List.mem_cons, List.not_mem_nil, or_false] at hx
    rcases hx with rfl | rfl | rfl <;> omega
  rw [sealB_len]
  unfold bodyB
  rw [List.length_append]
  omega
end Go.Proofs.Ytcaddedkodjgcaa
