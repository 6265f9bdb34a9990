/-
  The laws' do: an act on a disk.
-/
import Derived.Test.YtcmnjiichkcmgaaLight
namespace Go.Proofs.Ytcmnjiichkcmgaa
open Go.RowKit Go.Maps Go.Sort
set_option linter.unusedVariables false

/-- What an act makes of the files, and what it answers. -/
def Acted (F : Tab) (o : Do) (F' : Tab) (e : Int) : Prop :=
  (o.kind = 0 ∧ ((nm o.name = true ∧ F' = appF F (key o.name) o.b ∧ e = 0) ∨ (nm o.name = false ∧ F' = F ∧ e = 1))) ∨
  (o.kind = 1 ∧ (((F (key o.name)).isSome = true ∧ F' = syncF F (key o.name) ∧ e = 0) ∨ (F (key o.name) = none ∧ F' = F ∧ e = 9))) ∨
  (o.kind = 2 ∧ ((nm o.name = true ∧ F' = replF F (key o.name) o.b ∧ e = 0) ∨ (nm o.name = false ∧ F' = F ∧ e = 1))) ∨
  (o.kind = 3 ∧ ∃ ks, NamesOf F ks ∧ F' = crashTo F ks o.keep ks.length ∧ e = 0) ∨
  (o.kind ≠ 0 ∧ o.kind ≠ 1 ∧ o.kind ≠ 2 ∧ o.kind ≠ 3 ∧ F' = F ∧ e = 0)

theorem fits_repl {F : Tab} {M : Nat} (h : Fits F M) (k : Key) (b : List (BitVec 8)) : Fits (replF F k b) (M + b.length) := by
  intro j l s hj
  unfold replF at hj
  by_cases e : j = k
  · subst e
    rw [upd_same] at hj
    split at hj
    · cases hj
    · simp only [Option.some.injEq, Prod.mk.injEq] at hj
      obtain ⟨rfl, rfl⟩ := hj
      omega
  · rw [upd_other _ _ e] at hj
    have := h j l s hj
    omega
theorem Fits.mono {F : Tab} {M M' : Nat} (h : Fits F M) (hm : M ≤ M') : Fits F M' := fun k l s hk => by have := h k l s hk; omega
theorem acted_fits {F F' : Tab} {M : Nat} {o : Do} {e : Int} (h : Fits F M) (ha : Acted F o F' e) : Fits F' (M + o.b.length) := by
  rcases ha with ⟨_, ⟨_, rfl, _⟩ | ⟨_, rfl, _⟩⟩ | ⟨_, ⟨_, rfl, _⟩ | ⟨_, rfl, _⟩⟩ | ⟨_, ⟨_, rfl, _⟩ | ⟨_, rfl, _⟩⟩ | ⟨_, ks, _, rfl, _⟩ | ⟨_, _, _, _, rfl, _⟩
  · exact fits_app h _ _
  · exact h.mono (by omega)
  · exact (fits_sync h _).mono (by omega)
  · exact h.mono (by omega)
  · exact fits_repl h _ _
  · exact h.mono (by omega)
  · exact (crashTo_fits h _ _ _).mono (by omega)
  · exact h.mono (by omega)

theorem acted_one {F F' F'' : Tab} {o : Do} {e e' : Int} (h : Acted F o F' e) (h' : Acted F o F'' e') : F' = F'' ∧ e = e' := by
  rcases h with ⟨hk, ⟨h1, rfl, rfl⟩ | ⟨h1, rfl, rfl⟩⟩ | ⟨hk, ⟨h1, rfl, rfl⟩ | ⟨h1, rfl, rfl⟩⟩ | ⟨hk, ⟨h1, rfl, rfl⟩ | ⟨h1, rfl, rfl⟩⟩ | ⟨hk, ks, h1, rfl, rfl⟩ | ⟨hk, hk1, hk2, hk3, rfl, rfl⟩ <;>
  rcases h' with ⟨jk, ⟨j1, rfl, rfl⟩ | ⟨j1, rfl, rfl⟩⟩ | ⟨jk, ⟨j1, rfl, rfl⟩ | ⟨j1, rfl, rfl⟩⟩ | ⟨jk, ⟨j1, rfl, rfl⟩ | ⟨j1, rfl, rfl⟩⟩ | ⟨jk, ks', j1, rfl, rfl⟩ | ⟨jk, jk1, jk2, jk3, rfl, rfl⟩ <;>
  first
    | exact ⟨rfl, rfl⟩
    | omega
    | (rw [h1] at j1; cases j1)
    | (rw [j1] at h1; cases h1)
    | (rw [h1.unique j1]; exact ⟨rfl, rfl⟩)

theorem acted_other {F F' : Tab} {o : Do} {e : Int} (h : Acted F o F' e) (h3 : o.kind ≠ 3) {k : Key} (hk : k ≠ key o.name) : F' k = F k := by
  rcases h with ⟨_, ⟨_, rfl, _⟩ | ⟨_, rfl, _⟩⟩ | ⟨_, ⟨_, rfl, _⟩ | ⟨_, rfl, _⟩⟩ | ⟨_, ⟨_, rfl, _⟩ | ⟨_, rfl, _⟩⟩ | ⟨hk3, _⟩ | ⟨_, _, _, _, rfl, _⟩
  · exact upd_other _ _ hk
  · rfl
  · exact upd_other _ _ hk
  · rfl
  · exact upd_other _ _ hk
  · rfl
  · exact absurd hk3 h3
  · rfl
theorem acted_same {F G F' G' : Tab} {o : Do} {e e' : Int} (h : Acted F o F' e) (h' : Acted G o G' e') (h3 : o.kind ≠ 3) (hk : F (key o.name) = G (key o.name)) : F' (key o.name) = G' (key o.name) := by
  have eb : bytesOf F (key o.name) = bytesOf G (key o.name) := by unfold bytesOf; rw [hk]
  have es : syncOf F (key o.name) = syncOf G (key o.name) := by unfold syncOf; rw [hk]
  rcases h with ⟨hk', ⟨h1, rfl, rfl⟩ | ⟨h1, rfl, rfl⟩⟩ | ⟨hk', ⟨h1, rfl, rfl⟩ | ⟨h1, rfl, rfl⟩⟩ | ⟨hk', ⟨h1, rfl, rfl⟩ | ⟨h1, rfl, rfl⟩⟩ | ⟨hk', ks, h1, rfl, rfl⟩ | ⟨hk', hk1, hk2, hk3, rfl, rfl⟩ <;>
  rcases h' with ⟨jk, ⟨j1, rfl, rfl⟩ | ⟨j1, rfl, rfl⟩⟩ | ⟨jk, ⟨j1, rfl, rfl⟩ | ⟨j1, rfl, rfl⟩⟩ | ⟨jk, ⟨j1, rfl, rfl⟩ | ⟨j1, rfl, rfl⟩⟩ | ⟨jk, ks', j1, rfl, rfl⟩ | ⟨jk, jk1, jk2, jk3, rfl, rfl⟩ <;>
  first
    | exact hk
    | omega
    | (unfold appF; rw [upd_same, upd_same, eb, es])
    | (unfold syncF; rw [upd_same, upd_same, eb])
    | (unfold replF; rw [upd_same, upd_same])
    | (rw [h1] at j1; cases j1)
    | (rw [hk, j1] at h1; cases h1)
    | (rw [← hk, h1] at j1; cases j1)
    | exact absurd hk' h3

/-- An act's value. -/
def Do.val (o : Do) : Value := .agg #[.int .i64 o.kind, .string o.name, o.vb, o.vk]

theorem ahead_all {w w1 : World} {pb N N' : Nat} {fp : Nat → Prop} {F : Tab} {f : Obj} (h : Did (w.alloc f) w1 pb fp N F) (hn : N ≤ N') : Did w w1 pb fp N' F :=
  Did.ahead (Turned.alloc _ _ _) ⟨h.1, h.2.more hn⟩

set_option maxRecDepth 100000 in
set_option maxHeartbeats 1000000 in
theorem do_any (pb N M : Nat) (fp : Nat → Prop) (F : Tab) (o : Do) (w : World) (hd : Disk w pb fp N F) (hN : N < 100000) (hf : Fits F M) (hM : M ≤ 10000000000000) (hb : ReadsV w o.vb o.b) (hbl : o.b.length ≤ 10000000000000) (hwn : o.name.size ≤ maxLen) (hk : ∀ w3, Turned fp w w3 → IntsV w3 o.vk o.keep) :
    Calls Try.prog 11 #[.pointer (some ⟨pb, 0, none⟩), .agg #[.int .i64 o.kind, .string o.name, o.vb, o.vk]] w fun e w' => ∃ F' x, e = .returned (.int .i64 x) ∧ Acted F o F' x ∧ Did w w' pb fp (N + 1) F' := by
  have hda : ∀ f : Obj, Disk (w.alloc f) pb fp N F := fun f => hd.kept (Turned.alloc (fun _ => False) w f) (fun _ _ h => h)
  have hba : ∀ f : Obj, ReadsV (w.alloc f) o.vb o.b := fun f => hb.below ((Below.refl _ _).alloc (Nat.le_refl _) _)
  by_cases k0 : o.kind = 0
  · have HC : Hid (∀ f : Obj, Calls Try.prog 20 #[.pointer (some ⟨pb, 0, none⟩), .string o.name, o.vb] (w.alloc f) fun e w' => ∃ F' x, e = .returned (.int .i64 x) ∧ Acted F o F' x ∧ Did w w' pb fp (N + 1) F') := fun f => by
      by_cases hn : nm o.name = true
      · exact (append_yes pb N M fp F o.name o.vb o.b _ (hda f) hwn (by omega) hf (by omega) (hba f) (by omega) hn).mono fun e w' ⟨he, h⟩ => ⟨_, _, he, .inl ⟨k0, .inl ⟨hn, rfl, rfl⟩⟩, ahead_all h (more_le _ _ _)⟩
      · have hn' : nm o.name = false := by simpa using hn
        exact (append_no pb o.name o.vb (w.alloc f) hwn hn').mono fun e w' ⟨he, h⟩ => ⟨_, _, he, .inl ⟨k0, .inr ⟨hn', rfl, rfl⟩⟩, by subst h; exact ahead_all (Did.none (hda f)) (by omega)⟩
    generalize o.name = nam at *
    generalize o.vb = vb at *
    generalize o.vk = vk at *
    rw [k0]
    clear k0 hb hk hba hda hf hd hwn
    go_enter Try.func11, Try.ntmps11
    go_wp2_with (go_at_call 20; refine (HC.out _).mono ?_; rintro e w1 ⟨F', x, rfl, ha, hdid⟩; have HA : Hid (Acted F o F' x ∧ Did w w1 pb fp (N + 1) F') := ⟨ha, hdid⟩; clear ha hdid)
    go_ret
    exact ⟨F', x, rfl, HA.out⟩
  by_cases k1 : o.kind = 1
  · have HC : Hid (∀ f : Obj, Calls Try.prog 21 #[.pointer (some ⟨pb, 0, none⟩), .string o.name] (w.alloc f) fun e w' => ∃ F' x, e = .returned (.int .i64 x) ∧ Acted F o F' x ∧ Did w w' pb fp (N + 1) F') := fun f => by
      cases hF : F (key o.name) with
      | some y => exact (sync_yes pb N M fp F o.name _ (hda f) hwn (by omega) hf (by omega) (by rw [hF]; rfl)).mono fun e w' ⟨he, h⟩ => ⟨_, _, he, .inr (.inl ⟨k1, .inl ⟨by rw [hF]; rfl, rfl, rfl⟩⟩), ahead_all h (by omega)⟩
      | none => exact (sync_no pb N fp F o.name _ (hda f) hwn hF).mono fun e w' ⟨he, h⟩ => ⟨_, _, he, .inr (.inl ⟨k1, .inr ⟨hF, rfl, rfl⟩⟩), ahead_all h (by omega)⟩
    generalize o.name = nam at *
    generalize o.vb = vb at *
    generalize o.vk = vk at *
    rw [k1]
    clear k0 k1 hb hk hba hda hf hd hwn
    go_enter Try.func11, Try.ntmps11
    go_wp2_with (go_at_call 21; refine (HC.out _).mono ?_; rintro e w1 ⟨F', x, rfl, ha, hdid⟩; have HA : Hid (Acted F o F' x ∧ Did w w1 pb fp (N + 1) F') := ⟨ha, hdid⟩; clear ha hdid)
    go_ret
    exact ⟨F', x, rfl, HA.out⟩
  by_cases k2 : o.kind = 2
  · have HC : Hid (∀ f : Obj, Calls Try.prog 22 #[.pointer (some ⟨pb, 0, none⟩), .string o.name, o.vb] (w.alloc f) fun e w' => ∃ F' x, e = .returned (.int .i64 x) ∧ Acted F o F' x ∧ Did w w' pb fp (N + 1) F') := fun f => by
      by_cases hn : nm o.name = true
      · exact (replace_yes pb N fp F o.name o.vb o.b _ (hda f) hwn (by omega) (hba f) (by omega) hn).mono fun e w' ⟨he, h⟩ => ⟨_, _, he, .inr (.inr (.inl ⟨k2, .inl ⟨hn, rfl, rfl⟩⟩)), ahead_all h (more_le _ _ _)⟩
      · have hn' : nm o.name = false := by simpa using hn
        exact (replace_no pb o.name o.vb (w.alloc f) hwn hn').mono fun e w' ⟨he, h⟩ => ⟨_, _, he, .inr (.inr (.inl ⟨k2, .inr ⟨hn', rfl, rfl⟩⟩)), by subst h; exact ahead_all (Did.none (hda f)) (by omega)⟩
    generalize o.name = nam at *
    generalize o.vb = vb at *
    generalize o.vk = vk at *
    rw [k2]
    clear k0 k1 k2 hb hk hba hda hf hd hwn
    go_enter Try.func11, Try.ntmps11
    go_wp2_with (go_at_call 22; refine (HC.out _).mono ?_; rintro e w1 ⟨F', x, rfl, ha, hdid⟩; have HA : Hid (Acted F o F' x ∧ Did w w1 pb fp (N + 1) F') := ⟨ha, hdid⟩; clear ha hdid)
    go_ret
    exact ⟨F', x, rfl, HA.out⟩
  by_cases k3 : o.kind = 3
  · have HC : Hid (∀ f : Obj, Calls Try.prog 19 #[.pointer (some ⟨pb, 0, none⟩), o.vk] (w.alloc f) fun e w' => e = .returned (.tuple #[]) ∧ ∃ F', Acted F o F' 0 ∧ Did w w' pb fp (N + 1) F') := fun f =>
      (crash_any pb N M fp F o.vk o.keep _ (hda f) (by omega) hf (by omega) (fun w3 hT => hk w3 ((Turned.alloc fp w f).trans hT (fun _ _ h => h)))).mono fun e w' ⟨he, ks, h1, h⟩ => ⟨he, _, .inr (.inr (.inr (.inl ⟨k3, ks, h1, rfl, rfl⟩))), ahead_all h (by omega)⟩
    generalize o.name = nam at *
    generalize o.vb = vb at *
    generalize o.vk = vk at *
    rw [k3]
    clear k0 k1 k2 k3 hb hk hba hda hf hd hwn
    go_enter Try.func11, Try.ntmps11
    go_wp2_with (go_at_call 19; refine (HC.out _).mono ?_; rintro e w1 ⟨rfl, F', ha, hdid⟩; have HA : Hid (Acted F o F' 0 ∧ Did w w1 pb fp (N + 1) F') := ⟨ha, hdid⟩; clear ha hdid)
    go_ret
    exact ⟨F', 0, rfl, HA.out⟩
  · have HA : Hid (∀ f : Obj, Acted F o F 0 ∧ Did w (w.alloc f) pb fp (N + 1) F) := fun f => ⟨.inr (.inr (.inr (.inr ⟨k0, k1, k2, k3, rfl, rfl⟩))), ahead_all (Did.none (hda f)) (by omega)⟩
    have e0 : (o.kind == 0) = false := by rw [beq_eq_false_iff_ne]; exact k0
    have e1 : (o.kind == 1) = false := by rw [beq_eq_false_iff_ne]; exact k1
    have e2 : (o.kind == 2) = false := by rw [beq_eq_false_iff_ne]; exact k2
    have e3 : (o.kind == 3) = false := by rw [beq_eq_false_iff_ne]; exact k3
    generalize o.name = nam at *
    generalize o.vb = vb at *
    generalize o.vk = vk at *
    generalize hkd : o.kind = kd at *
    clear hkd hb hk hba hda hf hd hwn
    go_enter Try.func11, Try.ntmps11
    go_wp2
    go_ret
    exact ⟨F, 0, rfl, HA.out _⟩

end Go.Proofs.Ytcmnjiichkcmgaa
