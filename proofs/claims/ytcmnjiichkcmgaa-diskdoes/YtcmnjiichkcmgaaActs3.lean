/-
  Contracts: Append, Sync, Replace.
-/
import Derived.Test.YtcmnjiichkcmgaaActs2
namespace Go.Proofs.Ytcmnjiichkcmgaa
open Go.RowKit Go.Maps

def appF (F : Tab) (k : Key) (b : List (BitVec 8)) : Tab := upd F k (some (bytesOf F k ++ b, syncOf F k))
def syncF (F : Tab) (k : Key) : Tab := upd F k (some (bytesOf F k, (bytesOf F k).length))
def replF (F : Tab) (k : Key) (b : List (BitVec 8)) : Tab := upd F k (if b = [] then none else some (b, b.length))

theorem DiskV.lies {w : World} {pb N : Nat} {fp : Nat → Prop} {F : Tab} {V : Key → Value} {ok : Key → Prop} (h : DiskV w pb fp N F V ok) {k : Key} {x : List (BitVec 8) × Nat} (hF : F k = some x) {g : Nat} (hg : (V k).ownBlock = some g) : fp g ∧ g < w.heap.size := by
  obtain ⟨h1, _, h⟩ := h
  rcases h with ⟨_, h2⟩ | ⟨mb, D, _, _, H⟩
  · rw [h2] at hF; cases hF
  · have := (H.lies k x hF g hg).1
    exact ⟨this, h1 g this⟩

theorem setCell_turned (w : World) (a : Addr) (u : Value) : Turned (fun i => i = a.block) w (w.setCell a u) :=
  ⟨rfl, rfl, rfl, by simp [World.setCell], fun k _ hn => Below.heap_setCell _ _ _ _ hn⟩

/-- put behind an append to the file's own row. -/
theorem put_row {pb N t : Nat} {fp : Nat → Prop} {F : Tab} {V : Key → Value} {s : ByteArray} {lv v' u : Value} {f : Obj} {l : List (BitVec 8)} {w w1 : World} (hd : DiskV w pb fp N F V all) (hs : s.size ≤ maxLen) (hN : N < 1000000000)
    (hlv : ∀ g, lv.ownBlock = some g → ∃ x, F (key s) = some x ∧ (V (key s)).ownBlock = some g) (hg : (w.alloc f).grownBy w1 lv.ownBlock) (ho : Owns w1 0 v' l) (hloc : v'.ownBlock = lv.ownBlock ∨ v'.ownBlock = some (w.alloc f).heap.size) :
    Calls Try.prog 34 #[.pointer (some ⟨pb, 0, none⟩), .string s, .agg #[v', .int .i64 (t : Int)]] (w1.setCell ⟨w.heap.size, 0, none⟩ u) fun e w' => e = .returned (.tuple #[]) ∧ Did w w' pb fp (more F (key s) N) (upd F (key s) (some (l, t))) := by
  have hsa : (w.alloc f).heap.size = w.heap.size + 1 := by simp
  have hsz := hd.1
  have d1 : DiskV (w.alloc f) pb fp N F V all := hd.kept (Turned.alloc (fun _ => False) w f) (fun _ _ h => h)
  have d2 : DiskV w1 pb fp N F V (but (key s)) := d1.but_row hg hlv
  have hT3 := setCell_turned w1 ⟨w.heap.size, 0, none⟩ u
  have hfn : ∀ i, fp i → ¬ i = w.heap.size := fun i hi => by have := hsz i hi; omega
  have d3 : DiskV (w1.setCell ⟨w.heap.size, 0, none⟩ u) pb fp N F V (but (key s)) := d2.kept hT3 hfn
  have hlt : ∀ g, lv.ownBlock = some g → fp g ∧ g < w.heap.size := fun g hg => by obtain ⟨x, hx, hb⟩ := hlv g hg; exact hd.lies hx hb
  have hvne : ∀ g, v'.ownBlock = some g → ¬ g = w.heap.size := fun g hgv e => by
    rcases hloc with h | h
    · have := (hlt g (h ▸ hgv)).2; omega
    · rw [h, hsa] at hgv; simp at hgv; omega
  have o3 : Owns (w1.setCell ⟨w.heap.size, 0, none⟩ u) 0 v' l := owns_turned ho hT3 hvne
  have hsz1 : w.heap.size + 1 ≤ w1.heap.size := by have := hg.size; omega
  have hTw : Turned fp w (w1.setCell ⟨w.heap.size, 0, none⟩ u) := by
    refine Turned.trans ?_ hT3 (fun i hi e => by simp at e; omega)
    exact (Turned.alloc fp w f).trans (Turned.of_grown (tu := fp) hg (fun i e => (hlt i e).1)) (fun _ _ h => h)
  refine (put_any pb N t fp F V s v' l _ d3 hs hN o3 ?_).mono ?_
  · intro g hgv
    rcases hloc with h | h
    · exact .inr (hlv g (h ▸ hgv))
    · left
      intro hfp
      have := hsz g hfp
      rw [h, hsa] at hgv; simp at hgv; omega
  · rintro e w2 ⟨rfl, ht, hd2⟩
    refine ⟨rfl, Did.of_put hTw (fun g hgv => ⟨(World.ownsRow.lt o3 g hgv).2, ?_⟩) ht hd2⟩
    rcases hloc with h | h
    · exact .inl (hlt g (h ▸ hgv)).1
    · right
      rw [h, hsa] at hgv; simp at hgv; omega

/-- put of the file's own row. -/
theorem put_same {pb N t : Nat} {fp : Nat → Prop} {F : Tab} {V : Key → Value} {s : ByteArray} {lv : Value} {l : List (BitVec 8)} {w w2 : World} (hd : DiskV w pb fp N F V all) (hs : s.size ≤ maxLen) (hN : N < 1000000000)
    (hlv : ∀ g, lv.ownBlock = some g → ∃ x, F (key s) = some x ∧ (V (key s)).ownBlock = some g) (hT : Turned (fun _ => False) w w2) (ho : Owns w 0 lv l) :
    Calls Try.prog 34 #[.pointer (some ⟨pb, 0, none⟩), .string s, .agg #[lv, .int .i64 (t : Int)]] w2 fun e w' => e = .returned (.tuple #[]) ∧ Did w w' pb fp (more F (key s) N) (upd F (key s) (some (l, t))) := by
  have o3 : Owns w2 0 lv l := owns_turned ho hT (fun _ _ h => h)
  refine (put_any pb N t fp F V s lv l _ ((hd.kept hT (fun _ _ h => h)).less (fun _ _ => trivial)) hs hN o3 (fun g hg => .inr (hlv g hg))).mono ?_
  rintro e w3 ⟨rfl, ht, hd2⟩
  refine ⟨rfl, Did.of_put (hT.mono (fun _ _ h => h.elim)) (fun g hgv => ⟨(World.ownsRow.lt o3 g hgv).2, ?_⟩) ht hd2⟩
  obtain ⟨x, hx, hb⟩ := hlv g hgv
  exact .inl (hd.lies hx hb).1

set_option maxRecDepth 100000 in
theorem append_no (pb : Nat) (s : ByteArray) (v : Value) (w : World) (hs : s.size ≤ maxLen) (hn : nm s = false) :
    Calls Try.prog 20 #[.pointer (some ⟨pb, 0, none⟩), .string s, v] w fun e w' => e = .returned (.int .i64 1) ∧ w' = w := by
  have hs' : s.size ≤ 9223372036854775807 := hs
  go_enter Try.func20, Try.ntmps20
  go_wp2_with (go_at_call 33; refine (name_any s _ hs').mono ?_; rintro e w1 ⟨rfl, rfl⟩)
  go_ret
  exact ⟨rfl, rfl⟩
set_option maxRecDepth 100000 in
theorem replace_no (pb : Nat) (s : ByteArray) (v : Value) (w : World) (hs : s.size ≤ maxLen) (hn : nm s = false) :
    Calls Try.prog 22 #[.pointer (some ⟨pb, 0, none⟩), .string s, v] w fun e w' => e = .returned (.int .i64 1) ∧ w' = w := by
  have hs' : s.size ≤ 9223372036854775807 := hs
  go_enter Try.func22, Try.ntmps22
  go_wp2_with (go_at_call 33; refine (name_any s _ hs').mono ?_; rintro e w1 ⟨rfl, rfl⟩)
  go_ret
  exact ⟨rfl, rfl⟩
set_option maxRecDepth 100000 in
theorem replace_yes (pb N : Nat) (fp : Nat → Prop) (F : Tab) (s : ByteArray) (v : Value) (b : List (BitVec 8)) (w : World) (hd : Disk w pb fp N F) (hs : s.size ≤ maxLen) (hN : N < 1000000000) (hr : ReadsV w v b) (hl : b.length ≤ 100000000000000) (hn : nm s = true) :
    Calls Try.prog 22 #[.pointer (some ⟨pb, 0, none⟩), .string s, v] w fun e w' => e = .returned (.int .i64 0) ∧ Did w w' pb fp (more F (key s) N) (replF F (key s) b) := by
  have hs' : s.size ≤ 9223372036854775807 := hs
  have HP : Hid (Calls Try.prog 32 #[.pointer (some ⟨pb, 0, none⟩), .string s, v] w fun e w' => e = .returned (.tuple #[]) ∧ Did w w' pb fp (more F (key s) N) (replF F (key s) b)) := settle_any pb N fp F s v b w hd hs hN hr hl
  generalize more F (key s) N = N' at *
  generalize replF F (key s) b = F' at *
  clear hd hr hl hs hN
  go_enter Try.func22, Try.ntmps22
  go_wp2_with (first
    | (go_at_call 33; refine (name_any s _ hs').mono ?_; rintro e w1 ⟨rfl, rfl⟩)
    | (go_at_call 32; refine HP.out.mono ?_; rintro e w2 ⟨rfl, hdid⟩))
  go_ret
  exact ⟨rfl, hdid⟩

theorem isSome_no {F : Tab} {k : Key} (h : F k = none) : (F k).isSome = false := by rw [h]; rfl
set_option maxRecDepth 100000 in
theorem sync_no (pb N : Nat) (fp : Nat → Prop) (F : Tab) (s : ByteArray) (w : World) (hd : Disk w pb fp N F) (hs : s.size ≤ maxLen) (hn : F (key s) = none) :
    Calls Try.prog 21 #[.pointer (some ⟨pb, 0, none⟩), .string s] w fun e w' => e = .returned (.int .i64 9) ∧ Did w w' pb fp N F := by
  have hd0 := hd
  obtain ⟨V, hd⟩ := hd
  obtain ⟨mo, lv, hc, hlt, _, hr1, hown, hq2, hq⟩ := hd.look hs trivial
  clear hq hq2
  rw [isSome_no hn] at hr1
  generalize syncOf F (key s) = sy at *
  obtain ⟨a, c, rfl, _⟩ := ReadsV.of_own hown
  generalize (bytesOf F (key s)).length = n at *
  have HD : Hid (∀ w1, Turned (fun _ => False) w w1 → Did w w1 pb fp N F) := fun w1 h => Did.ahead h (Did.none (hd0.kept h (fun _ _ h => h)))
  clear hd0 hd hown hn hs
  go_enter Try.func21, Try.ntmps21
  go_wp2
  go_ret
  exact ⟨rfl, HD.out _ (Turned.alloc _ _ _)⟩
set_option maxRecDepth 100000 in
theorem sync_yes (pb N M : Nat) (fp : Nat → Prop) (F : Tab) (s : ByteArray) (w : World) (hd : Disk w pb fp N F) (hs : s.size ≤ maxLen) (hN : N < 1000000000) (hf : Fits F M) (hM : M ≤ 100000000000000) (hn : (F (key s)).isSome = true) :
    Calls Try.prog 21 #[.pointer (some ⟨pb, 0, none⟩), .string s] w fun e w' => e = .returned (.int .i64 0) ∧ Did w w' pb fp N (syncF F (key s)) := by
  obtain ⟨V, hd⟩ := hd
  obtain ⟨mo, lv, hc, hlt, _, hr1, hown, hlv, hq⟩ := hd.look hs trivial
  clear hq
  have hmore : more F (key s) N = N := by unfold more; rw [hn]; rfl
  rw [hn] at hr1
  have HP : Hid (∀ w2, Turned (fun _ => False) w w2 → Calls Try.prog 34 #[.pointer (some ⟨pb, 0, none⟩), .string s, .agg #[lv, .int .i64 ((bytesOf F (key s)).length : Int)]] w2 fun e w' => e = .returned (.tuple #[]) ∧ Did w w' pb fp N (syncF F (key s))) :=
    fun w2 hT => by have := put_same (t := (bytesOf F (key s)).length) hd hs hN hlv hT hown; rwa [hmore] at this
  generalize syncOf F (key s) = sy at *
  obtain ⟨a, c, rfl, _⟩ := ReadsV.of_own hown
  generalize syncF F (key s) = F' at *
  have hle := (hf.sync (key s)).2
  generalize (bytesOf F (key s)).length = n at *
  have hn2 : n ≤ 100000000000000 := by omega
  clear hd hown hn hs hf hM hle hmore hlv hN
  go_enter Try.func21, Try.ntmps21
  go_wp2_with (go_at_call 34; refine (HP.out _ (Turned.alloc _ _ _)).mono ?_; rintro e w2 ⟨rfl, hdid⟩)
  go_ret
  exact ⟨rfl, hdid⟩

theorem frame_cells {w w1 : World} {lv x : Value} (hlv : ∀ g, lv.ownBlock = some g → g < w.heap.size) (hg : (w.alloc (.cells #[lv, x] 61)).grownBy w1 lv.ownBlock) :
    w1.cell? ⟨w.heap.size, 0, none⟩ = some lv ∧ w1.cell? ⟨w.heap.size, 1, none⟩ = some x ∧ w1.frozen? ⟨w.heap.size, 0, none⟩ = false := by
  have h := (hg.block w.heap.size (by simp) (fun e => by have := hlv _ e.symm; omega)).trans (heap_alloc_new w _)
  exact ⟨by rw [cell_of_row w1 _ 0 _ 61 (0, 0) h]; rfl, by rw [cell_of_row w1 _ 1 _ 61 (0, 0) h]; rfl, by simp [World.frozen?, h]⟩

set_option maxRecDepth 100000 in
set_option maxHeartbeats 400000 in
theorem append_yes (pb N M : Nat) (fp : Nat → Prop) (F : Tab) (s : ByteArray) (v : Value) (b : List (BitVec 8)) (w : World) (hd : Disk w pb fp N F) (hs : s.size ≤ maxLen) (hN : N < 1000000000) (hf : Fits F M) (hM : M ≤ 50000000000000) (hr : ReadsV w v b) (hl : b.length ≤ 50000000000000) (hn : nm s = true) :
    Calls Try.prog 20 #[.pointer (some ⟨pb, 0, none⟩), .string s, v] w fun e w' => e = .returned (.int .i64 0) ∧ Did w w' pb fp (more F (key s) N) (appF F (key s) b) := by
  have hs' : s.size ≤ 9223372036854775807 := hs
  obtain ⟨V, hd⟩ := hd
  obtain ⟨mo, lv, hc, hlt, hr1, _, hown, hlv, hlvV⟩ := hd.look hs trivial
  clear hlvV
  have hlt2 : ∀ g, lv.ownBlock = some g → g < w.heap.size := fun g hg => (World.ownsRow.lt hown g hg).2
  have HC : Hid (∀ w1 x, (w.alloc (.cells #[lv, x] 61)).grownBy w1 lv.ownBlock → w1.cell? ⟨w.heap.size, 0, none⟩ = some lv ∧ w1.cell? ⟨w.heap.size, 1, none⟩ = some x ∧ w1.frozen? ⟨w.heap.size, 0, none⟩ = false) :=
    fun w1 x hg => frame_cells hlt2 hg
  have HP : Hid (∀ (w1 : World) (v' : Value) (f : Obj), (w.alloc f).grownBy w1 lv.ownBlock → Owns w1 0 v' (bytesOf F (key s) ++ b) → (v'.ownBlock = lv.ownBlock ∨ v'.ownBlock = some (w.alloc f).heap.size) →
      ∀ u, Calls Try.prog 34 #[.pointer (some ⟨pb, 0, none⟩), .string s, .agg #[v', .int .i64 (syncOf F (key s) : Int)]] (w1.setCell ⟨w.heap.size, 0, none⟩ u) fun e w' => e = .returned (.tuple #[]) ∧ Did w w' pb fp (more F (key s) N) (appF F (key s) b)) :=
    fun w1 v' f hg ho hloc u => put_row hd hs hN hlv hg ho hloc
  have HL : Hid ((bytesOf F (key s)).length + b.length ≤ 140737488355328) := by show _ ≤ _; have := (hf.sync (key s)).2; omega
  have HR : Hid (∀ f : Obj, ReadsV (w.alloc f) v b) := fun f => hr.below (Below.alloc (Below.refl _ _) (Nat.le_refl _) _)
  have HO : Hid (∀ f : Obj, Owns (w.alloc f) 0 lv (bytesOf F (key s))) := fun f => hown.alloc f
  generalize syncOf F (key s) = sy at *
  obtain ⟨a, c, rfl, _⟩ := ReadsV.of_own hown
  generalize more F (key s) N = N' at *
  generalize appF F (key s) b = F' at *
  generalize bytesOf F (key s) = bb at *
  generalize bb.length = n at hr1 HC HP HO
  clear hd hown hs hf hM hlv hN hr hl hlt2
  go_enter Try.func20, Try.ntmps20
  go_wp2_with (first
    | (go_at_call 33; refine (name_any s _ hs').mono ?_; rintro e w1 ⟨rfl, hw⟩; have hw2 := hw.symm; clear hw; subst hw2)
    | (go_at_call 34; refine (HQ.out _).mono ?_; rintro e w3 ⟨rfl, hdid⟩)
    | (at_builtin; refine wpList_append_bytes_at rfl (.tmp 18) (.tmp 19) 30 rfl 0 Try.underlying30 Try.info5 _ bb rfl (HO.out _) _ b rfl (HR.out _) HL.out (Nat.zero_le _) ?_; intro v1 w2 ho hg hloc; obtain ⟨c0, c1, f0⟩ := HC.out _ _ hg; obtain ⟨a1, k1, rfl, _⟩ := ReadsV.of_own ho; have HQ : Hid (∀ u, Calls Try.prog 34 #[.pointer (some ⟨pb, 0, none⟩), .string s, .agg #[.slice a1 (bb ++ b).length k1, .int .i64 (sy : Int)]] (w2.setCell ⟨w.heap.size, 0, none⟩ u) fun e w' => e = .returned (.tuple #[]) ∧ Did w w' pb fp N' F') := HP.out _ _ _ hg ho hloc; clear ho hg hloc; generalize (bb ++ b).length = m1 at HQ ⊢))
  go_ret
  exact ⟨rfl, hdid⟩

end Go.Proofs.Ytcmnjiichkcmgaa
