/-
  The contract of put.
-/
import Derived.Test.YtcmnjiichkcmgaaDisk
import Derived.Lib.SmallJoins
namespace Go.Proofs.Ytcmnjiichkcmgaa
open Go.RowKit Go.Maps Go.MapKept

theorem Disk.cell {w : World} {pb : Nat} {c : Value} (h : w.heap[pb]? = some (.cells #[c] 53 (0, 0))) : w.cell? ⟨pb, 0, none⟩ = some c := by
  rw [cell_of_row w pb 0 #[c] 53 (0, 0) h]; rfl
theorem Disk.thaw {w : World} {pb : Nat} {c : Value} (h : w.heap[pb]? = some (.cells #[c] 53 (0, 0))) : w.frozen? ⟨pb, 0, none⟩ = false := by
  simp [World.frozen?, h]
theorem eqlSome (bm : Nat) (w : World) : (binOp .eql 51 (.map (some bm)) (.map none)).run Try.prog w = .ok (.bool false) w := by kernel_rfl
theorem eqlNil (w : World) : (binOp .eql 51 (.map none) (.map none)).run Try.prog w = .ok (.bool true) w := by kernel_rfl

/-- The world behind what put makes ahead of its store. -/
def putW (w : World) (v : Value) (t : Int) : World := (w.alloc (.cells #[v, .int .i64 t] 61)).drew
def putN (w : World) (pb : Nat) (v : Value) (t : Int) : World := (((w.setCell ⟨pb, 0, none⟩ (.map (some (w.heap.size + 1)))).alloc (.cells #[v, .int .i64 t] 61)).alloc (.map #[] 0)).drew

set_option maxRecDepth 100000 in
set_option maxHeartbeats 400000 in
theorem put_some (pb mb n : Nat) (s : ByteArray) (v : Value) (t : Int) (D : DataW Value) (w : World) (hc : w.cell? ⟨pb, 0, none⟩ = some (.map (some mb))) (hlt : pb < w.heap.size) (hs : s.size ≤ maxLen) (hn : n < maxLen)
    (hm : w.ownsMap Try.prog 9 RV mb n D) :
    Calls Try.prog 34 #[.pointer (some ⟨pb, 0, none⟩), .string s, .agg #[v, .int .i64 t]] w fun e w' => e = .returned (.tuple #[]) ∧ w'.ownsMap Try.prog 9 RV mb (n + 1) (D.put (.string (key s)) (.held (.agg #[v, .int .i64 t]))) ∧ (putW w v t).mapTurned w' mb := by
  have hm1 : ((w.alloc (.cells #[v, .int .i64 t] 61)).drew).ownsMap Try.prog 9 RV mb n D := (hm.alloc _).drew
  obtain ⟨w2, hrun, ho, htu⟩ := hm1.store (val := .agg #[v, .int .i64 t]) (ps := []) law9 Try.underlying51 hn (keyOf_name hs) (d := .held (.agg #[v, .int .i64 t])) rfl
  have HO : Hid (_ ∧ _) := ⟨ho, htu⟩
  have e1 := eqlSome mb
  clear ho htu hm hm1 hs
  go_enter Try.func34, Try.ntmps34
  go_wp2
  go_region
  go_wp2
  go_end0
  exact ⟨rfl, HO.out⟩

set_option maxRecDepth 100000 in
set_option maxHeartbeats 400000 in
theorem put_nil (pb : Nat) (s : ByteArray) (v : Value) (t : Int) (w : World) (hc : w.cell? ⟨pb, 0, none⟩ = some (.map none)) (hfz : w.frozen? ⟨pb, 0, none⟩ = false) (hlt : pb < w.heap.size) (hs : s.size ≤ maxLen) :
    Calls Try.prog 34 #[.pointer (some ⟨pb, 0, none⟩), .string s, .agg #[v, .int .i64 t]] w fun e w' => e = .returned (.tuple #[]) ∧ w'.ownsMap Try.prog 9 RV (w.heap.size + 1) 1 ((DataW.map []).put (.string (key s)) (.held (.agg #[v, .int .i64 t]))) ∧ (putN w pb v t).mapTurned w' (w.heap.size + 1) := by
  have hm1 : (putN w pb v t).ownsMap Try.prog 9 RV (w.heap.size + 1) 0 (.map []) := by
    have := World.ownsMap_made ((w.setCell ⟨pb, 0, none⟩ (.map (some (w.heap.size + 1)))).alloc (.cells #[v, .int .i64 t] 61)) Try.prog 9 RV
    have e : ((w.setCell ⟨pb, 0, none⟩ (.map (some (w.heap.size + 1)))).alloc (.cells #[v, .int .i64 t] 61)).heap.size = w.heap.size + 1 := by simp
    rw [e] at this
    exact this.drew
  obtain ⟨w2, hrun, ho, htu⟩ := hm1.store (val := .agg #[v, .int .i64 t]) (ps := []) law9 Try.underlying51 (by decide) (keyOf_name hs) (d := .held (.agg #[v, .int .i64 t])) rfl
  have HO : Hid (_ ∧ _) := ⟨ho, htu⟩
  unfold putN at hrun
  have e1 := eqlNil
  have hmm := @run_makeMap Try.prog
  clear ho htu hm1 hs
  go_enter Try.func34, Try.ntmps34
  go_wp2
  go_region
  go_wp2
  go_end0
  exact ⟨rfl, HO.out⟩

theorem putW_turned (tu : Nat → Prop) (w : World) (v : Value) (t : Int) : Turned tu w (putW w v t) := by
  have h := Turned.alloc tu w (.cells #[v, .int .i64 t] 61)
  exact ⟨h.os, h.tape, h.output, h.size, h.block⟩
theorem putN_turned {tu : Nat → Prop} (w : World) {pb : Nat} (v : Value) (t : Int) (h : tu pb) : Turned tu w (putN w pb v t) := by
  refine ⟨rfl, rfl, rfl, by simp [putN]; omega, fun k hk hn => ?_⟩
  have hne : k ≠ pb := fun e => hn (e ▸ h)
  show (((w.setCell ⟨pb, 0, none⟩ (.map (some (w.heap.size + 1)))).alloc (.cells #[v, .int .i64 t] 61)).alloc (.map #[] 0)).heap[k]? = _
  rw [Go.heap_alloc_old _ _ (by simp; omega), Go.heap_alloc_old _ _ (by simp; omega), RowKit.Below.heap_setCell _ _ _ _ hne]
theorem putN_cell {w : World} {pb : Nat} {c : Value} (v : Value) (t : Int) (h : w.heap[pb]? = some (.cells #[c] 53 (0, 0))) : (putN w pb v t).heap[pb]? = some (.cells #[.map (some (w.heap.size + 1))] 53 (0, 0)) := by
  have hlt := (Array.getElem?_eq_some_iff.1 h).1
  show (((w.setCell ⟨pb, 0, none⟩ (.map (some (w.heap.size + 1)))).alloc (.cells #[v, .int .i64 t] 61)).alloc (.map #[] 0)).heap[pb]? = _
  rw [Go.heap_alloc_old _ _ (by simp; omega), Go.heap_alloc_old _ _ (by simp; omega)]
  rw [Go.Joins.block_setCell h]; rfl

theorem put_any (pb N t : Nat) (fp : Nat → Prop) (F : Tab) (V : Key → Value) (s : ByteArray) (v : Value) (l : List (BitVec 8)) (w : World) (hd : DiskV w pb fp N F V (but (key s))) (hs : s.size ≤ maxLen) (hN : N < 1000000000) (hv : Owns w 0 v l)
    (hb : ∀ g, v.ownBlock = some g → ¬ fp g ∨ ∃ x, F (key s) = some x ∧ (V (key s)).ownBlock = some g) :
    Calls Try.prog 34 #[.pointer (some ⟨pb, 0, none⟩), .string s, .agg #[v, .int .i64 t]] w fun e w' => e = .returned (.tuple #[]) ∧ Turned fp w w' ∧
      Disk w' pb (fun i => fp i ∨ v.ownBlock = some i ∨ (w.heap.size ≤ i ∧ i < w'.heap.size)) (if (F (key s)).isSome then N else N + 1) (upd F (key s) (some (l, t))) := by
  have hlt : ∀ g, v.ownBlock = some g → g < w.heap.size := fun g hg => (World.ownsRow.lt hv g hg).2
  obtain ⟨hsz, hp, h⟩ := hd
  rcases h with ⟨hc, hF⟩ | ⟨mb, D, hc, hn, H⟩
  · refine (put_nil pb s v t w (Disk.cell hc) (Disk.thaw hc) (hsz pb hp) hs).mono fun e w' ⟨he, hm, htu⟩ => ⟨he, ?_, ?_⟩
    · exact (putN_turned w v t hp).trans (Turned.of_grown (tu := fun i => i = w.heap.size + 1) htu.grown (fun i e => by simpa using e.symm)) (fun i hi e => by omega)
    · have hgn : (putN w pb v t).heap.size = w.heap.size + 2 := by simp [putN]
      have hsz' : w'.heap.size = w.heap.size + 2 := by
        obtain ⟨_, _, _, _, _, rfl⟩ := htu
        simp [Go.ChangeMaps.setBlock, hgn]
      have hv' : Owns (putN w pb v t) 0 v l := owns_turned hv (putN_turned (tu := fun i => i = pb) w v t rfl) (fun g hg e => by
        rcases hb g hg with h1 | ⟨x, hx, _⟩
        · exact h1 (e ▸ hp)
        · rw [hF] at hx; cases hx)
      have H0 : Held (putN w pb v t) pb (fun i => fp i ∨ v.ownBlock = some i ∨ (w.heap.size ≤ i ∧ i < w'.heap.size)) (w.heap.size + 1) (.map []) V F (but (key s)) := by
        refine { map := ?_, mfp := .inr (.inr ⟨by omega, by omega⟩), mne := ?_, no := fun _ _ => rfl, yes := ?_, own := ?_, lies := ?_, apart := ?_ }
        · have := World.ownsMap_made ((w.setCell ⟨pb, 0, none⟩ (.map (some (w.heap.size + 1)))).alloc (.cells #[v, .int .i64 t] 61)) Try.prog 9 RV
          have e : ((w.setCell ⟨pb, 0, none⟩ (.map (some (w.heap.size + 1)))).alloc (.cells #[v, .int .i64 t] 61)).heap.size = w.heap.size + 1 := by simp
          rw [e] at this
          exact this.drew
        · have := hsz pb hp; omega
        · intro k l s h; rw [hF] at h; cases h
        · intro k l s _ h; rw [hF] at h; cases h
        · intro k x h; rw [hF] at h; cases h
        · intro k k' x x' g h; rw [hF] at h; cases h
      obtain ⟨hN', H'⟩ := H0.stored (N := N) (Nat.zero_le _) hm htu hv' (fun g hg => ⟨.inr (.inl hg), (by
        rcases hb g hg with h1 | ⟨x, hx, _⟩
        · exact fun e => h1 (e ▸ hp)
        · rw [hF] at hx; cases hx), (by have := hlt g hg; omega), fun j x _ hj => by rw [hF] at hj; cases hj⟩)
      refine ⟨_, ?_, .inl hp, .inr ⟨_, _, ?_, hN', H'⟩⟩
      · rintro i (hi | hi | hi)
        · have := hsz i hi; omega
        · have := hlt i hi; omega
        · omega
      · rw [htu.grown.block pb (by have := hsz pb hp; omega) (by have := hsz pb hp; simp; omega)]
        exact putN_cell v t hc
  · refine (put_some pb mb _ s v t D w (Disk.cell hc) (hsz pb hp) hs (by have := H.map.size_le; unfold maxLen; omega) H.map).mono fun e w' ⟨he, hm, htu⟩ => ⟨he, ?_, ?_⟩
    · exact (putW_turned fp w v t).trans (Turned.of_grown (tu := fun i => i = mb) htu.grown (fun i e => by simpa using e.symm)) (fun i hi e => e ▸ H.mfp)
    · have hgn : (putW w v t).heap.size = w.heap.size + 1 := by simp [putW]
      have hsz' : w'.heap.size = w.heap.size + 1 := by
        obtain ⟨_, _, _, _, _, rfl⟩ := htu
        simp [Go.ChangeMaps.setBlock, hgn]
      have hT := putW_turned (fun _ => False) w v t
      have hv' : Owns (putW w v t) 0 v l := owns_turned hv hT (fun g hg e => e)
      have H0 : Held (putW w v t) pb (fun i => fp i ∨ v.ownBlock = some i ∨ (w.heap.size ≤ i ∧ i < w'.heap.size)) mb D V F (but (key s)) := { H with
        map := map_turned H.map hT (fun h => h)
        own := fun k l s hk hF => owns_turned (H.own k l s hk hF) hT (fun g hg h => h)
        mfp := .inl H.mfp
        lies := fun k x hF g hg => ⟨.inl (H.lies k x hF g hg).1, (H.lies k x hF g hg).2⟩ }
      obtain ⟨hN', H'⟩ := H0.stored hn hm htu hv' (fun g hg => by
        rcases hb g hg with h1 | ⟨x, hx, hgk⟩
        · exact ⟨.inr (.inl hg), fun e => h1 (e ▸ hp), fun e => h1 (e ▸ H.mfp), fun j x _ hj e => h1 (H.lies j x hj g e).1⟩
        · have := H.lies _ x hx g hgk
          exact ⟨.inl this.1, this.2.1, this.2.2, fun j y hj hF e => hj (H.apart j _ y x g hF hx e hgk)⟩)
      refine ⟨_, ?_, .inl hp, .inr ⟨_, _, ?_, hN', H'⟩⟩
      · rintro i (hi | hi | hi)
        · have := hsz i hi; omega
        · have := hlt i hi; omega
        · omega
      · rw [htu.grown.block pb (by have := hsz pb hp; omega) (by have := H.mne; simp; exact fun e => this e.symm), hT.block pb (hsz pb hp) (fun h => h)]
        exact hc

end Go.Proofs.Ytcmnjiichkcmgaa
