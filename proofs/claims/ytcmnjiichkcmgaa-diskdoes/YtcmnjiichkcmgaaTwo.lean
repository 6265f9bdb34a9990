/-
  Two disks of the call's own beside each other; acts on either.
-/
import Derived.Test.YtcmnjiichkcmgaaDoing
namespace Go.Proofs.Ytcmnjiichkcmgaa
open Go.RowKit Go.Maps Go.Sort
set_option linter.unusedVariables false

theorem IntsV.below {w w' : World} {v : Value} {zs : List Int} (h : IntsV w v zs) (hb : Below w.heap.size w w') : IntsV w' v zs := by
  obtain ⟨a, c, h1, h2, h3, h4⟩ := h
  refine ⟨a, c, h1, h2, h3, ?_⟩
  rcases h4 with h | ⟨b, off, ha, hc⟩
  · exact .inl h
  · refine .inr ⟨b, off, ha, fun i hi => ?_⟩
    have h5 := hc i hi
    have hlt : b < w.heap.size := World.block_lt_of_cell? w _ h5
    exact (hb.cell (p := ⟨b, off + i, none⟩) hlt).trans h5
theorem DoAt.below {w w' : World} {b off : Nat} {o : Do} (h : DoAt w b off o) (hb : Below w.heap.size w w') : DoAt w' b off o := by
  have hlt : b < w.heap.size := World.block_lt_of_cell? w _ h.c0
  exact { c0 := (hb.cell (p := ⟨b, off, none⟩) hlt).trans h.c0, c1 := (hb.cell (p := ⟨b, off + 1, none⟩) hlt).trans h.c1, c2 := (hb.cell (p := ⟨b, off + 2, none⟩) hlt).trans h.c2, c3 := (hb.cell (p := ⟨b, off + 3, none⟩) hlt).trans h.c3,
          wk := h.wk, wn := h.wn, rb := h.rb.below hb, rk := h.rk.below hb, wb := h.wb }

/-- do on a disk of the call's own. -/
theorem St.act {w0 w : World} {pb N M b off : Nat} {fp : Nat → Prop} {F : Tab} {o : Do} (h : St w0 w pb fp N F) (hN : N < 100000) (hf : Fits F M) (hM : M ≤ 3000) (hbl : o.b.length ≤ 3000) (ho : DoAt w0 b off o) :
    Calls Try.prog 11 #[.pointer (some ⟨pb, 0, none⟩), .agg #[.int .i64 o.kind, .string o.name, o.vb, o.vk]] w fun e w' => ∃ F' x, e = .returned (.int .i64 x) ∧ Acted F o F' x ∧ Fits F' (M + o.b.length) ∧ Did w w' pb fp (N + 1) F' :=
  (do_any pb N M fp F o w h.1 hN hf (by omega) (ho.rb.below h.2.1) (by omega) ho.wn (fun w3 hT => ho.rk.below (h.2.1.trans (hT.below h.2.1.size h.2.2)))).mono fun e w' ⟨F', x, he, ha, hd⟩ => ⟨F', x, he, ha, acted_fits hf ha, hd⟩

structure Two (w0 w : World) (pb qb : Nat) (fp fq : Nat → Prop) (N : Nat) (F G : Tab) : Prop where
  l : St w0 w pb fp N F
  r : St w0 w qb fq N G
  apart : ∀ i, fp i → ¬ fq i

theorem Two.more {w0 w : World} {pb qb N N' : Nat} {fp fq : Nat → Prop} {F G : Tab} (h : Two w0 w pb qb fp fq N F G) (hn : N ≤ N') : Two w0 w pb qb fp fq N' F G := ⟨h.l.more hn, h.r.more hn, h.apart⟩
theorem Two.kept {w0 w w' : World} {pb qb N : Nat} {fp fq : Nat → Prop} {F G : Tab} (h : Two w0 w pb qb fp fq N F G) (ht : Turned (fun _ => False) w w') : Two w0 w' pb qb fp fq N F G := ⟨h.l.kept ht, h.r.kept ht, h.apart⟩
theorem Two.flip {w0 w : World} {pb qb N : Nat} {fp fq : Nat → Prop} {F G : Tab} (h : Two w0 w pb qb fp fq N F G) : Two w0 w qb pb fq fp N G F := ⟨h.r, h.l, fun i h1 h2 => h.apart i h2 h1⟩
theorem Two.did {w0 w w' : World} {pb qb N N' : Nat} {fp fq : Nat → Prop} {F F' G : Tab} (h : Two w0 w pb qb fp fq N F G) (hd : Did w w' pb fp N' F') (hn : N ≤ N') : Two w0 w' pb qb (grow fp w w') fq N' F' G := by
  refine ⟨h.l.did hd, ⟨(h.r.1.kept hd.1 (fun i hq hp => h.apart i hp hq)).more hn, (h.l.did hd).2.1, h.r.2.2⟩, ?_⟩
  rintro i (hp | hp) hq
  · exact h.apart i hp hq
  · have := h.r.1.lt hq; omega
theorem Two.act {w0 w : World} {pb qb N M b off : Nat} {fp fq : Nat → Prop} {F G : Tab} {o : Do} (h : Two w0 w pb qb fp fq N F G) (hN : N < 100000) (hf : Fits F M) (hM : M ≤ 3000) (hbl : o.b.length ≤ 3000) (ho : DoAt w0 b off o) :
    Calls Try.prog 11 #[.pointer (some ⟨pb, 0, none⟩), .agg #[.int .i64 o.kind, .string o.name, o.vb, o.vk]] w fun e w' => ∃ fp' F' x, e = .returned (.int .i64 x) ∧ Acted F o F' x ∧ Fits F' (M + o.b.length) ∧ Two w0 w' pb qb fp' fq (N + 1) F' G :=
  (h.l.act hN hf hM hbl ho).mono fun e w' ⟨F', x, he, ha, hf', hd⟩ => ⟨_, F', x, he, ha, hf', h.did hd (by omega)⟩
theorem Two.crash {w0 w : World} {pb qb N M : Nat} {fp fq : Nat → Prop} {F G : Tab} {v : Value} {zs : List Int} (h : Two w0 w pb qb fp fq N F G) (hN : N < 100000) (hf : Fits F M) (hM : M ≤ 50000000000000) (hk : IntsV w0 v zs) :
    Calls Try.prog 19 #[.pointer (some ⟨pb, 0, none⟩), v] w fun e w' => e = .returned (.tuple #[]) ∧ ∃ fp' ks, NamesOf F ks ∧ Two w0 w' pb qb fp' fq N (crashTo F ks zs ks.length) G :=
  (crash_any pb N M fp F v zs w h.l.1 (by omega) hf hM (fun w3 hT => hk.below (h.l.2.1.trans (hT.below h.l.2.1.size h.l.2.2)))).mono fun e w' ⟨he, ks, h1, hd⟩ => ⟨he, _, ks, h1, h.did hd (Nat.le_refl _)⟩

theorem St.born {w0 w : World} (hB : Below w0.heap.size w0 w) : Calls Try.prog 10 #[] w fun e w1 => ∃ pb fp, e = .returned (.pointer (some ⟨pb, 0, none⟩)) ∧ St w0 w1 pb fp 0 none' ∧ (∀ i, fp i → w.heap.size ≤ i) ∧ Turned (fun _ => False) w w1 :=
  (new_st w).mono fun e w1 ⟨pb, fp, he, h1, h2, h3⟩ => ⟨pb, fp, he, ⟨h1.1, hB.trans (h3.below hB.size (fun _ h => h.elim)), fun i hi => Nat.le_trans hB.size (h2 i hi)⟩, h2, h3⟩
theorem Two.born {w0 w : World} {pb N : Nat} {fp : Nat → Prop} {F : Tab} (h : St w0 w pb fp N F) : Calls Try.prog 10 #[] w fun e w1 => ∃ qb fq, e = .returned (.pointer (some ⟨qb, 0, none⟩)) ∧ Two w0 w1 pb qb fp fq N F none' :=
  (St.born h.2.1).mono fun e w1 ⟨qb, fq, he, h1, h2, h3⟩ => ⟨qb, fq, he, h.kept h3, h1.more (Nat.zero_le _), fun i hp hq => by have := h.1.lt hp; have := h2 i hq; omega⟩

theorem sumTo_le {os : List Do} (h : Light os) {j : Nat} (hj : j < os.length) : sumTo os j ≤ 3000 ∧ (os.getD j noDo).b.length ≤ 3000 ∧ sumTo os (j + 1) = sumTo os j + (os.getD j noDo).b.length := by
  have h1 := (h.2 j hj).1
  have h2 : sumTo os (j + 1) = sumTo os j + (os.getD j noDo).b.length := rfl
  omega
theorem sumTo_end {os : List Do} (h : Light os) : sumTo os os.length ≤ 3000 := by
  cases hl : os.length with
  | zero => exact Nat.zero_le _
  | succ n => exact (h.2 n (by omega)).1

theorem toList_key (s : ByteArray) : s.toList = key s := by
  cases s
  unfold key
  rw [ByteArray.toList_mk]
theorem name_ne {s t : ByteArray} (h : s ≠ t) : (s.toList == t.toList) = false := by
  rw [beq_eq_false_iff_ne, toList_key, toList_key]
  exact fun e => h (key_inj e)
theorem key_ne' {s t : ByteArray} (h : s ≠ t) : key t ≠ key s := fun e => h (key_inj e.symm)

end Go.Proofs.Ytcmnjiichkcmgaa
