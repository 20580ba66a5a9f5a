
/- What phoenixmake.Rec makes out of a list of numbers: a record that may be; only the list's own counter is written. -/
import Derived.Test.YticaldoggdfjiaaDoorRecCheck
namespace Go.Proofs.YticaldoggdfjiaaDoor
open Go.RowKit
set_option linter.unusedVariables false

/-- A list of numbers that is taken one by one lies at block s. -/
structure SeqAt (w : World) (s : Nat) (lo : Option Addr) (len cap : Nat) (zs : List Int) (n : Nat) : Prop where
  lies : w.heap[s]? = some (.cells #[.slice lo len cap, .int .i64 n] 30 (0, 0))
  row : ∀ i, i < len → ∃ b off, lo = some ⟨b, off, none⟩ ∧ b < s ∧ w.cell? ⟨b, off + i, none⟩ = some (.int .i64 (zs.getD i 0))
  small : n ≤ 1000 ∧ len ≤ 150
/-- Of all blocks that were there none but s has turned. -/
structure But (s : Nat) (w w' : World) : Prop where
  os : w'.os = w.os
  tape : w'.tape = w.tape
  output : w'.output = w.output
  size : w.heap.size ≤ w'.heap.size
  block : ∀ k, k < w.heap.size → k ≠ s → w'.heap[k]? = w.heap[k]?
theorem But.refl (s : Nat) (w : World) : But s w w := ⟨rfl, rfl, rfl, Nat.le_refl _, fun _ _ _ => rfl⟩
theorem But.trans {s : Nat} {a b c : World} (h : But s a b) (k : But s b c) : But s a c :=
  ⟨k.os.trans h.os, k.tape.trans h.tape, k.output.trans h.output, Nat.le_trans h.size k.size, fun i hi hs => (k.block i (Nat.lt_of_lt_of_le hi h.size) hs).trans (h.block i hi hs)⟩
theorem But.of_below {s : Nat} {a b : World} (h : Below a.heap.size a b) : But s a b := ⟨h.os, h.tape, h.output, h.size, fun k hk _ => h.block k hk⟩
theorem But.below {s : Nat} {a b : World} (h : But s a b) (hs : s ≤ a.heap.size) : Below s a b := ⟨h.os, h.tape, h.output, h.size, fun k hk => h.block k (Nat.lt_of_lt_of_le hk hs) (Nat.ne_of_lt hk)⟩
theorem But.alloc {s : Nat} {a b : World} (h : But s a b) (A : Obj) : But s a (b.alloc A) := h.trans (But.of_below ((Below.refl _ _).alloc (Nat.le_refl _) A))
theorem But.set (s : Nat) (w : World) (o : Nat) (v : Value) (q : Nat) : But s w ((w.setCell ⟨s, o, none⟩ v).drewN q) := by
  refine ⟨rfl, rfl, rfl, ?_, fun k hk hs => ?_⟩
  · show w.heap.size ≤ (w.setCell _ _).heap.size; simp [World.setCell]
  · show (w.setCell _ _).heap[k]? = _
    simp only [World.setCell, Array.getElem?_modify]
    rw [if_neg (fun e => hs e.symm)]
theorem seq_cell {w : World} {s : Nat} {lo : Option Addr} {len cap : Nat} {zs : List Int} {n : Nat} (h : SeqAt w s lo len cap zs n) : w.cell? ⟨s, 0, none⟩ = some (.slice lo len cap) ∧ w.cell? ⟨s, 1, none⟩ = some (.int .i64 n) := by
  constructor <;> (simp only [World.cell?, h.lies]; rfl)
theorem set_block {w : World} {s : Nat} {c : Array Value} {t : TypeId} (h : w.heap[s]? = some (.cells c t (0, 0))) (o : Nat) (v : Value) : (w.setCell ⟨s, o, none⟩ v).heap[s]? = some (.cells (c.setIfInBounds o v) t (0, 0)) := by
  simp [World.setCell, Array.getElem?_modify, h]
theorem SeqAt.next {w : World} {s : Nat} {lo : Option Addr} {len cap : Nat} {zs : List Int} {n : Nat} (h : SeqAt w s lo len cap zs n) (hn : n + 1 ≤ 1000) (q : Nat) : SeqAt ((w.setCell ⟨s, 1, none⟩ (.int .i64 ((n + 1 : Nat) : Int))).drewN q) s lo len cap zs (n + 1) := by
  refine ⟨?_, fun i hi => ?_, hn, h.small.2⟩
  · exact set_block h.lies 1 _
  · obtain ⟨b, off, rfl, hb, hc⟩ := h.row i hi
    refine ⟨b, off, rfl, hb, ?_⟩
    have hB : Below s w (w.setCell ⟨s, 1, none⟩ (.int .i64 ((n + 1 : Nat) : Int))) := (Below.refl s w).setCell (p := ⟨s, 1, none⟩) (Nat.le_refl _) _
    exact (hB.cell (show b < s from hb)).trans hc
set_option maxHeartbeats 1000000 in
theorem next_any (s : Nat) (lo : Option Addr) (len cap : Nat) (zs : List Int) (n : Nat) (m : Int) (w : World) (h : SeqAt w s lo len cap zs n) (h0 : 0 < m) (h1 : m ≤ 100000) :
    Calls Tryd.prog 28 #[.pointer (some ⟨s, 0, none⟩), .int .i64 m] w fun e w' => ∃ k q, e = .returned (.int .i64 k) ∧ (0 ≤ k ∧ k < m) ∧ w' = (w.setCell ⟨s, 1, none⟩ (.int .i64 ((n + 1 : Nat) : Int))).drewN q := by
  obtain ⟨c0, c1⟩ := seq_cell h
  have hsm := h.small
  have hf : w.frozen? ⟨s, 1, none⟩ = false := by simp [World.frozen?, h.lies]
  obtain ⟨hs1, hs2⟩ := hsm
  by_cases hlt : n < len
  · obtain ⟨b, off, rfl, hb, hc⟩ := h.row n hlt
    have hlt' : (n : Int) < (len : Int) := by omega
    have hd : decide ((n : Int) < (len : Int)) = true := by simp; omega
    clear h
    obtain ⟨y, hy⟩ : ∃ y, y = zs.getD n 0 := ⟨_, rfl⟩
    rw [← hy] at hc
    clear hy
    go_enter Tryd.func28, Tryd.ntmps28
    go_wp2_with fail
    go_quiet (fail)
    go_wp2_with fail
    go_quiet (fail)
    go_wp2_with fail
    refine (number_any _ _ _ h0 h1).mono ?_
    rintro e w2 ⟨rfl, rfl⟩
    have hnb := numberB_bd y m h0
    go_wp2_with fail
    go_ret
    exact ⟨_, _, rfl, hnb, rfl⟩
  · have hd : decide ((n : Int) < (len : Int)) = false := by simp; omega
    clear h
    go_enter Tryd.func28, Tryd.ntmps28
    go_wp2_with fail
    go_quiet (fail)
    go_wp2_with fail
    refine (number_any _ _ _ h0 h1).mono ?_
    rintro e w2 ⟨rfl, rfl⟩
    have hnb := numberB_bd 0 m h0
    go_wp2_with fail
    go_ret
    exact ⟨_, _, rfl, hnb, rfl⟩
theorem set_alloc (x : World) (A : Obj) (p : Addr) (v : Value) (h : p.block < x.heap.size) : (x.alloc A).setCell p v = (x.setCell p v).alloc A := by
  unfold World.setCell World.alloc
  simp only
  congr 1
  refine Array.ext (by simp) fun i h1 h2 => ?_
  simp only [Array.getElem_modify, Array.getElem_push, Array.size_modify]
  by_cases e : i < x.heap.size
  · simp [e]
  · have : ¬ p.block = i := by omega
    simp [e, this]
theorem SeqAt.alloc {w : World} {s : Nat} {lo : Option Addr} {len cap : Nat} {zs : List Int} {n : Nat} (h : SeqAt w s lo len cap zs n) (A : Obj) : SeqAt (w.alloc A) s lo len cap zs n := by
  have hb := (Below.refl w.heap.size w).alloc (Nat.le_refl _) A
  have hlt := lt_of_block h.lies
  refine ⟨by rw [hb.block _ hlt]; exact h.lies, fun i hi => ?_, h.small⟩
  obtain ⟨b, off, e, hbs, hc⟩ := h.row i hi
  exact ⟨b, off, e, hbs, (hb.cell (show b < w.heap.size by omega)).trans hc⟩
theorem next_one (x : World) (A : Obj) (N s : Nat) (lo : Option Addr) (len cap : Nat) (zs : List Int) (n : Nat) (m : Int) (h : SeqAt x s lo len cap zs n) (hN : x.heap.size = N) (h0 : 0 < m) (h1 : m ≤ 100000) (hn : n < 1000) :
    Calls Tryd.prog 28 #[.pointer (some ⟨s, 0, none⟩), .int .i64 m] (x.alloc A) fun e w' => ∃ k x', e = .returned (.int .i64 k) ∧ (0 ≤ k ∧ k < m) ∧ w' = x'.alloc A ∧ SeqAt x' s lo len cap zs (n + 1) ∧ x'.heap.size = N ∧ But s x x' := by
  refine (next_any s lo len cap zs n m _ (h.alloc A) h0 h1).mono ?_
  rintro e w' ⟨k, q, rfl, hk, rfl⟩
  refine ⟨k, (x.setCell ⟨s, 1, none⟩ (.int .i64 ((n + 1 : Nat) : Int))).drewN q, rfl, hk, ?_, h.next (by omega) q, ?_, ?_⟩
  · rw [set_alloc x A _ _ (lt_of_block h.lies)]; rfl
  · rw [← hN]; show (x.setCell _ _).heap.size = _; simp [World.setCell]
  · exact But.set s x 1 _ q
theorem next_two (x : World) (A B : Obj) (N s : Nat) (lo : Option Addr) (len cap : Nat) (zs : List Int) (n : Nat) (m : Int) (h : SeqAt x s lo len cap zs n) (hN : x.heap.size = N) (h0 : 0 < m) (h1 : m ≤ 100000) (hn : n < 1000) :
    Calls Tryd.prog 28 #[.pointer (some ⟨s, 0, none⟩), .int .i64 m] ((x.alloc A).alloc B) fun e w' => ∃ k x', e = .returned (.int .i64 k) ∧ (0 ≤ k ∧ k < m) ∧ w' = (x'.alloc A).alloc B ∧ SeqAt x' s lo len cap zs (n + 1) ∧ x'.heap.size = N ∧ But s x x' := by
  refine (next_any s lo len cap zs n m _ ((h.alloc A).alloc B) h0 h1).mono ?_
  rintro e w' ⟨k, q, rfl, hk, rfl⟩
  refine ⟨k, (x.setCell ⟨s, 1, none⟩ (.int .i64 ((n + 1 : Nat) : Int))).drewN q, rfl, hk, ?_, h.next (by omega) q, ?_, ?_⟩
  · have hlt := lt_of_block h.lies
    rw [set_alloc (x.alloc A) B _ _ (by simp; omega), set_alloc x A _ _ hlt]; rfl
  · rw [← hN]; show (x.setCell _ _).heap.size = _; simp [World.setCell]
  · exact But.set s x 1 _ q
theorem good_of {r : R} (h : holdsB 1 10 r.kind = true ∧ holdsB (txnLo r.kind) (txnHi r.kind) r.txn = true ∧ holdsB (pageLo r.kind) (pageHi r.kind) r.page = true ∧ holdsB (prevLo r.kind) (prevHi r.kind) r.prev = true ∧ holdsB 0 (nextHi r.kind) r.next = true ∧ holdsB 0 (keyHi r.kind) r.key = true ∧ oldB r = true) (h' : (newB r && chgB r) = true) : goodB r = true := by
  unfold goodB
  obtain ⟨h1, h2, h3, h4, h5, h6, h7⟩ := h
  rw [h1, h2, h3, h4, h5, h6, h7, h']
  rfl
set_option maxHeartbeats 4000000 in
theorem make_from (n0 : Nat) (hn0 : n0 + 20 ≤ 1000) (s : Nat) (lo : Option Addr) (len cap : Nat) (zs : List Int) (w : World) (h : SeqAt w s lo len cap zs n0) :
    Calls Tryd.prog 10 #[.pointer (some ⟨s, 0, none⟩)] w fun e w' => ∃ r : R, e = .returned r.val ∧ goodB r = true ∧ r.fits ∧ (∃ n1, n1 ≤ n0 + 10 ∧ SeqAt w' s lo len cap zs n1) ∧ But s w w' := by
  have HS := hide h
  have HB := hide (But.refl s w)
  obtain ⟨N, hN⟩ : ∃ N, w.heap.size = N := ⟨_, rfl⟩
  have HE : Hid (∀ (x : World) (A B : Obj) (n1 : Nat), But s w x → SeqAt x s lo len cap zs n1 → n1 ≤ n0 + 10 → (∃ n1, n1 ≤ n0 + 10 ∧ SeqAt ((x.alloc A).alloc B) s lo len cap zs n1) ∧ But s w ((x.alloc A).alloc B)) :=
    fun x A B n1 hb hs hn => ⟨⟨n1, hn, (hs.alloc A).alloc B⟩, (hb.alloc A).alloc B⟩
  clear h
  go_enter Tryd.func10, Tryd.ntmps10
  go_wp2_with fail
  refine (next_one _ _ N s lo len cap zs n0 10 HS.out hN (by omega) (by omega) (by omega)).mono ?_
  rintro e w2 ⟨k0, x0, rfl, ⟨p0, q0⟩, rfl, hS, hN0, hB⟩
  replace HS := hide hS
  replace HB := hide (HB.out.trans hB)
  clear hS hB hN
  rename x0.heap.size = N => hN
  have hk : k0 = 0 ∨ k0 = 1 ∨ k0 = 2 ∨ k0 = 3 ∨ k0 = 4 ∨ k0 = 5 ∨ k0 = 6 ∨ k0 = 7 ∨ k0 = 8 ∨ k0 = 9 := by omega
  clear p0 q0
  rcases hk with rfl | rfl | rfl | rfl | rfl | rfl | rfl | rfl | rfl | rfl
  · go_wp2_with fail
    refine (next_two _ _ _ N s lo len cap zs (n0 + 1) 5 HS.out hN (by omega) (by omega) (by omega)).mono ?_
    rintro e w2 ⟨k1, x1, rfl, ⟨p1, q1⟩, rfl, hS, hN1, hB⟩
    replace HS := hide hS
    replace HB := hide (HB.out.trans hB)
    clear hS hB hN
    rename x1.heap.size = N => hN
    go_wp2_with fail
    exact bodyPost_ret (v := .agg #[.int .i64 (1), .int .i64 (1 + k1), .int .i64 (0), .int .i64 (0), .int .i64 (0), .int .i64 (0), .bool false, .bool false, .int .i64 (0), .int .i64 (0)]) (by simp [results, Tryd.results10, go_sem, hN]) rfl ⟨⟨1, 1 + k1, 0, 0, 0, 0, false, false, 0, 0⟩, rfl, good_of ⟨rfl, by simp [holdsB, txnLo, txnHi]; try omega, by simp [holdsB, pageLo, pageHi]; try omega, by simp [holdsB, prevLo, prevHi]; try omega, by simp [holdsB, nextHi]; try omega, by simp [holdsB, keyHi]; try omega, by simp [oldB]; try omega⟩ rfl, ⟨⟨by simp; try omega, by simp; try omega⟩, ⟨by simp; try omega, by simp; try omega⟩⟩, HE.out _ _ _ _ HB.out HS.out (by omega)⟩
  · go_wp2_with fail
    refine (next_two _ _ _ N s lo len cap zs (n0 + 1) 5 HS.out hN (by omega) (by omega) (by omega)).mono ?_
    rintro e w2 ⟨k1, x1, rfl, ⟨p1, q1⟩, rfl, hS, hN1, hB⟩
    replace HS := hide hS
    replace HB := hide (HB.out.trans hB)
    clear hS hB hN
    rename x1.heap.size = N => hN
    go_wp2_with fail
    refine (next_two _ _ _ N s lo len cap zs (n0 + 2) 4 HS.out hN (by omega) (by omega) (by omega)).mono ?_
    rintro e w2 ⟨k2, x2, rfl, ⟨p2, q2⟩, rfl, hS, hN2, hB⟩
    replace HS := hide hS
    replace HB := hide (HB.out.trans hB)
    clear hS hB hN
    rename x2.heap.size = N => hN
    go_wp2_with fail
    refine (next_two _ _ _ N s lo len cap zs (n0 + 3) 20 HS.out hN (by omega) (by omega) (by omega)).mono ?_
    rintro e w2 ⟨k3, x3, rfl, ⟨p3, q3⟩, rfl, hS, hN3, hB⟩
    replace HS := hide hS
    replace HB := hide (HB.out.trans hB)
    clear hS hB hN
    rename x3.heap.size = N => hN
    go_wp2_with fail
    refine (next_two _ _ _ N s lo len cap zs (n0 + 4) 40 HS.out hN (by omega) (by omega) (by omega)).mono ?_
    rintro e w2 ⟨k4, x4, rfl, ⟨p4, q4⟩, rfl, hS, hN4, hB⟩
    replace HS := hide hS
    replace HB := hide (HB.out.trans hB)
    clear hS hB hN
    rename x4.heap.size = N => hN
    go_wp2_with fail
    refine (next_two _ _ _ N s lo len cap zs (n0 + 5) 3 HS.out hN (by omega) (by omega) (by omega)).mono ?_
    rintro e w2 ⟨k5, x5, rfl, ⟨p5, q5⟩, rfl, hS, hN5, hB⟩
    replace HS := hide hS
    replace HB := hide (HB.out.trans hB)
    clear hS hB hN
    rename x5.heap.size = N => hN
    rcases (show k5 = 0 ∨ 0 < k5 by omega) with rfl | hh
    · go_wp2_with fail
      refine (next_two _ _ _ N s lo len cap zs (n0 + 6) 2 HS.out hN (by omega) (by omega) (by omega)).mono ?_
      rintro e w2 ⟨k6, x6, rfl, ⟨p6, q6⟩, rfl, hS, hN6, hB⟩
      replace HS := hide hS
      replace HB := hide (HB.out.trans hB)
      clear hS hB hN
      rename x6.heap.size = N => hN
      rcases (show k6 = 0 ∨ 0 < k6 by omega) with rfl | hm
      · go_wp2_with fail
        refine (next_two _ _ _ N s lo len cap zs (n0 + 7) 1000 HS.out hN (by omega) (by omega) (by omega)).mono ?_
        rintro e w2 ⟨k7, x7, rfl, ⟨p7, q7⟩, rfl, hS, hN7, hB⟩
        replace HS := hide hS
        replace HB := hide (HB.out.trans hB)
        clear hS hB hN
        rename x7.heap.size = N => hN
        go_wp2_with fail
        exact bodyPost_ret (v := .agg #[.int .i64 (2), .int .i64 (1 + k1), .int .i64 (1 + k2), .int .i64 (k3), .int .i64 (0), .int .i64 (k4), .bool true, .bool false, .int .i64 (k7 - 500), .int .i64 (0)]) (by simp [results, Tryd.results10, go_sem, hN]) rfl ⟨⟨2, 1 + k1, 1 + k2, k3, 0, k4, true, false, k7 - 500, 0⟩, rfl, good_of ⟨rfl, by simp [holdsB, txnLo, txnHi]; try omega, by simp [holdsB, pageLo, pageHi]; try omega, by simp [holdsB, prevLo, prevHi]; try omega, by simp [holdsB, nextHi]; try omega, by simp [holdsB, keyHi]; try omega, by simp [oldB]; try omega⟩ rfl, ⟨⟨by simp; try omega, by simp; try omega⟩, ⟨by simp; try omega, by simp; try omega⟩⟩, HE.out _ _ _ _ HB.out HS.out (by omega)⟩
      · have hm1 : (k6 == 0) = false := by simp; omega
        go_wp2_with fail
        refine (next_two _ _ _ N s lo len cap zs (n0 + 7) 1000 HS.out hN (by omega) (by omega) (by omega)).mono ?_
        rintro e w2 ⟨k7, x7, rfl, ⟨p7, q7⟩, rfl, hS, hN7, hB⟩
        replace HS := hide hS
        replace HB := hide (HB.out.trans hB)
        clear hS hB hN
        rename x7.heap.size = N => hN
        go_wp2_with fail
        exact bodyPost_ret (v := .agg #[.int .i64 (2), .int .i64 (1 + k1), .int .i64 (1 + k2), .int .i64 (k3), .int .i64 (0), .int .i64 (k4), .bool true, .bool false, .int .i64 (k7 - 500), .int .i64 (0)]) (by simp [results, Tryd.results10, go_sem, hN]) rfl ⟨⟨2, 1 + k1, 1 + k2, k3, 0, k4, true, false, k7 - 500, 0⟩, rfl, good_of ⟨rfl, by simp [holdsB, txnLo, txnHi]; try omega, by simp [holdsB, pageLo, pageHi]; try omega, by simp [holdsB, prevLo, prevHi]; try omega, by simp [holdsB, nextHi]; try omega, by simp [holdsB, keyHi]; try omega, by simp [oldB]; try omega⟩ rfl, ⟨⟨by simp; try omega, by simp; try omega⟩, ⟨by simp; try omega, by simp; try omega⟩⟩, HE.out _ _ _ _ HB.out HS.out (by omega)⟩
    · have hh1 : decide (0 < k5) = true := by simp; omega
      go_wp2_with fail
      refine (next_two _ _ _ N s lo len cap zs (n0 + 6) 1000 HS.out hN (by omega) (by omega) (by omega)).mono ?_
      rintro e w2 ⟨k6, x6, rfl, ⟨p6, q6⟩, rfl, hS, hN6, hB⟩
      replace HS := hide hS
      replace HB := hide (HB.out.trans hB)
      clear hS hB hN
      rename x6.heap.size = N => hN
      go_wp2_with fail
      refine (next_two _ _ _ N s lo len cap zs (n0 + 7) 2 HS.out hN (by omega) (by omega) (by omega)).mono ?_
      rintro e w2 ⟨k7, x7, rfl, ⟨p7, q7⟩, rfl, hS, hN7, hB⟩
      replace HS := hide hS
      replace HB := hide (HB.out.trans hB)
      clear hS hB hN
      rename x7.heap.size = N => hN
      rcases (show k7 = 0 ∨ 0 < k7 by omega) with rfl | hm
      · go_wp2_with fail
        refine (next_two _ _ _ N s lo len cap zs (n0 + 8) 1000 HS.out hN (by omega) (by omega) (by omega)).mono ?_
        rintro e w2 ⟨k8, x8, rfl, ⟨p8, q8⟩, rfl, hS, hN8, hB⟩
        replace HS := hide hS
        replace HB := hide (HB.out.trans hB)
        clear hS hB hN
        rename x8.heap.size = N => hN
        go_wp2_with fail
        exact bodyPost_ret (v := .agg #[.int .i64 (2), .int .i64 (1 + k1), .int .i64 (1 + k2), .int .i64 (k3), .int .i64 (0), .int .i64 (k4), .bool true, .bool true, .int .i64 (k8 - 500), .int .i64 (k6 - 500)]) (by simp [results, Tryd.results10, go_sem, hN]) rfl ⟨⟨2, 1 + k1, 1 + k2, k3, 0, k4, true, true, k8 - 500, k6 - 500⟩, rfl, good_of ⟨rfl, by simp [holdsB, txnLo, txnHi]; try omega, by simp [holdsB, pageLo, pageHi]; try omega, by simp [holdsB, prevLo, prevHi]; try omega, by simp [holdsB, nextHi]; try omega, by simp [holdsB, keyHi]; try omega, by simp [oldB]; try omega⟩ rfl, ⟨⟨by simp; try omega, by simp; try omega⟩, ⟨by simp; try omega, by simp; try omega⟩⟩, HE.out _ _ _ _ HB.out HS.out (by omega)⟩
      · have hm1 : (k7 == 0) = false := by simp; omega
        go_wp2_with fail
        exact bodyPost_ret (v := .agg #[.int .i64 (2), .int .i64 (1 + k1), .int .i64 (1 + k2), .int .i64 (k3), .int .i64 (0), .int .i64 (k4), .bool false, .bool true, .int .i64 (0), .int .i64 (k6 - 500)]) (by simp [results, Tryd.results10, go_sem, hN]) rfl ⟨⟨2, 1 + k1, 1 + k2, k3, 0, k4, false, true, 0, k6 - 500⟩, rfl, good_of ⟨rfl, by simp [holdsB, txnLo, txnHi]; try omega, by simp [holdsB, pageLo, pageHi]; try omega, by simp [holdsB, prevLo, prevHi]; try omega, by simp [holdsB, nextHi]; try omega, by simp [holdsB, keyHi]; try omega, by simp [oldB]; try omega⟩ rfl, ⟨⟨by simp; try omega, by simp; try omega⟩, ⟨by simp; try omega, by simp; try omega⟩⟩, HE.out _ _ _ _ HB.out HS.out (by omega)⟩
  · go_wp2_with fail
    refine (next_two _ _ _ N s lo len cap zs (n0 + 1) 5 HS.out hN (by omega) (by omega) (by omega)).mono ?_
    rintro e w2 ⟨k1, x1, rfl, ⟨p1, q1⟩, rfl, hS, hN1, hB⟩
    replace HS := hide hS
    replace HB := hide (HB.out.trans hB)
    clear hS hB hN
    rename x1.heap.size = N => hN
    go_wp2_with fail
    refine (next_two _ _ _ N s lo len cap zs (n0 + 2) 4 HS.out hN (by omega) (by omega) (by omega)).mono ?_
    rintro e w2 ⟨k2, x2, rfl, ⟨p2, q2⟩, rfl, hS, hN2, hB⟩
    replace HS := hide hS
    replace HB := hide (HB.out.trans hB)
    clear hS hB hN
    rename x2.heap.size = N => hN
    go_wp2_with fail
    refine (next_two _ _ _ N s lo len cap zs (n0 + 3) 20 HS.out hN (by omega) (by omega) (by omega)).mono ?_
    rintro e w2 ⟨k3, x3, rfl, ⟨p3, q3⟩, rfl, hS, hN3, hB⟩
    replace HS := hide hS
    replace HB := hide (HB.out.trans hB)
    clear hS hB hN
    rename x3.heap.size = N => hN
    go_wp2_with fail
    refine (next_two _ _ _ N s lo len cap zs (n0 + 4) 40 HS.out hN (by omega) (by omega) (by omega)).mono ?_
    rintro e w2 ⟨k4, x4, rfl, ⟨p4, q4⟩, rfl, hS, hN4, hB⟩
    replace HS := hide hS
    replace HB := hide (HB.out.trans hB)
    clear hS hB hN
    rename x4.heap.size = N => hN
    go_wp2_with fail
    refine (next_two _ _ _ N s lo len cap zs (n0 + 5) 3 HS.out hN (by omega) (by omega) (by omega)).mono ?_
    rintro e w2 ⟨k5, x5, rfl, ⟨p5, q5⟩, rfl, hS, hN5, hB⟩
    replace HS := hide hS
    replace HB := hide (HB.out.trans hB)
    clear hS hB hN
    rename x5.heap.size = N => hN
    rcases (show k5 = 0 ∨ 0 < k5 by omega) with rfl | hh
    · go_wp2_with fail
      refine (next_two _ _ _ N s lo len cap zs (n0 + 6) 20 HS.out hN (by omega) (by omega) (by omega)).mono ?_
      rintro e w2 ⟨k6, x6, rfl, ⟨p6, q6⟩, rfl, hS, hN6, hB⟩
      replace HS := hide hS
      replace HB := hide (HB.out.trans hB)
      clear hS hB hN
      rename x6.heap.size = N => hN
      go_wp2_with fail
      refine (next_two _ _ _ N s lo len cap zs (n0 + 7) 20 HS.out hN (by omega) (by omega) (by omega)).mono ?_
      rintro e w2 ⟨k7, x7, rfl, ⟨p7, q7⟩, rfl, hS, hN7, hB⟩
      replace HS := hide hS
      replace HB := hide (HB.out.trans hB)
      clear hS hB hN
      rename x7.heap.size = N => hN
      go_wp2_with fail
      exact bodyPost_ret (v := .agg #[.int .i64 (3), .int .i64 (1 + k1), .int .i64 (1 + k2), .int .i64 (k3), .int .i64 (k7), .int .i64 (k4), .bool true, .bool false, .int .i64 (1 + k6), .int .i64 (0)]) (by simp [results, Tryd.results10, go_sem, hN]) rfl ⟨⟨3, 1 + k1, 1 + k2, k3, k7, k4, true, false, 1 + k6, 0⟩, rfl, good_of ⟨rfl, by simp [holdsB, txnLo, txnHi]; try omega, by simp [holdsB, pageLo, pageHi]; try omega, by simp [holdsB, prevLo, prevHi]; try omega, by simp [holdsB, nextHi]; try omega, by simp [holdsB, keyHi]; try omega, by simp [oldB]; try omega⟩ rfl, ⟨⟨by simp; try omega, by simp; try omega⟩, ⟨by simp; try omega, by simp; try omega⟩⟩, HE.out _ _ _ _ HB.out HS.out (by omega)⟩
    · have hh1 : decide (0 < k5) = true := by simp; omega
      go_wp2_with fail
      refine (next_two _ _ _ N s lo len cap zs (n0 + 6) 1000 HS.out hN (by omega) (by omega) (by omega)).mono ?_
      rintro e w2 ⟨k6, x6, rfl, ⟨p6, q6⟩, rfl, hS, hN6, hB⟩
      replace HS := hide hS
      replace HB := hide (HB.out.trans hB)
      clear hS hB hN
      rename x6.heap.size = N => hN
      go_wp2_with fail
      refine (next_two _ _ _ N s lo len cap zs (n0 + 7) 20 HS.out hN (by omega) (by omega) (by omega)).mono ?_
      rintro e w2 ⟨k7, x7, rfl, ⟨p7, q7⟩, rfl, hS, hN7, hB⟩
      replace HS := hide hS
      replace HB := hide (HB.out.trans hB)
      clear hS hB hN
      rename x7.heap.size = N => hN
      go_wp2_with fail
      refine (next_two _ _ _ N s lo len cap zs (n0 + 8) 20 HS.out hN (by omega) (by omega) (by omega)).mono ?_
      rintro e w2 ⟨k8, x8, rfl, ⟨p8, q8⟩, rfl, hS, hN8, hB⟩
      replace HS := hide hS
      replace HB := hide (HB.out.trans hB)
      clear hS hB hN
      rename x8.heap.size = N => hN
      go_wp2_with fail
      exact bodyPost_ret (v := .agg #[.int .i64 (3), .int .i64 (1 + k1), .int .i64 (1 + k2), .int .i64 (k3), .int .i64 (k8), .int .i64 (k4), .bool true, .bool true, .int .i64 (1 + k7), .int .i64 (k6 - 500)]) (by simp [results, Tryd.results10, go_sem, hN]) rfl ⟨⟨3, 1 + k1, 1 + k2, k3, k8, k4, true, true, 1 + k7, k6 - 500⟩, rfl, good_of ⟨rfl, by simp [holdsB, txnLo, txnHi]; try omega, by simp [holdsB, pageLo, pageHi]; try omega, by simp [holdsB, prevLo, prevHi]; try omega, by simp [holdsB, nextHi]; try omega, by simp [holdsB, keyHi]; try omega, by simp [oldB]; try omega⟩ rfl, ⟨⟨by simp; try omega, by simp; try omega⟩, ⟨by simp; try omega, by simp; try omega⟩⟩, HE.out _ _ _ _ HB.out HS.out (by omega)⟩
  · go_wp2_with fail
    refine (next_two _ _ _ N s lo len cap zs (n0 + 1) 5 HS.out hN (by omega) (by omega) (by omega)).mono ?_
    rintro e w2 ⟨k1, x1, rfl, ⟨p1, q1⟩, rfl, hS, hN1, hB⟩
    replace HS := hide hS
    replace HB := hide (HB.out.trans hB)
    clear hS hB hN
    rename x1.heap.size = N => hN
    go_wp2_with fail
    refine (next_two _ _ _ N s lo len cap zs (n0 + 2) 20 HS.out hN (by omega) (by omega) (by omega)).mono ?_
    rintro e w2 ⟨k2, x2, rfl, ⟨p2, q2⟩, rfl, hS, hN2, hB⟩
    replace HS := hide hS
    replace HB := hide (HB.out.trans hB)
    clear hS hB hN
    rename x2.heap.size = N => hN
    go_wp2_with fail
    exact bodyPost_ret (v := .agg #[.int .i64 (4), .int .i64 (1 + k1), .int .i64 (0), .int .i64 (k2), .int .i64 (0), .int .i64 (0), .bool false, .bool false, .int .i64 (0), .int .i64 (0)]) (by simp [results, Tryd.results10, go_sem, hN]) rfl ⟨⟨4, 1 + k1, 0, k2, 0, 0, false, false, 0, 0⟩, rfl, good_of ⟨rfl, by simp [holdsB, txnLo, txnHi]; try omega, by simp [holdsB, pageLo, pageHi]; try omega, by simp [holdsB, prevLo, prevHi]; try omega, by simp [holdsB, nextHi]; try omega, by simp [holdsB, keyHi]; try omega, by simp [oldB]; try omega⟩ rfl, ⟨⟨by simp; try omega, by simp; try omega⟩, ⟨by simp; try omega, by simp; try omega⟩⟩, HE.out _ _ _ _ HB.out HS.out (by omega)⟩
  · go_wp2_with fail
    refine (next_two _ _ _ N s lo len cap zs (n0 + 1) 5 HS.out hN (by omega) (by omega) (by omega)).mono ?_
    rintro e w2 ⟨k1, x1, rfl, ⟨p1, q1⟩, rfl, hS, hN1, hB⟩
    replace HS := hide hS
    replace HB := hide (HB.out.trans hB)
    clear hS hB hN
    rename x1.heap.size = N => hN
    go_wp2_with fail
    refine (next_two _ _ _ N s lo len cap zs (n0 + 2) 20 HS.out hN (by omega) (by omega) (by omega)).mono ?_
    rintro e w2 ⟨k2, x2, rfl, ⟨p2, q2⟩, rfl, hS, hN2, hB⟩
    replace HS := hide hS
    replace HB := hide (HB.out.trans hB)
    clear hS hB hN
    rename x2.heap.size = N => hN
    go_wp2_with fail
    exact bodyPost_ret (v := .agg #[.int .i64 (5), .int .i64 (1 + k1), .int .i64 (0), .int .i64 (k2), .int .i64 (0), .int .i64 (0), .bool false, .bool false, .int .i64 (0), .int .i64 (0)]) (by simp [results, Tryd.results10, go_sem, hN]) rfl ⟨⟨5, 1 + k1, 0, k2, 0, 0, false, false, 0, 0⟩, rfl, good_of ⟨rfl, by simp [holdsB, txnLo, txnHi]; try omega, by simp [holdsB, pageLo, pageHi]; try omega, by simp [holdsB, prevLo, prevHi]; try omega, by simp [holdsB, nextHi]; try omega, by simp [holdsB, keyHi]; try omega, by simp [oldB]; try omega⟩ rfl, ⟨⟨by simp; try omega, by simp; try omega⟩, ⟨by simp; try omega, by simp; try omega⟩⟩, HE.out _ _ _ _ HB.out HS.out (by omega)⟩
  · go_wp2_with fail
    refine (next_two _ _ _ N s lo len cap zs (n0 + 1) 5 HS.out hN (by omega) (by omega) (by omega)).mono ?_
    rintro e w2 ⟨k1, x1, rfl, ⟨p1, q1⟩, rfl, hS, hN1, hB⟩
    replace HS := hide hS
    replace HB := hide (HB.out.trans hB)
    clear hS hB hN
    rename x1.heap.size = N => hN
    go_wp2_with fail
    refine (next_two _ _ _ N s lo len cap zs (n0 + 2) 20 HS.out hN (by omega) (by omega) (by omega)).mono ?_
    rintro e w2 ⟨k2, x2, rfl, ⟨p2, q2⟩, rfl, hS, hN2, hB⟩
    replace HS := hide hS
    replace HB := hide (HB.out.trans hB)
    clear hS hB hN
    rename x2.heap.size = N => hN
    go_wp2_with fail
    exact bodyPost_ret (v := .agg #[.int .i64 (6), .int .i64 (1 + k1), .int .i64 (0), .int .i64 (k2), .int .i64 (0), .int .i64 (0), .bool false, .bool false, .int .i64 (0), .int .i64 (0)]) (by simp [results, Tryd.results10, go_sem, hN]) rfl ⟨⟨6, 1 + k1, 0, k2, 0, 0, false, false, 0, 0⟩, rfl, good_of ⟨rfl, by simp [holdsB, txnLo, txnHi]; try omega, by simp [holdsB, pageLo, pageHi]; try omega, by simp [holdsB, prevLo, prevHi]; try omega, by simp [holdsB, nextHi]; try omega, by simp [holdsB, keyHi]; try omega, by simp [oldB]; try omega⟩ rfl, ⟨⟨by simp; try omega, by simp; try omega⟩, ⟨by simp; try omega, by simp; try omega⟩⟩, HE.out _ _ _ _ HB.out HS.out (by omega)⟩
  · go_wp2_with fail
    exact bodyPost_ret (v := .agg #[.int .i64 (7), .int .i64 (0), .int .i64 (0), .int .i64 (0), .int .i64 (0), .int .i64 (0), .bool false, .bool false, .int .i64 (0), .int .i64 (0)]) (by simp [results, Tryd.results10, go_sem, hN]) rfl ⟨⟨7, 0, 0, 0, 0, 0, false, false, 0, 0⟩, rfl, good_of ⟨rfl, by simp [holdsB, txnLo, txnHi]; try omega, by simp [holdsB, pageLo, pageHi]; try omega, by simp [holdsB, prevLo, prevHi]; try omega, by simp [holdsB, nextHi]; try omega, by simp [holdsB, keyHi]; try omega, by simp [oldB]; try omega⟩ rfl, ⟨⟨by simp; try omega, by simp; try omega⟩, ⟨by simp; try omega, by simp; try omega⟩⟩, HE.out _ _ _ _ HB.out HS.out (by omega)⟩
  · go_wp2_with fail
    refine (next_two _ _ _ N s lo len cap zs (n0 + 1) 5 HS.out hN (by omega) (by omega) (by omega)).mono ?_
    rintro e w2 ⟨k1, x1, rfl, ⟨p1, q1⟩, rfl, hS, hN1, hB⟩
    replace HS := hide hS
    replace HB := hide (HB.out.trans hB)
    clear hS hB hN
    rename x1.heap.size = N => hN
    go_wp2_with fail
    refine (next_two _ _ _ N s lo len cap zs (n0 + 2) 20 HS.out hN (by omega) (by omega) (by omega)).mono ?_
    rintro e w2 ⟨k2, x2, rfl, ⟨p2, q2⟩, rfl, hS, hN2, hB⟩
    replace HS := hide hS
    replace HB := hide (HB.out.trans hB)
    clear hS hB hN
    rename x2.heap.size = N => hN
    go_wp2_with fail
    refine (next_two _ _ _ N s lo len cap zs (n0 + 3) 3 HS.out hN (by omega) (by omega) (by omega)).mono ?_
    rintro e w2 ⟨k3, x3, rfl, ⟨p3, q3⟩, rfl, hS, hN3, hB⟩
    replace HS := hide hS
    replace HB := hide (HB.out.trans hB)
    clear hS hB hN
    rename x3.heap.size = N => hN
    go_wp2_with fail
    refine (next_two _ _ _ N s lo len cap zs (n0 + 4) 20 HS.out hN (by omega) (by omega) (by omega)).mono ?_
    rintro e w2 ⟨k4, x4, rfl, ⟨p4, q4⟩, rfl, hS, hN4, hB⟩
    replace HS := hide hS
    replace HB := hide (HB.out.trans hB)
    clear hS hB hN
    rename x4.heap.size = N => hN
    go_wp2_with fail
    exact bodyPost_ret (v := .agg #[.int .i64 (8), .int .i64 (1 + k1), .int .i64 (0), .int .i64 (k2), .int .i64 (k4), .int .i64 (k3), .bool false, .bool false, .int .i64 (0), .int .i64 (0)]) (by simp [results, Tryd.results10, go_sem, hN]) rfl ⟨⟨8, 1 + k1, 0, k2, k4, k3, false, false, 0, 0⟩, rfl, good_of ⟨rfl, by simp [holdsB, txnLo, txnHi]; try omega, by simp [holdsB, pageLo, pageHi]; try omega, by simp [holdsB, prevLo, prevHi]; try omega, by simp [holdsB, nextHi]; try omega, by simp [holdsB, keyHi]; try omega, by simp [oldB]; try omega⟩ rfl, ⟨⟨by simp; try omega, by simp; try omega⟩, ⟨by simp; try omega, by simp; try omega⟩⟩, HE.out _ _ _ _ HB.out HS.out (by omega)⟩
  · go_wp2_with fail
    refine (next_two _ _ _ N s lo len cap zs (n0 + 1) 4 HS.out hN (by omega) (by omega) (by omega)).mono ?_
    rintro e w2 ⟨k1, x1, rfl, ⟨p1, q1⟩, rfl, hS, hN1, hB⟩
    replace HS := hide hS
    replace HB := hide (HB.out.trans hB)
    clear hS hB hN
    rename x1.heap.size = N => hN
    go_wp2_with fail
    refine (next_two _ _ _ N s lo len cap zs (n0 + 2) 20 HS.out hN (by omega) (by omega) (by omega)).mono ?_
    rintro e w2 ⟨k2, x2, rfl, ⟨p2, q2⟩, rfl, hS, hN2, hB⟩
    replace HS := hide hS
    replace HB := hide (HB.out.trans hB)
    clear hS hB hN
    rename x2.heap.size = N => hN
    go_wp2_with fail
    exact bodyPost_ret (v := .agg #[.int .i64 (9), .int .i64 (0), .int .i64 (1 + k1), .int .i64 (1 + k2), .int .i64 (0), .int .i64 (0), .bool false, .bool false, .int .i64 (0), .int .i64 (0)]) (by simp [results, Tryd.results10, go_sem, hN]) rfl ⟨⟨9, 0, 1 + k1, 1 + k2, 0, 0, false, false, 0, 0⟩, rfl, good_of ⟨rfl, by simp [holdsB, txnLo, txnHi]; try omega, by simp [holdsB, pageLo, pageHi]; try omega, by simp [holdsB, prevLo, prevHi]; try omega, by simp [holdsB, nextHi]; try omega, by simp [holdsB, keyHi]; try omega, by simp [oldB]; try omega⟩ rfl, ⟨⟨by simp; try omega, by simp; try omega⟩, ⟨by simp; try omega, by simp; try omega⟩⟩, HE.out _ _ _ _ HB.out HS.out (by omega)⟩
  · go_wp2_with fail
    refine (next_two _ _ _ N s lo len cap zs (n0 + 1) 9 HS.out hN (by omega) (by omega) (by omega)).mono ?_
    rintro e w2 ⟨k1, x1, rfl, ⟨p1, q1⟩, rfl, hS, hN1, hB⟩
    replace HS := hide hS
    replace HB := hide (HB.out.trans hB)
    clear hS hB hN
    rename x1.heap.size = N => hN
    go_wp2_with fail
    exact bodyPost_ret (v := .agg #[.int .i64 (10), .int .i64 (0), .int .i64 (0), .int .i64 (0), .int .i64 (k1), .int .i64 (0), .bool false, .bool false, .int .i64 (0), .int .i64 (0)]) (by simp [results, Tryd.results10, go_sem, hN]) rfl ⟨⟨10, 0, 0, 0, k1, 0, false, false, 0, 0⟩, rfl, good_of ⟨rfl, by simp [holdsB, txnLo, txnHi]; try omega, by simp [holdsB, pageLo, pageHi]; try omega, by simp [holdsB, prevLo, prevHi]; try omega, by simp [holdsB, nextHi]; try omega, by simp [holdsB, keyHi]; try omega, by simp [oldB]; try omega⟩ rfl, ⟨⟨by simp; try omega, by simp; try omega⟩, ⟨by simp; try omega, by simp; try omega⟩⟩, HE.out _ _ _ _ HB.out HS.out (by omega)⟩
theorem make_any (s : Nat) (lo : Option Addr) (len cap : Nat) (zs : List Int) (w : World) (h : SeqAt w s lo len cap zs 0) :
    Calls Tryd.prog 10 #[.pointer (some ⟨s, 0, none⟩)] w fun e w' => ∃ r : R, e = .returned r.val ∧ goodB r = true ∧ r.fits ∧ Below s w w' := by
  refine (make_from 0 (by omega) s lo len cap zs w h).mono ?_
  rintro e w' ⟨r, rfl, hg, hf, _, hb⟩
  exact ⟨r, rfl, hg, hf, hb.below (Nat.le_of_lt (lt_of_block h.lies))⟩
end Go.Proofs.YticaldoggdfjiaaDoor
