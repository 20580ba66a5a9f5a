/- Lemmas and contracts that the law stands on, joined: MakeSeq. -/
import Derived.Test.YtjacenhblclkaaaGreatDoorJoin7
import Derived.Test.YtjacenhblclkaaaGreatDoorJoin8
/- How a list of numbers that came in is handed to phoenixmake.Rec, and small facts on a byte that is turned. -/
namespace Go.Proofs.YtjacenhblclkaaaGreatDoor
open Go.RowKit
set_option linter.unusedVariables false

def seqCells (lo : Option Addr) (len cap : Nat) : Obj := .cells #[.slice lo len cap, .int .i64 0] 35
theorem seq_new5 {w x : World} {lo : Option Addr} {len cap : Nat} {zs : List Int} (h : IsRow .i64 w lo len cap zs) (hl : len ≤ 500) (hb : Below w.heap.size w x) : SeqAt (x.alloc (seqCells lo len cap)) x.heap.size lo len cap zs 0 := by
  unfold seqCells
  refine ⟨heap_alloc_new _ _, fun i hi => ?_, by omega, by omega⟩
  rcases h with ⟨_, h2, _, _⟩ | ⟨a, rfl, h1, h2, h3, h4, h5⟩
  · omega
  · have hc := h4 i (by omega)
    obtain ⟨b, off, spot⟩ := a
    have hspot : spot = none := by
      have := World.cell?_spot (h4 0 (by omega))
      simpa [Addr.add] using this
    subst hspot
    rw [Addr.add_lit] at hc
    have hlt : b < w.heap.size := World.block_lt_of_cell? w _ hc
    have hs := hb.size
    refine ⟨b, off, rfl, by omega, ?_⟩
    rw [((Below.refl x.heap.size x).alloc (Nat.le_refl _) _).cell (show b < x.heap.size by omega), hb.cell (show b < w.heap.size from hlt)]
    exact hc
theorem seq_new {w x : World} {lo : Option Addr} {len cap : Nat} {zs : List Int} (h : IsRow .i64 w lo len cap zs) (hl : len ≤ 150) (hb : Below w.heap.size w x) : SeqAt (x.alloc (seqCells lo len cap)) x.heap.size lo len cap zs 0 := seq_new5 h (Nat.le_trans hl (by omega)) hb
theorem make_at {w x : World} {lo : Option Addr} {len cap : Nat} {zs : List Int} {N : Nat} (h : IsRow .i64 w lo len cap zs) (hl : len ≤ 60) (hb : Below w.heap.size w x) (hN : x.heap.size = N) :
    Calls Tryz.prog 11 #[.pointer (some ⟨N, 0, none⟩)] (x.alloc (.cells #[.slice lo len cap, .int .i64 0] 35)) fun e w' => ∃ r : R, e = .returned r.val ∧ goodB r = true ∧ r.fits ∧ Below x.heap.size x w' := by
  subst hN
  refine (make_any _ lo len cap zs _ (seq_new h (Nat.le_trans hl (by omega)) hb)).mono ?_
  rintro e w' ⟨r, rfl, hg, hf, hb'⟩
  exact ⟨r, rfl, hg, hf, (below_box x _).trans hb'⟩
theorem make_new {w x : World} {lo : Option Addr} {len cap : Nat} {zs : List Int} (h : IsRow .i64 w lo len cap zs) (hl : len ≤ 60) (hb : Below w.heap.size w x) :
    Calls Tryz.prog 11 #[.pointer (some ⟨x.heap.size, 0, none⟩)] (x.alloc (.cells #[.slice lo len cap, .int .i64 0] 35)) fun e w' => ∃ r : R, e = .returned r.val ∧ goodB r = true ∧ r.fits ∧ Below x.heap.size x w' := by
  refine (make_any _ lo len cap zs _ (seq_new h (Nat.le_trans hl (by omega)) hb)).mono ?_
  rintro e w' ⟨r, rfl, hg, hf, hb'⟩
  exact ⟨r, rfl, hg, hf, (below_box x _).trans hb'⟩
theorem copy_len (ao : Option Addr) (n cap : Nat) (xs : List Int) (w : World) (h : Row w ao xs) (hn : xs.length = n) :
    Calls Tryz.prog 85 #[.slice ao n cap] w fun e w' => ∃ g, e = .returned (.slice (some ⟨g, 0, none⟩) n n) ∧ w.heap.size ≤ g ∧ Own w' g (some ⟨g, 0, none⟩) n xs ∧ Below w.heap.size w w' := by
  subst hn
  exact (bytes_any ao cap xs w h).mono fun e w' h => ⟨w.heap.size, h.1, Nat.le_refl _, h.2.1, h.2.2⟩
theorem noRec_val : noRec.val = .agg #[.int .i64 0, .int .i64 0, .int .i64 0, .int .i64 0, .int .i64 0, .int .i64 0, .bool false, .bool false, .int .i64 0, .int .i64 0] := rfl
theorem xor_zero (b : Int) (h0 : 0 ≤ b) (h1 : b ≤ 255) : bits .xor .u8 0 b = b := by
  have hk : ∀ n : Fin 256, bits .xor .u8 0 ((n : Nat) : Int) = ((n : Nat) : Int) := by decide +kernel
  have := hk ⟨b.toNat, by omega⟩
  rwa [show (((⟨b.toNat, by omega⟩ : Fin 256) : Nat) : Int) = b by simp; omega] at this
theorem or_four (b : Int) (h0 : 0 ≤ b) (h1 : b ≤ 3) : bits .or .u8 b 4 = b + 4 := by
  have hk : ∀ n : Fin 4, bits .or .u8 ((n : Nat) : Int) 4 = ((n : Nat) : Int) + 4 := by decide +kernel
  have := hk ⟨b.toNat, by omega⟩
  rwa [show (((⟨b.toNat, by omega⟩ : Fin 4) : Nat) : Int) = b by simp; omega] at this
theorem byteAt_set (xs : List Int) (p : Nat) (v : Int) (h : p < xs.length) : byteAt (xs.set p v) p = v := by
  rw [byteAt_nat, List.getD_eq_getElem?_getD, List.getElem?_set, if_pos rfl, if_pos h]
  rfl
theorem set_getD (xs : List Int) (p : Nat) (v u : Int) (h : p < xs.length) (hu : xs.getD p 0 = u) : (xs.set p v).set p u = xs := by
  rw [List.set_set]
  refine List.ext_getElem (by simp) fun i h1 h2 => ?_
  rw [List.getElem_set]
  split
  · rename_i e
    subst e
    rw [List.getD_eq_getElem?_getD, List.getElem?_eq_getElem h2] at hu
    exact hu.symm
  · rfl
theorem rec_getD (r : R) (p : Nat) (h : p = 6 ∨ p = 7 ∨ p = 20 ∨ p = 21 ∨ p = 22 ∨ p = 23) : (recB r).getD p 0 = 0 := by
  rw [← byteAt_nat]
  exact recB_zero r p (by omega)
theorem rec_mark (r : R) : (recB r).getD 1 0 = markB r := by
  rw [← byteAt_nat]
  exact recB_mark r
theorem errs_read {w : World} {ks : List Nat} {a : Nat → Addr} (h : ErrsOf w ks a) (h1 : 1 ∈ ks) (h2 : 2 ∈ ks) (h3 : 3 ∈ ks) : ReadErrs w (a 1) (a 2) (a 3) := ⟨h.cell 1 h1, h.cell 2 h2, h.cell 3 h3⟩
theorem read_any (ao : Option Addr) (cap : Nat) (xs : List Int) (n : Nat) (w : World) {x y z : Addr} (h : Row w ao xs) (he : ReadErrs w x y z) (hn : xs.length = n) :
    Calls Tryz.prog 171 #[.slice ao n cap] w fun e w' => ((n ≠ 40 ∧ e = .returned (.tuple #[noRec.val, errV y])) ∨ (n = 40 ∧ isRec xs = false ∧ e = .returned (.tuple #[noRec.val, errV z])) ∨ (n = 40 ∧ isRec xs = true ∧ e = .returned (.tuple #[(partsR xs).val, .nilIface]))) ∧ Below w.heap.size w w' := by
  by_cases h40 : n = 40
  · subst h40
    cases hi : isRec xs with
    | true => exact (read_ok ao cap xs w h he hn hi).mono fun e w' h => ⟨.inr (.inr ⟨rfl, rfl, h.1⟩), h.2⟩
    | false => exact (read_bad ao cap xs w h he hn hi).mono fun e w' h => ⟨.inr (.inl ⟨rfl, rfl, h.1⟩), h.2⟩
  · exact (read_short ao n cap w he h40).mono fun e w' h => ⟨.inl ⟨h40, h.1⟩, h.2⟩
end Go.Proofs.YtjacenhblclkaaaGreatDoor
