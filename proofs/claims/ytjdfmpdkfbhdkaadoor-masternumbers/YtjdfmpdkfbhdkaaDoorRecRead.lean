
/- What rec.Read and rec.Same answer: the record whose bytes they are, or why there is none; whether two are the same. -/
import Derived.Test.YtjdfmpdkfbhdkaaDoorRecBytes
import Derived.Laws.BytesArg
import Derived.Laws.StructEq
namespace Go.Proofs.YtjdfmpdkfbhdkaaDoor
open Go.RowKit
set_option linter.unusedVariables false

theorem str_eq {xs ys : List Int} (hx : Bytes xs) (hy : Bytes ys) : ((strOfNums xs).toList == (strOfNums ys).toList) = sameB xs ys := by
  have hinj : ∀ a b : Int, 0 ≤ a → a ≤ 255 → 0 ≤ b → b ≤ 255 → UInt8.ofNat a.toNat = UInt8.ofNat b.toNat → a = b := by
    intro a b a0 a1 b0 b1 h
    have h2 := congrArg UInt8.toNat h
    simp only [UInt8.toNat_ofNat'] at h2
    omega
  have hmap : ∀ xs ys : List Int, Bytes xs → Bytes ys → (xs.map fun n => UInt8.ofNat n.toNat) = (ys.map fun n => UInt8.ofNat n.toNat) → xs = ys := by
    intro xs
    induction xs with
    | nil => intro ys _ _ h; cases ys with | nil => rfl | cons y ys => simp at h
    | cons x xs ih =>
      intro ys hx hy h
      cases ys with
      | nil => simp at h
      | cons y ys =>
        simp only [List.map_cons, List.cons.injEq] at h
        have h0 := hx x (by simp)
        have h1 := hy y (by simp)
        rw [hinj x y h0.1 h0.2 h1.1 h1.2 h.1, ih ys (fun z hz => hx z (by simp [hz])) (fun z hz => hy z (by simp [hz])) h.2]
  unfold sameB
  rw [ByteArray.toList_eq, ByteArray.toList_eq, strOfNums_data, strOfNums_data]
  by_cases h : xs = ys
  · simp [h]
  · rw [decide_eq_false h, beq_eq_false_iff_ne]
    exact fun e => h (hmap xs ys hx hy e)
set_option maxHeartbeats 400000 in
theorem equal_any (ao : Option Addr) (n cap : Nat) (xs : List Int) (bo : Option Addr) (n' cap' : Nat) (ys : List Int) (w : World) (h : Row w ao xs) (h' : Row w bo ys) (hn : xs.length = n) (hn' : ys.length = n') (h0 : 0 < n) (h0' : 0 < n') :
    Calls Tryd.prog 30 #[.slice ao n cap, .slice bo n' cap'] w fun e w' => e = .returned (.bool (sameB xs ys)) ∧ w' = w := by
  obtain ⟨b, off, rfl, _, hc⟩ := h.2.2 (by omega)
  obtain ⟨b', off', rfl, _, hc'⟩ := h'.2.2 (by omega)
  have k1 := run_convert_bytes_arg (P := Tryd.prog) w 24 5 Tryd.underlying24 Tryd.underlying5 b off n cap xs hn (fun i hi => hc i (by omega)) 9 Tryd.underlying9
  have k2 := run_convert_bytes_arg (P := Tryd.prog) w 24 5 Tryd.underlying24 Tryd.underlying5 b' off' n' cap' ys hn' (fun i hi => hc' i (by omega)) 9 Tryd.underlying9
  have HE := hide (str_eq h.2.1 h'.2.1)
  clear hc hc' h h'
  go_enter Tryd.func30, Tryd.ntmps30
  go_wp2_with fail
  go_ret
  exact ⟨ret_bool HE.out, rfl⟩
theorem and_one (m : Int) (h0 : 0 ≤ m) (h1 : m ≤ 255) : (bits .and .u64 m 1 != 0) = decide (m % 2 = 1) := by
  have hk : ∀ n : Fin 256, (bits .and .u64 ((n : Nat) : Int) 1 != 0) = decide (((n : Nat) : Int) % 2 = 1) := by decide +kernel
  have := hk ⟨m.toNat, by omega⟩
  rwa [show (((⟨m.toNat, by omega⟩ : Fin 256) : Nat) : Int) = m by simp; omega] at this
theorem and_two (m : Int) (h0 : 0 ≤ m) (h1 : m ≤ 255) : (bits .and .u64 m 2 != 0) = decide (m / 2 % 2 = 1) := by
  have hk : ∀ n : Fin 256, (bits .and .u64 ((n : Nat) : Int) 2 != 0) = decide (((n : Nat) : Int) / 2 % 2 = 1) := by decide +kernel
  have := hk ⟨m.toNat, by omega⟩
  rwa [show (((⟨m.toNat, by omega⟩ : Fin 256) : Nat) : Int) = m by simp; omega] at this
theorem i64_wrap (n : Int) (h : 0 ≤ n ∧ n ≤ 18446744073709551615) : wrap64 n = i64 n := by
  unfold wrap64 i64
  split <;> omega
theorem get_at (ao : Option Addr) (n cap : Nat) (xs : List Int) (a s : Int) (w : World) (h : Row w ao xs) (hn : xs.length = n) (ha : -9223372036854775808 ≤ a) (ha' : a ≤ 9223372036854775807) :
    Calls Tryd.prog 38 #[.slice ao n cap, .int .i64 a, .int .i64 s] w fun e w' => e = .returned (.int .u64 (getB xs a (widthB s).toNat)) ∧ w' = w := by subst hn; exact get_any ao cap xs a s w h ha ha'
theorem getB_lt (xs : List Int) (hb : Bytes xs) (a : Int) (k : Nat) : 0 ≤ getB xs a k ∧ getB xs a k < 256 ^ k := num_bd k fun j => hb.byte _
/-- The errors that rec.Read can meet: their variables. -/
structure ReadErrs (w : World) (x y z : Addr) : Prop where
  range : w.cell? ⟨0, 0, none⟩ = some (errV x)
  short : w.cell? ⟨1, 0, none⟩ = some (errV y)
  rc : w.cell? ⟨4, 0, none⟩ = some (errV z)
theorem ReadErrs.step {w w' : World} {x y z : Addr} (h : ReadErrs w x y z) (hb : Below w.heap.size w w') : ReadErrs w' x y z :=
  ⟨(hb.cell (World.block_lt_of_cell? w _ h.range)).trans h.range, (hb.cell (World.block_lt_of_cell? w _ h.short)).trans h.short, (hb.cell (World.block_lt_of_cell? w _ h.rc)).trans h.rc⟩
def noRec : R := ⟨0, 0, 0, 0, 0, 0, false, false, 0, 0⟩
theorem frozen_at {w : World} {d : Nat} {c : Array Value} {e : TypeId} (h : w.heap[d]? = some (.cells c e (0, 0))) (o : Nat) : w.frozen? ⟨d, o, none⟩ = false := by
  simp [World.frozen?, h]
theorem below_sets {B : Nat} {a w : World} (h : Below B a w) (v0 v1 v2 v3 v4 v5 v6 v7 v8 v9 : Value) : Below B a ((((((((((w.setCell ⟨B, 0, none⟩ v0).setCell ⟨B, 1, none⟩ v1).setCell ⟨B, 2, none⟩ v2).setCell ⟨B, 3, none⟩ v3).setCell ⟨B, 4, none⟩ v4).setCell ⟨B, 5, none⟩ v5).setCell ⟨B, 6, none⟩ v6).setCell ⟨B, 7, none⟩ v7).setCell ⟨B, 8, none⟩ v8).setCell ⟨B, 9, none⟩ v9) :=
  (((((((((h.setCell (Nat.le_refl _) v0).setCell (Nat.le_refl _) v1).setCell (Nat.le_refl _) v2).setCell (Nat.le_refl _) v3).setCell (Nat.le_refl _) v4).setCell (Nat.le_refl _) v5).setCell (Nat.le_refl _) v6).setCell (Nat.le_refl _) v7).setCell (Nat.le_refl _) v8).setCell (Nat.le_refl _) v9
end Go.Proofs.YtjdfmpdkfbhdkaaDoor
