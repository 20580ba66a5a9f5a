
/- What master.Bytes and the document's own MasterBytes answer: ErrRange of a master that may not be; else its bytes, in new memory; nothing that was there is written. -/
import Derived.Test.YtjdfmpdkfbhdkaaDoorMastCheck
import Derived.Test.YtjdfmpdkfbhdkaaDoorBlockBytes
import Derived.Test.YtjdfmpdkfbhdkaaDoorBlockRef
namespace Go.Proofs.YtjdfmpdkfbhdkaaDoor
open Go.RowKit
set_option linter.unusedVariables false

/-- A master's block. -/
def mCells (m : M) : Obj := .cells #[.int .i64 m.e, .int .i64 m.b, .int .i64 m.r, .int .i64 m.c, .int .i64 m.p, .int .i64 m.k, .int .i64 m.f] 23
/-- A master lies in memory, cell by cell. -/
structure Cells7 (w : World) (B : Nat) (m : M) : Prop where
  c0 : w.cell? ⟨B, 0, none⟩ = some (.int .i64 m.e)
  c1 : w.cell? ⟨B, 1, none⟩ = some (.int .i64 m.b)
  c2 : w.cell? ⟨B, 2, none⟩ = some (.int .i64 m.r)
  c3 : w.cell? ⟨B, 3, none⟩ = some (.int .i64 m.c)
  c4 : w.cell? ⟨B, 4, none⟩ = some (.int .i64 m.p)
  c5 : w.cell? ⟨B, 5, none⟩ = some (.int .i64 m.k)
  c6 : w.cell? ⟨B, 6, none⟩ = some (.int .i64 m.f)
  lt : B < w.heap.size
theorem Cells7.under {w w' : World} {B n : Nat} {m : M} (h : Cells7 w B m) (hb : Below n w w') (hn : B < n) : Cells7 w' B m := by
  have h0 : ∀ o, w'.cell? ⟨B, o, none⟩ = w.cell? ⟨B, o, none⟩ := fun o => hb.cell (show B < n from hn)
  exact ⟨(h0 _).trans h.c0, (h0 _).trans h.c1, (h0 _).trans h.c2, (h0 _).trans h.c3, (h0 _).trans h.c4, (h0 _).trans h.c5, (h0 _).trans h.c6, Nat.lt_of_lt_of_le h.lt hb.size⟩
theorem Cells7.step {w w' : World} {B : Nat} {m : M} (h : Cells7 w B m) (hb : Below w.heap.size w w') : Cells7 w' B m := h.under hb h.lt
theorem cells7_new (w : World) (m : M) : Cells7 (w.alloc (mCells m)) w.heap.size m := by
  unfold mCells
  constructor <;> simp
theorem mastMark_row (w : World) : Row (w.alloc (.cells #[.int .u8 80, .int .u8 72, .int .u8 88, .int .u8 77] 5)) (some ⟨w.heap.size, 0, none⟩) [80, 72, 88, 77] := by
  refine ⟨by simp, bytes_mast0, fun _ => ⟨_, _, rfl, by simp, fun i hi => ?_⟩⟩
  have hi4 : i < 4 := hi
  rw [Nat.zero_add, cell_row (heap_alloc_new w (.cells #[.int .u8 80, .int .u8 72, .int .u8 88, .int .u8 77] 5))]
  rcases (show i = 0 ∨ i = 1 ∨ i = 2 ∨ i = 3 by omega) with rfl | rfl | rfl | rfl <;> rfl
theorem index7 (m : M) (k : Nat) (hk : k < 7) (w : World) : (Instr.index 50 (.agg #[.int .i64 m.e, .int .i64 m.b, .int .i64 m.r, .int .i64 m.c, .int .i64 m.p, .int .i64 m.k, .int .i64 m.f]) (.int .i64 (k : Int))).run Tryd.prog w = .ok (.int .i64 (m.nth k)) w := by
  rcases (show k = 0 ∨ k = 1 ∨ k = 2 ∨ k = 3 ∨ k = 4 ∨ k = 5 ∨ k = 6 by omega) with rfl | rfl | rfl | rfl | rfl | rfl | rfl <;> kernel_rfl
set_option maxHeartbeats 1000000 in
theorem numbers_any (m : M) (w : World) : Calls Tryd.prog 23 #[m.val] w fun e w' => e = .returned m.val ∧ Below w.heap.size w w' := by
  unfold M.val
  go_enter Tryd.func23, Tryd.ntmps23
  go_wp2_with fail
  exact bodyPost_ret (v := .agg #[.int .i64 m.e, .int .i64 m.b, .int .i64 m.r, .int .i64 m.c, .int .i64 m.p, .int .i64 m.k, .int .i64 m.f]) (by simp [results, Tryd.results23, go_sem]) rfl ⟨rfl, (below_box w _).alloc (by simp) _⟩
/-- What master.Bytes answers. -/
def mbPost (m : M) (x : Addr) (w : World) (r : Ending) (w' : World) : Prop :=
  ((okM m = true ∧ ∃ g, r = .returned (.tuple #[.slice (some ⟨g, 0, none⟩) 256 256, .nilIface]) ∧ w.heap.size ≤ g ∧ Own w' g (some ⟨g, 0, none⟩) 256 (mastB m)) ∨ (okM m = false ∧ r = .returned (.tuple #[.slice none 0 0, errV x]))) ∧ Below w.heap.size w w'
set_option maxRecDepth 100000 in
set_option maxHeartbeats 4000000 in
theorem mb_bad (m : M) (w : World) (x : Addr) (hE : w.cell? ⟨0, 0, none⟩ = some (errV x)) (hg : okM m = false) :
    Calls Tryd.prog 9 #[m.val] w fun e w' => e = .returned (.tuple #[.slice none 0 0, errV x]) ∧ Below w.heap.size w w' := by
  have HE2 : Hid ((w.alloc (mCells m)).cell? ⟨0, 0, none⟩ = some (errV x)) := ((below_box w (mCells m)).cell (World.block_lt_of_cell? w _ hE)).trans hE
  have HB := hide (below_box w (mCells m))
  unfold mCells at HE2 HB
  clear hE
  unfold M.val
  go_enter Tryd.func9, Tryd.ntmps9
  go_wp2_with fail
  refine (mcheck_any m _ x HE2.out).mono ?_
  rintro e w2 ⟨rfl, hb2⟩
  rw [checkMV_no hg]
  have HB2 := hide (over HB.out hb2 HB.out.size)
  clear hb2
  unfold errV
  go_wp2_with fail
  go_ret2
  exact ⟨rfl, HB2.out⟩
set_option maxRecDepth 100000 in
set_option maxHeartbeats 4000000 in
theorem mb_ok (m : M) (w : World) (x : Addr) (hE : w.cell? ⟨0, 0, none⟩ = some (errV x)) (hg : okM m = true) :
    Calls Tryd.prog 9 #[m.val] w fun e w' => ∃ g, e = .returned (.tuple #[.slice (some ⟨g, 0, none⟩) 256 256, .nilIface]) ∧ w.heap.size ≤ g ∧ Own w' g (some ⟨g, 0, none⟩) 256 (mastB m) ∧ Below w.heap.size w w' := by
  have HE2 : Hid ((w.alloc (mCells m)).cell? ⟨0, 0, none⟩ = some (errV x)) := ((below_box w (mCells m)).cell (World.block_lt_of_cell? w _ hE)).trans hE
  have HB := hide (below_box w (mCells m))
  have HC := hide (cells7_new w m)
  have HN := hide ((okM_iff m).1 hg).nth
  unfold mCells at HE2 HB HC
  clear hE
  unfold M.val
  go_enter Tryd.func9, Tryd.ntmps9
  go_wp2_with fail
  refine (mcheck_any m _ x HE2.out).mono ?_
  rintro e w2 ⟨rfl, hb2⟩
  rw [checkMV_ok hg]
  replace HB := hide (over HB.out hb2 HB.out.size)
  replace HC := hide (HC.out.step hb2)
  clear hb2 HE2
  have HB1 := hide (below_box w2 (.cells #[.int .u8 80, .int .u8 72, .int .u8 88, .int .u8 77] 5))
  have HR := hide (mastMark_row w2)
  replace HB := hide (over HB.out HB1.out HB.out.size)
  replace HC := hide (HC.out.step HB1.out)
  clear HB1
  go_wp2_with fail
  refine (fill_256 (m := 4) HR.out rfl (by omega)).mono ?_
  rintro e w3 ⟨g, rfl, hg3, hown, hb⟩
  have HO := hide hown
  have HG := hide (Nat.le_trans HB.out.size hg3)
  replace HB := hide (over HB.out hb HB.out.size)
  replace HC := hide (HC.out.step hb)
  clear hown hb hg3 HR
  obtain ⟨k0, k1, k2, k3, k4, k5, k6, kl⟩ := HC.out
  go_wp2_with fail
  clear k0 k1 k2 k3 k4 k5 k6 kl
  refine (numbers_any m _).mono ?_
  rintro e w4 ⟨rfl, hb⟩
  replace HO := hide (HO.out.below hb (Nat.le_refl _))
  replace HB := hide (over HB.out hb HB.out.size)
  clear hb HC
  unfold M.val
  go_wp2_with fail
  go_loopw [5, 17] (fun v i wr => ∃ k : Nat, k ≤ 7 ∧ i = .int .i64 k ∧ ∃ g, v = .slice (some ⟨g, 0, none⟩) 256 256 ∧ w.heap.size ≤ g ∧ Own wr g (some ⟨g, 0, none⟩) 256 (mastUp m k) ∧ Below w.heap.size w wr) (fun _ i _ => 7 - (intOf i).toNat)
  case atStart => exact ⟨0, by omega, rfl, g, rfl, HG.out, HO.out, HB.out⟩
  case round =>
    clear HO HB HG
    obtain ⟨k, hk, rfl, g, rfl, hgs, hown, hbel⟩ := hrel
    have HO := hide hown
    have HB := hide hbel
    have HG := hide hgs
    clear hown hbel hgs
    by_cases hlt : k < 7
    · have hki : (k : Int) < 7 := by omega
      have hidx := index7 m k hlt
      obtain ⟨n0, n1⟩ := HN.out k
      have HU : Hid (∀ wp B C ao, Own wp B ao C (putB (mastUp m k) (4 + (k : Int) * 4) (m.nth k) (widthB 4).toNat) → Own wp B ao C (mastUp m (k + 1))) := fun _ _ _ _ h => h
      obtain ⟨n, hn⟩ : ∃ n, n = m.nth k := ⟨_, rfl⟩
      rw [← hn] at n0 n1 HU hidx
      clear hn
      go_wp2_with fail
      clear hidx
      refine (bytes_len 256 256 _ (mastUp m k) _ _ n _ HO.out.row (length_mastUp m k) (by omega) (by omega) n0 (by omega)).mono ?_
      rintro e wp ⟨rfl, hown, hb⟩
      replace HO := hide (HU.out _ _ _ _ hown)
      have HS := hide HB.out.size
      replace HB := hide (over HB.out hb HB.out.size)
      clear hown hb HG HU
      go_wp2_with fail
      go_roundw
      case rel => exact ⟨k + 1, by omega, by go_num, _, rfl, HS.out, HO.out, HB.out⟩
      case measure => simp [intOf]; omega
    · have hki : decide ((k : Int) < 7) = false := by simp; omega
      have h7 : k = 7 := by omega
      have HK := hide h7
      clear h7 hlt hk
      go_wp2_with fail
      go_ret2
      have hO := HO.out
      rw [HK.out] at hO
      exact ⟨g, rfl, HG.out, hO, HB.out⟩
theorem mb_any (m : M) (w : World) (x : Addr) (hE : w.cell? ⟨0, 0, none⟩ = some (errV x)) : Calls Tryd.prog 9 #[m.val] w (mbPost m x w) := by
  cases hg : okM m with
  | true => exact (mb_ok m w x hE hg).mono fun e w' ⟨g, h1, h2, h3, h4⟩ => ⟨.inl ⟨hg, g, h1, h2, h3⟩, h4⟩
  | false => exact (mb_bad m w x hE hg).mono fun e w' ⟨h1, h4⟩ => ⟨.inr ⟨hg, h1⟩, h4⟩
theorem cells7_slice {w : World} {m : M} {k : Nat} (hk : k < 7) : (w.alloc (.cells #[.int .i64 m.e, .int .i64 m.b, .int .i64 m.r, .int .i64 m.c, .int .i64 m.p, .int .i64 m.k, .int .i64 m.f] 3)).cell? ⟨w.heap.size, k, none⟩ = some (.int .i64 (m.nth k)) := by
  rw [cell_row (heap_alloc_new w (.cells #[.int .i64 m.e, .int .i64 m.b, .int .i64 m.r, .int .i64 m.c, .int .i64 m.p, .int .i64 m.k, .int .i64 m.f] 3))]
  rcases (show k = 0 ∨ k = 1 ∨ k = 2 ∨ k = 3 ∨ k = 4 ∨ k = 5 ∨ k = 6 by omega) with rfl | rfl | rfl | rfl | rfl | rfl | rfl <;> rfl
set_option maxRecDepth 100000 in
set_option maxHeartbeats 4000000 in
theorem rmb_ok (m : M) (w : World) (hg : okM m = true) :
    Calls Tryd.prog 13 #[m.val] w fun e w' => ∃ g, e = .returned (.slice (some ⟨g, 0, none⟩) 256 256) ∧ w.heap.size ≤ g ∧ Own w' g (some ⟨g, 0, none⟩) 256 (mastB m) ∧ Below w.heap.size w w' := by
  have HB := hide (below_box w (mCells m))
  have HC := hide (cells7_new w m)
  have HN := hide ((okM_iff m).1 hg).nth
  unfold mCells at HB HC
  have HB1 := hide (below_box (w.alloc (mCells m)) (.cells #[.int .u8 80, .int .u8 72, .int .u8 88, .int .u8 77] 5))
  have HR := hide (mastMark_row (w.alloc (mCells m)))
  unfold mCells at HB1 HR
  replace HB := hide (over HB.out HB1.out HB.out.size)
  replace HC := hide (HC.out.step HB1.out)
  clear HB1
  have hsz : (w.alloc (.cells #[.int .i64 m.e, .int .i64 m.b, .int .i64 m.r, .int .i64 m.c, .int .i64 m.p, .int .i64 m.k, .int .i64 m.f] 23)).heap.size = w.heap.size + 1 := by simp
  have HZ := hide hsz
  clear hsz
  rw [HZ.out] at HR
  unfold M.val
  go_enter Tryd.func13, Tryd.ntmps13
  go_wp2_with fail
  refine (refFill_256 (m := 4) HR.out rfl (by omega)).mono ?_
  rintro e w3 ⟨g, dc, rfl, ⟨hg3, hdc⟩, hown, hb⟩
  have HO := hide hown
  have HG := hide (Nat.le_trans HB.out.size hg3)
  have HD := hide hdc
  replace HB := hide (over HB.out hb HB.out.size)
  replace HC := hide (HC.out.step hb)
  clear hown hb hg3 HR hdc
  obtain ⟨k0, k1, k2, k3, k4, k5, k6, kl⟩ := HC.out
  have HB1 := hide (below_box w3 (.cells #[.int .i64 m.e, .int .i64 m.b, .int .i64 m.r, .int .i64 m.c, .int .i64 m.p, .int .i64 m.k, .int .i64 m.f] 3))
  have HL := hide (fun k hk => cells7_slice (w := w3) (m := m) (k := k) hk)
  obtain ⟨W, hW⟩ : ∃ W, W = w3.alloc (.cells #[.int .i64 m.e, .int .i64 m.b, .int .i64 m.r, .int .i64 m.c, .int .i64 m.p, .int .i64 m.k, .int .i64 m.f] 3) := ⟨_, rfl⟩
  have HWE := hide hW
  have HLT : Hid (w3.heap.size < W.heap.size) := by show w3.heap.size < W.heap.size; rw [hW]; simp
  rw [← hW] at HB1 HL
  clear hW
  replace HO := hide (HO.out.below HB1.out (Nat.le_refl _))
  replace HB := hide (over HB.out HB1.out HB.out.size)
  clear HB1
  go_wp2_with fail
  clear k0 k1 k2 k3 k4 k5 k6 kl
  rw [← HWE.out]
  obtain ⟨G, hG⟩ : ∃ G, G = w3.heap.size := ⟨_, rfl⟩
  rw [← hG] at HLT HL ⊢
  clear hG HWE HC
  go_loopw [3, 5] (fun v i wr => ∃ k : Nat, k ≤ 7 ∧ i = .int .i64 k ∧ ∃ g c, v = .slice (some ⟨g, 0, none⟩) 256 c ∧ w.heap.size ≤ g ∧ (0 < k → c = 256) ∧ Own wr g (some ⟨g, 0, none⟩) c (mastUp m k) ∧ Below w.heap.size w wr ∧ Below W.heap.size W wr) (fun _ i _ => 7 - (intOf i).toNat)
  case atStart => exact ⟨0, by omega, rfl, g, dc, rfl, HG.out, fun h => by omega, HO.out, HB.out, Below.refl _ _⟩
  case round =>
    clear HO HB HG
    obtain ⟨k, hk, rfl, g, c, rfl, hgs, hcc, hown, hbel, hbw⟩ := hrel
    have HO := hide hown
    have HB := hide hbel
    have HG := hide hgs
    have HBW := hide hbw
    have HCC := hide hcc
    clear hown hbel hgs hbw hcc
    by_cases hlt : k < 7
    · have hki : (k : Int) < 7 := by omega
      have hcell := (HBW.out.cell (p := ⟨G, k, none⟩) HLT.out).trans (HL.out k hlt)
      obtain ⟨n0, n1⟩ := HN.out k
      have HU : Hid (∀ wp B C ao, Own wp B ao C (putB (mastUp m k) (4 + 4 * (k : Int)) (m.nth k) (widthB 4).toNat) → Own wp B ao C (mastUp m (k + 1))) := fun wp B C ao h => by
        rw [Int.mul_comm] at h
        exact h
      obtain ⟨n, hn⟩ : ∃ n, n = m.nth k := ⟨_, rfl⟩
      rw [← hn] at n0 n1 HU hcell
      clear hn
      go_wp2_with fail
      clear hcell
      refine (refPut_len 256 c _ (mastUp m k) _ _ n _ HO.out.row (length_mastUp m k) (by omega) (by omega) n0 (by omega)).mono ?_
      rintro e wp ⟨rfl, hown, hb⟩
      replace HO := hide (HU.out _ _ _ _ hown)
      have HS := hide HB.out.size
      replace HB := hide (over HB.out hb HB.out.size)
      replace HBW := hide (over HBW.out hb HBW.out.size)
      clear hown hb HG HU
      go_wp2_with fail
      go_roundw
      case rel => exact ⟨k + 1, by omega, by go_num, _, _, rfl, HS.out, fun _ => rfl, HO.out, HB.out, HBW.out⟩
      case measure => simp [intOf]; omega
    · have hki : decide ((k : Int) < 7) = false := by simp; omega
      have h7 : k = 7 := by omega
      have HK := hide h7
      have hc := HCC.out (by omega)
      subst hc
      clear h7 hlt hk HCC
      go_wp2_with fail
      go_ret
      have hO := HO.out
      rw [HK.out] at hO
      exact ⟨g, rfl, HG.out, hO, HB.out⟩
end Go.Proofs.YtjdfmpdkfbhdkaaDoor
