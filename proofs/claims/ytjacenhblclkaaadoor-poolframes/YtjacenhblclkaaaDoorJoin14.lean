/- Lemmas and contracts that the law stands on, joined: PageBytes2. -/
import Derived.Test.YtjacenhblclkaaaDoorJoin13
import Derived.Deep.Cut
/- What page.Bytes answers. -/
namespace Go.Proofs.YtjacenhblclkaaaDoor
open Go.RowKit
set_option linter.unusedVariables false

theorem fill_page : fillB [] 256 = page0 := by decide +kernel
theorem fill_none (w : World) : Calls Tryd.prog 74 #[.slice none 0 0, .int .i64 256] w fun e w' => e = .returned (.slice (some ⟨w.heap.size, 0, none⟩) 256 256) ∧ Own w' w.heap.size (some ⟨w.heap.size, 0, none⟩) 256 page0 ∧ Below w.heap.size w w' := by
  have h := fill_len none 0 0 [] 256 w ⟨by simp, fun x hx => by simp at hx, fun h => by simp at h⟩ rfl (by omega)
  rw [fill_page] at h
  exact h
theorem ent_at {es : List (Int × Int)} {k : Nat} {e : Int × Int} (h : es[k]? = some e) : es.getD k (0, 0) = e := by rw [List.getD_eq_getElem?_getD, h]; rfl
set_option maxRecDepth 100000 in
set_option maxHeartbeats 4000000 in
theorem pb_bad (lsn : Int) (ao : Option Addr) (n c : Nat) (es : List (Int × Int)) (w : World) (x : Addr) (hE : w.cell? ⟨0, 0, none⟩ = some (errV x)) (h : EntRow w ao es) (hn : es.length = n) (hg : okP lsn es = false) : Calls Tryd.prog 44 #[pageV lsn ao n c] w fun e w' => e = .returned (.tuple #[.slice none 0 0, errV x]) ∧ Below w.heap.size w w' := by
  have HB := hide (below_box w (pageBlock lsn ao n c))
  have HR := hide (h.step HB.out)
  have HE := hide ((HB.out.cell (World.block_lt_of_cell? w _ hE)).trans hE)
  obtain ⟨k0, k1⟩ := page_cells w lsn ao n c
  unfold pageBlock at HB HR HE k0 k1
  clear hE h
  unfold pageV
  go_enter Tryd.func44, Tryd.ntmps44
  go_wp2_with fail
  refine (pcheck_any lsn ao n c es _ x HE.out HR.out hn).mono ?_
  rintro e w1 ⟨rfl, hb⟩
  rw [checkPV_no hg]
  have HB1 := hide (over HB.out hb HB.out.size)
  clear hb k0 k1
  unfold errV
  go_wp2_with fail
  go_ret2
  exact ⟨rfl, HB1.out⟩
set_option maxRecDepth 100000 in
set_option maxHeartbeats 4000000 in
theorem pb_ok (lsn : Int) (ao : Option Addr) (n c : Nat) (es : List (Int × Int)) (w : World) (x : Addr) (hE : w.cell? ⟨0, 0, none⟩ = some (errV x)) (h : EntRow w ao es) (hn : es.length = n) (hg : okP lsn es = true) : Calls Tryd.prog 44 #[pageV lsn ao n c] w fun e w' => ∃ g, e = .returned (.tuple #[.slice (some ⟨g, 0, none⟩) 256 256, .nilIface]) ∧ w.heap.size ≤ g ∧ Own w' g (some ⟨g, 0, none⟩) 256 (pageB lsn es) ∧ Below w.heap.size w w' := by
  have ho := (okP_iff lsn es).1 hg
  have hl0 := ho.l0
  have hl1 := ho.l1
  have hn20 : n ≤ 20 := by rw [← hn]; exact ho.many
  have HRS := hide (rise_bd es 0 ho.rise)
  have HB := hide (below_box w (pageBlock lsn ao n c))
  have HR := hide (h.step HB.out)
  have HE := hide ((HB.out.cell (World.block_lt_of_cell? w _ hE)).trans hE)
  obtain ⟨k0, k1⟩ := page_cells w lsn ao n c
  have HN := hide hn
  have HG := hide hg
  have HPB : Hid (pageB lsn es = entUp (page2 lsn n) es n) := by show _ = _; rw [← hn]; rfl
  unfold pageBlock at HB HR HE k0 k1
  have HSZ : Hid ((w.alloc (.cells #[.int .i64 lsn, .slice ao n c] 34)).heap.size = w.heap.size + 1) := by show _ = _; simp
  obtain ⟨B, hB⟩ : ∃ B, B = w.heap.size := ⟨_, rfl⟩
  clear hE h hn hg ho
  unfold pageV
  go_enter Tryd.func44, Tryd.ntmps44
  go_wp2_with fail
  refine (pcheck_any lsn ao n c es _ x HE.out HR.out HN.out).mono ?_
  rintro e w1 ⟨rfl, hb⟩
  rw [checkPV_ok HG.out]
  have HR1 := hide (HR.out.step hb)
  have HB1 := hide (over HB.out hb HB.out.size)
  have HK : Hid (w1.cell? ⟨w.heap.size, 0, none⟩ = some (.int .i64 lsn) ∧ w1.cell? ⟨w.heap.size, 1, none⟩ = some (.slice ao n c)) := ⟨(hb.cell (World.block_lt_of_cell? _ _ k0)).trans k0, (hb.cell (World.block_lt_of_cell? _ _ k1)).trans k1⟩
  have HBS : Hid (w.heap.size < w1.heap.size) := by show _ < _; have := hb.size; rw [HSZ.out] at this; omega
  rw [← hB] at HK HBS ⊢
  clear hb k0 k1 hB HSZ HE HR HB
  go_wp2_with fail
  refine (fill_none _).mono ?_
  rintro e w2 ⟨rfl, hown, hb⟩
  have HO := hide hown
  replace HR1 := hide (HR1.out.step hb)
  have HK2 : Hid (w2.cell? ⟨B, 0, none⟩ = some (.int .i64 lsn) ∧ w2.cell? ⟨B, 1, none⟩ = some (.slice ao n c)) := ⟨(hb.cell (p := ⟨B, 0, none⟩) HBS.out).trans HK.out.1, (hb.cell (p := ⟨B, 1, none⟩) HBS.out).trans HK.out.2⟩
  replace HB1 := hide (over HB1.out hb HB1.out.size)
  replace HBS := hide (Nat.lt_of_lt_of_le HBS.out hb.size)
  clear hown hb HK
  obtain ⟨k0, k1⟩ := HK2.out
  go_wp2_with fail
  clear k0 k1
  refine (bytes_len 256 256 _ page0 _ _ lsn _ HO.out.row length_page0 (by omega) (by omega) hl0 (by omega)).mono ?_
  rintro e w3 ⟨rfl, hown, hb⟩
  replace HO := hide hown
  replace HR1 := hide (HR1.out.step hb)
  have HK3 : Hid (w3.cell? ⟨B, 0, none⟩ = some (.int .i64 lsn) ∧ w3.cell? ⟨B, 1, none⟩ = some (.slice ao n c)) := ⟨(hb.cell (p := ⟨B, 0, none⟩) HBS.out).trans HK2.out.1, (hb.cell (p := ⟨B, 1, none⟩) HBS.out).trans HK2.out.2⟩
  replace HB1 := hide (over HB1.out hb HB1.out.size)
  replace HBS := hide (Nat.lt_of_lt_of_le HBS.out hb.size)
  clear hown hb HK2
  obtain ⟨k0, k1⟩ := HK3.out
  go_wp2_with fail
  clear k0 k1
  refine (bytes_len 256 256 _ (page1 lsn) _ _ (n : Int) _ HO.out.row (length_page1 lsn) (by omega) (by omega) (by omega) (by omega)).mono ?_
  rintro e w4 ⟨rfl, hown, hb⟩
  replace HO := hide hown
  replace HR1 := hide (HR1.out.step hb)
  have HGW := hide HB1.out.size
  replace HB1 := hide (over HB1.out hb HB1.out.size)
  have k1 := (hb.cell (p := ⟨B, 1, none⟩) HBS.out).trans HK3.out.2
  clear hown hb HK3
  obtain ⟨W4, hW4⟩ : ∃ W4, W4 = w3.heap.size := ⟨_, rfl⟩
  rw [← hW4] at HO HGW ⊢
  clear hW4
  go_wp2_with fail
  clear k1
  go_loopw [5, 29] (fun v i wr => ∃ (k g : Nat), k ≤ n ∧ i = .int .i64 k ∧ v = .slice (some ⟨g, 0, none⟩) 256 256 ∧ w.heap.size ≤ g ∧ Own wr g (some ⟨g, 0, none⟩) 256 (entUp (page2 lsn n) es k) ∧ EntRow wr ao es ∧ Below w.heap.size w wr) (fun _ i _ => n - (intOf i).toNat)
  case atStart => exact ⟨0, W4, by omega, rfl, rfl, HGW.out, HO.out, HR1.out, HB1.out⟩
  case round =>
    clear HO HR1 HB1 HGW
    obtain ⟨k, g, hk, rfl, rfl, hgw, hown, hrow, hbel⟩ := hrel
    have HO := hide hown
    have HR := hide hrow
    have HB := hide hbel
    have HGW := hide hgw
    clear hown hrow hbel hgw
    by_cases hlt : k < n
    · have hki : (k : Int) < (n : Int) := by omega
      obtain ⟨e, he⟩ : ∃ e, es[k]? = some e := ⟨es[k]'(by rw [HN.out]; exact hlt), List.getElem?_eq_getElem _⟩
      have hxb := HRS.out e (List.mem_of_getElem? he)
      have hat := ent_at he
      obtain ⟨x0, y0⟩ := e
      simp only at hxb
      obtain ⟨hx0, hx1⟩ := hxb
      have HU : Hid (∀ wp C D ao, Own wp C ao D (putB (putB (entUp (page2 lsn n) es k) (16 + (k : Int) * 12) x0 (widthB 4).toNat) (16 + (k : Int) * 12 + 4) (u64 y0) (widthB 8).toNat) → Own wp C ao D (entUp (page2 lsn n) es (k + 1))) := by
        intro wp C D ao h
        rw [entUp, hat]
        exact h
      obtain ⟨b, off, rfl, hlb, hc⟩ := HR.out.2 (by rw [HN.out]; omega)
      obtain ⟨c1, c2⟩ := hc k (x0, y0) he
      have hbx := below_box wr (entBlock (x0, y0))
      have HB1 := hide (over HB.out hbx HB.out.size)
      have HO1 := hide (HO.out.below hbx (Nat.le_refl _))
      have HR1 := hide (HR.out.step hbx)
      have HC : Hid ((wr.alloc (entBlock (x0, y0))).cell? ⟨wr.heap.size, 0, none⟩ = some (.int .i64 x0) ∧ (wr.alloc (entBlock (x0, y0))).cell? ⟨wr.heap.size, 1, none⟩ = some (.int .i64 y0) ∧ wr.heap.size < (wr.alloc (entBlock (x0, y0))).heap.size) := ⟨(ent_new wr (x0, y0) 0 _ rfl).1, (ent_new wr (x0, y0) 0 _ rfl).2, by simp⟩
      unfold entBlock at HB1 HO1 HR1 HC
      clear hc he hat hbx hlb
      go_upto_region 11 with fail
      clear c1 c2
      obtain ⟨Y, hY⟩ : ∃ Y, Y = wr.alloc (.cells #[.int .i64 x0, .int .i64 y0] 114) := ⟨_, rfl⟩
      simp only at HB1 HO1 HR1 HC
      rw [← hY] at HB1 HO1 HR1 HC ⊢
      obtain ⟨V, hV⟩ : ∃ V, V = wr.heap.size := ⟨_, rfl⟩
      rw [← hV] at HC ⊢
      clear hY hV HO HR HB
      obtain ⟨k0, k1, kl⟩ := HC.out
      go_wp2_with fail
      clear k0 k1
      refine (bytes_len 256 256 _ (entUp (page2 lsn n) es k) _ _ x0 _ HO1.out.row (by rw [length_entUp, length_page2]) (by omega) (by omega) hx0 (by omega)).mono ?_
      rintro e z1 ⟨rfl, hown, hb⟩
      have HO2 := hide hown
      have HR2 := hide (HR1.out.step hb)
      have HB2 := hide (over HB1.out hb HB1.out.size)
      have k1 := (hb.cell (p := ⟨V, 1, none⟩) kl).trans HC.out.2.1
      clear hown hb HC HO1 HR1
      go_wp2_with fail
      clear k1
      rw [u64_wrap]
      refine (bytes_len 256 256 _ (putB (entUp (page2 lsn n) es k) (16 + (k : Int) * 12) x0 (widthB 4).toNat) _ _ (u64 y0) _ HO2.out.row (by rw [length_putB, length_entUp, length_page2]) (by omega) (by omega) (u64_bd _).1 (u64_bd _).2).mono ?_
      rintro e z2 ⟨rfl, hown, hb⟩
      have HO3 := hide (HU.out _ _ _ _ hown)
      have HR3 := hide (HR2.out.step hb)
      have HG3 := hide HB2.out.size
      have HB3 := hide (over HB2.out hb HB2.out.size)
      clear hown hb HO2 HR2 HB2 HU
      go_wp2_with fail
      go_roundw
      case rel => exact ⟨k + 1, _, by omega, by go_num, rfl, HG3.out, HO3.out, HR3.out, HB3.out⟩
      case measure => simp [intOf]; omega
    · have hki : decide ((k : Int) < (n : Int)) = false := by simp; omega
      have hkn : k = n := by omega
      subst hkn
      go_wp2_with fail
      go_ret2
      exact ⟨g, rfl, HGW.out, by rw [HPB.out]; exact HO.out, HB.out⟩
end Go.Proofs.YtjacenhblclkaaaDoor
