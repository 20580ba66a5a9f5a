
/- What the statement PoolFrames asks comes out true, at every list of numbers and number; nothing that was there is written. -/
import Derived.Test.YtjacenhblclkaaaDoorJoin51
import Derived.Test.YtjacenhblclkaaaDoorJoin5
namespace Go.Proofs.YtjacenhblclkaaaDoor.poolFrames
open Go.RowKit
set_option linter.unusedVariables false

section
variable {w w' : World} {K : Nat → Prop} {a : Nat → Addr} {P l d F N : Nat} {base most : Int} {mb : Option Nat} {fo : Option Addr} {fc : Nat} {fs : List Fr} {T : Nat} {S : PSt}
/-- A list of numbers that K names grows; new memory comes, and K names it. -/
theorem pool_grown (h : PoolOf w K a P l d F N base most mb fo fc fs T S) {B n c : Nat} {ao : Option Addr} {xs : List Int} (ho : OwnI w B ao n c xs) (hK : ∀ g, (Value.slice ao n c).ownBlock = some g → K g) (he : (∀ i ∈ seven, gno i < B) ∧ gno 6 < B) (hg : w.grownBy w' (Value.slice ao n c).ownBlock) :
    PoolOf w' (wider K w.heap.size w'.heap.size) a P l d F N base most mb fo fc fs T S := by
  have hs := hg.size
  have hold : ∀ k, k < w.heap.size → ¬ K k → w'.heap[k]? = w.heap[k]? := fun k hk hn => hg.block k hk fun e => hn (hK k e.symm)
  have hcell : ∀ b, b < B → b < w.heap.size → w'.cell? ⟨b, 0, none⟩ = w.cell? ⟨b, 0, none⟩ := fun b hb hk => World.cell?_of_block (w := w) (hg.block b hk fun e => by have := (ho.1.lt b e.symm).1; omega)
  have hP := hold P h.lt h.nP
  have hE : ErrsK w' (wider K w.heap.size w'.heap.size) a := fun j hj => ⟨.inl (h.errs j hj).1, (hcell _ (he.1 j hj) (h.low _ (h.errs j hj).1)).trans (h.errs j hj).2⟩
  refine ⟨hP.trans h.head, h.tab.of_blocks hP fun b e => hold b (h.tab.own b e).lt (h.nm b e), h.own.of_block fun g e => hold g (h.own.1.lt g e).2 (h.nf g e), h.pages, fun f hf => (h.ents f hf).of_own fun g hgf => hg.block g ((h.ents f hf).1.lt g hgf).2 ?_, h.log.stays hs (fun k hk hn => hold k hk fun hk2 => hn (.inl hk2)) (fun k hk => ?_) (hE.wide fun k hk => .inl hk), fun hk => ?_, fun b e hk => ?_, fun g e hk => ?_, hE, ⟨.inl h.page.1, (hcell _ he.2 (h.low _ h.page.1)).trans h.page.2⟩⟩
  · intro e
    obtain ⟨cur, hc⟩ := owns_type (h.ents f hf).1 hgf
    obtain ⟨cur2, hc2⟩ := owns_type ho.1 e.symm
    rw [hc] at hc2
    simp at hc2
  · rcases hk with (hk | hk) | hk
    · exact ⟨Nat.lt_of_lt_of_le (h.low k hk) hs, fun _ => .inl hk⟩
    · exact ⟨hk.2, fun h2 => by omega⟩
    · exact ⟨Nat.lt_of_lt_of_le (h.log.low k (.inr hk)) hs, fun _ => .inr hk⟩
  · rcases hk with hk | hk
    · exact h.nP hk
    · have := h.lt; omega
  · rcases hk with hk | hk
    · exact h.nm b e hk
    · have := (h.tab.own b e).lt; omega
  · rcases hk with hk | hk
    · exact h.nf g e hk
    · have := (h.own.1.lt g e).2; omega
/-- A list of numbers that K names, beside a pool. -/
structure Beside (w : World) (B : Nat) (K : Nat → Prop) (ao : Option Addr) (n c : Nat) (xs : List Int) : Prop where
  own : OwnI w B ao n c xs
  named : ∀ g, (Value.slice ao n c).ownBlock = some g → K g
theorem Beside.kept {B n c : Nat} {ao : Option Addr} {xs : List Int} (h : Beside w B K ao n c xs) (hk : Kept K w w') : Beside w' B K ao n c xs := ⟨⟨owns_of_block h.own.1 fun g hg _ => hk.block g (h.named g hg), h.own.2⟩, h.named⟩
theorem Beside.wide {B n c : Nat} {ao : Option Addr} {xs : List Int} (h : Beside w B K ao n c xs) (hb : Below w.heap.size w w') : Beside w' B (wider K w.heap.size w'.heap.size) ao n c xs := ⟨h.own.step hb, fun g hg => .inl (h.named g hg)⟩
theorem Beside.below {B n c : Nat} {ao : Option Addr} {xs : List Int} (h : Beside w B K ao n c xs) (hb : Below w.heap.size w w') : Beside w' B K ao n c xs := ⟨h.own.step hb, h.named⟩
/-- What append makes of such a list: the pool stays. -/
theorem app_beside (h : PoolOf w K a P l d F N base most mb fo fc fs T S) {B n c : Nat} {ao : Option Addr} {xs ys : List Int} {y : Addr} {m yc : Nat} (hb : Beside w B K ao n c xs) (he : (∀ i ∈ seven, gno i < B) ∧ gno 6 < B) (hm : ys.length = m) (hs : n + m ≤ 100000) (hB : B ≤ w.heap.size) (hy : ∀ j u, (icells ys)[j]? = some u → w.cell? (y.add j) = some u) (ty : TypeId) :
    ∃ ao' c' w', (Builtin.append_ #[22, 22] ty #[.slice ao n c, .slice (some y) m yc]).run Tryd.prog w = .ok (.slice ao' (n + m) c') w' ∧ Beside w' B (wider K w.heap.size w'.heap.size) ao' (n + m) c' (xs ++ ys) ∧ PoolOf w' (wider K w.heap.size w'.heap.size) a P l d F N base most mb fo fc fs T S ∧ Below B w w' := by
  subst hm
  obtain ⟨i0, hi, hz0, hz1, hz2⟩ := info_parts Tryd.info3
  obtain ⟨v', w', hr, ho, hg, _, hat⟩ := run_append_own_at (P := Tryd.prog) w B 22 ty 3 i0 _ 1 8 Tryd.underlying22 hi hz0 hz1 hz2 rfl (by decide) (.slice ao n c) n (icells xs) hb.own.1 y ys.length yc (icells ys) (by rw [length_icells]; omega) hy (by intro u hu; obtain ⟨x, _, rfl⟩ := List.mem_map.1 hu; rfl) (by unfold maxLen; omega) (by omega) hB
  obtain ⟨ao', c', rfl⟩ := own_shapeI ho
  have hbl := (Below.refl B w).grown hg hB (fun j e => (hb.own.1.lt j e).1)
  have e : icells (xs ++ ys) = icells xs ++ icells ys := by simp [icells]
  refine ⟨ao', c', w', hr, ⟨⟨by rw [e]; exact ho, by rw [List.length_append, ← hb.own.2]⟩, fun g hgk => ?_⟩, pool_grown h hb.own hb.named he hg, hbl⟩
  rcases hat with h1 | h1
  · exact .inl (hb.named g (h1 ▸ hgk))
  · have h2 := (ho.lt g hgk).2
    rw [h1] at hgk
    cases hgk
    exact .inr ⟨Nat.le_refl _, h2⟩
end
set_option maxRecDepth 100000 in
set_option maxHeartbeats 4000000 in
theorem ints_any (ao : Option Addr) (m c : Nat) (xs : List Int) (w : World) (h : RowI w ao xs) (hm : m = xs.length) (hl : xs.length ≤ 1000) :
    Calls Tryd.prog 23 #[.slice ao m c] w fun e w' => ∃ bo c', e = .returned (.slice bo m c') ∧ OwnI w' w.heap.size bo m c' xs ∧ Below w.heap.size w w' := by
  obtain ⟨i0, hi, hz0, hz1, hz2⟩ := info_parts Tryd.info3
  have HR := hide h
  have HM := hide hm
  have HL := hide hl
  have hm9 : m ≤ 1000 := by omega
  clear h hm hl
  go_enter Tryd.func23, Tryd.ntmps23
  go_wp2_with (at_make; refine wpList_make_own w rfl (.const (.int .i64 0)) (.tmp 6) 22 rfl w.heap.size 3 i0 (.int .i64 0) 1 Tryd.underlying22 hi hz0 hz1 .i64 .i64 m m rfl rfl rfl (by rw [hz2]; have := HM.out; have := HL.out; omega) (by unfold maxLen; have := HM.out; have := HL.out; omega) (Nat.le_refl _) ?_; intro w1 hown hgr; have HB : Hid (Below w.heap.size w w1) := (Below.refl _ _).grown hgr (Nat.le_refl _) (by simp); have HO : Hid (OwnI w1 w.heap.size (some ⟨w.heap.size, 0, none⟩) 0 m []) := ⟨hown, by simp⟩; clear hown hgr)
  go_loopw [3, 4] (fun v i wr => ∃ (k : Nat) (bo : Option Addr) (c' : Nat), k ≤ m ∧ i = .int .i64 k ∧ v = .slice bo k c' ∧ OwnI wr w.heap.size bo k c' (xs.take k) ∧ Below w.heap.size w wr) (fun _ i _ => m - (intOf i).toNat)
  case atStart => exact ⟨0, _, m, by omega, rfl, rfl, HO.out, HB.out⟩
  case round =>
    clear HO HB
    obtain ⟨k, bo, c', hk, rfl, rfl, hown, hbel⟩ := hrel
    have HO := hide hown
    have HB := hide hbel
    clear hown hbel
    by_cases hlt : k < m
    · have hki : (k : Int) < (m : Int) := by omega
      obtain ⟨b, off, rfl, hlb, hc⟩ := HR.out (by have := HM.out; omega)
      have k1 := (HB.out.cell (p := ⟨b, off + k, none⟩) hlb).trans (hc k (by have := HM.out; omega))
      obtain ⟨z, hz⟩ : ∃ z, z = xs.getD k 0 := ⟨_, rfl⟩
      rw [← hz] at k1
      have hb1 := below_box wr (.cells #[.int .i64 z] 3)
      obtain ⟨ao2, c4, w2, hrun, hown2, hgr, hb4⟩ := run_appendI (m := 1) (yc := 1) (HO.out.step hb1) (ys := [z]) rfl (by have := HM.out; have := HL.out; omega) (Nat.le_trans HB.out.size hb1.size) (cell_one_new wr (.int .i64 z) 3) 22
      have HTK : Hid (xs.take (k + 1) = xs.take k ++ [z]) := by
        show _ = _
        rw [hz, List.take_add_one, List.getD_eq_getElem?_getD, List.getElem?_eq_getElem (by have := HM.out; omega)]
        rfl
      rw [← HTK.out] at hown2
      have HRUN := hide hrun
      have HO2 := hide hown2
      have HB2 := hide ((HB.out.trans (hb1.mono HB.out.size)).trans hb4)
      clear hc hb1 hrun hown2 hgr hb4 HO hlb hz
      go_wp2_with (at_builtin; refine wpList_append_run (by rfl) (.tmp 14) (.tmp 19) 22 (by rfl) _ _ (by rfl) (by rfl) HRUN.out ?_)
      go_roundw
      case rel => exact ⟨k + 1, ao2, c4, by omega, by go_num, rfl, HO2.out, HB2.out⟩
      case measure => simp [intOf]; omega
    · have hki : decide ((k : Int) < (m : Int)) = false := by simp; omega
      obtain rfl : k = m := by omega
      have HT : Hid (xs.take k = xs) := List.take_of_length_le (by rw [HM.out]; exact Nat.le_refl _)
      rw [HT.out] at HO
      go_wp2_with fail
      go_ret
      exact ⟨bo, c', rfl, HO.out, HB.out⟩
/-- What Get leaves here. -/
def nextH (F : Nat) (l : List Int) (i : Nat) (n : Int) : List Int := if n ∈ l then l else if F ≤ l.length then l.take (i % F) ++ l.drop (i % F + 1) ++ [n] else l ++ [n]
theorem got_next {N A : Nat} {l : List Int} {base : Int} {F i : Nat} {n : Int} (h1 : 1 ≤ n) (h2 : n < N) (hF : 1 ≤ F) (hl : l.length ≤ F) : (ZSt N l).get A base (F : Int) n (i : Int) = ⟨ZSt N (nextH F l i n), 0, [], 0, false, 0⟩ := by
  rw [st_got h1 h2]
  unfold nextH
  by_cases hm : n ∈ l
  · rw [if_pos hm, if_pos hm]
  · rw [if_neg hm, if_neg hm]
    by_cases hf : F ≤ l.length
    · have e : l.length = F := by omega
      have hk : hintK (i : Int) l.length = i % F := by
        unfold hintK
        rw [e, show max (i : Int) 0 = (i : Int) by omega, ← Int.natCast_emod, Int.toNat_natCast]
      rw [if_pos hf, if_pos (by omega), hk]
    · rw [if_neg hf, if_neg (by omega)]
theorem next_len {F i : Nat} {l : List Int} {n : Int} (hF : 1 ≤ F) (hl : l.length ≤ F) : (nextH F l i n).length ≤ F := by
  unfold nextH
  split
  · exact hl
  · split
    · have h1 : i % F < F := Nat.mod_lt _ (by omega)
      simp only [List.length_append, List.length_take, List.length_drop, List.length_cons, List.length_nil]
      omega
    · simp only [List.length_append, List.length_cons, List.length_nil]; omega
theorem next_mem {F i : Nat} {l : List Int} {n x : Int} (hx : x ∈ nextH F l i n) : x ∈ l ∨ x = n := by
  unfold nextH at hx
  split at hx
  · exact .inl hx
  · split at hx
    · simp only [List.mem_append, List.mem_singleton] at hx
      rcases hx with (h | h) | h
      · exact .inl (List.mem_of_mem_take h)
      · exact .inl (List.mem_of_mem_drop h)
      · exact .inr h
    · simp only [List.mem_append, List.mem_singleton] at hx
      exact hx
set_option maxRecDepth 100000 in
set_option maxHeartbeats 32000000 in
theorem walk (lo : Option Addr) (len cap : Nat) (zs : List Int) (a1 : Int) (w : World) (w0 : IsRow .i64 w lo len cap zs) (w1 : (Lit.int .i64 a1).wf = true) {a : Nat → Addr} (he : ErrsOf w [0, 1, 2, 6] a) :
    Calls Tryd.prog 4 #[.slice lo len cap, .int .i64 a1] w fun e w' => e = .returned (.bool true) ∧ Below w.heap.size w w' := by
  have HE := hide he
  have HS : Hid ((∀ i ∈ seven, i ∈ [0, 1, 2, 6]) ∧ 6 ∈ [0, 1, 2, 6]) := ⟨by decide, by decide⟩
  have HX : Hid (len ≤ 4294967296 → ∃ xs : List Int, xs.length = len ∧ IRow w lo xs) := fun h => irow_of_isrow w0 h
  clear he w0 w1
  go_enter Tryd.func4, Tryd.ntmps4
  go_wp2_with fail
  refine (pofirst_any w HE.out HS.out).mono ?_
  rintro e x1 ⟨rfl, hb⟩
  have HB := hide hb
  have HE1 := hide (HE.out.step hb)
  clear hb
  by_cases hlen : len ≤ 40
  case neg =>
    have hl1 : (40 : Int) < (len : Int) := by omega
    go_wp2_with fail
    go_ret
    exact ⟨rfl, HB.out⟩
  have hl1 : decide ((40 : Int) < (len : Int)) = false := by simp; omega
  go_wp2_with fail
  refine (number_any a1 8 _ (by omega) (by omega)).mono ?_
  rintro e yy ⟨rfl, rfl⟩
  have hfb := numberB_bd a1 8 (by omega)
  obtain ⟨f, hf⟩ : ∃ f : Nat, numberB a1 8 = (f : Int) := ⟨(numberB a1 8).toNat, by omega⟩
  rw [hf] at hfb ⊢
  clear hf
  go_wp2_with fail
  refine (made_any ((f : Int) + 1) yy HE1.out HS.out).mono ?_
  rintro e x2 ⟨d, l, P, rfl, hp, hb⟩
  obtain ⟨F, hF⟩ : ∃ F : Nat, F = f + 1 := ⟨_, rfl⟩
  have hF1 : 1 ≤ F ∧ F ≤ 8 := by omega
  rw [show min (max ((f : Int) + 1) 1) 8 = (F : Int) by omega] at hp
  rw [show (f : Int) + 1 = (F : Int) by omega]
  have HP := hide hp
  have HB2 := hide hb
  clear hp hb hF hfb
  obtain ⟨xs, hxl, hxr⟩ := HX.out (by omega)
  have HXL := hide hxl
  have HXR := hide hxr
  have hsz1 : Hid (w.heap.size ≤ yy.heap.size) := HB.out.size
  have hgn : Hid ((∀ i ∈ seven, gno i < yy.heap.size) ∧ gno 6 < yy.heap.size) := ⟨fun i hi => World.block_lt_of_cell? _ _ (HE1.out.cell i (HS.out.1 i hi)), World.block_lt_of_cell? _ _ (HE1.out.cell 6 HS.out.2)⟩
  clear hxl hxr HX
  go_wp2_with fail
  go_loopw [9, 10] (fun hv i wr => ∃ (k m c : Nat) (ao : Option Addr) (hs : List Int) (K : Nat → Prop) (mb : Option Nat) (fo : Option Addr) (fc : Nat) (fs : List Fr) (T : Nat), k ≤ len ∧ i = .int .i64 k ∧ hv = .slice ao m c ∧ hs.length = m ∧ m ≤ F ∧ (∀ n ∈ hs, 1 ≤ n ∧ n < 10) ∧ (∀ k, ahead yy.heap.size k → K k) ∧ Beside wr yy.heap.size K ao m c hs ∧ PoolOf wr K a P l d 10 9 0 F mb fo fc fs T (ZSt 20 hs) ∧ Below w.heap.size w wr ∧ yy.heap.size ≤ wr.heap.size) (fun _ i _ => len - (intOf i).toNat)
  case atStart => exact ⟨0, 0, 0, none, [], ahead yy.heap.size, none, none, 0, [], 0, by omega, rfl, rfl, rfl, by omega, by simp, fun _ h => h, ⟨ownI_nil _ _, by simp [Value.ownBlock]⟩, HP.out, over HB.out HB2.out HB.out.size, HB2.out.size⟩
  case round =>
    obtain ⟨k, m, c, ao, hs, K, mb, fo, fc, fs, T, hk, rfl, rfl, hm, hmF, hbd, hKK, hbes, hpo, hbel, hyw⟩ := hrel
    clear HB HB2 HP
    have HM := hide hm
    have HBD := hide hbd
    have HKK := hide hKK
    have HBE := hide hbes
    have HP := hide hpo
    have HB := hide hbel
    have HYW := hide hyw
    clear hm hbd hKK hbes hpo hbel hyw
    by_cases hlt : k < len
    case neg =>
      have hki : decide ((k : Int) < (len : Int)) = false := by simp; omega
      go_wp2_with fail
      go_ret
      exact ⟨rfl, HB.out⟩
    case pos =>
      have hki : (k : Int) < (len : Int) := by omega
      obtain ⟨b, off, rfl, hbl, hc⟩ := HXR.out.2.2 (by rw [HXL.out]; omega)
      have c1 := (HB.out.cell (p := ⟨b, off + k, none⟩) hbl).trans (hc k (by rw [HXL.out]; exact hlt))
      obtain ⟨z, hz⟩ : ∃ z, z = xs.getD k 0 := ⟨_, rfl⟩
      rw [← hz] at c1
      clear hz hc hbl
      go_wp2_with fail
      clear c1
      refine (number_any z 9 _ (by omega) (by omega)).mono ?_
      rintro e y1 ⟨rfl, rfl⟩
      have hnb := numberB_bd z 9 (by omega)
      obtain ⟨q, hq⟩ : ∃ q, q = numberB z 9 := ⟨_, rfl⟩
      rw [← hq] at hnb ⊢
      clear hq
      go_wp2_with fail
      obtain ⟨n, hn⟩ : ∃ n, n = 1 + q := ⟨_, rfl⟩
      have hn1 : 1 ≤ n ∧ n < 10 := by omega
      rw [← hn]
      clear hn hnb
      have HR0 := hide HBE.out.own.row
      go_loopw [12, 13] (fun t j wr' => ∃ (i : Nat), i ≤ m ∧ j = .int .i64 i ∧ t = .bool (decide (n ∈ hs.take i)) ∧ ∃ q, wr' = y1.drewN q) (fun _ j _ => m - (intOf j).toNat)
      case atStart => exact ⟨0, by omega, rfl, by simp, 0, rfl⟩
      case round =>
        obtain ⟨i, hi, rfl, rfl, q, rfl⟩ := hrel
        by_cases hil : i < m
        · have hii : (i : Int) < (m : Int) := by omega
          obtain ⟨b, off, rfl, hbl, hc⟩ := HR0.out (by rw [HM.out]; omega)
          have c1 := hc i (by rw [HM.out]; exact hil)
          have HTK : Hid ((decide (n ∈ hs.take (i + 1))) = (decide (n ∈ hs.take i) || (hs.getD i 0 == n))) := by
            show _ = _
            rw [List.take_add_one, List.getD_eq_getElem?_getD, List.getElem?_eq_getElem (by rw [HM.out]; exact hil)]
            simp only [Option.toList_some, List.mem_append, List.mem_singleton, Option.getD_some, Bool.decide_or]
            congr 1
            exact decide_eq_decide.2 eq_comm
          obtain ⟨z2, hz2⟩ : ∃ z2, z2 = hs.getD i 0 := ⟨_, rfl⟩
          rw [← hz2] at c1 HTK
          obtain ⟨t, ht⟩ : ∃ t, t = decide (n ∈ hs.take i) := ⟨_, rfl⟩
          rw [← ht] at HTK ⊢
          have HT2 := hide ht
          clear hz2 hc hbl ht
          cases t <;> cases hzn : (z2 == n) <;>
            (go_wp2_with fail
             first | go_quiet (fail) | skip
             go_roundw
             case rel => exact ⟨i + 1, by omega, by go_num, by rw [HTK.out, hzn]; rfl, _, rfl⟩
             case measure => simp [intOf]; omega)
        · have hii : decide ((i : Int) < (m : Int)) = false := by simp; omega
          obtain rfl : i = m := by omega
          rw [show hs.take i = hs from List.take_of_length_le (by rw [HM.out]; exact Nat.le_refl _)]
          obtain ⟨X, hX⟩ : ∃ X, X = y1.drewN q := ⟨_, rfl⟩
          have hbq := below_drewN (Below.refl y1.heap.size y1) q
          rw [← hX] at hbq ⊢
          have HP2 := hide (HP.out.below hbq)
          have HBE2 := hide (HBE.out.below hbq)
          have HB2 := hide (over HB.out hbq HB.out.size)
          have HYW2 : Hid (yy.heap.size ≤ X.heap.size) := Nat.le_trans HYW.out hbq.size
          clear hX hbq HP HBE HB HYW HR0
          cases htn : decide (n ∈ hs) with
          | true =>
            have hin := of_decide_eq_true htn
            clear htn
            go_wp2_with fail
            refine (pget_any HP2.out (st_ok (by have := HM.out; omega) (fun x hx => by have := HBD.out x hx; omega)) (by omega) (by omega) n (k : Int)).mono ?_
            rintro e y2 ⟨ao2, c2, fv, fo2, fc2, fs2, rfl, hown, hf, hp, hk2⟩
            rw [got_next (by omega) (by omega) (by omega) (by have := HM.out; omega)] at hown hf hp ⊢
            obtain rfl : fv = .nilIface := faultOf_nil hf
            have HPa : Hid (PoolOf y2 K a P l d 10 9 0 F mb fo2 fc2 fs2 T (ZSt 20 (nextH F hs k n))) := hp
            have HBEa := hide (HBE2.out.kept hk2)
            have HBa := hide (HB2.out.trans (hk2.below fun k hk => HKK.out k (Nat.lt_of_lt_of_le hk hsz1.out)))
            have HYWa : Hid (yy.heap.size ≤ y2.heap.size) := Nat.le_trans HYW2.out hk2.size
            clear hown hf hp hk2 HP2 HBE2 HB2 HYW2
            have hbx := below_box y2 (pageBlock 0 ao2 0 c2)
            have HP3 := hide (HPa.out.below hbx)
            have HBE3 := hide (HBEa.out.below hbx)
            have HB3 := hide (over HBa.out hbx HBa.out.size)
            have HYW3 := hide (Nat.le_trans HYWa.out hbx.size)
            unfold pageBlock at HP3 HBE3 HB3 HYW3
            unfold pageV
            clear hbx HPa HBEa HBa HYWa
            go_upto_region 21 with fail
            obtain ⟨Z, hZ⟩ : ∃ Z, Z = y2.alloc (.cells #[.int .i64 0, .slice ao2 0 c2] 34) := ⟨_, rfl⟩
            rw [← hZ] at HP3 HBE3 HB3 HYW3 ⊢
            clear hZ
            have hnx : nextH F hs k n = hs := by unfold nextH; rw [if_pos hin]
            rw [hnx] at HP3
            go_wp2_with fail
            refine (phere_any HP3.out).mono ?_
            rintro e t1 ⟨ho, hc, rfl, hown, hb⟩
            rw [st_here] at hown ⊢
            have HO := hide hown
            have HPt := hide (HP3.out.below hb)
            have HBEt := hide (HBE3.out.below hb)
            have HBt := hide (over HB3.out hb HB3.out.size)
            have HYWt := hide (Nat.le_trans HYW3.out hb.size)
            clear hown hb
            go_wp2_with fail
            refine (sameInts_same ho _ _ hc _ _ _ t1 HO.out.row HBEt.out.own.row rfl HBEt.out.own.2 (by have := HBEt.out.own.2; omega)).mono ?_
            rintro e t2 ⟨rfl, q9, rfl⟩
            have hbq := below_drewN (Below.refl t1.heap.size t1) q9
            go_wp2_with fail
            go_roundw
            case rel => exact ⟨k + 1, i, _, _, hs, _, mb, _, _, _, T, by omega, by go_num, rfl, HBEt.out.own.2.symm, by omega, HBD.out, HKK.out, HBEt.out.below hbq, HPt.out.below hbq, over HBt.out hbq HBt.out.size, Nat.le_trans HYWt.out hbq.size⟩
            case measure => simp [intOf]; omega
          | false =>
            have hin := of_decide_eq_false htn
            clear htn
            go_wp2_with fail
            refine (pget_any HP2.out (st_ok (by have := HM.out; omega) (fun x hx => by have := HBD.out x hx; omega)) (by omega) (by omega) n (k : Int)).mono ?_
            rintro e y2 ⟨ao2, c2, fv, fo2, fc2, fs2, rfl, hown, hf, hp, hk2⟩
            rw [got_next (by omega) (by omega) (by omega) (by have := HM.out; omega)] at hown hf hp ⊢
            obtain rfl : fv = .nilIface := faultOf_nil hf
            have HPa : Hid (PoolOf y2 K a P l d 10 9 0 F mb fo2 fc2 fs2 T (ZSt 20 (nextH F hs k n))) := hp
            have HBEa := hide (HBE2.out.kept hk2)
            have HBa := hide (HB2.out.trans (hk2.below fun k hk => HKK.out k (Nat.lt_of_lt_of_le hk hsz1.out)))
            have HYWa : Hid (yy.heap.size ≤ y2.heap.size) := Nat.le_trans HYW2.out hk2.size
            clear hown hf hp hk2 HP2 HBE2 HB2 HYW2
            have hbx := below_box y2 (pageBlock 0 ao2 0 c2)
            have HP3 := hide (HPa.out.below hbx)
            have HBE3 := hide (HBEa.out.below hbx)
            have HB3 := hide (over HBa.out hbx HBa.out.size)
            have HYW3 := hide (Nat.le_trans HYWa.out hbx.size)
            unfold pageBlock at HP3 HBE3 HB3 HYW3
            unfold pageV
            clear hbx HPa HBEa HBa HYWa
            go_upto_region 21 with fail
            obtain ⟨Z, hZ⟩ : ∃ Z, Z = y2.alloc (.cells #[.int .i64 0, .slice ao2 0 c2] 34) := ⟨_, rfl⟩
            rw [← hZ] at HP3 HBE3 HB3 HYW3 ⊢
            clear hZ
            by_cases hfull : i = F
            · obtain rfl := hfull
              have hnx : nextH i hs k n = hs.take (k % i) ++ hs.drop (k % i + 1) ++ [n] := by unfold nextH; rw [if_neg hin, if_pos (by rw [HM.out]; exact Nat.le_refl _)]
              rw [hnx] at HP3
              have hnz : ((i : Int) == 0) = false := by simp; omega
              obtain ⟨r, hr⟩ : ∃ r, r = k % i := ⟨_, rfl⟩
              have hri : r < i := by rw [hr]; exact Nat.mod_lt _ (by omega)
              have hre : (k : Int) % (i : Int) = (r : Int) := by rw [hr]; push_cast; rfl
              rw [← hr] at HP3
              clear hr hnx
              have hlc := HBE3.out.own.le
              obtain ⟨b2, off2, rfl, hbl2, hcc⟩ := HBE3.out.own.row (by rw [HM.out]; omega)
              have HBD5 : Hid (∀ x ∈ hs.take r ++ hs.drop (r + 1) ++ [n], 1 ≤ x ∧ x < 10) := fun x hx => by
                simp only [List.mem_append, List.mem_singleton] at hx
                rcases hx with (h | h) | h
                · exact HBD.out x (List.mem_of_mem_take h)
                · exact HBD.out x (List.mem_of_mem_drop h)
                · rw [h]; exact hn1
              have HR2 : Hid (RowI Z (some ⟨b2, off2, none⟩) (hs.take r)) := fun hp => ⟨b2, off2, rfl, hbl2, fun j hj => by
                rw [List.length_take] at hj
                rw [hcc j (by omega), List.getD_eq_getElem?_getD, List.getD_eq_getElem?_getD, List.getElem?_take_of_lt (by omega)]⟩
              have HCC := hide hcc
              have HBL2 := hide hbl2
              have hrc : (r : Int) ≤ (c : Int) := by omega
              clear hcc hbl2
              go_wp2_with fail
              refine (ints_any (some ⟨b2, off2, none⟩) r c (hs.take r) Z HR2.out (by rw [List.length_take, HM.out]; omega) (by rw [List.length_take]; omega)).mono ?_
              rintro e y3 ⟨bo, c3, rfl, hown3, hb3⟩
              have HN : Hid (Beside y3 yy.heap.size (wider K Z.heap.size y3.heap.size) bo r c3 (hs.take r)) := ⟨hown3.mono HYW3.out, fun g hg => .inr (hown3.1.lt g hg)⟩
              have HP4 := hide (HP3.out.wide hb3)
              have HB4 := hide (over HB3.out hb3 HB3.out.size)
              have HYW4 : Hid (yy.heap.size ≤ y3.heap.size) := Nat.le_trans HYW3.out hb3.size
              rcases Nat.lt_or_ge (r + 1) c with hcr | hcr
              · have hcr1 : ¬ (r + 1 = c) := by omega
                have hcr2 : ¬ (c = r + 1) := by omega
                obtain ⟨bo4, c4, w4, hrun4, hbe4, hpo4, hb4⟩ := app_beside HP4.out HN.out hgn.out (ys := hs.drop (r + 1)) (m := i - (r + 1)) (yc := c - (r + 1)) (y := ⟨b2, off2 + (r + 1), none⟩) (by rw [List.length_drop, HM.out]) (by omega) HYW4.out (fun j u hj => by
                  have hj2 : j < (hs.drop (r + 1)).length := by have := (List.getElem?_eq_some_iff.1 hj).1; rwa [length_icells] at this
                  rw [icells_at hj2] at hj
                  cases hj
                  rw [List.length_drop] at hj2
                  rw [Addr.add_lit, show off2 + (r + 1) + j = off2 + (r + 1 + j) by omega, hb3.cell (p := ⟨b2, off2 + (r + 1 + j), none⟩) HBL2.out, HCC.out (r + 1 + j) (by omega), List.getD_eq_getElem?_getD, List.getD_eq_getElem?_getD, List.getElem?_drop]) 22
                have HRUN4 := hide hrun4
                have HBE4 := hide hbe4
                have HP5 := hide hpo4
                have HB5 := hide (HB4.out.trans (hb4.mono hsz1.out))
                have HYW5 : Hid (yy.heap.size ≤ w4.heap.size) := Nat.le_trans HYW4.out hb4.size
                clear hown3 hb3 hrun4 hbe4 hpo4 hb4 HP3 HP4 HN HBE3 HB3 HB4 HYW3 HYW4 HR2 HCC HBL2
                have hbx := below_box w4 (.cells #[.int .i64 n] 3)
                obtain ⟨bo6, c6, w6, hrun6, hbe6, hpo6, hb6⟩ := app_beside (HP5.out.below hbx) (HBE4.out.below hbx) hgn.out (ys := [n]) (m := 1) (yc := 1) rfl (by omega) (Nat.le_trans HYW5.out hbx.size) (cell_one_new w4 (.int .i64 n) 3) 22
                have HRUN6 := hide hrun6
                have HBE6 := hide hbe6
                have HP6 := hide hpo6
                have HB6 := hide ((over HB5.out hbx HB5.out.size).trans (hb6.mono hsz1.out))
                have HYW6 : Hid (yy.heap.size ≤ w6.heap.size) := Nat.le_trans HYW5.out (Nat.le_trans hbx.size hb6.size)
                clear hrun6 hbe6 hpo6 hb6 hbx HP5 HBE4 HB5 HYW5
                obtain ⟨L, hL⟩ : ∃ L, L = hs.take r ++ hs.drop (r + 1) ++ [n] := ⟨_, rfl⟩
                rw [← hL] at HP6 HBE6 HBD5
                obtain ⟨M, hM⟩ : ∃ M, M = r + (i - (r + 1)) + 1 := ⟨_, rfl⟩
                rw [← hM] at HRUN6 HBE6
                have hMi : M ≤ i := by omega
                clear hL hM
                have hr1 : (r : Int) + 1 ≤ (i : Int) := by omega
                have hic : (i : Int) ≤ (c : Int) := by omega
                go_wp2_with (at_builtin; first | refine wpList_append_run (by rfl) (.tmp 87) (.tmp 91) 22 (by rfl) _ _ (by rfl) (by rfl) HRUN4.out ?_ | refine wpList_append_run (by rfl) (.tmp 95) (.tmp 97) 22 (by rfl) _ _ (by rfl) (by rfl) HRUN6.out ?_)
                go_wp2_with fail
                refine (phere_any HP6.out).mono ?_
                rintro e t1 ⟨ho, hc, rfl, hown, hb⟩
                rw [st_here] at hown ⊢
                have HO := hide hown
                have HPt := hide (HP6.out.below hb)
                have HBEt := hide (HBE6.out.below hb)
                have HBt := hide (over HB6.out hb HB6.out.size)
                have HYWt := hide (Nat.le_trans HYW6.out hb.size)
                clear hown hb
                go_wp2_with fail
                refine (sameInts_same ho _ _ hc _ _ _ t1 HO.out.row HBEt.out.own.row rfl HBEt.out.own.2 (by have := HBEt.out.own.2; omega)).mono ?_
                rintro e t2 ⟨rfl, q9, rfl⟩
                have hbq := below_drewN (Below.refl t1.heap.size t1) q9
                go_wp2_with fail
                go_roundw
                case rel => exact ⟨k + 1, M, _, _, L, _, mb, _, _, _, T, by omega, by go_num, rfl, HBEt.out.own.2.symm, by omega, HBD5.out, fun k hk => .inl (.inl (.inl (HKK.out k hk))), HBEt.out.below hbq, HPt.out.below hbq, over HBt.out hbq HBt.out.size, Nat.le_trans HYWt.out hbq.size⟩
                case measure => simp [intOf]; omega
              · obtain rfl : c = r + 1 := by omega
                obtain ⟨bo4, c4, w4, hrun4, hbe4, hpo4, hb4⟩ := app_beside HP4.out HN.out hgn.out (ys := hs.drop (r + 1)) (m := 0) (yc := 0) (y := ⟨b2, off2, none⟩) (by rw [List.length_drop, HM.out]; omega) (by omega) HYW4.out (fun j u hj => by
                  have hj2 : j < (hs.drop (r + 1)).length := by have := (List.getElem?_eq_some_iff.1 hj).1; rwa [length_icells] at this
                  rw [icells_at hj2] at hj
                  cases hj
                  rw [List.length_drop] at hj2
                  have := HM.out; omega) 22
                simp only [Nat.add_zero] at hrun4 hbe4
                have HRUN4 := hide hrun4
                have HBE4 := hide hbe4
                have HP5 := hide hpo4
                have HB5 := hide (HB4.out.trans (hb4.mono hsz1.out))
                have HYW5 : Hid (yy.heap.size ≤ w4.heap.size) := Nat.le_trans HYW4.out hb4.size
                clear hown3 hb3 hrun4 hbe4 hpo4 hb4 HP3 HP4 HN HBE3 HB3 HB4 HYW3 HYW4 HR2 HCC HBL2
                have hbx := below_box w4 (.cells #[.int .i64 n] 3)
                obtain ⟨bo6, c6, w6, hrun6, hbe6, hpo6, hb6⟩ := app_beside (HP5.out.below hbx) (HBE4.out.below hbx) hgn.out (ys := [n]) (m := 1) (yc := 1) rfl (by omega) (Nat.le_trans HYW5.out hbx.size) (cell_one_new w4 (.int .i64 n) 3) 22
                have HRUN6 := hide hrun6
                have HBE6 := hide hbe6
                have HP6 := hide hpo6
                have HB6 := hide ((over HB5.out hbx HB5.out.size).trans (hb6.mono hsz1.out))
                have HYW6 : Hid (yy.heap.size ≤ w6.heap.size) := Nat.le_trans HYW5.out (Nat.le_trans hbx.size hb6.size)
                clear hrun6 hbe6 hpo6 hb6 hbx HP5 HBE4 HB5 HYW5
                obtain ⟨L, hL⟩ : ∃ L, L = hs.take r ++ hs.drop (r + 1) ++ [n] := ⟨_, rfl⟩
                rw [← hL] at HP6 HBE6 HBD5
                obtain ⟨M, hM⟩ : ∃ M, M = r + 1 := ⟨_, rfl⟩
                rw [← hM] at HRUN6 HBE6
                have hMi : M ≤ i := by omega
                clear hL hM
                have hr1 : (r : Int) + 1 ≤ (i : Int) := by omega
                go_wp2_with (at_builtin; first | refine wpList_append_run (by rfl) (.tmp 87) (.tmp 91) 22 (by rfl) _ _ (by rfl) (by rfl) HRUN4.out ?_ | refine wpList_append_run (by rfl) (.tmp 95) (.tmp 97) 22 (by rfl) _ _ (by rfl) (by rfl) HRUN6.out ?_)
                go_wp2_with fail
                refine (phere_any HP6.out).mono ?_
                rintro e t1 ⟨ho, hc, rfl, hown, hb⟩
                rw [st_here] at hown ⊢
                have HO := hide hown
                have HPt := hide (HP6.out.below hb)
                have HBEt := hide (HBE6.out.below hb)
                have HBt := hide (over HB6.out hb HB6.out.size)
                have HYWt := hide (Nat.le_trans HYW6.out hb.size)
                clear hown hb
                go_wp2_with fail
                refine (sameInts_same ho _ _ hc _ _ _ t1 HO.out.row HBEt.out.own.row rfl HBEt.out.own.2 (by have := HBEt.out.own.2; omega)).mono ?_
                rintro e t2 ⟨rfl, q9, rfl⟩
                have hbq := below_drewN (Below.refl t1.heap.size t1) q9
                go_wp2_with fail
                go_roundw
                case rel => exact ⟨k + 1, M, _, _, L, _, mb, _, _, _, T, by omega, by go_num, rfl, HBEt.out.own.2.symm, by omega, HBD5.out, fun k hk => .inl (.inl (.inl (HKK.out k hk))), HBEt.out.below hbq, HPt.out.below hbq, over HBt.out hbq HBt.out.size, Nat.le_trans HYWt.out hbq.size⟩
                case measure => simp [intOf]; omega
            · have hnx : nextH F hs k n = hs ++ [n] := by unfold nextH; rw [if_neg hin, if_neg (by rw [HM.out]; omega)]
              rw [hnx] at HP3
              have hne : ((i : Int) == (F : Int)) = false := by simp; omega
              have hne2 : decide ((i : Int) = (F : Int)) = false := by simp; omega
              have HBD5 : Hid (∀ x ∈ hs ++ [n], 1 ≤ x ∧ x < 10) := fun x hx => by
                simp only [List.mem_append, List.mem_singleton] at hx
                rcases hx with h | h
                · exact HBD.out x h
                · rw [h]; exact hn1
              have hbx := below_box Z (.cells #[.int .i64 n] 3)
              obtain ⟨bo6, c6, w6, hrun6, hbe6, hpo6, hb6⟩ := app_beside (HP3.out.below hbx) (HBE3.out.below hbx) hgn.out (ys := [n]) (m := 1) (yc := 1) rfl (by omega) (Nat.le_trans HYW3.out hbx.size) (cell_one_new Z (.int .i64 n) 3) 22
              have HRUN6 := hide hrun6
              have HBE6 := hide hbe6
              have HP6 := hide hpo6
              have HB6 := hide ((over HB3.out hbx HB3.out.size).trans (hb6.mono hsz1.out))
              have HYW6 : Hid (yy.heap.size ≤ w6.heap.size) := Nat.le_trans HYW3.out (Nat.le_trans hbx.size hb6.size)
              clear hrun6 hbe6 hpo6 hb6 hbx HP3 HBE3 HB3 HYW3 hnx
              obtain ⟨M, hM⟩ : ∃ M, M = i + 1 := ⟨_, rfl⟩
              rw [← hM] at HRUN6 HBE6
              obtain ⟨L, hL⟩ : ∃ L, L = hs ++ [n] := ⟨_, rfl⟩
              rw [← hL] at HP6 HBE6 HBD5
              have hMi : M ≤ F := by omega
              clear hL hM
              go_wp2_with (at_builtin; refine wpList_append_run (by rfl) (.tmp 95) (.tmp 97) 22 (by rfl) _ _ (by rfl) (by rfl) HRUN6.out ?_)
              go_wp2_with fail
              refine (phere_any HP6.out).mono ?_
              rintro e t1 ⟨ho, hc, rfl, hown, hb⟩
              rw [st_here] at hown ⊢
              have HO := hide hown
              have HPt := hide (HP6.out.below hb)
              have HBEt := hide (HBE6.out.below hb)
              have HBt := hide (over HB6.out hb HB6.out.size)
              have HYWt := hide (Nat.le_trans HYW6.out hb.size)
              clear hown hb
              go_wp2_with fail
              refine (sameInts_same ho _ _ hc _ _ _ t1 HO.out.row HBEt.out.own.row rfl HBEt.out.own.2 (by have := HBEt.out.own.2; omega)).mono ?_
              rintro e t2 ⟨rfl, q9, rfl⟩
              have hbq := below_drewN (Below.refl t1.heap.size t1) q9
              go_wp2_with fail
              go_roundw
              case rel => exact ⟨k + 1, M, _, _, L, _, mb, _, _, _, T, by omega, by go_num, rfl, HBEt.out.own.2.symm, by omega, HBD5.out, fun k hk => .inl (HKK.out k hk), HBEt.out.below hbq, HPt.out.below hbq, over HBt.out hbq HBt.out.size, Nat.le_trans HYWt.out hbq.size⟩
              case measure => simp [intOf]; omega
end Go.Proofs.YtjacenhblclkaaaDoor.poolFrames
