/- Lemmas and contracts that the law stands on, joined: PoMem, PoDel. -/
import Derived.Test.YtjacenhblclkaaaDoorJoin19
import Derived.Test.YtjacenhblclkaaaDoorJoin18
import Derived.Test.YtjacenhblclkaaaDoorJoin37
/- Frames of a pool in memory: lists that are read, lists of our own; slices.IndexFunc over them, pool.find, pool.own. -/
namespace Go.Proofs.YtjacenhblclkaaaDoor
open Go.RowKit
set_option linter.unusedVariables false

theorem Tryd.info90 : (Tryd.prog.info? 90).map (fun i => (i.zero, i.size, i.bytes)) = some (some (.agg #[.int .i64 0, .int .i64 0, .slice none 0 0]), 3, 40) := by kernel_rfl
theorem Tryd.size90 : (Tryd.prog.info? 90).map (·.size) = some 3 := by kernel_rfl
theorem Tryd.hasz90 : ((Tryd.prog.info? 90).bind (·.zero)).isSome = true := by kernel_rfl
/-- A page with its number, as plain data. -/
structure Pg where
  n : Int
  lsn : Int
  es : List (Int × Int)
/-- A page that is here: where its entries lie. -/
structure Fr where
  pg : Pg
  ao : Option Addr
  c : Nat
def Fr.val (f : Fr) : Value := .agg #[.int .i64 f.pg.n, .int .i64 f.pg.lsn, .slice f.ao f.pg.es.length f.c]
def frBlock (f : Fr) : Obj := .cells #[.int .i64 f.pg.n, .int .i64 f.pg.lsn, .slice f.ao f.pg.es.length f.c] 90
/-- Frames as cells. -/
def frCells (l : List Fr) : List Value := l.flatMap fun f => [.int .i64 f.pg.n, .int .i64 f.pg.lsn, .slice f.ao f.pg.es.length f.c]
theorem length_frCells (l : List Fr) : (frCells l).length = l.length * 3 := by
  induction l with
  | nil => rfl
  | cons q l ih => simp only [frCells, List.flatMap_cons, List.length_append, List.length_cons, List.length_nil] at ih ⊢; omega
theorem frCells_append (l m : List Fr) : frCells (l ++ m) = frCells l ++ frCells m := by simp [frCells]
theorem frCells_at : ∀ (l : List Fr) (t : Nat) (q : Fr), l[t]? = some q → (frCells l)[t * 3]? = some (.int .i64 q.pg.n) ∧ (frCells l)[t * 3 + 1]? = some (.int .i64 q.pg.lsn) ∧ (frCells l)[t * 3 + 2]? = some (.slice q.ao q.pg.es.length q.c) := by
  intro l
  induction l with
  | nil => intro t q h; simp at h
  | cons p l ih =>
    intro t q h
    cases t with
    | zero => simp at h; subst h; simp [frCells]
    | succ t =>
      have h1 := ih t q (by simpa using h)
      simp only [frCells, List.flatMap_cons] at h1 ⊢
      rw [show (t + 1) * 3 = t * 3 + 3 by omega, show t * 3 + 3 + 1 = (t * 3 + 1) + 3 by omega, show t * 3 + 3 + 2 = (t * 3 + 2) + 3 by omega]
      simpa using h1
theorem oneCell_frs (l : List Fr) : ∀ u ∈ frCells l, u.oneCell' = true := by
  intro u hu
  obtain ⟨q, _, h⟩ := List.mem_flatMap.1 hu
  simp at h
  rcases h with rfl | rfl | rfl <;> rfl
/-- The slice at ao reads as the frames fs. -/
def FrRow (w : World) (ao : Option Addr) (fs : List Fr) : Prop :=
  fs.length ≤ 1000 ∧ (0 < fs.length → ∃ b off, ao = some ⟨b, off, none⟩ ∧ b < w.heap.size ∧ ∀ i f, fs[i]? = some f → w.cell? ⟨b, off + i * 3, none⟩ = some (.int .i64 f.pg.n) ∧ w.cell? ⟨b, off + i * 3 + 1, none⟩ = some (.int .i64 f.pg.lsn) ∧ w.cell? ⟨b, off + i * 3 + 2, none⟩ = some (.slice f.ao f.pg.es.length f.c))
theorem FrRow.below {w w' : World} {B : Nat} {ao : Option Addr} {fs : List Fr} (h : FrRow w ao fs) (hb : Below B w w') (hB : w.heap.size ≤ B) : FrRow w' ao fs := by
  refine ⟨h.1, fun hp => ?_⟩
  obtain ⟨b, off, e, hlt, hc⟩ := h.2 hp
  refine ⟨b, off, e, Nat.lt_of_lt_of_le hlt hb.size, fun i x hi => ?_⟩
  have := hc i x hi
  exact ⟨(hb.cell (p := ⟨b, off + i * 3, none⟩) (Nat.lt_of_lt_of_le hlt hB)).trans this.1, (hb.cell (p := ⟨b, off + i * 3 + 1, none⟩) (Nat.lt_of_lt_of_le hlt hB)).trans this.2.1, (hb.cell (p := ⟨b, off + i * 3 + 2, none⟩) (Nat.lt_of_lt_of_le hlt hB)).trans this.2.2⟩
theorem FrRow.step {w w' : World} {ao : Option Addr} {fs : List Fr} (h : FrRow w ao fs) (hb : Below w.heap.size w w') : FrRow w' ao fs := h.below hb (Nat.le_refl _)
/-- Frames of our own, in a block from B on. -/
def OwnF (w : World) (B : Nat) (ao : Option Addr) (cap : Nat) (fs : List Fr) : Prop :=
  w.ownsRow B 90 3 (.slice ao fs.length cap) fs.length (frCells fs) ∧ fs.length ≤ 1000
theorem ownF_nil (w : World) (B : Nat) : OwnF w B none 0 [] := ⟨World.ownsRow_nil _ _ _ _, by simp⟩
theorem OwnF.row {w : World} {B : Nat} {ao : Option Addr} {cap : Nat} {fs : List Fr} (h : OwnF w B ao cap fs) : FrRow w ao fs := by
  obtain ⟨h1, h2⟩ := h
  refine ⟨h2, fun hp => ?_⟩
  have h1' := h1
  rcases h1.2 with ⟨e, h0⟩ | ⟨g, c, cur, hv, hg, hh, h4, h5, h6, h7⟩
  · omega
  · simp only [Value.slice.injEq] at hv
    obtain ⟨rfl, _, rfl⟩ := hv
    refine ⟨g, 0, rfl, lt_of_block hh, fun i e hi => ?_⟩
    have hlt := (List.getElem?_eq_some_iff.1 hi).1
    obtain ⟨a1, a2, a3⟩ := frCells_at fs i e hi
    rw [Nat.zero_add, h1'.cellAt (i * 3) (by omega), h1'.cellAt (i * 3 + 1) (by omega), h1'.cellAt (i * 3 + 2) (by omega)]
    exact ⟨a1, a2, a3⟩
theorem OwnF.of_block {w w' : World} {B : Nat} {ao : Option Addr} {cap : Nat} {fs : List Fr} (h : OwnF w B ao cap fs) (hb : ∀ g, (Value.slice ao fs.length cap).ownBlock = some g → w'.heap[g]? = w.heap[g]?) : OwnF w' B ao cap fs := ⟨owns_of_block h.1 fun g hg _ => hb g hg, h.2⟩
theorem OwnF.step {w w' : World} {B : Nat} {ao : Option Addr} {cap : Nat} {fs : List Fr} (h : OwnF w B ao cap fs) (hb : Below w.heap.size w w') : OwnF w' B ao cap fs := h.of_block fun g hg => hb.block g (h.1.lt g hg).2
theorem OwnF.le {w : World} {B : Nat} {ao : Option Addr} {cap : Nat} {fs : List Fr} (h : OwnF w B ao cap fs) : fs.length ≤ cap := by
  rcases h.1.2 with ⟨e, h0⟩ | ⟨g, c, cur, hv, hg, hh, h4, h5, h6, h7⟩
  · omega
  · simp only [Value.slice.injEq] at hv
    obtain ⟨rfl, _, rfl⟩ := hv
    exact h4
theorem own_shapeF {w : World} {B e sz n : Nat} {v : Value} {cs : List Value} (h : w.ownsRow B e sz v n cs) : ∃ ao cap, v = .slice ao n cap := by
  rcases h.2 with ⟨rfl, h0⟩ | ⟨g, c, cur, hv, _⟩
  · exact ⟨none, 0, by rw [h0]⟩
  · exact ⟨_, _, hv⟩
/-- r is the place of the first frame of which p holds, or -1. -/
def IdxF (p : Fr → Bool) (fs : List Fr) (r : Int) : Prop := (r = -1 ∧ ∀ f ∈ fs, p f = false) ∨ ∃ (k : Nat) (f : Fr), r = k ∧ fs[k]? = some f ∧ p f = true ∧ ∀ x ∈ fs.take k, p x = false
theorem IdxF.hit {p : Fr → Bool} {fs : List Fr} {r : Int} (h : IdxF p fs r) {k : Nat} {f : Fr} (he : fs[k]? = some f) (hp : p f = true) (ht : ∀ x ∈ fs.take k, p x = false) : r = k := by
  rcases h with ⟨_, h⟩ | ⟨j, x, rfl, hx, hpx, htx⟩
  · have := h f (List.mem_of_getElem? he)
    rw [hp] at this; cases this
  · rcases Nat.lt_trichotomy j k with h1 | h1 | h1
    · have hm : x ∈ fs.take k := by
        rw [List.mem_take_iff_getElem]
        obtain ⟨hj, rfl⟩ := List.getElem?_eq_some_iff.1 hx
        exact ⟨j, by omega, rfl⟩
      rw [ht x hm] at hpx; cases hpx
    · rw [h1]
    · have hm : f ∈ fs.take j := by
        rw [List.mem_take_iff_getElem]
        obtain ⟨hj, rfl⟩ := List.getElem?_eq_some_iff.1 he
        exact ⟨k, by omega, rfl⟩
      rw [htx f hm] at hp; cases hp
theorem IdxF.miss {p : Fr → Bool} {fs : List Fr} {r : Int} (h : IdxF p fs r) (hn : ∀ f ∈ fs, p f = false) : r = -1 := by
  rcases h with ⟨h, _⟩ | ⟨k, f, _, he, hp, _⟩
  · exact h
  · rw [hn f (List.mem_of_getElem? he)] at hp; cases hp
theorem takeF_succ {fs : List Fr} {k : Nat} {f : Fr} (h : fs[k]? = some f) : fs.take (k + 1) = fs.take k ++ [f] := by
  have hk := (List.getElem?_eq_some_iff.1 h).1
  rw [List.take_succ_eq_append_getElem hk, (List.getElem?_eq_some_iff.1 h).2]
set_option maxRecDepth 100000 in
set_option maxHeartbeats 2000000 in
theorem findex_any (p : Fr → Bool) (g : Nat) (lb : Value) (eg : ∀ args w, (callFunc g args).run Tryd.prog w = .ok (.enter g args) w) (ao : Option Addr) (n c : Nat) (fs : List Fr) (r : Int) (w : World) (h : FrRow w ao fs) (hn : fs.length = n) (hr : IdxF p fs r)
    (hp : ∀ (W : World) (e : Fr), Below w.heap.size w W → Calls Tryd.prog g #[e.val, lb] W fun e' w' => e' = .returned (.bool (p e)) ∧ Below w.heap.size w w') :
    Calls Tryd.prog 59 #[.slice ao n c, .func (.func g) #[] #[lb]] w fun e w' => e = .returned (.int .i64 r) ∧ Below w.heap.size w w' := by
  have hs := h.1
  rw [hn] at hs
  have HR := hide h
  have HN := hide hn
  have HI := hide hr
  have HP := hide hp
  clear h hn hr hp
  go_enter Tryd.func59, Tryd.ntmps59
  go_wp2_with fail
  go_loopw [8] (fun i wr => ∃ k : Nat, k ≤ n ∧ i = .int .i64 k ∧ Below w.heap.size w wr ∧ ∀ x ∈ fs.take k, p x = false) (fun i _ => n - (intOf i).toNat)
  case atStart => exact ⟨0, by omega, rfl, Below.refl _ _, fun x hx => by simp at hx⟩
  case round =>
    obtain ⟨k, hk, rfl, hbel, hno⟩ := hrel
    have HB := hide hbel
    have HNO := hide hno
    clear hbel hno
    by_cases hlt : k < n
    · have hki : (k : Int) < (n : Int) := by omega
      obtain ⟨e, he⟩ : ∃ e, fs[k]? = some e := ⟨fs[k]'(by rw [HN.out]; exact hlt), List.getElem?_eq_getElem _⟩
      obtain ⟨b, off, rfl, hlb, hc⟩ := HR.out.2 (by rw [HN.out]; omega)
      obtain ⟨c1, c2, c3⟩ := hc k e he
      have k1 := (HB.out.cell (p := ⟨b, off + k * 3, none⟩) hlb).trans c1
      have k2 := (HB.out.cell (p := ⟨b, off + k * 3 + 1, none⟩) hlb).trans c2
      have k3 := (HB.out.cell (p := ⟨b, off + k * 3 + 2, none⟩) hlb).trans c3
      have HCALL := hide (HP.out wr e HB.out)
      cases hq : p e with
      | true =>
        have HRK := hide (HI.out.hit he hq HNO.out)
        rw [hq] at HCALL
        clear hc c1 c2 c3 he hq hlb
        unfold Fr.val at HCALL
        go_wp2_with (go_at_fn g; refine HCALL.out.mono ?_; rintro e w' ⟨rfl, hb'⟩)
        go_ret
        exact ⟨by rw [HRK.out]; rfl, hb'⟩
      | false =>
        have HNX : Hid (∀ x ∈ fs.take (k + 1), p x = false) := by
          show ∀ x ∈ fs.take (k + 1), p x = false
          intro x hx
          rw [takeF_succ he] at hx
          rcases List.mem_append.1 hx with h1 | h1
          · exact HNO.out x h1
          · simp at h1; subst h1; exact hq
        rw [hq] at HCALL
        clear hc c1 c2 c3 he hq hlb
        unfold Fr.val at HCALL
        go_wp2_with (go_at_fn g; refine HCALL.out.mono ?_; rintro e w' ⟨rfl, hb'⟩)
        go_roundw
        case rel => exact ⟨k + 1, by omega, by go_num, hb', HNX.out⟩
        case measure => simp [intOf]; omega
    · have hki : decide ((k : Int) < (n : Int)) = false := by simp; omega
      have hkn : k = n := by omega
      subst hkn
      have HRM : Hid (r = -1) := HI.out.miss fun e he => HNO.out e (by rw [List.take_of_length_le (by rw [HN.out]; exact Nat.le_refl _)]; exact he)
      go_wp2_with fail
      go_ret
      exact ⟨by rw [HRM.out]; rfl, HB.out⟩
theorem enters60 : ∀ args w, (callFunc 60 args).run Tryd.prog w = .ok (.enter 60 args) w := enters_of Tryd.func60 (by kernel_rfl) rfl
set_option maxHeartbeats 1000000 in
theorem pred_here (key : Int) (B : Nat) (w : World) (hB : B < w.heap.size) (hcell : w.cell? ⟨B, 0, none⟩ = some (.int .i64 key)) (W : World) (f : Fr) (hb : Below w.heap.size w W) :
    Calls Tryd.prog 60 #[f.val, .pointer (some ⟨B, 0, none⟩)] W fun e' w' => e' = .returned (.bool (decide (f.pg.n = key))) ∧ Below w.heap.size w w' := by
  have hc : W.cell? ⟨B, 0, none⟩ = some (.int .i64 key) := (hb.cell (p := ⟨B, 0, none⟩) hB).trans hcell
  have hBW : B < W.heap.size := Nat.lt_of_lt_of_le hB hb.size
  have HBX := hide (over hb (below_box W (frBlock f)) hb.size)
  have hne : B ≠ W.heap.size := by omega
  obtain ⟨⟨x, lsn, es⟩, ao, c⟩ := f
  unfold Fr.val
  simp only
  by_cases h : x = key
  · subst h
    go_enter Tryd.func60, Tryd.ntmps60
    go_wp2_with fail
    go_ret
    exact ⟨ret_bool (by simp), HBX.out⟩
  · have h' : (x == key) = false := by simpa using h
    go_enter Tryd.func60, Tryd.ntmps60
    go_wp2_with fail
    go_ret
    exact ⟨ret_bool (by simp [h]), HBX.out⟩
set_option maxHeartbeats 1000000 in
theorem pfind_any (P : Nat) (fo : Option Addr) (n c : Nat) (fs : List Fr) (key r : Int) (w : World) (h : w.cell? ⟨P, 4, none⟩ = some (.slice fo n c)) (hr : FrRow w fo fs) (hn : fs.length = n) (hi : IdxF (fun f => decide (f.pg.n = key)) fs r) :
    Calls Tryd.prog 31 #[.pointer (some ⟨P, 0, none⟩), .int .i64 key] w fun e w' => e = .returned (.int .i64 r) ∧ Below w.heap.size w w' := by
  have hb := below_box w (.cells #[.int .i64 key] 3)
  have h4 : (w.alloc (.cells #[.int .i64 key] 3)).cell? ⟨P, 4, none⟩ = some (.slice fo n c) := (hb.cell (p := ⟨P, 4, none⟩) (World.block_lt_of_cell? w _ h)).trans h
  have HR := hide (hr.step hb)
  have HB := hide hb
  have HI := hide hi
  have HN := hide hn
  have HC : Hid ((w.alloc (.cells #[.int .i64 key] 3)).cell? ⟨w.heap.size, 0, none⟩ = some (.int .i64 key)) := (cell_row (heap_alloc_new w (.cells #[.int .i64 key] 3)) 0).trans rfl
  have HS : Hid (w.heap.size < (w.alloc (.cells #[.int .i64 key] 3)).heap.size) := by show _ < _; simp
  clear hb hr hi hn h
  go_enter Tryd.func31, Tryd.ntmps31
  go_upto_region 1 with fail
  obtain ⟨W, hW⟩ : ∃ W, W = w.alloc (.cells #[.int .i64 key] 3) := ⟨_, rfl⟩
  rw [← hW] at HR HB HC HS h4 ⊢
  obtain ⟨B, hB⟩ : ∃ B, B = w.heap.size := ⟨_, rfl⟩
  rw [← hB] at HC HS ⊢
  have HBE := hide hB
  clear hW hB
  go_wp2_with fail
  refine (findex_any _ 60 _ enters60 fo n c fs r W HR.out HN.out HI.out (fun W' e hb => pred_here key B W HS.out HC.out W' e hb)).mono ?_
  rintro e w2 ⟨rfl, hb⟩
  have HB2 := hide (over HB.out hb HB.out.size)
  clear hb
  go_wp2_with fail
  go_ret
  exact ⟨rfl, HB2.out⟩
set_option maxRecDepth 100000 in
set_option maxHeartbeats 2000000 in
theorem pown_any (lsn : Int) (ao : Option Addr) (n c : Nat) (es : List (Int × Int)) (w : World) (h : EntRow w ao es) (hn : es.length = n) :
    Calls Tryd.prog 32 #[pageV lsn ao n c] w fun e w' => ∃ ao' c', e = .returned (pageV lsn ao' n c') ∧ OwnE w' w.heap.size ao' c' es ∧ Below w.heap.size w w' := by
  have hb1 := below_box w (pageBlock lsn ao n c)
  have hb2 := below_box (w.alloc (pageBlock lsn ao n c)) (pageBlock 0 none 0 0)
  have HB := hide (over hb1 hb2 hb1.size)
  have HBW := hide HB.out
  have HR := hide (h.below HB.out (Nat.le_refl _))
  have HP := hide ((pblk_new w lsn ao n c).step hb2)
  have hsz : (w.alloc (pageBlock lsn ao n c)).heap.size = w.heap.size + 1 := by simp
  have hz := pblk_new (w.alloc (pageBlock lsn ao n c)) 0 none 0 0
  rw [hsz] at hz
  have HZ := hide hz
  have HN := hide hn
  unfold pageBlock at HB HR HP HZ HBW
  obtain ⟨X, hX⟩ : ∃ X, X = (w.alloc (.cells #[.int .i64 lsn, .slice ao n c] 34)).alloc (.cells #[.int .i64 0, .slice none 0 0] 34) := ⟨_, rfl⟩
  rw [← hX] at HB HR HP HZ HBW
  have HX := hide hX
  obtain ⟨B, hB⟩ : ∃ B, B = w.heap.size := ⟨_, rfl⟩
  have HB3 := hide hB
  rw [← hB] at HP HZ HB
  obtain ⟨B1, hB1⟩ : ∃ B1, B1 = B + 1 := ⟨_, rfl⟩
  have HB4 := hide hB1
  rw [← hB1] at HZ
  have HLO : Hid (w.heap.size ≤ B1) := by show w.heap.size ≤ B1; omega
  have HLS : Hid (w.heap.size ≤ X.heap.size) := by show w.heap.size ≤ X.heap.size; have := HB.out.size; omega
  clear hb1 hb2 hz hsz hX hB hB1 h hn
  unfold pageV
  go_enter Tryd.func32, Tryd.ntmps32
  go_upto_region 1 with fail
  rw [← HX.out, ← HB3.out, ← HB4.out]
  have k0 := HP.out.c0
  have k1 := HP.out.c1
  have z0 := HZ.out.c0
  have z1 := HZ.out.c1
  have f0 := HZ.out.fz 0
  have f1 := HZ.out.fz 1
  have HC : Hid (Calls Tryd.prog 61 #[.slice ao n c] X.drew fun e w' => ∃ ao' c', e = .returned (.slice ao' n c') ∧ OwnE w' X.heap.size ao' c' es ∧ Below X.heap.size X w') := (cloneE_any ao n c es X.drew HR.out.drew HN.out).mono fun e w' h => by
    obtain ⟨a, b, h1, h2, h3⟩ := h
    exact ⟨a, b, h1, h2, of_drew h3⟩
  go_region_with (go_at_call 61; refine HC.out.mono ?_; rintro e w2 ⟨ao2, c2, rfl, hown, hb⟩; have P2 := HP.out.step hb; have Z2 := HZ.out.step hb; have K0 := P2.c0; have K1 := P2.c1; have Z0 := Z2.c0; have Z1 := Z2.c1; have F0 := Z2.fz 0; have F1 := Z2.fz 1; have HO := hide hown; have HB2 := hide hb; have HZ2 := hide Z2; clear hown hb P2 Z2)
  all_goals
    go_wp2_with fail
    exact bodyPost_ret (v := .agg #[.int .i64 lsn, .slice ao2 n c2]) (by simp [results, Tryd.results32, go_sem, *]) rfl ⟨ao2, c2, rfl, ((HO.out.mono HLS.out).setPage HZ2.out 0 _).setPage (set_block HZ2.out 0 _) 1 _, ((over HBW.out HB2.out HBW.out.size).setCell (p := ⟨B1, 0, none⟩) HLO.out _).setCell (p := ⟨B1, 1, none⟩) HLO.out _⟩
end Go.Proofs.YtjacenhblclkaaaDoor

/- slices.Delete of one frame. -/
namespace Go.Proofs.YtjacenhblclkaaaDoor
open Go.RowKit
set_option linter.unusedVariables false

/-- The cells of a frame that is not there. -/
def zFr : List Value := [.int .i64 0, .int .i64 0, .slice none 0 0]
theorem Tryd.zero90 (w : World) : (zeroValue 90).run Tryd.prog w = .ok (.agg #[.int .i64 0, .int .i64 0, .slice none 0 0]) w := by kernel_rfl
theorem zFr_cells : (Builtin.zeroCells (Value.agg #[.int .i64 0, .int .i64 0, .slice none 0 0]).cells 1).toList = zFr := by
  simp [Builtin.zeroCells, Value.cells, zFr]
  rfl
theorem wpList_clear_f {P : Program} {w : World} {ops : Array Oper} {rest : List Oper} {o : Oper} {a : Act} {Q : Exit → Act → World → Prop} (hgd : o.guard = none) (d : Operand) (t : TypeId)
    (ho : o.op = .call { callee := .builtin .clear, args := #[d], argTypes := #[t] }) (v : Value) (hd : a.eval d = v) {v' : Value} {w' : World}
    (hr : (Builtin.clear_ #[t] o.type #[v]).run P w = .ok v' w') (h : wpList P ops Q rest (a.put o.dst v') w') : wpList P ops Q (o :: rest) a w :=
  wpList_plain hgd fun _ hK => by
    unfold Oper.wp execOp
    simp only [ho, resolve, invoke, builtin, Sem.run_bind, Sem.run_pure, Result.andThen_ok, List.map_toArray, List.map_cons, List.map_nil, hd, hr]
    exact hK _ _ h
theorem step_append_f {P : Program} {ops : Array Oper} {o : Oper} {a : Act} {w : World} {K : Act → World → Prop} {Q : Exit → Act → World → Prop} {E : Prop}
    (hg : o.guard = none) (d x : Operand) (dT sT : TypeId) (hop : o.op = Op.call { callee := Callee.builtin Builtin.append, args := #[d, x], argTypes := #[dT, sT] })
    (v u : Value) (hd : a.eval d = v) (hx : a.eval x = u) {v' : Value} {w' : World} (hr : (Builtin.append_ #[dT, sT] o.type #[v, u]).run P w = .ok v' w') (hK : K (a.put o.dst v') w') :
    if Region.wanted o (yielded ops a.tmps) = true then Oper.wp P o a w K Q else E := by
  have hw : Region.wanted o (yielded ops a.tmps) = true := by simp [Region.wanted, hg]
  rw [if_pos hw]
  unfold Oper.wp
  simp [execOp, hop, resolve, invoke, builtin, hd, hx, hr, Result.andThen]
  exact hK
/-- What is left of a row of frames when one is taken out: cells. -/
theorem del_row (cur : List Value) (fs : List Fr) (m k c : Nat) (hn : fs.length = m + 1) (hk : k ≤ m) (hc : cur.take ((m + 1) * 3) = frCells fs) (hl : cur.length = c * 3) (hcm : m + 1 ≤ c) (z : List Value) (hz : z.length = 3) :
    let row1 := cur.take (k * 3) ++ frCells (fs.drop (k + 1)) ++ cur.drop (k * 3 + (frCells (fs.drop (k + 1))).length)
    let row2 := row1.take (m * 3) ++ z ++ row1.drop (m * 3 + z.length)
    row1.length = c * 3 ∧ row2.length = c * 3 ∧ row2.take (m * 3) = frCells (fs.take k ++ fs.drop (k + 1)) := by
  intro row1 row2
  have hd : (frCells (fs.drop (k + 1))).length = (m - k) * 3 := by rw [length_frCells, List.length_drop, hn]; congr 1; omega
  have ht : (frCells (fs.take k)).length = k * 3 := by rw [length_frCells, List.length_take]; congr 1; omega
  have hsp : frCells fs = frCells (fs.take k) ++ frCells (fs.drop k) := by rw [← frCells_append, List.take_append_drop]
  have hck : cur.take (k * 3) = frCells (fs.take k) := by
    have h1 : cur.take (k * 3) = (cur.take ((m + 1) * 3)).take (k * 3) := by rw [List.take_take, Nat.min_eq_left (by omega)]
    rw [h1, hc, hsp, List.take_append_of_le_length (by omega), List.take_of_length_le (by omega)]
  have h1 : row1.length = c * 3 := by simp only [row1, List.length_append, List.length_take, List.length_drop, hd, hl]; omega
  have h2 : row2.length = c * 3 := by simp only [row2, List.length_append, List.length_take, List.length_drop, h1, hz]; omega
  refine ⟨h1, h2, ?_⟩
  have e1 : row1.take (m * 3) = frCells (fs.take k) ++ frCells (fs.drop (k + 1)) := by
    simp only [row1]
    rw [hck, List.take_append_of_le_length (by simp only [List.length_append, ht, hd]; omega), List.take_of_length_le (by simp only [List.length_append, ht, hd]; omega)]
  simp only [row2]
  rw [e1, List.append_assoc, List.take_append_of_le_length (by simp only [List.length_append, ht, hd]; omega), List.take_of_length_le (by simp only [List.length_append, ht, hd]; omega), frCells_append]
theorem run_clearF (w : World) (ty : TypeId) (g o c : Nat) (cur : Array Value) (hg : w.heap[g]? = some (.cells cur 90 (0, 0))) (hfit : o + 3 ≤ cur.size) :
    (Builtin.clear_ #[84] ty #[.slice (some ⟨g, o, none⟩) 1 c]).run Tryd.prog w = .ok (.tuple #[]) (w.setRow g (cur.toList.take o ++ zFr ++ cur.toList.drop (o + 3)).toArray) := by
  have hst := run_storeCells_at Tryd.prog g o 90 zFr 0 cur w hg (by simpa [zFr] using hfit) (by intro u hu; simp [zFr] at hu; rcases hu with rfl | rfl | rfl <;> rfl)
  simp only [Nat.add_zero] at hst
  rw [show zFr.length = 3 from rfl] at hst
  simp [Builtin.clear_, run_underlying Tryd.underlying84, zFr_cells, hst]
set_option maxRecDepth 100000 in
set_option maxHeartbeats 4000000 in
theorem delete_last (B g m : Nat) (fs : List Fr) (cur : Array Value) (w : World) (hn : fs.length = m + 1) (hn9 : m ≤ 900)
    (hg : B ≤ g) (hh : w.heap[g]? = some (.cells cur 90 (0, 0))) (h6 : cur.size = (m + 1) * 3) (h7 : cur.toList.take ((m + 1) * 3) = frCells fs) :
    Calls Tryd.prog 62 #[.slice (some ⟨g, 0, none⟩) (m + 1) (m + 1), .int .i64 m, .int .i64 ((m : Int) + 1)] w fun r w' => r = .returned (.slice (some ⟨g, 0, none⟩) m (m + 1)) ∧ OwnF w' B (some ⟨g, 0, none⟩) (m + 1) (fs.take m) ∧ But g w w' := by
  have hti : (frCells (fs.take m)).length = m * 3 := by rw [length_frCells, List.length_take]; congr 1; omega
  have hsp : frCells fs = frCells (fs.take m) ++ frCells (fs.drop m) := by rw [← frCells_append, List.take_append_drop]
  have hck : cur.toList.take (m * 3) = frCells (fs.take m) := by
    have h1 : cur.toList.take (m * 3) = (cur.toList.take ((m + 1) * 3)).take (m * 3) := by rw [List.take_take, Nat.min_eq_left (by omega)]
    rw [h1, h7, hsp, List.take_append_of_le_length (by omega), List.take_of_length_le (by omega)]
  have hgd : w.drew.heap[g]? = some (.cells cur 90 (0, 0)) := hh
  obtain ⟨row2, hrow2⟩ : ∃ row2, row2 = cur.toList.take (m * 3) ++ zFr ++ cur.toList.drop (m * 3 + 3) := ⟨_, rfl⟩
  obtain ⟨W2, hW2⟩ : ∃ W2, W2 = w.drew.setRow g row2.toArray := ⟨_, rfl⟩
  have hl2 : row2.length = (m + 1) * 3 := by simp only [hrow2, List.length_append, List.length_take, List.length_drop, Array.length_toList, h6, show zFr.length = 3 from rfl]; omega
  have hfin : row2.take (m * 3) = frCells (fs.take m) := by
    rw [hrow2, hck, List.append_assoc, List.take_append_of_le_length (by omega), List.take_of_length_le (by omega)]
  have hrB : ∀ ty yc, (Builtin.clear_ #[84] ty #[.slice (some ⟨g, m * 3, none⟩) 1 yc]).run Tryd.prog w.drew = .ok (.tuple #[]) W2 := fun ty yc => by
    have h := run_clearF w.drew ty g (m * 3) yc cur hgd (by omega)
    rw [h, hW2, hrow2]
  have HRB := hide hrB
  have HFIN : Hid (OwnF W2 B (some ⟨g, 0, none⟩) (m + 1) (fs.take m) ∧ But g w W2) := by
    have hln : (fs.take m).length = m := by rw [List.length_take, hn]; omega
    have hgW2 : W2.heap[g]? = some (.cells row2.toArray 90 (0, 0)) := by rw [hW2]; exact setRow_heap w.drew g _ _ _ _ hgd
    refine ⟨⟨⟨by rw [hln, length_frCells, hln], .inr ⟨g, m + 1, row2.toArray, by rw [hln], hg, hgW2, by rw [hln]; omega, by unfold maxLen; omega, by simp [hl2], ?_⟩⟩, by rw [hln]; omega⟩, ?_⟩
    · rw [hln]
      simpa using hfin
    · refine ⟨by rw [hW2]; rfl, by rw [hW2]; rfl, by rw [hW2]; rfl, by rw [hW2]; simp, fun j _ hj => ?_⟩
      rw [hW2, setRow_other _ _ _ _ hj]
      rfl
  have hb1 : (m : Int) ≤ (m : Int) + 1 := by omega
  have hb0 : (0 : Int) ≤ (m : Int) + 1 := by omega
  have htn : ((m : Int) + 1).toNat = m + 1 := by omega
  clear hrB hW2 hfin hl2 hrow2 hti h7 h6 hh hgd hck hsp
  go_enter Tryd.func62, Tryd.ntmps62
  go_wp2_with fail
  apply dup
  case k =>
    intro TAIL
    go_region_law fail
    all_goals exact TAIL.out
  case h =>
    go_wp2_with (refine wpList_clear_f rfl (.tmp 31) 84 rfl _ rfl (HRB.out _ _) ?_)
    go_ret
    exact ⟨rfl, HFIN.out⟩
set_option maxRecDepth 100000 in
set_option maxHeartbeats 4000000 in
theorem delete_any (B g m c : Nat) (fs : List Fr) (k : Nat) (cur : Array Value) (w : World) (hn : fs.length = m + 1) (hk : k ≤ m) (hn9 : m ≤ 900)
    (hg : B ≤ g) (hh : w.heap[g]? = some (.cells cur 90 (0, 0))) (h4 : m + 1 ≤ c) (h5 : c ≤ maxLen) (h6 : cur.size = c * 3) (h7 : cur.toList.take ((m + 1) * 3) = frCells fs) :
    Calls Tryd.prog 62 #[.slice (some ⟨g, 0, none⟩) (m + 1) c, .int .i64 k, .int .i64 ((k : Int) + 1)] w fun r w' => r = .returned (.slice (some ⟨g, 0, none⟩) m c) ∧ OwnF w' B (some ⟨g, 0, none⟩) c (fs.take k ++ fs.drop (k + 1)) ∧ But g w w' := by
  by_cases hce : c = k + 1
  · obtain rfl : k = m := by omega
    subst hce
    refine (delete_last B g k fs cur w hn hn9 hg hh h6 h7).mono ?_
    rintro r w' ⟨h1, h2, h3⟩
    rw [List.drop_of_length_le (by omega), List.append_nil]
    exact ⟨h1, h2, h3⟩
  obtain ⟨i0, hi0, hz0, hzs, hzb⟩ := info_parts Tryd.info90
  have hd : (frCells (fs.drop (k + 1))).length = (m - k) * 3 := by rw [length_frCells, List.length_drop, hn]; congr 1; omega
  have hR := del_row cur.toList fs m k c hn hk h7 (by simpa using h6) h4 zFr rfl
  obtain ⟨row1, hrow1⟩ : ∃ row1, row1 = cur.toList.take (k * 3) ++ frCells (fs.drop (k + 1)) ++ cur.toList.drop (k * 3 + (frCells (fs.drop (k + 1))).length) := ⟨_, rfl⟩
  obtain ⟨row2, hrow2⟩ : ∃ row2, row2 = row1.take (m * 3) ++ zFr ++ row1.drop (m * 3 + 3) := ⟨_, rfl⟩
  simp only at hR
  rw [← hrow1] at hR
  have e3 : zFr.length = 3 := rfl
  rw [e3, ← hrow2] at hR
  obtain ⟨hl1, hl2, hfin⟩ := hR
  have hcell : ∀ (j : Nat) (v : Value), (frCells fs)[j]? = some v → cur[j]? = some v := by
    intro j v hj
    rw [← h7, List.getElem?_take] at hj
    split at hj
    · simpa using hj
    · cases hj
  have hti : (frCells (fs.take (k + 1))).length = (k + 1) * 3 := by rw [length_frCells, List.length_take]; congr 1; omega
  have hsp : frCells fs = frCells (fs.take (k + 1)) ++ frCells (fs.drop (k + 1)) := by rw [← frCells_append, List.take_append_drop]
  have hgd : w.drew.heap[g]? = some (.cells cur 90 (0, 0)) := hh
  obtain ⟨A, hA⟩ : ∃ A : Option Addr, A = if c = k + 1 then some ⟨g, 0, none⟩ else some ⟨g, (k + 1) * 3, none⟩ := ⟨_, rfl⟩
  have hAp : ∃ x : Addr, A = some x ∧ ∀ j v, (frCells (fs.drop (k + 1)))[j]? = some v → w.drew.cell? (x.add j) = some v := by
    by_cases hc : c = k + 1
    · refine ⟨⟨g, 0, none⟩, by rw [hA, if_pos hc], fun j v hj => ?_⟩
      have := (List.getElem?_eq_some_iff.1 hj).1
      omega
    · refine ⟨⟨g, (k + 1) * 3, none⟩, by rw [hA, if_neg hc], fun j v hj => ?_⟩
      rw [Addr.add_lit, cell_row hgd]
      refine hcell _ v ?_
      rw [hsp, List.getElem?_append_right (by omega), hti, show (k + 1) * 3 + j - (k + 1) * 3 = j by omega]
      exact hj
  obtain ⟨x, hx, hxc⟩ := hAp
  obtain ⟨W1, hW1⟩ : ∃ W1, W1 = w.drew.setRow g row1.toArray := ⟨_, rfl⟩
  have hrA : ∀ yc, (Builtin.append_ #[84, 84] 84 #[.slice (some ⟨g, 0, none⟩) k c, .slice A (m - k) yc]).run Tryd.prog w.drew = .ok (.slice (some ⟨g, 0, none⟩) m c) W1 := fun yc => by
    have h := run_append_room (P := Tryd.prog) w.drew 84 84 90 i0 Tryd.underlying84 hi0 g k c cur hgd x (m - k) yc (frCells (fs.drop (k + 1))) (by rw [hzs]; exact hd) hxc (oneCell_frs _) (by omega) (by rw [hzs, hd, h6]; omega)
    rw [hzs] at h
    rw [hx, h, hW1, hrow1, show k + (m - k) = m by omega]
  have hgW1 : W1.heap[g]? = some (.cells row1.toArray 90 (0, 0)) := by rw [hW1]; exact setRow_heap w.drew g _ _ _ _ hgd
  obtain ⟨W2, hW2⟩ : ∃ W2, W2 = W1.setRow g row2.toArray := ⟨_, rfl⟩
  have hrB : ∀ ty yc, (Builtin.clear_ #[84] ty #[.slice (some ⟨g, m * 3, none⟩) 1 yc]).run Tryd.prog W1 = .ok (.tuple #[]) W2 := fun ty yc => by
    have h := run_clearF W1 ty g (m * 3) yc row1.toArray hgW1 (by simp [hl1]; omega)
    rw [h, hW2, hrow2]
  have HRA := hide hrA
  have HRB := hide hrB
  have HFIN : Hid (OwnF W2 B (some ⟨g, 0, none⟩) c (fs.take k ++ fs.drop (k + 1)) ∧ But g w W2) := by
    have hln : (fs.take k ++ fs.drop (k + 1)).length = m := by rw [List.length_append, List.length_take, List.length_drop, hn]; omega
    have hgW2 : W2.heap[g]? = some (.cells row2.toArray 90 (0, 0)) := by rw [hW2]; exact setRow_heap W1 g _ _ _ _ hgW1
    refine ⟨⟨⟨by rw [hln, length_frCells, hln], .inr ⟨g, c, row2.toArray, by rw [hln], hg, hgW2, by rw [hln]; omega, h5, by simp [hl2], ?_⟩⟩, by rw [hln]; omega⟩, ?_⟩
    · rw [hln]
      simpa using hfin
    · refine ⟨by rw [hW2, hW1]; rfl, by rw [hW2, hW1]; rfl, by rw [hW2, hW1]; rfl, by rw [hW2, hW1]; simp, fun j _ hj => ?_⟩
      rw [hW2, setRow_other _ _ _ _ hj, hW1, setRow_other _ _ _ _ hj]
      rfl
  have hc63 : c ≤ 9223372036854775807 := by unfold maxLen at h5; omega
  have hb1 : (k : Int) ≤ (m : Int) + 1 := by omega
  have hb2 : (k : Int) ≤ (k : Int) + 1 := by omega
  have hb3 : (k : Int) + 1 ≤ (m : Int) + 1 := by omega
  have hb4 : (m : Int) + 1 ≤ (c : Int) := by omega
  have hb5 : (k : Int) + 1 ≤ (c : Int) := by omega
  have hb6 : (k : Int) ≤ (c : Int) := by omega
  have hb7 : (m : Int) ≤ (m : Int) + 1 := by omega
  have hb0 : (0 : Int) ≤ (k : Int) + 1 := by omega
  have hcm : ¬ c = m := by omega
  have hck : ¬ c = k := by omega
  have htn : ((k : Int) + 1).toNat = k + 1 := by omega
  clear hrA hrB hgW1 hW1 hW2 hfin hl1 hl2 hrow1 hrow2 hd hti h7 h6 hh hgd hx hxc hcell hsp hi0 hz0 hzs hzb i0 h5
  go_enter Tryd.func62, Tryd.ntmps62
  rw [if_neg hce] at hA
  subst hA
  go_wp2_with fail
  apply dup
  case k =>
    intro TAIL
    go_region_law (refine step_append_f rfl (.tmp 22) (.tmp 25) 84 84 rfl _ _ (by first | rfl | (simp [Act.eval, Act.put]; done)) (by first | rfl | (simp [Act.eval, Act.put]; done)) (HRA.out _) ?_)
    all_goals exact TAIL.out
  case h =>
    go_wp2_with (refine wpList_clear_f rfl (.tmp 31) 84 rfl _ rfl (HRB.out _ _) ?_)
    go_ret
    exact ⟨rfl, HFIN.out⟩
end Go.Proofs.YtjacenhblclkaaaDoor
