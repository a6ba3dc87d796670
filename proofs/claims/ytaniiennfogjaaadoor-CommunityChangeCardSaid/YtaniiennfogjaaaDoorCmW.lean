/-
  slices.DeleteFunc of a row of the call's own; the walk of Drop.
-/
import Derived.Test.YtaniiennfogjaaaDoorCmV
import Derived.Test.YtaniiennfogjaaaDoorDfLay
namespace Go.Proofs.YtaniiennfogjaaaDoor
open Go.RowKit Go.Sort Go.Lib T
set_option linter.unusedSimpArgs false
set_option linter.unusedVariables false
set_option maxHeartbeats 1500000
set_option maxRecDepth 100000

theorem gives40 (c x : Int) (b : Nat) (w : World) (h : w.cell? ⟨b, 0, none⟩ = some (.int .u32 c)) : FnGives Tryd.prog 40 #[.pointer (some ⟨b, 0, none⟩)] #[.int .u32 x] (.bool (decide (x = c))) w := by
  show Calls Tryd.prog 40 #[.int .u32 x, .pointer (some ⟨b, 0, none⟩)] w _
  go_enter Tryd.func40, Tryd.ntmps40
  go_wp2
  go_ret
  exact ⟨ret_b (by rw [Bool.eq_iff_iff]; simp), 0, rfl⟩
theorem delO_any (B g cap L : Nat) (l : List Nat) (c bx : Nat) (w : World) (h : OwnA B w (.slice (some ⟨g, 0, none⟩) L cap) l) (hL : L = l.length) (hbig : L ≤ 100000) (hne : bx ≠ g) (hb : bx < w.heap.size) (hc : w.cell? ⟨bx, 0, none⟩ = some (.int .u32 (c : Int))) :
    Calls Tryd.prog 39 #[.slice (some ⟨g, 0, none⟩) L cap, .func (.func 40) #[] #[.pointer (some ⟨bx, 0, none⟩)]] w fun e w' => ∃ v', e = .returned v' ∧ OwnA B w' v' (l.filter (fun x => decide (x ≠ c))) ∧ Below B w w' := by
  subst hL
  obtain ⟨zs, hz⟩ : ∃ zs : List Int, zs = l.map (fun n : Nat => (n : Int)) := ⟨_, rfl⟩
  have hzl : zs.length = l.length := by rw [hz]; simp
  have hH : Holds (Value.int .u32) w g 0 zs.toArray := by
    intro j hj
    have hj' : j < l.length := by simpa [hzl] using hj
    rw [Nat.zero_add]
    refine ⟨?_, h.free j⟩
    rw [h.cell (List.getElem?_eq_getElem hj') rfl]
    have : zs.toArray[j]! = ((l[j] : Nat) : Int) := by
      rw [getElem!_pos _ j hj]
      simp [hz]
    rw [this]
  have hcap : l.length ≤ cap := by
    obtain ⟨ad, c, e, hc, _⟩ := h.slice
    cases e; exact hc
  have hgb := h.base
  have eg : ∀ args w, (callFunc 40 args).run Tryd.prog w = .ok (.enter 40 args) w := enters_of Tryd.func40 (by kernel_rfl) rfl
  have hpa : PredAt Tryd.prog 40 #[.pointer (some ⟨bx, 0, none⟩)] (Value.int .u32) (fun x => decide (x = (c : Int))) w := fun W x hbW => gives40 c x bx W ((hbW.cell (p := ⟨bx, 0, none⟩) hb).trans hc)
  have hpo : PredOver Tryd.prog 40 #[.pointer (some ⟨bx, 0, none⟩)] (Value.int .u32) (fun x => decide (x = (c : Int))) g 0 zs.toArray.size w := fun n os dk x _ => gives40 c x bx _ (by
    unfold sortWorld
    rw [cell?_grow _ _ _ (by show bx < (putRow _ _ _ _ _).heap.size; rw [size_putRow]; exact hb), cell?_putRow_other _ _ g 0 _ _ (Or.inl hne)]
    exact hc)
  have hd := AnyE.slices_DeleteFunc Tryd.delF (Value.int .u32) (fun _ => rfl) (fun x => decide (x = (c : Int))) 40 #[.pointer (some ⟨bx, 0, none⟩)] eg 0 Tryd.zeroValue27 g 0 cap zs.toArray w hpa hpo hH (by simp; omega) (by simp; omega)
  have hsz : zs.toArray.size = l.length := by simpa using hzl
  rw [hsz] at hd
  refine Calls.mono hd ?_
  rintro e w' ⟨he, q, rfl⟩
  obtain ⟨fs, hfs⟩ : ∃ fs : List Nat, fs = l.filter (fun x => decide (x ≠ c)) := ⟨_, rfl⟩
  have hf : (zs.toArray.toList.filter fun x => !decide (x = (c : Int))) = fs.map (fun n : Nat => (n : Int)) := by
    rw [hfs, hz]
    simp only [List.filter_map]
    congr 1
    apply List.filter_congr
    intro x _
    simp
    omega
  rw [← hfs]
  rw [hf] at he ⊢
  simp only [List.length_map] at he ⊢
  have hlen : fs.length ≤ l.length := by rw [hfs]; exact List.length_filter_le _ _
  generalize hrow : (fs.map (fun n : Nat => (n : Int)) ++ List.replicate (l.length - fs.length) 0).toArray = row
  have hrs : row.size = l.length := by rw [← hrow]; simp; omega
  have hg := grown_rowA (w := w) (g := g) (n := q) (os := #[]) row
  have e0 : ∀ X : World, grow X #[] = X := fun X => by cases X; simp [grow]
  rw [e0] at hg
  have hHH := holds_putRow (Value.int .u32) (Sort.ahead w q) g 0 zs.toArray row (holds_ahead _ _ _ _ _ _ hH) (by rw [hrs]; simp [hzl])
  have hbelow : Below B w (putRow (Value.int .u32) (Sort.ahead w q) g 0 row) := (Below.refl _ _).grown hg h.1 (fun j e => by cases e; exact hgb.1)
  refine ⟨_, he, ⟨Nat.le_trans h.1 hbelow.size, ?_⟩, hbelow⟩
  rcases h.2.2 with ⟨h', _⟩ | ⟨g', cap', cur, h', hB, hgg, hn1, hn2, hn3, hn4⟩
  · simp at h'
  · have e := h'
    simp at e
    obtain ⟨rfl, rfl⟩ : g = g' ∧ cap = cap' := ⟨by first | exact e.1 | exact e.1.1, by first | exact e.2 | exact e.2.2⟩
    have hgg' : (putRow (Value.int .u32) (Sort.ahead w q) g 0 row).heap[g]? = some (.cells (putCells (Value.int .u32) 0 row cur) 27 (0, 0)) := by
      have hlt := ltO hgg
      have hw : w.heap[g] = .cells cur 27 (0, 0) := by simpa [Array.getElem?_eq_getElem hlt] using hgg
      show (w.heap.modify g _)[g]? = _
      rw [Array.getElem?_eq_getElem (by simpa using hlt), Array.getElem_modify_self, hw]
      rfl
    refine ⟨by simp [adV], .inr ⟨g, cap, _, rfl, hB, hgg', by omega, hn2, by unfold putCells; simp; omega, ?_⟩⟩
    apply List.ext_getElem?
    intro k
    by_cases hk : k < fs.length
    · have h1 := (hHH k (by rw [hrs]; omega)).1
      rw [Nat.zero_add] at h1
      have h2 : row[k]! = ((fs[k] : Nat) : Int) := by
        rw [← hrow, getElem!_pos _ k (by simp; omega)]
        simp [List.getElem_append_left (show k < (fs.map (fun n : Nat => (n : Int))).length by simpa using hk)]
      rw [h2] at h1
      have h3 : (putCells (Value.int .u32) 0 row cur)[k]? = some (.int .u32 ((fs[k] : Nat) : Int)) := by
        rw [← h1]
        simp [World.cell?, hgg']
      rw [List.getElem?_take, if_pos (by simpa using hk), Array.getElem?_toList, h3]
      unfold adV
      rw [List.getElem?_map, List.getElem?_eq_getElem hk]; rfl
    · rw [List.getElem?_eq_none (by simp; omega), List.getElem?_eq_none (by simp [adV]; omega)]
theorem delN_any (c bx : Nat) (w : World) (hc : w.cell? ⟨bx, 0, none⟩ = some (.int .u32 (c : Int))) :
    Calls Tryd.prog 39 #[.slice none 0 0, .func (.func 40) #[] #[.pointer (some ⟨bx, 0, none⟩)]] w fun e w' => e = .returned (.slice none 0 0) ∧ Below w.heap.size w w' := by
  have H := Lib.hid (indexf40_any [] (.slice none 0 0) (.pointer (some ⟨bx, 0, none⟩)) (fun x => decide (x = c)) w (rd_nil w) (fun n x _ => (closure40_any c x bx (w.drewN n) hc).mono fun _ _ h => ⟨h.1, n, h.2⟩))
  go_enter Tryd.func39, Tryd.ntmps39
  go_wp2_with fail
  go_at_call 54
  refine H.out.mono ?_
  rintro e w1 ⟨i, rfl, hi, n, rfl⟩
  obtain rfl : i = -1 := by
    rcases hi with ⟨h, _⟩ | ⟨k, x, _, h1, _⟩
    · exact h
    · simp at h1
  go_wp2
  go_ret
  exact ⟨rfl, below_drewN (Below.refl _ _) n⟩
theorem drop_any (l : List Nat) (v : Value) (c : Nat) (w : World) (hv : Rd w v l) (hn : NilV v) (hl : l.length ≤ 10000) :
    Calls Tryd.prog 21 #[v, .int .u32 (c : Int)] w fun e w' => ∃ v', e = .returned v' ∧ RS w (DropP l c) v' w' := by
  obtain ⟨W0, hW0⟩ : ∃ W0, W0 = w.alloc (.cells #[.int .u32 (c : Int)] 27) := ⟨_, rfl⟩
  have hb0 : Below w.heap.size w W0 := by rw [hW0]; exact below_alloc _ _
  have hsz : W0.heap.size = w.heap.size + 1 := by rw [hW0]; simp
  have hx : W0.cell? ⟨w.heap.size, 0, none⟩ = some (.int .u32 (c : Int)) := by rw [hW0]; exact cell_of (heap_alloc_new _ _) rfl
  have H1 : Hid (Calls Tryd.prog 37 #[.slice (some ⟨w.heap.size + 1, 0, none⟩) 1 1] ((w.alloc (.cells #[.int .u32 (c : Int)] 27)).alloc (.cells #[v] 22)) fun e w' => ∃ v', e = .returned v' ∧ UnR ((w.alloc (.cells #[.int .u32 (c : Int)] 27)).alloc (.cells #[v] 22)) l v' w') := by
    have := union_any [l] _ _ (rdl_one W0 v l (hv.below hb0) hn) (by simp) (by simp; omega)
    have e : [l].flatten = l := by simp
    rw [e, hsz, hW0] at this; exact this
  have HX : Hid (((w.alloc (.cells #[.int .u32 (c : Int)] 27)).alloc (.cells #[v] 22)).cell? ⟨w.heap.size, 0, none⟩ = some (.int .u32 (c : Int))) := by
    have := carry (below_alloc W0 (.cells #[v] 22)) hx
    rw [hW0] at this; exact this
  have HB0 : Hid (Below w.heap.size w ((w.alloc (.cells #[.int .u32 (c : Int)] 27)).alloc (.cells #[v] 22))) := by
    have := below_then hb0 (below_alloc W0 (.cells #[v] 22))
    rw [hW0] at this; exact this
  have HZ : Hid (((w.alloc (.cells #[.int .u32 (c : Int)] 27)).alloc (.cells #[v] 22)).heap.size = w.heap.size + 2) := by unfold Hid; simp
  have H32 := Lib.hid hv.w32
  obtain ⟨ad, cap, rfl⟩ := hv.form
  have HL := Lib.hid hl
  clear hv hn hl hb0 hsz hx hW0
  go_enter Tryd.func21, Tryd.ntmps21
  go_wp2_with fail
  go_at_call 37
  refine H1.out.mono ?_
  rintro e w1 ⟨v1, rfl, s, hs, hset, hlen⟩
  have HXX := Lib.hid (carry hs.2 HX.out)
  have HB1 := Lib.hid (below_then HB0.out hs.2)
  rcases hs.1.two with ⟨rfl, rfl⟩ | ⟨g, c1, rfl⟩
  · have HP : Hid (DropP l c []) := ⟨[], hset, rfl⟩
    have HD := Lib.hid (delN_any c w.heap.size w1 HXX.out)
    clear hs hset hlen
    go_wp2_with fail
    go_at_call 39
    refine HD.out.mono ?_
    rintro e w2 ⟨rfl, hb⟩
    have HF : Hid (RS w (DropP l c) (.slice none 0 0) w2) := ⟨[], rd_nil _, fun n c e => by cases e; rfl, HP.out, below_then HB1.out hb⟩
    clear hb
    go_wp2
    go_ret
    exact ⟨_, rfl, HF.out⟩
  · have hbase := hs.1.base
    have hz := HZ.out
    have HD := Lib.hid (delO_any _ g c1 s.length s c w.heap.size w1 hs.1 rfl (by have := HL.out; omega) (by omega) (by have := hs.2.size; omega) HXX.out)
    have H32s : Hid (W32 s) := hset.w32 H32.out
    have HS := Lib.hid hset
    have HO := Lib.hid hs.2
    clear hs hset hlen hbase hz
    generalize s.length = n at *
    go_wp2_with fail
    go_at_call 39
    refine HD.out.mono ?_
    rintro e w2 ⟨v2, rfl, ho, hb⟩
    have HF : Hid (RS w (DropP l c) v2 w2) := ⟨_, ho.rd (fun x hx => H32s.out x (List.mem_filter.1 hx).1), ho.nilV, ⟨s, HS.out, rfl⟩, HB0.out.trans ((HO.out.trans hb).mono HB0.out.size)⟩
    clear ho hb
    go_wp2
    go_ret
    exact ⟨_, rfl, HF.out⟩
end Go.Proofs.YtaniiennfogjaaaDoor
