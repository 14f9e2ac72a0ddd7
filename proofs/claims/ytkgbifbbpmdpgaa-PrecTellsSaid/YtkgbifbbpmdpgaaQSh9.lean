/- The small machine's operations: what each does. Of no program. -/
import Derived.Test.YtkgbifbbpmdpgaaQSh7
import Derived.Laws.IdiomStrings
set_option linter.unusedVariables false
set_option linter.unusedSimpArgs false
namespace Go.Proofs.Ytkgbifbbpmdpgaa.Sh

open Go.RowKit
variable {bs : Inhabited Base}
section
variable {P : Program} {A : Nat → Prop} {β : Bij} {H : Hp} {w : World}
theorem run_v {s : Sem Value} {v : Value} {w' : World} (h : s.run P w = .ok v w') : (do pure (Next.value (← s)) : Sem Next).run P w = .ok (.value v) w' := by simp [h]
theorem zeroN_eq {t : TypeId} {l : List Value} (h : zeroN P t = some l) : ∃ i z, P.info? t = some i ∧ i.zero = some z ∧ l = z.cells.toList ∧ z.cells.size = i.size ∧ ∀ x ∈ l, atomB x = true := by
 unfold zeroN at h
 split at h
 · rename_i i hi
   split at h
   · rename_i z hz
     rcases cond_split h with ⟨h1, h2⟩ | ⟨_, h2⟩
     · obtain ⟨h1, h3⟩ := and_split h1
       have h1 := of_beq h1
       rw [lenL_eq] at h1
       cases h2
       exact ⟨i, z, hi, hz, rfl, by simpa using h1, atomL_mem _ h3⟩
     · cases h2
   · cases h
 · cases h
theorem sizeN_eq {t : TypeId} {n : Nat} (h : sizeN P t = some n) : ∃ i, P.info? t = some i ∧ i.size = n := by
 unfold sizeN at h
 obtain ⟨i, h1, h2⟩ := Option.map_eq_some_iff.1 h
 exact ⟨i, h1, h2⟩
theorem bytesN_eq {t : TypeId} {n : Nat} (h : bytesN P t = some n) : ∃ i, P.info? t = some i ∧ i.bytes = n := by
 unfold bytesN at h
 obtain ⟨i, h1, h2⟩ := Option.map_eq_some_iff.1 h
 exact ⟨i, h1, h2⟩
theorem room_does {s : Sem Next} {n : Nx} {e : TypeId} (h : H.next ≤ 131000 → e < mapE → Does P A β H w s n) : Does P A β H w s (roomS H e n) := by
 unfold roomS
 cases hb : (Nat.ble H.next 131000 && Nat.blt e mapE) with
 | false => trivial
 | true => exact h (of_ble (and_split hb).1) (Nat.le_of_ble_eq_true (and_split hb).2)
theorem newS_does (hw : WF H) (hr : HR A β H w) {s : Sem Next} (cells : List Value) (e : TypeId) (size : Nat) (cs : Array Value) (hp : VL β cells cs.toList)
  (hs : s.run P w = .ok (.value (.pointer (some ⟨w.heap.size, 0, none⟩))) (w.alloc (.cells cs e))) : Does P A β H w s (newS H cells e size) := by
 refine room_does (fun hm he => ?_)
 obtain ⟨h1, h2, h3⟩ := made hw hr hm cells e he size cs hp.pre (Grew.alloc w cs e)
 exact ⟨_, _, _, hs, h1, VR.ptr (k := ⟨w.heap.size, cs.size, size⟩) (by unfold Bij.put; simp), h2, h3⟩
theorem newL_does (hw : WF H) (hr : HR A β H w) {s : Sem Next} (cells : List Value) (e : TypeId) (size n c : Nat) (cs : Array Value) (hp : Pre β cells cs) (hn : n ≤ c) (hc : c ≤ 9223372036854775807) (hsz : cs.size = c * size) {w' : World} (hg : Grew w w' cs e)
  (hs : s.run P w = .ok (.value (.slice (some ⟨w.heap.size, 0, none⟩) n c)) w') : Does P A β H w s (newL H cells e size n) := by
 refine room_does (fun hm he => ?_)
 obtain ⟨h1, h2, h3⟩ := made hw hr hm cells e he size cs hp hg
 exact ⟨_, _, _, hs, h1, VR.slice (k := ⟨w.heap.size, cs.size, size⟩) (by unfold Bij.put; simp) hn hc (fun _ => hsz.symm), h2, h3⟩
theorem alloc_does (hw : WF H) (hr : HR A β H w) (e : TypeId) : Does P A β H w (do pure (Next.value (← Instr.alloc e true (.tuple #[])))) (allocS P H e) := by
 unfold allocS
 split
 · rename_i z n hz hn
   obtain ⟨i, zv, h1, h2, rfl, h3, h4⟩ := zeroN_eq hz
   refine newS_does hw hr _ e n zv.cells (VL.atoms β h4) ?_
   simp [Instr.alloc, zeroValue, info_run h1, h2, newVar, newRow]
 · trivial
theorem box_does (hw : WF H) (hr : HR A β H w) (e : TypeId) {x y : Value} (h : VR β x y) : Does P A β H w (do pure (Next.value (← Instr.box e y))) (cond (oneL (cellsL x)) (newS H (cellsL x) e (lenL (cellsL x))) (.bad 88)) := by
 cases ho : oneL (cellsL x) with
 | false => trivial
 | true =>
   refine newS_does hw hr _ e _ y.cells (cells_VL h ho) ?_
   simp [Instr.box, newVar, newRow]
theorem build_run {t : TypeId} {parts parts' : List (Nat × Value)} (hp : PL β parts parts') : Pure P β H (Instr.build t parts'.toArray) (Nx.of 79 H (buildS P t parts)) := by
 refine Pure.of (fun v hv => ?_)
 unfold buildS at hv
 split at hv
 · rename_i z fs hz hf
   obtain ⟨i, zv, h1, h2, rfl, h3, h4⟩ := zeroN_eq hz
   split at hv
   · rename_i pl hpl
     obtain ⟨l', h5, rfl⟩ := Option.map_eq_some_iff.1 hv
     have hu : ∃ fs', P.underlying t = some (.struct fs') ∧ fs'.toList = fs := by
      unfold fieldsS at hf
      split at hf
      · rename_i fs' hu; cases hf; exact ⟨fs', hu, rfl⟩
      · cases hf
     obtain ⟨fs', hu, rfl⟩ := hu
     have hpl' : fs'.toList.mapM (fun f => (P.info? f.type).map fun i => (f.offset, i.size)) = some pl := by
      unfold placesS at hpl; rw [hf] at hpl; exact hpl
     obtain ⟨cs', h6, h7⟩ := fill_run (place' := (pl.toArray[·]?)) (fun k => by rw [nth_eq]; simp) hp _ l' zv.cells (VL.atoms β h4) h5
     refine ⟨.agg cs', .agg (by simpa using h7.1) (by simpa using h7.2), fun w => run_build w t _ cs' ?_⟩
     unfold Program.built
     rw [h1, hu]
     simp only [h2, hpl']
     exact h6
   · cases hv
 · rename_i z hz hf
   obtain ⟨i, zv, h1, h2, rfl, h3, h4⟩ := zeroN_eq hz
   split at hv
   · rename_i size hs
     obtain ⟨⟨n, e⟩, he, hs⟩ := Option.bind_eq_some_iff.1 hs
     obtain ⟨l', h5, rfl⟩ := Option.map_eq_some_iff.1 hv
     have hu := arrayE_eq he
     obtain ⟨ie, h8, rfl⟩ := sizeN_eq hs
     obtain ⟨cs', h6, h7⟩ := fill_run (place' := fun k => some (k * ie.size, ie.size)) (fun k => rfl) hp _ l' zv.cells (VL.atoms β h4) h5
     refine ⟨.agg cs', .agg (by simpa using h7.1) (by simpa using h7.2), fun w => run_build w t _ cs' ?_⟩
     unfold Program.built
     rw [h1, hu]
     simp only [h2, h8]
     exact h6
   · cases hv
 · cases hv
theorem buildSlice_does (hw : WF H) (hr : HR A β H w) {t : TypeId} {len : Nat} {parts parts' : List (Nat × Value)} (hp : PL β parts parts') : Does P A β H w (do pure (Next.value (← Instr.buildSlice t len parts'.toArray))) (buildSliceS P H t len parts) := by
 unfold buildSliceS
 split
 · rename_i e he
   have hu := sliceE_eq he
   split
   · rename_i z size hz hs
     obtain ⟨i, zv, h1, h2, rfl, h3, h4⟩ := zeroN_eq hz
     obtain ⟨i', h5, h6⟩ := sizeN_eq hs
     rw [h1] at h5; cases h5; subst h6
     split
     · rename_i cs hcs
       cases hbb : (Nat.ble (Nat.mul len i.size) 16777216 && Nat.ble len 1000000000) with
       | false => trivial
       | true =>
         obtain ⟨hb, hl9⟩ := and_split hbb
         have hb := of_ble hb
         have hl9 := of_ble hl9
         have hb' : len * i.size ≤ 16777216 := hb
         have hmade : (madeCells zv.cells (len * i.size)).toList = zerosL zv.cells.toList len := by rw [← h3]; exact zerosL_made _ _
         have hat : VL β (zerosL zv.cells.toList len) (madeCells zv.cells (len * i.size)).toList := by
          rw [hmade]; exact VL.atoms β (fun x hx => h4 x (zerosL_mem _ _ _ hx))
         obtain ⟨cs', h7, h8⟩ := fill_run (place' := fun k => some (k * i.size, i.size)) (fun k => rfl) hp _ cs _ hat hcs
         have hlen : cs'.size = len * i.size := by
          have hf : ∀ (parts : List (Nat × Value)) (c c' : Array Value) (pl : Nat → Option (Nat × Nat)), Instr.fill pl c parts = some c' → c'.size = c.size := by
           intro parts
           induction parts with
           | nil => intro c c' pl h; cases h; rfl
           | cons p r ih =>
             intro c c' pl h
             obtain ⟨k, v⟩ := p
             rw [Instr.fill] at h
             split at h
             · cases h
             · split at h
               · cases h
               · rename_i hcond
                 have := ih _ _ _ h
                 rw [this, ← Array.foldl_toList]
                 generalize (v.cells.zipIdx.toList) = L
                 clear this h hcond
                 induction L generalizing c with
                 | nil => rfl
                 | cons x r ih2 => rw [List.foldl_cons, ih2]; simp
          rw [hf _ _ _ _ h7]; simp [madeCells]
         have hrun : (Instr.buildSlice t len parts'.toArray).run P w = .ok (.slice (some ⟨w.heap.size, 0, none⟩) len len) (w.alloc (.cells cs' e)) := by
          have hz' : ¬ (16777216 < len * i.size) := by omega
          by_cases h0 : len * i.size = 0
          · have h7' : Instr.fill (fun k => some (k * i.size, i.size)) #[] parts' = some cs' := by
             rw [h0] at h7; simpa [madeCells, Array.range_zero'] using h7
            simp [Instr.buildSlice, under_run hu, sizeOf, info_run h1, h0, h7', newRow, Array.range_zero']
          · have h7' : Instr.fill (fun k => some (k * i.size, i.size)) ((Array.range (len * i.size)).map (zv.cells[· % zv.cells.size]!)) parts' = some cs' := h7
            simp [Instr.buildSlice, under_run hu, sizeOf, info_run h1, h0, hz', zeroValue, h2, h7', newRow]
         exact newL_does hw hr cs e i.size len len cs' h8.pre (Nat.le_refl _) (by omega) hlen (Grew.alloc w cs' e) (run_v hrun)
     · trivial
   · trivial
 · trivial
theorem makeSlice_does (hw : WF H) (hr : HR A β H w) {t : TypeId} {l c l' c' : Value} (hl : VR β l l') (hc : VR β c c') : Does P A β H w (do pure (Next.value (← Instr.makeSlice t l' c'))) (makeSliceS P H t l c) := by
 unfold makeSliceS
 split
 · rename_i e n m he hn hm
   have hu := sliceE_eq he
   obtain ⟨kl, rfl⟩ := asNat_eq hn
   obtain ⟨kc, rfl⟩ := asNat_eq hm
   obtain rfl := hl.int
   obtain rfl := hc.int
   split
   · rename_i z size bytes hz hs hb
     obtain ⟨i, zv, h1, h2, rfl, h3, h4⟩ := zeroN_eq hz
     obtain ⟨i', h5, h6⟩ := sizeN_eq hs
     rw [h1] at h5; cases h5; subst h6
     obtain ⟨i', h5, h6⟩ := bytesN_eq hb
     rw [h1] at h5; cases h5; subst h6
     cases hcc : (Nat.ble n m && (Nat.ble (Nat.mul m i.bytes) 1000000000 && Nat.ble m 1000000000)) with
     | false => trivial
     | true =>
       obtain ⟨h7, h8⟩ := and_split hcc
       obtain ⟨h8, h9⟩ := and_split h8
       have h7 := of_ble h7
       have h8 : m * i.bytes ≤ 1000000000 := of_ble h8
       have h9 := of_ble h9
       have hrun := run_make (P := P) w t e i zv hu h1 h2 kl kc (n : Int) (m : Int) (by omega) (by omega) (by rw [← Int.natCast_mul, Nat.mul_comm]; omega) (by omega)
       refine newL_does hw hr _ e i.size n m (madeCells zv.cells (m * i.size)) ?_ h7 (by omega) (by simp [madeCells]) (Grew.alloc w _ e) (run_v (by simpa using hrun))
       intro j x hx
       have hmade : (madeCells zv.cells (m * i.size)).toList = zerosL zv.cells.toList m := by rw [← h3]; exact zerosL_made _ _
       have hj : j < n * i.size := by
        have := (List.getElem?_eq_some_iff.1 hx).1
        rw [zerosL_len] at this
        simpa [h3] using this
       have hj' : j < m * i.size := Nat.lt_of_lt_of_le hj (Nat.mul_le_mul_right _ h7)
       rw [zerosL_get _ _ _ (by simpa [h3] using hj)] at hx
       have h10 : (madeCells zv.cells (m * i.size)).toList[j]? = some x := by
        rw [hmade, zerosL_get _ _ _ (by simpa [h3] using hj')]; exact hx
       exact ⟨x, by simpa using h10, .atom (h4 x (List.mem_of_getElem? hx))⟩
   · trivial
 · trivial
theorem store_does (hw : WF H) (hr : HR A β H w) {t : TypeId} {x y v u : Value} (h : VR β x y) (hv : VR β v u) (hA : ∀ b q, placeOf x = some b → H.tr.get b = some q → memN H.ban q.grp = false → A q.grp) :
  Does P A β H w (do Instr.storeAt t y u; pure Next.skip) (storeS P H t v x) := by
 unfold storeS
 split
 · rename_i b off
   obtain ⟨k, hk, rfl⟩ := h.ptr_inv (sp := none)
   unfold storeB
   split
   · rename_i q hq
     obtain ⟨h1, h2, h3⟩ := read_inv hq
     split
     · rename_i n hn
       cases hcc : (oneL (cellsL v) && Nat.beq (lenL (cellsL v)) n && (Nat.ble (Nat.add off n) (lenL q.cells) && Nat.beq (H.newest q) b)) with
       | false => trivial
       | true =>
         obtain ⟨h4, h5⟩ := and_split hcc
         obtain ⟨h4, h6⟩ := and_split h4
         obtain ⟨h5, h7⟩ := and_split h5
         have h5 : off + n ≤ lenL q.cells := of_ble h5
         have h6 := of_beq h6
         have h7 := of_beq h7
         rw [lenL_eq] at h5 h6
         have hc := cells_VL hv h4
         obtain ⟨cs, h8, h9, h10⟩ := (hr.row b k q hk h1 h2 (hA b q rfl h1 h3)).cells (read_elem hq)
         have hcs : q.cells.length ≤ cs.size := by
          rcases Nat.eq_zero_or_pos q.cells.length with e | e
          · omega
          · obtain ⟨y, hy, _⟩ := h10 (q.cells.length - 1) _ (List.getElem?_eq_getElem (by omega))
            have := (Array.getElem?_eq_some_iff.1 hy).1; omega
         have hul : u.cells.toList.length = n := by rw [← hc.1, h6]
         have hst := run_storeCells_at P k.blk off q.elem u.cells.toList 0 cs w h8 (by omega) (hc.ones h4)
         simp only [Nat.add_zero] at hst
         obtain ⟨h11, h12, h13⟩ := stored hw hr hk h1 h7 h3 (read_elem hq) (putL q.cells off (cellsL v))
          (cs.toList.take off ++ u.cells.toList ++ cs.toList.drop (off + u.cells.toList.length)).toArray (by simp; have := hul; simp at this; omega) (by
            intro j x hx
            rw [putL_eq] at hx
            have hpre : VL β (q.cells.take off) ((cs.toList.take off)) ∧ True := ⟨⟨by simp; omega, fun i x y hx hy => by
             rw [List.getElem?_take] at hx hy
             split at hx
             · rename_i hi
               rw [if_pos hi, Array.getElem?_toList] at hy
               obtain ⟨y', hy', hv'⟩ := h10 i x hx
               rw [hy'] at hy; cases hy; exact hv'
             · cases hx⟩, trivial⟩
            by_cases hj : j < off + n
            · have h14 := hpre.1.append hc
              have hx' : (q.cells.take off ++ cellsL v)[j]? = some x := by
               rw [← List.append_assoc, List.getElem?_append_left (by simp; omega)] at hx; exact hx
              obtain ⟨y, hy, hv'⟩ := h14.get hx'
              refine ⟨y, ?_, hv'⟩
              have : (cs.toList.take off ++ u.cells.toList ++ cs.toList.drop (off + u.cells.toList.length))[j]? = some y := by
               rw [List.getElem?_append_left (by simp; have := hul; simp at this; omega)]; exact hy
              simpa using this
            · have hx' : q.cells[j]? = some x := by
               rw [← List.append_assoc, List.getElem?_append_right (by simp; omega), List.getElem?_drop] at hx
               have e : off + (cellsL v).length + (j - (q.cells.take off ++ cellsL v).length) = j := by simp; omega
               rw [e] at hx; exact hx
              obtain ⟨y, hy, hv'⟩ := h10 j x hx'
              refine ⟨y, ?_, hv'⟩
              have : (cs.toList.take off ++ u.cells.toList ++ cs.toList.drop (off + u.cells.toList.length))[j]? = some y := by
               rw [List.getElem?_append_right (by simp; have := hul; simp at this; omega), List.getElem?_drop, Array.getElem?_toList]
               have e : off + u.cells.toList.length + (j - (cs.toList.take off ++ u.cells.toList).length) = j := by simp; have := hul; simp at this; omega
               rw [e]; exact hy
              simpa using this) (Over.setRow w k.blk cs _ q.elem h8)
         refine ⟨_, ?_, h11, h12, h13⟩
         have hz := size_run (P := P) hn w
         have hul' : u.cells.size = n := by simpa using hul
         simp only [Instr.storeAt, Instr.sureAddr, Sem.run_bind, Sem.run_pure, Result.andThen_ok, storeVar, hz, hul', ne_eq, not_true_eq_false, if_false, hst]
     · trivial
   · trivial
 · trivial
end
end Go.Proofs.Ytkgbifbbpmdpgaa.Sh
