/- The small machine's appends and calls; what each operation does. Of no program. -/
import Derived.Test.YtagnfgigdcplpaaSh9
namespace Go.Proofs.Ytagnfgigdcplpaa
open Go.RowKit
set_option linter.unusedVariables false
set_option linter.unusedSimpArgs false

section
variable {P : Program} {A : Nat → Prop} {β : Bij} {H : Hp} {w : World}

/-- what is appended, in a world -/
theorem news_run (hr : HR A β H w) (hA : ∀ b, memN H.ban b = false → A b) {size m : Nat} {news : List Value} {x y : Value} (h : VR β x y) (hn : newsS H size x = some (m, news)) :
    ∃ a' c', y = .slice a' m c' ∧ (m = 0 ∨ ∃ ad news', a' = some ad ∧ VL β news news' ∧ news'.length = m * size ∧ ∀ (j : Nat) (u : Value), news'[j]? = some u → w.cell? (ad.add j) = some u) := by
  unfold newsS at hn
  split at hn
  · cases hn
    obtain ⟨a', c, rfl, h1, _⟩ := h.slice_len
    exact ⟨a', c, rfl, .inl rfl⟩
  · rename_i b off n c0
    rcases cond_split hn with ⟨h1, h2⟩ | ⟨h1, h2⟩
    · cases h2
      obtain rfl := of_beq h1
      obtain ⟨a', c, rfl, _, _⟩ := h.slice_len
      exact ⟨a', c, rfl, .inl rfl⟩
    · split at h2
      · rename_i q hq
        obtain ⟨l, h3, h4⟩ := Option.map_eq_some_iff.1 h2
        have h4a : n = m := congrArg Prod.fst h4
        have h4b : l = news := congrArg Prod.snd h4
        subst h4a
        subst h4b
        obtain ⟨h5, rfl, h6⟩ := cellsAt_eq h3
        have hn0 : n ≠ 0 := fun e => by subst e; cases h1
        rcases h.slice_inv with ⟨e, _⟩ | ⟨e, _⟩ | ⟨b', off', k, c, e, hk, hnc, hcm, h0, rfl⟩
        · cases e
        · exact absurd e hn0
        · cases e
          obtain ⟨h7, h8, h9⟩ := read_inv hq
          have hrow := hr.row b k q hk h7 h8 (hA _ h9)
          by_cases hz : n.mul size = 0
          · refine ⟨_, c, rfl, .inr ⟨_, [], rfl, ?_, ?_, fun j u hu => by simp at hu⟩⟩
            · have : (q.cells.drop off).take (n.mul size) = [] := by rw [hz]; rfl
              rw [this]; exact VL.nil β
            · have hz' : n * size = 0 := hz
              rw [hz']; rfl
          · rw [if_neg hz] at h5
            obtain ⟨ys, g1, g2, g3⟩ := row_part hrow (read_elem hq) (off := off) (n := n.mul size) (by omega)
            exact ⟨_, c, rfl, .inr ⟨_, ys, rfl, g1, g2, g3⟩⟩
      · cases h2
  · cases hn

theorem append_none (t ty e : TypeId) (hu : P.underlying t = some (.slice e)) {i : TypeInfo} (hi : P.info? e = some i) (a a' : Option Addr) (n c c' : Nat) (hn : n ≤ c) :
    (Builtin.append_ #[t, t] ty #[.slice a n c, .slice a' 0 c']).run P w = .ok (.slice a n c) w := by
  have hf : (Builtin.firstCells i.size 0 (.slice a' 0 c')).run P w = .ok #[] w := by
    cases a' with
    | none => rfl
    | some ad => simp [Builtin.firstCells, loadCells, loadCellsFrom]
  cases a with
  | none => simp [Builtin.append_, under_run hu, sizeOf, info_run hi, Builtin.lenOf, hn, hf]
  | some ad => simp [Builtin.append_, under_run hu, sizeOf, info_run hi, Builtin.lenOf, hn, hf, storeCells]

theorem append_does (hw : WF H) (hr : HR A β H w) (hA : ∀ b, memN H.ban b = false → A b) {t ty : TypeId} {l m : List Value} (hl : VL β l m) :
    Does P A β H w (do pure (Next.value (← Builtin.append_ #[t, t] ty m.toArray))) (appendS P H (some t) l) := by
  unfold appendS
  split
  · rename_i a n c0 x
    obtain ⟨y1, r1, rfl, h1, hr1⟩ := hl.uncons
    obtain ⟨y2, r2, rfl, h2, hr2⟩ := hr1.uncons
    obtain rfl : r2 = [] := by have := hr2.1; simpa using this.symm
    split
    · rename_i e he
      have hu := sliceE_eq (show sliceE P t = some e from he)
      unfold appendT
      split
      · rename_i z size bytes hz hs hb
        obtain ⟨i, zv, g1, g2, rfl, g3, g4⟩ := zeroN_eq hz
        obtain ⟨i', g5, g6⟩ := sizeN_eq hs
        rw [g1] at g5; cases g5; subst g6
        obtain ⟨i', g5, g6⟩ := bytesN_eq hb
        rw [g1] at g5; cases g5; subst g6
        unfold appendN
        split
        · rename_i k news hnews
          obtain ⟨a2, c2, rfl, hsrc⟩ := news_run hr hA h2 hnews
          cases hm : Nat.beq k 0 with
          | true =>
            obtain rfl := of_beq hm
            show Does P A β H w _ (.val (.slice a n n) H)
            have hv : ∃ a' c, y1 = .slice a' n c ∧ n ≤ c ∧ VR β (.slice a n n) y1 := by
              rcases h1.slice_inv with ⟨rfl, rfl, rfl⟩ | ⟨rfl, a', c, rfl, rfl⟩ | ⟨b, off, kk, c, rfl, hk, hnc, hcm, h0, rfl⟩
              · exact ⟨none, 0, rfl, Nat.le_refl _, .atom rfl⟩
              · exact ⟨some a', c, rfl, Nat.zero_le _, .void a' c⟩
              · exact ⟨_, c, rfl, hnc, .slice hk hnc hcm h0⟩
            obtain ⟨a', c, rfl, hnc, hv⟩ := hv
            exact ⟨β, _, w, run_v (append_none t ty e hu g1 a' a2 n c c2 hnc), St.refl _ _ _, hv, hr, hw⟩
          | false =>
            have hk0 : k ≠ 0 := fun e => by subst e; cases hm
            show Does P A β H w _ (cond _ _ _)
            cases hcc : (oneL news && (Nat.ble (Nat.mul (Nat.add n k) i.bytes) 1000000000 && (Nat.ble (Nat.add n k) 1000000000 && Nat.ble 1 i.size))) with
            | false => trivial
            | true =>
              obtain ⟨q1, q2⟩ := and_split hcc
              obtain ⟨q2, q3⟩ := and_split q2
              obtain ⟨q3, q4⟩ := and_split q3
              have q2 : (n + k) * i.bytes ≤ 1000000000 := of_ble q2
              have q3 : n + k ≤ 1000000000 := of_ble q3
              have q4 := of_ble q4
              rcases hsrc with hsrc | ⟨ad, news', rfl, hvl, hlen, hcells⟩
              · exact absurd hsrc hk0
              have hones := hvl.ones q1
              show Does P A β H w _ (appendA H e i.size n k news a)
              unfold appendA
              split
              · cases hn : Nat.beq n 0 with
                | false => trivial
                | true =>
                  obtain rfl := of_beq hn
                  rcases h1.slice_inv with ⟨_, _, rfl⟩ | ⟨_, a', c, h, _⟩ | ⟨b, off, kk, c, h, _⟩
                  · have hrun := run_append_nil (P := P) w t ty e i zv hu g1 g2 ad k c2 news' hlen hcells (by omega) (by omega) (by rw [Nat.zero_add] at q2; omega)
                    have hge := grownCap_ge w k 0 e
                    have hle := grownCap_le_maxLen w k 0 e (by unfold maxLen; omega)
                    refine newL_does hw hr news e i.size k (grownCap w k 0 e) _ ?_ hge (by unfold maxLen at hle; omega) ?_ (Grew.drew_alloc w _ e) (run_v hrun)
                    · intro j x hx
                      obtain ⟨y, hy, hv⟩ := hvl.get hx
                      exact ⟨y, by rw [Array.getElem?_append_left (by have := (List.getElem?_eq_some_iff.1 hy).1; simpa using this)]; simpa using hy, hv⟩
                    · rw [Array.size_append, size_zeroCells, g3]; simp only [List.size_toArray]; rw [hlen, ← Nat.add_mul]; congr 1; omega
                  · cases h
                  · cases h
              · rename_i b
                unfold appendB
                split
                · rename_i q hq
                  cases hc2 : (Nat.beq (lenL q.cells) (Nat.mul n i.size) && (Nat.beq (H.newest q) b && (Nat.beq q.elem e && Nat.beq q.size i.size))) with
                  | false => trivial
                  | true =>
                    obtain ⟨u1, u2⟩ := and_split hc2
                    obtain ⟨u2, u3⟩ := and_split u2
                    obtain ⟨u3, u4⟩ := and_split u3
                    have u1 : lenL q.cells = n * i.size := of_beq u1
                    rw [lenL_eq] at u1
                    have u2 := of_beq u2
                    have u3 := of_beq u3
                    have u4 := of_beq u4
                    obtain ⟨v1, v2, v3⟩ := read_inv hq
                    have hp := hw.pos v1
                    rcases h1.slice_inv with ⟨h, _⟩ | ⟨_, a', c, h, _⟩ | ⟨b', off, kk, c, h, hk, hnc, hcm, h0, rfl⟩
                    · cases h
                    · cases h; omega
                    · cases h
                      have hc0 := h0 rfl
                      have hkk : q.size = kk.size := by
                        obtain ⟨_, _, q', e1, e2⟩ := hr.dom b kk hk
                        rw [v1] at e1; cases e1; exact e2
                      obtain ⟨cur, w1, w2, w3⟩ := (hr.row b kk q hk v1 v2 (hA _ v3)).cells (read_elem hq)
                      have hcur : cur.size = c * i.size := by rw [w2, ← hc0, ← hkk, u4]
                      have hnc' : n * i.size ≤ cur.size := by rw [hcur]; exact Nat.mul_le_mul_right _ hnc
                      have hold : VL β q.cells (cur.toList.take (n * i.size)) := ⟨by simp; omega, fun j x y hx hy => by
                        rw [List.getElem?_take] at hy
                        split at hy
                        · rw [Array.getElem?_toList] at hy
                          obtain ⟨y', hy', hv⟩ := w3 j x hx
                          rw [hy'] at hy; cases hy; exact hv
                        · cases hy⟩
                      refine room_does (fun hm131 hme => ?_)
                      rw [u3] at w1
                      rw [catL_eq]
                      by_cases hroom : n + k ≤ c
                      · have hfit : n * i.size + news'.length ≤ cur.size := by rw [hlen, hcur, ← Nat.add_mul]; exact Nat.mul_le_mul_right _ hroom
                        have hrun := run_append_room (P := P) w t ty e i hu g1 kk.blk n c cur w1 ad k c2 news' hlen hcells hones hroom hfit
                        have hsz : (cur.toList.take (n * i.size) ++ news' ++ cur.toList.drop (n * i.size + news'.length)).toArray.size = kk.cap := by
                          rw [← w2]; simp; omega
                        obtain ⟨r1, r2, r3⟩ := grown hw hr hm131 hk v1 u2 v2 (hA _ v3) v3 (read_elem hq) news kk.blk (cur.toList.take (n * i.size) ++ news' ++ cur.toList.drop (n * i.size + news'.length)).toArray
                          (by
                            intro j x hx
                            obtain ⟨y, hy, hv⟩ := (hold.append hvl).get hx
                            refine ⟨y, ?_, hv⟩
                            have hj := (List.getElem?_eq_some_iff.1 hy).1
                            have : (cur.toList.take (n * i.size) ++ news' ++ cur.toList.drop (n * i.size + news'.length))[j]? = some y := by
                              rw [List.getElem?_append_left hj]; exact hy
                            simpa using this)
                          (.inl ⟨by rw [u3]; exact Over.setRow w kk.blk cur _ e w1, rfl, hsz, fun cs hcs j hj => by
                            rw [u3, w1] at hcs
                            have : cur = cs := by have := Option.some.inj hcs; injection this
                            subst this
                            have : (cur.toList.take (n * i.size) ++ news' ++ cur.toList.drop (n * i.size + news'.length))[j]? = cur.toList[j]? := by
                              rw [List.append_assoc, List.getElem?_append_left (by simp; omega), List.getElem?_take, if_pos (by omega)]
                            simpa using this⟩)
                        refine ⟨_, _, _, run_v hrun, r1, VR.slice (k := ⟨kk.blk, _, q.size⟩) (by unfold Bij.put; rw [if_pos rfl]) (show n + k ≤ c from hroom) hcm (fun _ => ?_), r2, r3⟩
                        show c * q.size = _
                        rw [hsz, hkk]; exact hc0
                      · have hrun := run_append_grow (P := P) w t ty e i zv hu g1 g2 ⟨kk.blk, 0, none⟩ n c (cur.toList.take (n * i.size)) (by simp; omega)
                          (by
                            intro j u hju
                            rw [List.getElem?_take] at hju
                            split at hju
                            · rw [Array.getElem?_toList] at hju
                              rw [add_addr, cell_of_row w _ _ cur _ _ w1, Nat.zero_add]; exact hju
                            · cases hju) ad k c2 news' hlen hcells (by omega) (by omega) (growslice_fits (by omega) (by omega))
                        have hge := grownCap_ge w (n + k) c e
                        have hle := grownCap_le_maxLen w (n + k) c e (by unfold maxLen; omega)
                        have hsz : ((cur.toList.take (n * i.size)).toArray ++ news'.toArray ++ Builtin.zeroCells zv.cells (grownCap w (n + k) c e - (n + k))).size = grownCap w (n + k) c e * i.size := by
                          simp only [Array.size_append, List.size_toArray, size_zeroCells, g3, hlen, List.length_take, Array.length_toList]
                          rw [Nat.min_eq_left hnc', ← Nat.add_mul, ← Nat.add_mul]; congr 1; omega
                        obtain ⟨r1, r2, r3⟩ := grown hw hr hm131 hk v1 u2 v2 (hA _ v3) v3 (read_elem hq) news w.heap.size ((cur.toList.take (n * i.size)).toArray ++ news'.toArray ++ Builtin.zeroCells zv.cells (grownCap w (n + k) c e - (n + k)))
                          (by
                            intro j x hx
                            obtain ⟨y, hy, hv⟩ := (hold.append hvl).get hx
                            refine ⟨y, ?_, hv⟩
                            have hj := (List.getElem?_eq_some_iff.1 hy).1
                            rw [Array.getElem?_append_left (by simpa using hj)]
                            simpa using hy)
                          (.inr ⟨by rw [u3]; exact Grew.drew_alloc w _ e, rfl⟩)
                        refine ⟨_, _, _, run_v hrun, r1, VR.slice (k := ⟨w.heap.size, _, q.size⟩) (by unfold Bij.put; rw [if_pos rfl]) hge (by unfold maxLen at hle; omega) (fun _ => ?_), r2, r3⟩
                        show grownCap w (n + k) c e * q.size = _
                        rw [hsz, u4]
                · trivial
              · trivial
        · trivial
      · trivial
    · trivial
  · trivial
end
end Go.Proofs.Ytagnfgigdcplpaa
