/- The small machine's appends and calls; what each operation does. Of no program. -/
import Derived.Test.YtkgbifbbpmdpgaaPSh7
import Derived.Deep.AppendSrc
set_option linter.unusedVariables false
set_option linter.unusedSimpArgs false
namespace Go.Proofs.Ytkgbifbbpmdpgaa.Sh

open Go.RowKit
variable {bs : Inhabited Base}
section
variable {P : Program} {A : Nat → Prop} {β : Bij} {H : Hp} {w : World}
theorem news_run (hr : HR A β H w) (hA : ∀ b, memN H.ban b = false → A b) {size m : Nat} {news : List Value} {x y : Value} (h : VR β x y) (hn : newsS H size x = some (m, news)) :
  ∃ a' c', y = .slice a' m c' ∧ (m = 0 ∨ ∃ ad news', a' = some ad ∧ VL β news news' ∧ news'.length = m * size ∧ ∀ (j : Nat) (u : Value), news'[j]? = some u → w.cell? (ad.add j) = some u) := by
 unfold newsS at hn
 split at hn
 · cases hn
   obtain ⟨a', c, rfl, h1, _⟩ := h.slice_len
   exact ⟨a', c, rfl, .inl rfl⟩
 · rename_i b off n c0
   rcases cond_split hn with ⟨h1, h2⟩ | ⟨h1, h2⟩
   · cases h2
     obtain rfl := of_beq h1
     obtain ⟨a', c, rfl, _, _⟩ := h.slice_len
     exact ⟨a', c, rfl, .inl rfl⟩
   · split at h2
     · rename_i q hq
       obtain ⟨l, h3, h4⟩ := Option.map_eq_some_iff.1 h2
       have h4a : n = m := congrArg Prod.fst h4
       have h4b : l = news := congrArg Prod.snd h4
       subst h4a
       subst h4b
       obtain ⟨h5, rfl, h6⟩ := cellsAt_eq h3
       have hn0 : n ≠ 0 := fun e => by subst e; cases h1
       rcases h.slice_inv with ⟨e, _⟩ | ⟨e, _⟩ | ⟨b', off', k, c, e, hk, hnc, hcm, h0, rfl⟩
       · cases e
       · exact absurd e hn0
       · cases e
         obtain ⟨h7, h8, h9⟩ := read_inv hq
         have hrow := hr.row b k q hk h7 h8 (hA _ h9)
         by_cases hz : n.mul size = 0
         · refine ⟨_, c, rfl, .inr ⟨_, [], rfl, ?_, ?_, fun j u hu => by simp at hu⟩⟩
           · have : (q.cells.drop off).take (n.mul size) = [] := by rw [hz]; rfl
             rw [this]; exact VL.nil β
           · have hz' : n * size = 0 := hz
             rw [hz']; rfl
         · rw [if_neg hz] at h5
           obtain ⟨ys, g1, g2, g3⟩ := row_part hrow (read_elem hq) (off := off) (n := n.mul size) (by omega)
           exact ⟨_, c, rfl, .inr ⟨_, ys, rfl, g1, g2, g3⟩⟩
     · cases h2
 · cases hn
theorem VL.bytes (l : List UInt8) : VL β (mapL byteV l) (l.map byteV) := by
 rw [mapL_eq]
 exact VL.map (fun x => .atom rfl) l
theorem byteCells_map (s : ByteArray) : byteCells s = s.data.toList.map byteV := rfl
theorem newsT_run (hr : HR A β H w) (hA : ∀ b, memN H.ban b = false → A b) {t u e : TypeId} {size m : Nat} {news : List Value} {x y : Value} (hu : P.underlying t = some (.slice e)) (h : VR β x y) (hn : newsT P H t u size x = some (m, news)) :
  ∃ news', VL β news news' ∧ news'.length = m * size ∧ (oneL news = true → Src P size u y m news' w) ∧ (m = 0 → news' = []) := by
 unfold newsT at hn
 split at hn
 · rename_i s
   rcases cond_split hn with ⟨h1, h2⟩ | ⟨h1, h2⟩
   · obtain ⟨h3, h4⟩ := and_split h1
     have h3 := strT_eq h3
     have h4 := of_beq h4
     subst h4
     have h2 := Option.some.inj h2
     have h5 : s.size = m := congrArg Prod.fst h2
     have h6 : mapL byteV s.data.toList = news := congrArg Prod.snd h2
     subst h5
     subst h6
     obtain rfl := h.string
     have hz : (byteCells s).length = s.size := byteCells_length s
     refine ⟨byteCells s, by rw [byteCells_map]; exact VL.bytes _, by omega, fun _ => Src.ofString w h3 s, fun e => List.eq_nil_of_length_eq_zero (by omega)⟩
   · cases h2
 · rcases cond_split hn with ⟨h1, h2⟩ | ⟨h1, h2⟩
   · obtain rfl := of_beq h1
     have hnil : m = 0 → news = [] := by
      intro e
      subst e
      unfold newsS at h2
      split at h2
      · cases h2; rfl
      · rcases cond_split h2 with ⟨h3, h4⟩ | ⟨h3, h4⟩
        · have := congrArg Prod.snd (Option.some.inj h4); exact this.symm
        · split at h4
          · obtain ⟨l, h5, h6⟩ := Option.map_eq_some_iff.1 h4
            injection h6 with h6a h6b
            rw [h6a] at h3; cases h3
          · cases h4
      · cases h2
     obtain ⟨a', c', rfl, hh⟩ := news_run hr hA h h2
     rcases hh with h3 | ⟨ad, news', rfl, h3, h4, h5⟩
     · subst h3
       have := hnil rfl
       subst this
       refine ⟨[], VL.nil β, by simp, fun _ => ?_, fun _ => rfl⟩
       cases a' with
       | none => exact Src.ofNil w hu c'
       | some ad => exact Src.ofSlice w hu ad 0 c' [] (by simp) (fun j u hj => by simp at hj) (fun u hu => by cases hu)
     · refine ⟨news', h3, h4, fun ho => Src.ofSlice w hu ad m c' news' h4 h5 (h3.ones ho), fun e => ?_⟩
       have := hnil e
       subst this
       exact List.eq_nil_of_length_eq_zero (by have := h3.1; simpa using this.symm)
   · cases h2
theorem append_none (t u ty e : TypeId) (hu : P.underlying t = some (.slice e)) {i : TypeInfo} (hi : P.info? e = some i) (a : Option Addr) (n c : Nat) (x : Value) (hs : Src P i.size u x 0 [] w) (hn : n ≤ c) :
  (Builtin.append_ #[t, u] ty #[.slice a n c, x]).run P w = .ok (.slice a n c) w := by
 have hf := hs.cells
 rcases hs.kind with ⟨e', hk⟩ | hk <;> cases a with
 | none => simp [Builtin.append_, under_run hu, under_run hk, sizeOf, info_run hi, hs.len, hn, hf]
 | some ad => simp [Builtin.append_, under_run hu, under_run hk, sizeOf, info_run hi, hs.len, hn, hf, storeCells]
theorem append_room (t u ty e : TypeId) (i : TypeInfo) (ht : P.underlying t = some (.slice e)) (hi : P.info? e = some i)
  (g sLen sCap : Nat) (cur : Array Value) (hg : w.heap[g]? = some (.cells cur e (0, 0)))
  (x : Value) (m : Nat) (news : List Value) (hs : Src P i.size u x m news w)
  (hroom : sLen + m ≤ sCap) (hfit : sLen * i.size + news.length ≤ cur.size) :
  (Builtin.append_ #[t, u] ty #[.slice (some ⟨g, 0, none⟩) sLen sCap, x]).run P w =
    .ok (.slice (some ⟨g, 0, none⟩) (sLen + m) sCap) (w.setRow g (cur.toList.take (sLen * i.size) ++ news ++ cur.toList.drop (sLen * i.size + news.length)).toArray) := by
 have hst := run_storeCells_at P g (sLen * i.size) e news 0 cur w hg (by simpa using hfit) hs.one
 simp only [Nat.add_zero] at hst
 have hf := hs.cells
 rcases hs.kind with ⟨e', hk⟩ | hk <;> simp [Builtin.append_, run_underlying ht, run_underlying hk, sizeOf, typeInfo, hi, hs.len, hroom, hf, Addr.add_lit, hst]
theorem Does.after {H1 : Hp} {s : Sem Next} {e : TypeId} {b n k : Nat} {q : Blk} {news : List Value} (hr : HR A β H w) (hr1 : HR A β H1 w) (hw : WF H) (h : St β H w β H1 w) (hd : Does P A β H1 w s (growS H1 e b n k q news)) : Does P A β H w s (growS H1 e b n k q news) := by
 unfold growS roomS at hd ⊢
 cases hc : (Nat.ble H1.next 131000 && Nat.blt e mapE) with
 | false => trivial
 | true =>
   rw [hc] at hd
   obtain ⟨β', v', w', h1, h2, h3, h4, h5⟩ := hd
   exact ⟨β', v', w', h1, St.tr hr hr1 hw h h2, h3, h4, h5⟩
theorem growS_does (hw : WF H) (hr : HR A β H w) {t u ty e : TypeId} (hu : P.underlying t = some (.slice e)) {i : TypeInfo} {zv : Value} (g1 : P.info? e = some i) (g2 : i.zero = some zv) (g3 : zv.cells.size = i.size) {y2 : Value} {n k c b : Nat} {news news' : List Value} {q : Blk} {kk : Bk}
  (hk0 : k ≠ 0) (q2 : (n + k) * i.bytes ≤ 1000000000) (q3 : n + k ≤ 1000000000) (q4 : 1 ≤ i.size) (hvl : VL β news news') (hlen : news'.length = k * i.size) (hsrc : Src P i.size u y2 k news' w)
  (hk : β b = some kk) (v1 : H.tr.get b = some q) (v2 : H.since q ≤ b) (v3 : memN H.ban q.grp = false) (hAq : A q.grp) (hel : q.elem < mapE) (u1 : q.cells.length = n * i.size) (u2 : H.newest q = b) (u3 : q.elem = e) (u4 : q.size = i.size)
  (hnc : n ≤ c) (hcm : c ≤ 9223372036854775807) (hc0 : c * kk.size = kk.cap) (hkk : q.size = kk.size) :
  Does P A β H w (do pure (Next.value (← Builtin.append_ #[t, u] ty #[.slice (some ⟨kk.blk, 0, none⟩) n c, y2]))) (growS H e b n k q news) := by
 unfold growS
 obtain ⟨cur, w1, w2, w3⟩ := (hr.row b kk q hk v1 v2 hAq).cells hel
 have hcur : cur.size = c * i.size := by rw [w2, ← hc0, ← hkk, u4]
 have hnc' : n * i.size ≤ cur.size := by rw [hcur]; exact Nat.mul_le_mul_right _ hnc
 have hold : VL β q.cells (cur.toList.take (n * i.size)) := ⟨by simp; omega, fun j x y hx hy => by
  rw [List.getElem?_take] at hy
  split at hy
  · rw [Array.getElem?_toList] at hy
    obtain ⟨y', hy', hv⟩ := w3 j x hx
    rw [hy'] at hy; cases hy; exact hv
  · cases hy⟩
 refine room_does (fun hm131 hme => ?_)
 rw [u3] at w1
 rw [catL_eq]
 by_cases hroom : n + k ≤ c
 · have hfit : n * i.size + news'.length ≤ cur.size := by rw [hlen, hcur, ← Nat.add_mul]; exact Nat.mul_le_mul_right _ hroom
   have hrun := append_room (P := P) (w := w) t u ty e i hu g1 kk.blk n c cur w1 y2 k news' hsrc hroom hfit
   have hsz : (cur.toList.take (n * i.size) ++ news' ++ cur.toList.drop (n * i.size + news'.length)).toArray.size = kk.cap := by
    rw [← w2]; simp; omega
   obtain ⟨r1, r2, r3⟩ := grown hw hr hm131 hk v1 u2 v2 hAq v3 hel news kk.blk (cur.toList.take (n * i.size) ++ news' ++ cur.toList.drop (n * i.size + news'.length)).toArray
    (by
      intro j x hx
      obtain ⟨y, hy, hv⟩ := (hold.append hvl).get hx
      refine ⟨y, ?_, hv⟩
      have hj := (List.getElem?_eq_some_iff.1 hy).1
      have : (cur.toList.take (n * i.size) ++ news' ++ cur.toList.drop (n * i.size + news'.length))[j]? = some y := by
       rw [List.getElem?_append_left hj]; exact hy
      simpa using this)
    (.inl ⟨by rw [u3]; exact Over.setRow w kk.blk cur _ e w1, rfl, hsz, fun cs hcs j hj => by
      rw [u3, w1] at hcs
      have : cur = cs := by have := Option.some.inj hcs; injection this
      subst this
      have : (cur.toList.take (n * i.size) ++ news' ++ cur.toList.drop (n * i.size + news'.length))[j]? = cur.toList[j]? := by
       rw [List.append_assoc, List.getElem?_append_left (by simp; omega), List.getElem?_take, if_pos (by omega)]
      simpa using this⟩)
   refine ⟨_, _, _, run_v hrun, r1, VR.slice (k := ⟨kk.blk, _, q.size⟩) (by unfold Bij.put; rw [if_pos rfl]) (show n + k ≤ c from hroom) hcm (fun _ => ?_), r2, r3⟩
   show c * q.size = _
   rw [hsz, hkk]; exact hc0
 · have hold2 : (Builtin.firstCells i.size n (.slice (some ⟨kk.blk, 0, none⟩) n c)).run P w.drew = .ok (cur.toList.take (n * i.size)).toArray w.drew := run_firstCells_some (P := P) w.drew i.size n ⟨kk.blk, 0, none⟩ n c (cur.toList.take (n * i.size)) (by simp; omega)
    (by
      intro j u hju
      rw [List.getElem?_take] at hju
      split at hju
      · rw [Array.getElem?_toList] at hju
        have := cell_of_row w kk.blk j cur _ _ w1
        rw [add_addr, Nat.zero_add]
        simpa [this] using hju
      · cases hju)
   have hrun := run_append_grow_src (P := P) w t u ty e i zv hu g1 g2 (some ⟨kk.blk, 0, none⟩) n c (cur.toList.take (n * i.size)) hold2 y2 k news' hsrc (by omega) (by omega) (growslice_fits (by omega) (by omega))
   have hge := grownCap_ge w (n + k) c e
   have hle := grownCap_le_maxLen w (n + k) c e (by unfold maxLen; omega)
   have hsz : ((cur.toList.take (n * i.size) ++ news').toArray ++ Builtin.zeroCells zv.cells (grownCap w (n + k) c e - (n + k))).size = grownCap w (n + k) c e * i.size := by
    simp only [Array.size_append, List.size_toArray, List.length_append, size_zeroCells, g3, hlen, List.length_take, Array.length_toList]
    rw [Nat.min_eq_left hnc', ← Nat.add_mul, ← Nat.add_mul]; congr 1; omega
   obtain ⟨r1, r2, r3⟩ := grown hw hr hm131 hk v1 u2 v2 hAq v3 hel news w.heap.size ((cur.toList.take (n * i.size) ++ news').toArray ++ Builtin.zeroCells zv.cells (grownCap w (n + k) c e - (n + k)))
    (by
      intro j x hx
      obtain ⟨y, hy, hv⟩ := (hold.append hvl).get hx
      refine ⟨y, ?_, hv⟩
      have hj := (List.getElem?_eq_some_iff.1 hy).1
      rw [Array.getElem?_append_left (by simpa using hj)]
      simpa using hy)
    (.inr ⟨by rw [u3]; exact Grew.drew_alloc w _ e, rfl⟩)
   refine ⟨_, _, _, run_v hrun, r1, VR.slice (k := ⟨w.heap.size, _, q.size⟩) (by unfold Bij.put; rw [if_pos rfl]) hge (by unfold maxLen at hle; omega) (fun _ => ?_), r2, r3⟩
   show grownCap w (n + k) c e * q.size = _
   rw [hsz, u4]
theorem append_does (hw : WF H) (hr : HR A β H w) (hA : ∀ b, memN H.ban b = false → A b) {t u ty : TypeId} {l m : List Value} (hl : VL β l m) :
  Does P A β H w (do pure (Next.value (← Builtin.append_ #[t, u] ty m.toArray))) (appendU P H t u l) := by
 unfold appendU
 split
 · rename_i a n c0 x
   obtain ⟨y1, r1, rfl, h1, hr1⟩ := hl.uncons
   obtain ⟨y2, r2, rfl, h2, hr2⟩ := hr1.uncons
   obtain rfl : r2 = [] := by have := hr2.1; simpa using this.symm
   split
   · rename_i e he
     have hu := sliceE_eq (show sliceE P t = some e from he)
     unfold appendT
     split
     · rename_i z size bytes hz hs hb
       obtain ⟨i, zv, g1, g2, rfl, g3, g4⟩ := zeroN_eq hz
       obtain ⟨i', g5, g6⟩ := sizeN_eq hs
       rw [g1] at g5; cases g5; subst g6
       obtain ⟨i', g5, g6⟩ := bytesN_eq hb
       rw [g1] at g5; cases g5; subst g6
       unfold appendN
       split
       · rename_i k news hnews
         obtain ⟨news', hvl, hlen, hsrc, hnil⟩ := newsT_run hr hA hu h2 hnews
         cases hm : Nat.beq k 0 with
         | true =>
           obtain rfl := of_beq hm
           show Does P A β H w _ (.val (.slice a n n) H)
           have hv : ∃ a' c, y1 = .slice a' n c ∧ n ≤ c ∧ VR β (.slice a n n) y1 := by
            rcases h1.slice_inv with ⟨rfl, rfl, rfl⟩ | ⟨rfl, a', c, rfl, rfl⟩ | ⟨b, off, kk, c, rfl, hk, hnc, hcm, h0, rfl⟩
            · exact ⟨none, 0, rfl, Nat.le_refl _, .atom rfl⟩
            · exact ⟨some a', c, rfl, Nat.zero_le _, .void a' c⟩
            · exact ⟨_, c, rfl, hnc, .slice hk hnc hcm h0⟩
           obtain ⟨a', c, rfl, hnc, hv⟩ := hv
           have hn0 := hnil rfl
           subst hn0
           have hz : news = [] := List.eq_nil_of_length_eq_zero (by have := hvl.1; simpa using this)
           subst hz
           have hs0 := hsrc rfl
           exact ⟨β, _, w, run_v (append_none t u ty e hu g1 a' n c y2 hs0 hnc), St.refl _ _ _, hv, hr, hw⟩
         | false =>
           have hk0 : k ≠ 0 := fun e => by subst e; cases hm
           show Does P A β H w _ (cond _ _ _)
           cases hcc : (oneL news && (Nat.ble (Nat.mul (Nat.add n k) i.bytes) 1000000000 && (Nat.ble (Nat.add n k) 1000000000 && Nat.ble 1 i.size))) with
           | false => trivial
           | true =>
             obtain ⟨q1, q2⟩ := and_split hcc
             obtain ⟨q2, q3⟩ := and_split q2
             obtain ⟨q3, q4⟩ := and_split q3
             have q2 : (n + k) * i.bytes ≤ 1000000000 := of_ble q2
             have q3 : n + k ≤ 1000000000 := of_ble q3
             have q4 := of_ble q4
             have hsrc := hsrc q1
             have hones := hvl.ones q1
             show Does P A β H w _ (appendA H e i.size n k news a)
             unfold appendA
             split
             · cases hn : Nat.beq n 0 with
               | false => trivial
               | true =>
                 obtain rfl := of_beq hn
                 rcases h1.slice_inv with ⟨_, _, rfl⟩ | ⟨_, a', c, h, _⟩ | ⟨b, off, kk, c, h, _⟩
                 · have hrun := run_append_grow_src (P := P) w t u ty e i zv hu g1 g2 none 0 0 [] (run_firstCells_none w.drew i.size 0 0 0) y2 k news' hsrc (by omega) (by omega) (growslice_fits (by omega) (by omega))
                   rw [Nat.zero_add] at hrun
                   have hge := grownCap_ge w k 0 e
                   have hle := grownCap_le_maxLen w k 0 e (by unfold maxLen; omega)
                   refine newL_does hw hr news e i.size k (grownCap w k 0 e) _ ?_ hge (by unfold maxLen at hle; omega) ?_ (Grew.drew_alloc w _ e) (run_v hrun)
                   · intro j x hx
                     obtain ⟨y, hy, hv⟩ := hvl.get hx
                     exact ⟨y, by rw [Array.getElem?_append_left (by have := (List.getElem?_eq_some_iff.1 hy).1; simpa using this)]; simpa using hy, hv⟩
                   · rw [Array.size_append, size_zeroCells, g3]; simp only [List.size_toArray, List.nil_append]; rw [hlen, ← Nat.add_mul]; congr 1; omega
                 · cases h
                 · cases h
             · rename_i b
               unfold appendB
               split
               · rename_i q hq
                 cases hc2 : (Nat.ble (Nat.mul n i.size) (lenL q.cells) && (Nat.beq (H.newest q) b && (Nat.beq q.elem e && Nat.beq q.size i.size))) with
                 | false => trivial
                 | true =>
                   obtain ⟨u1, u2⟩ := and_split hc2
                   obtain ⟨u2, u3⟩ := and_split u2
                   obtain ⟨u3, u4⟩ := and_split u3
                   have u1 : n * i.size ≤ lenL q.cells := of_ble u1
                   rw [lenL_eq] at u1
                   have u2 := of_beq u2
                   have u3 := of_beq u3
                   have u4 := of_beq u4
                   obtain ⟨v1, v2, v3⟩ := read_inv hq
                   have hp := hw.pos v1
                   rcases h1.slice_inv with ⟨h, _⟩ | ⟨_, a', c, h, _⟩ | ⟨b', off, kk, c, h, hk, hnc, hcm, h0, rfl⟩
                   · cases h
                   · cases h; omega
                   · cases h
                     have hc0 := h0 rfl
                     have hkk : q.size = kk.size := by
                      obtain ⟨_, _, q', e1, e2⟩ := hr.dom b kk hk
                      rw [v1] at e1; cases e1; exact e2
                     have hAq := hA _ v3
                     show Does P A β H w _ (cond (Nat.beq (lenL q.cells) (Nat.mul n i.size)) _ _)
                     cases hfull : Nat.beq (lenL q.cells) (Nat.mul n i.size) with
                     | true =>
                       have u1' : lenL q.cells = n * i.size := of_beq hfull
                       rw [lenL_eq] at u1'
                       exact growS_does hw hr hu g1 g2 g3 hk0 q2 q3 q4 hvl hlen hsrc hk v1 v2 v3 hAq (read_elem hq) u1' u2 u3 u4 hnc hcm hc0 hkk
                     | false =>
                       show Does P A β H w _ (growC H e b n k q news (takeN (Nat.mul n i.size) q.cells))
                       unfold growC
                       rw [takeN_eq, show Nat.mul n i.size = n * i.size from rfl]
                       have hrow := hr.row b kk q hk v1 v2 hAq
                       have hel := read_elem hq
                       obtain ⟨t1, t2, t3⟩ := stored0 hw hr hk v1 u2 v3 (q.cells.take (n * i.size)) (w' := w) ⟨rfl, rfl, rfl, rfl, fun _ _ => rfl⟩
                        (by
                          obtain ⟨cs, x1, x2, x3⟩ := hrow.cells (read_elem hq)
                          exact RowV.of hel x1 x2 (fun j x hx => x3 j x (by rw [List.getElem?_take] at hx; split at hx; exact hx; cases hx)))
                       have hget : (H.write b q (q.cells.take (n * i.size))).tr.get b = some ⟨q.cells.take (n * i.size), q.elem, q.size, q.grp⟩ := by rw [write_get hw v1, if_pos rfl]
                       have hsin : (H.write b q (q.cells.take (n * i.size))).since ⟨q.cells.take (n * i.size), q.elem, q.size, q.grp⟩ ≤ b := by
                        rw [write_since hw v1]
                        split
                        · exact Nat.le_refl _
                        · exact v2
                       have hnw : (H.write b q (q.cells.take (n * i.size))).newest ⟨q.cells.take (n * i.size), q.elem, q.size, q.grp⟩ = b := by rw [write_newest hw v1]; exact u2
                       exact Does.after hr t2 hw t1 (growS_does t3 t2 hu g1 g2 g3 hk0 q2 q3 q4 hvl hlen hsrc hk hget hsin v3 hAq hel (by simp only [List.length_take]; omega) hnw u3 u4 hnc hcm hc0 hkk)
               · trivial
             · trivial
       · trivial
     · trivial
   · trivial
 · trivial
end
end Go.Proofs.Ytkgbifbbpmdpgaa.Sh
