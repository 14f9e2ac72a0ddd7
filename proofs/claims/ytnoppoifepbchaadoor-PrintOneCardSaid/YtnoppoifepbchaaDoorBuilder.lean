/- strings.Builder's WriteString at this program. -/
import Derived.Test.YtnoppoifepbchaaDoorShelf
import Derived.Test.YtnoppoifepbchaaDoorChecked
import Derived.Lib.Builder
import Derived.Lib.AppendStr
import Derived.Shelf.Strings.Builder1
import Derived.Test.YtnoppoifepbchaaDoorName
import Derived.Test.YtnoppoifepbchaaDoorApp
import Derived.Lib.AppendIntMem
import Derived.IntWalk
namespace Go.Proofs.YtnoppoifepbchaaDoor
section
open Go.RowKit
set_option linter.unusedVariables false

theorem Tryd.sizeBuilder : (Tryd.prog.info? 87).map (·.size) = some 2 := by kernel_rfl
theorem Tryd.liesBuilder : liesAt Tryd.prog Tryd.prog.depth 87 (2 / Tryd.prog.cellsOf 87) 0 87 1 = true := by kernel_rfl
theorem Tryd.infoByte : (Tryd.prog.info? 5).map (fun i => (i.zero, i.size, i.bytes)) = some (some (.int .u8 0), 1, 1) := by kernel_rfl

set_option maxHeartbeats 1000000 in
set_option maxRecDepth 100000 in
theorem copyCheck_used (b : Nat) (w : World) (h0 : w.cell? ⟨b, 0, none⟩ = some (.pointer (some ⟨b, 0, none⟩))) :
  Calls Tryd.prog 69 #[.pointer (some ⟨b, 0, none⟩)] w fun e w' => e = .returned (.tuple #[]) ∧ w' = w := by
 obtain ⟨j, hj, _⟩ := Option.map_eq_some_iff.1 Tryd.sizeBuilder
 go_enter Tryd.func69, Tryd.ntmps69
 go_wp2
 rw [Lib.run_neq_ptr_same w _ Tryd.underlying85 hj]
 go_wp2
 go_end0
 exact ⟨rfl, rfl⟩

set_option maxHeartbeats 1000000 in
set_option maxRecDepth 100000 in
theorem copyCheck_fresh (b : Nat) (w : World) (h0 : w.cell? ⟨b, 0, none⟩ = some (.pointer none)) (hsh : w.shape? b = some (87, 2)) (hfz : w.frozen? ⟨b, 0, none⟩ = false) :
  Calls Tryd.prog 69 #[.pointer (some ⟨b, 0, none⟩)] w fun e w' => e = .returned (.tuple #[]) ∧ w' = w.setCell ⟨b, 0, none⟩ (.pointer (some ⟨b, 0, none⟩)) := by
 obtain ⟨j, hj, hjs⟩ := Option.map_eq_some_iff.1 Tryd.sizeBuilder
 go_enter Tryd.func69, Tryd.ntmps69
 go_wp2
 rw [Lib.run_to_unsafe w ⟨b, 0, none⟩ Tryd.underlying85 Tryd.underlying129 hj (by rw [hjs]; decide) hsh (Nat.zero_lt_succ 1)]
 simp only [Result.andThen]
 rw [Oper.upon_value]
 go_wp2
 rw [run_callFunc_extern Tryd.func100 (by kernel_rfl) (by kernel_rfl) (by kernel_rfl) (e := Extern.AbiNoEscape.same) (by kernel_rfl)]
 rw [Lib.run_noEscape]
 simp only [Result.andThen]
 rw [Oper.upon_value]
 go_wp2
 rw [Lib.run_from_unsafe w ⟨b, 0, none⟩ Tryd.underlying129 Tryd.underlying85 hj hsh Tryd.liesBuilder]
 simp only [Result.andThen]
 rw [Oper.upon_value]
 go_wp2
 go_end0
 exact ⟨rfl, rfl⟩

theorem copyCheck_any (B b : Nat) (bs : List Value) (w : World) (h : Lib.IsBuilder 87 5 B b bs w) :
  Calls Tryd.prog 69 #[.pointer (some ⟨b, 0, none⟩)] w fun e w' => e = .returned (.tuple #[]) ∧ (Lib.BuilderAt 87 5 B b (.pointer (some ⟨b, 0, none⟩)) bs w' ∧ Below B w w') := by
 rcases h with h | h
 · refine (copyCheck_fresh b w h.cell0 h.shape h.frozen0).mono ?_
   rintro e w' ⟨rfl, rfl⟩
   exact ⟨rfl, h.used _, (Below.refl B w).setCell (p := ⟨b, 0, none⟩) h.1 _⟩
 · refine (copyCheck_used b w h.cell0).mono ?_
   rintro e w' ⟨rfl, rfl⟩
   exact ⟨rfl, h, Below.refl B _⟩

set_option maxHeartbeats 1000000 in
set_option maxRecDepth 100000 in
theorem writeString_any (B b : Nat) (bs : List Value) (s : ByteArray) (w : World) (h : Lib.IsBuilder 87 5 B b bs w) (hlen : bs.length + s.size ≤ 140737488355328) (hBw : B ≤ w.heap.size) :
  Calls Tryd.prog 37 #[.pointer (some ⟨b, 0, none⟩), .string s] w fun e w' => e = .returned (.tuple #[.int .i64 s.size, .nilIface]) ∧ (Lib.BuilderAt 87 5 B b (.pointer (some ⟨b, 0, none⟩)) (bs ++ Lib.strCells s) w' ∧ Below B w w') := by
 obtain ⟨i0, hi, hz0, hz1, hz2⟩ := info_parts Tryd.infoByte
 go_enter Tryd.func37, Tryd.ntmps37
 go_wp2_with (go_at_call 69; refine (copyCheck_any B b bs _ h).mono ?_)
 rintro e w1 ⟨rfl, h1, hb1⟩
 obtain ⟨hB, v, hbk, hown, hne⟩ := h1
 have c0 : w1.cell? ⟨b, 0, none⟩ = some (.pointer (some ⟨b, 0, none⟩)) := by rw [Lib.cell_of_heap hbk]; rfl
 have c1 : w1.cell? ⟨b, 1, none⟩ = some v := by rw [Lib.cell_of_heap hbk]; rfl
 go_wp2_with (at_builtin; refine Lib.wpList_append_own_string _ rfl _ _ 63 9 rfl B 5 i0 Tryd.underlying63 Tryd.underlying9 hi hz0 hz1 hz2 _ _ _ rfl hown s rfl ?c3 ?c4 ?c5 ?_)
 case c3 => unfold maxLen; omega
 case c4 => omega
 case c5 => have := hb1.size; omega
 intro v' w2 hown' hgrow _
 have hlt : b < w1.heap.size := by
  rcases Nat.lt_or_ge b w1.heap.size with h' | h'
  · exact h'
  · simp [Array.getElem?_eq_none h'] at hbk
 have hb2 : w2.heap[b]? = some (.cells #[.pointer (some ⟨b, 0, none⟩), v] 87 (0, 0)) := by
  rw [hgrow.block b hlt (fun e => hne e.symm)]
  exact hbk
 have d0 : w2.cell? ⟨b, 0, none⟩ = some (.pointer (some ⟨b, 0, none⟩)) := by rw [Lib.cell_of_heap hb2]; rfl
 have d1 : w2.cell? ⟨b, 1, none⟩ = some v := by rw [Lib.cell_of_heap hb2]; rfl
 have f1 : w2.frozen? ⟨b, 1, none⟩ = false := Lib.frozen_of_heap hb2 1
 obtain ⟨ao, n', cap, rfl⟩ : ∃ ao n' cap, v' = .slice ao n' cap := by
  rcases hown'.2 with ⟨hv, _⟩ | ⟨g, cap, cur, hv, _⟩
  · exact ⟨_, _, _, hv⟩
  · exact ⟨_, _, _, hv⟩
 go_wp2
 go_ret2
 refine ⟨rfl, ?_, ?_⟩
 · exact Lib.BuilderAt.put (T := 87) (e := 5) hB hb2 (bs' := bs ++ Lib.strCells s) (by simpa [Lib.strCells_length] using hown') (by decide)
 · exact (hb1.grown hgrow (by have := hb1.size; omega) (fun k hk => (hown.lt k hk).1)).setCell (p := ⟨b, 1, none⟩) hB _
end
section
section
open Go.RowKit
set_option linter.unusedVariables false

/-- what the laid variables give the walks -/
structure Env (w : World) : Prop where
 max : MaxAt w
 tab : Lib.TabIs Tryd.prog w "internal/strconv.uint64pow10" .u64 Lib.pow10Tab

theorem tabIs_below {P : Program} {w w' : World} {name : String} {k : IntKind} {zs : List Int} (h : Lib.TabIs P w name k zs) (hb : Below w.heap.size w w') : Lib.TabIs P w' name k zs := by
 unfold Lib.TabIs World.var? at *
 cases hg : P.globalNamed name with
 | none => simp [hg] at h
 | some g =>
   simp only [hg, Option.bind_some] at h ⊢
   have hlt : g < w.heap.size := by
    rcases Nat.lt_or_ge g w.heap.size with h' | h'
    · exact h'
    · rw [Array.getElem?_eq_none h'] at h; simp at h
   rw [hb.block g hlt]
   exact h
theorem Env.below {w w' : World} (h : Env w) (hb : Below w.heap.size w w') : Env w' := ⟨h.max.below hb, tabIs_below h.tab hb⟩


theorem str_empty {t : ByteArray} (h : t.size = 0) : t.toList = [] := by
 apply List.eq_nil_of_length_eq_zero
 rw [Lib.toList_data]; exact h
theorem str_some {t : ByteArray} (h : ¬ t.size = 0) : t.toList.isEmpty = false := by
 rw [List.isEmpty_eq_false_iff, Lib.toList_data]
 intro e
 exact h (by have := congrArg List.length e; simpa using this)


theorem ba_empty (a : ByteArray) : a ++ ByteArray.empty = a := by
 apply ByteArray.ext; rw [ByteArray.data_append]; simp [ByteArray.empty, ByteArray.emptyWithCapacity]; rfl

def numT (n : Int) : ByteArray := ⟨(Lib.itoa n).toArray⟩
theorem numT_size (n : Int) (h0 : 0 ≤ n) (h1 : n ≤ 999) : (numT n).size ≤ 3 := by
 obtain ⟨k, rfl⟩ := Int.eq_ofNat_of_zero_le h0
 have e : (numT (k : Int)).size = Lib.nDigits k := by
  show (Lib.itoa (k : Int)).toArray.size = _
  unfold Lib.itoa
  rw [if_neg (by omega)]
  simp [Lib.decDigits_length]
 rw [e, Lib.nDigits]
 split
 · omega
 · rw [Lib.nDigits]
   split
   · omega
   · rw [Lib.nDigits]
     split <;> omega

theorem itoa_any (n : Int) (w : World) (h0 : 0 ≤ n) (h1 : n ≤ 1000000) (hE : Env w) :
  Calls Tryd.prog 72 #[.int .i64 n] w fun e w' => e = .returned (.string (numT n)) ∧ Below w.heap.size w w' := by
 refine (Tryd.strconv_Itoa n (by omega) (by omega) w hE.tab).mono ?_
 rintro e w' ⟨rfl, k, os, rfl⟩
 exact ⟨rfl, Lib.below_grow _ _ (Nat.le_refl _) _ _⟩


theorem own_below {w w' : World} {base : Nat} {e : TypeId} {size n : Nat} {v : Value} {xs : List Value} (h : w.ownsRow base e size v n xs) (hb : Below w.heap.size w w') : w'.ownsRow base e size v n xs := by
 obtain ⟨h1, h2⟩ := h
 refine ⟨h1, ?_⟩
 rcases h2 with h2 | ⟨g, cap, cur, hv, hg, hh, r⟩
 · exact .inl h2
 · exact .inr ⟨g, cap, cur, hv, hg, block_below hh hb (lt_of_block hh), r⟩
theorem isBuilder_below {T e : TypeId} {B b : Nat} {bs : List Value} {w w' : World} (h : Lib.IsBuilder T e B b bs w) (hb : Below w.heap.size w w') : Lib.IsBuilder T e B b bs w' := by
 rcases h with ⟨h1, v, h2, h3, h4⟩ | ⟨h1, v, h2, h3, h4⟩
 · exact .inl ⟨h1, v, block_below h2 hb (lt_of_block h2), own_below h3 hb, h4⟩
 · exact .inr ⟨h1, v, block_below h2 hb (lt_of_block h2), own_below h3 hb, h4⟩


/-- a text, cut -/
def cutT (s : ByteArray) (m : Nat) : ByteArray := if m < s.size then s.extract 0 m else s
theorem cutT_size (s : ByteArray) (m : Nat) : (cutT s m).size ≤ m := by
 unfold cutT; split
 · simp; omega
 · omega

theorem text_any (s : ByteArray) (m : Nat) (w : World) (hs : s.size ≤ maxLen) (hm : m ≤ 1000000) :
  Calls Tryd.prog 22 #[.string s, .int .i64 m] w fun e w' => e = .returned (.string (cutT s m)) ∧ w = w' := by
 unfold maxLen at hs
 by_cases h : m < s.size
 · have hc := Lib.hid (show cutT s m = s.extract 0 m from if_pos h)
   have hm' : m ≤ s.size := Nat.le_of_lt h
   have d1 : decide ((m : Int) < (s.size : Int)) = true := by simp; omega
   go_enter Tryd.func22, Tryd.ntmps22
   go_wp2
   go_ret
   exact ⟨ret_str hc.out.symm, rfl⟩
 · have hc := Lib.hid (show cutT s m = s from if_neg h)
   have d1 : decide ((m : Int) < (s.size : Int)) = false := by simp; omega
   go_enter Tryd.func22, Tryd.ntmps22
   go_wp2
   go_ret
   exact ⟨ret_str hc.out.symm, rfl⟩

end

section
open Go.RowKit
set_option linter.unusedVariables false

theorem tmod_emod (i : Int) (n : Nat) (hn : 0 < n) : (if Int.tmod i n < 0 then Int.tmod i n + n else Int.tmod i n) = i % n := by
 have h := Int.emod_nonneg i (show (n : Int) ≠ 0 by omega)
 by_cases h0 : 0 ≤ i
 · rw [Int.tmod_eq_emod_of_nonneg h0, if_neg (by omega)]
 · rw [Int.tmod_eq_emod]
   split <;> rename_i h1
   · rcases h1 with h1 | h1
     · omega
     · have : i % n = 0 := Int.emod_eq_zero_of_dvd h1
       rw [this]
       simp
   · have h2 := Int.emod_lt_of_pos i (show (0 : Int) < n by omega)
     have e : ((n : Int).natAbs : Int) = n := by omega
     rw [e, if_pos (by omega)]; omega

set_option maxRecDepth 100000 in
theorem within_any (i : Int) (n : Nat) (w : World) (hi : (Lit.int .i64 i).wf = true) (hn : 0 < n) (hn2 : n ≤ 1000000) :
  Calls Tryd.prog 9 #[.int .i64 i, .int .i64 n] w fun e w' => e = .returned (.int .i64 (i % n)) ∧ w = w' := by
 have hw : -9223372036854775808 ≤ i ∧ i ≤ 9223372036854775807 := by simpa [Lit.wf, IntKind.min, IntKind.max, IntKind.signed, IntKind.bits] using hi
 have HM := Lib.hid (tmod_emod i n hn)
 have hl : -1000000 ≤ Int.tmod i n ∧ Int.tmod i n ≤ 1000000 := by
  have h := tmod_emod i n hn
  have h1 := Int.emod_nonneg i (show (n : Int) ≠ 0 by omega)
  have h2 := Int.emod_lt_of_pos i (show (0 : Int) < n by omega)
  split at h <;> omega
 obtain ⟨l1, l2⟩ := hl
 go_enter Tryd.func9, Tryd.ntmps9
 go_wp2
 all_goals
  go_ret
  exact ⟨ret_int (by have e := HM.out; grind), rfl⟩

set_option maxRecDepth 100000 in
theorem digitsOf_any (n : Nat) (w : World) (hn : n ≤ 1000000000) :
  Calls Tryd.prog 10 #[.int .i64 n] w fun e w' => e = .returned (.string (numT n)) ∧ Below w.heap.size w w' := by
 have hc1 : ∀ (x : Int) (w : World), (convert 63 9 (.slice (some ⟨w.heap.size,0,none⟩) 1 1)).run Tryd.prog (w.alloc (.cells #[.int .u8 x] 5)) = .ok (.string (bytesOf [x])) (w.alloc (.cells #[.int .u8 x] 5)) :=
  fun x w => run_conv_new w _ _ _ [x] 1 Tryd.underlying63 Tryd.underlying5 Tryd.underlying9
 have HR : Hid ((numT n).data.toList = Lib.decDigits n) := Lib.hid (by unfold numT Lib.itoa; rw [if_neg (by omega)]; rfl)
 generalize numT n = R at HR ⊢
 go_enter Tryd.func10, Tryd.ntmps10
 go_wp2_with fail
 go_loopw [3, 4] (fun x y wr => ∃ (m : Nat) (t : ByteArray), m ≤ n ∧ t.size + m ≤ n + 1 ∧ x = .int .u64 m ∧ y = .string t ∧ Hid (if t.size = 0 then R.data.toList = Lib.decDigits m else R.data.toList = (if m = 0 then [] else Lib.decDigits m) ++ t.data.toList) ∧ Below w.heap.size w wr) (fun x y _ => match y with | .string t => if t.size = 0 then (intOf x).toNat + 2 else (intOf x).toNat | _ => 0)
 case atStart => exact ⟨n, ByteArray.empty, Nat.le_refl _, by show 0 + n ≤ n + 1; omega, rfl, rfl, Lib.hid (by rw [if_pos (show ByteArray.empty.size = 0 from rfl)]; exact HR.out), Below.refl _ _⟩
 case round =>
  obtain ⟨m, t, hm, ht, rfl, rfl, HI, hb⟩ := hrel
  have hs1 := hb.size
  by_cases hex : m = 0 ∧ ¬ t.size = 0
  · obtain ⟨rfl, h0⟩ := hex
    have d1 := str_some h0
    have HE : Hid (R = t) := Lib.hid (by
     have e := HI.out
     rw [if_neg h0, if_pos rfl] at e
     exact ByteArray.ext (Array.toList_inj.1 (by simpa using e)))
    clear h0
    go_wp2_with fail
    go_ret
    exact ⟨ret_str HE.out.symm, hb⟩
  · have hm0 : 0 ≤ (m : Int) % 10 ∧ (m : Int) % 10 ≤ 9 := by omega
    obtain ⟨q0, q1⟩ := hm0
    have hw := IntWalk.u8_in (48 + (m : Int) % 10) ⟨by omega, by omega⟩
    have hz : (bytesOf [48 + (m : Int) % 10]).size = 1 := rfl
    have hbz : (bytesOf [48 + (m : Int) % 10] ++ t).size = t.size + 1 := by rw [ByteArray.size_append, hz]; omega
    have HZ := Lib.hid hbz
    have HI2 : Hid (if (bytesOf [48 + (m : Int) % 10] ++ t).size = 0 then R.data.toList = Lib.decDigits (m / 10) else R.data.toList = (if m / 10 = 0 then [] else Lib.decDigits (m / 10)) ++ (bytesOf [48 + (m : Int) % 10] ++ t).data.toList) := Lib.hid (by
     have e := HI.out
     have ed : (bytesOf [48 + (m : Int) % 10] ++ t).data.toList = [UInt8.ofNat (48 + m % 10)] ++ t.data.toList := by
      rw [ByteArray.data_append, Array.toList_append]
      congr 1
     rw [if_neg (by omega), ed]
     have hd : Lib.decDigits m = (if m / 10 = 0 then [] else Lib.decDigits (m / 10)) ++ [UInt8.ofNat (48 + m % 10)] := by
      rw [Lib.decDigits]
      by_cases h10 : m < 10
      · rw [dif_pos h10, if_pos (by omega), show m % 10 = m by omega]; rfl
      · rw [dif_neg h10, if_neg (by omega)]
     by_cases ht0 : t.size = 0
     · rw [if_pos ht0] at e
       have et : t.data.toList = [] := List.eq_nil_of_length_eq_zero ht0
       rw [e, hd, et]; simp
     · rw [if_neg ht0, if_neg (fun h => hex ⟨h, ht0⟩)] at e
       rw [e, hd, List.append_assoc])
    clear hbz
    by_cases ht0 : t.size = 0
    · have d1 := str_empty ht0
      by_cases hmz : (0 : Int) < (m : Int)
      · go_wp2_with fail
        go_roundw
        case rel => exact ⟨m / 10, _, by omega, by rw [HZ.out]; omega, by go_num, rfl, HI2, hb.alloc hs1 _⟩
        case measure => have := HZ.out; simp [intOf, ht0]; first | omega | (split <;> omega)
      · obtain rfl : m = 0 := by omega
        have e0 : bytesOf [48 + ((0 : Nat) : Int) % 10] = bytesOf [48] := rfl
        rw [e0] at HI2 HZ
        clear hw hmz hz
        go_wp2_with fail
        go_roundw
        case rel => exact ⟨0, _, by omega, by rw [HZ.out]; omega, by go_num, rfl, HI2, hb.alloc hs1 _⟩
        case measure => have hne : ¬ bytesOf [48] = ByteArray.empty := by decide
                        simp [intOf, ht0, hne]
    · have d1 := str_some ht0
      have hmz : (0 : Int) < (m : Int) := by omega
      go_wp2_with fail
      go_roundw
      case rel => exact ⟨m / 10, _, by omega, by rw [HZ.out]; omega, by go_num, rfl, HI2, hb.alloc hs1 _⟩
      case measure => have := HZ.out; simp [intOf, ht0]; first | omega | (split <;> omega)
end

section
open Go.RowKit
set_option linter.unusedVariables false

theorem ba_assoc (a b c : ByteArray) : a ++ b ++ c = a ++ (b ++ c) := by
 apply ByteArray.ext
 simp only [ByteArray.data_append, Array.append_assoc]

end
end
end Go.Proofs.YtnoppoifepbchaaDoor
