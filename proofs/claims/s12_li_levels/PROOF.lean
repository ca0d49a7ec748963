import PyProof.Rows.All
import Wide.All
import OpenK.AllK
import Wide.FinOn
import Open.SpecLaws
import KE.OsGo
import HandS.ForSpec
import HandS.ForMost
import HandS.Walk
import HandS.Wide
import HandS.SortInts
import PySem.Challenge.RW_evenlight_s12_li_levels
set_option Elab.async false
set_option maxRecDepth 100000
set_option maxHeartbeats 4000000
namespace EvM
/-! numbers and lists alone -/
theorem natural_iff {z : Int} {b : Nat} : Sh55Neutral.natural z b = true ↔ 0 ≤ z ∧ z < 2 ^ b := by
  unfold Sh55Neutral.natural
  rw [Bool.and_eq_true, decide_eq_true_eq, decide_eq_true_eq]
def Nn (l : List Int) : Prop := ∀ z ∈ l, 0 ≤ z
def By (l : List Int) : Prop := ∀ z ∈ l, 0 ≤ z ∧ z < 256
theorem By.nn {l : List Int} (h : By l) : Nn l := fun z hz => (h z hz).1
theorem by_of {l : List Int} (h : l.all (fun (z : Int) => Sh55Neutral.natural z 8) = true) : By l := fun z hz => by
  have := natural_iff.mp (List.all_eq_true.mp h z hz)
  exact ⟨this.1, by have h2 := this.2; simpa using h2⟩
def Wd (l : List Int) : Prop := ∀ z ∈ l, 0 ≤ z ∧ z < 65536
theorem Wd.nn {l : List Int} (h : Wd l) : Nn l := fun z hz => (h z hz).1
theorem wd_of {l : List Int} (h : l.all (fun (z : Int) => Sh55Neutral.natural z 16) = true) : Wd l := fun z hz => by
  have := natural_iff.mp (List.all_eq_true.mp h z hz)
  exact ⟨this.1, by have h2 := this.2; simpa using h2⟩
theorem nats_len (l : List Int) : (Sh55Neutral.nats l).length = l.length := by
  unfold Sh55Neutral.nats; rw [List.length_map]
theorem ints_len (l : List Nat) : (Sh55Neutral.ints l).length = l.length := by
  unfold Sh55Neutral.ints; rw [List.length_map]
theorem ints_nats {l : List Int} (h : Nn l) : Sh55Neutral.ints (Sh55Neutral.nats l) = l := by
  unfold Sh55Neutral.ints Sh55Neutral.nats
  rw [List.map_map]
  conv => rhs; rw [← List.map_id l]
  refine List.map_congr_left fun z hz => ?_
  exact Int.toNat_of_nonneg (h z hz)
theorem nats_ints (l : List Nat) : Sh55Neutral.nats (Sh55Neutral.ints l) = l := by
  unfold Sh55Neutral.ints Sh55Neutral.nats
  rw [List.map_map]
  conv => rhs; rw [← List.map_id l]
  rfl
/-- what a list of numbers that are not negative is -/
theorem Nn.eq {l : List Int} (h : Nn l) : ∃ m : List Nat, l = Sh55Neutral.ints m := ⟨_, (ints_nats h).symm⟩
theorem ints_get (l : List Nat) (i : Nat) : (Sh55Neutral.ints l)[i]? = (l[i]?).map fun (n : Nat) => (n : Int) := by
  unfold Sh55Neutral.ints; rw [List.getElem?_map]
theorem num_eq (l : List Nat) (i : Nat) : Sh55.num l i = (l[i]?).getD 0 := by
  unfold Sh55.num; rw [List.getD_eq_getElem?_getD]
end EvM
namespace EvM
/-! pages -/
def isPage (w : Int) (n : Nat) : Bool := Sh55.page w.toNat (n / w.toNat)
theorem isPage_iff {w : Int} {n : Nat} (h0 : 0 ≤ w) : isPage w n = true ↔ (1 ≤ w ∧ w ≤ 256) ∧ 1 ≤ (n : Int) / w ∧ (n : Int) / w ≤ 256 := by
  obtain ⟨m, rfl⟩ : ∃ m : Nat, w = (m : Int) := ⟨w.toNat, by omega⟩
  unfold isPage Sh55.page Sh55.among
  rw [Int.toNat_natCast]
  simp only [Bool.and_eq_true, decide_eq_true_eq]
  rw [← Int.natCast_ediv]
  omega
/-- the same in natural numbers -/
theorem isPage_nat {w : Int} {n : Nat} (h : isPage w n = true) : 1 ≤ w.toNat ∧ w.toNat ≤ 256 ∧ 1 ≤ n / w.toNat ∧ n / w.toNat ≤ 256 := by
  unfold isPage Sh55.page Sh55.among at h
  simp only [Bool.and_eq_true, decide_eq_true_eq] at h
  exact ⟨h.1.1, h.1.2, h.2.1, h.2.2⟩
/-- a place of a page -/
theorem place {w h n c r : Nat} (hl : n = w * h) (hc : c < w) (hr : r < h) : r * w + c < n := by
  have h2 := Nat.mul_le_mul_left w (show r + 1 ≤ h from hr)
  rw [Nat.mul_add, Nat.mul_one, Nat.mul_comm w r] at h2
  omega
theorem nats_get {l : List Int} {i : Nat} (h : i < l.length) : (Sh55Neutral.nats l)[i]? = some (l[i].toNat) := by
  unfold Sh55Neutral.nats
  rw [List.getElem?_map, List.getElem?_eq_getElem h]
  rfl
theorem at_eq {l : List Int} {w c r : Nat} (h : r * w + c < l.length) : Sh55.at_ w (Sh55Neutral.nats l) c r = l[r * w + c].toNat := by
  unfold Sh55.at_
  rw [num_eq, nats_get h]
  rfl
/-- of each place something, row by row; as whole numbers -/
def eachI (w h : Nat) (f : Nat → Nat → Int) : List Int := (List.range h).flatMap fun r => (List.range w).map fun c => f c r
theorem flatMap_congr' {α β : Type} {f g : α → List β} : ∀ {l : List α}, (∀ a, a ∈ l → f a = g a) → l.flatMap f = l.flatMap g
  | [], _ => rfl
  | a :: l, h => by
    rw [List.flatMap_cons, List.flatMap_cons, h a List.mem_cons_self, flatMap_congr' fun b hb => h b (List.mem_cons_of_mem _ hb)]
theorem each_ints (w h : Nat) (f : Nat → Nat → Nat) : Sh55Neutral.ints (Sh55.each w h f) = eachI w h fun c r => ((f c r : Nat) : Int) := by
  unfold Sh55Neutral.ints Sh55.each eachI
  rw [List.map_flatMap]
  refine flatMap_congr' fun r _ => ?_
  rw [List.map_map]
  rfl
theorem eachI_congr {w h : Nat} {f g : Nat → Nat → Int} (e : ∀ c r, c < w → r < h → f c r = g c r) : eachI w h f = eachI w h g := by
  unfold eachI
  refine flatMap_congr' fun r hr => List.map_congr_left fun c hc => e c r (List.mem_range.mp hc) (List.mem_range.mp hr)
theorem eachI_succ (w h : Nat) (f : Nat → Nat → Int) : eachI w (h + 1) f = eachI w h f ++ (List.range w).map fun c => f c h := by
  unfold eachI
  rw [List.range_succ, List.flatMap_append, List.flatMap_singleton]
theorem eachI_len (w h : Nat) (f : Nat → Nat → Int) : (eachI w h f).length = h * w := by
  induction h with
  | zero => simp [eachI]
  | succ h ih => rw [eachI_succ, List.length_append, ih, List.length_map, List.length_range, Nat.add_mul, Nat.one_mul]
theorem eachI_get {w h : Nat} {f : Nat → Nat → Int} {c r : Nat} (hc : c < w) (hr : r < h) : (eachI w h f)[r * w + c]? = some (f c r) := by
  induction h with
  | zero => omega
  | succ h ih =>
    rw [eachI_succ]
    by_cases e : r < h
    · rw [List.getElem?_append_left (by rw [eachI_len]; exact place (Nat.mul_comm h w) hc e)]
      exact ih e
    · have e2 : r = h := by omega
      subst e2
      rw [List.getElem?_append_right (by rw [eachI_len]; omega), eachI_len, Nat.add_sub_cancel_left, List.getElem?_map, List.getElem?_range hc]
      rfl
/-- the same by one running place -/
theorem eachI_flat {w h : Nat} (hw : 0 < w) (f : Nat → Nat → Int) : eachI w h f = (List.range (h * w)).map fun i => f (i % w) (i / w) := by
  refine List.ext_getElem? fun i => ?_
  by_cases hi : i < h * w
  · have hr : i / w < h := (Nat.div_lt_iff_lt_mul hw).mpr hi
    have e := eachI_get (f := f) (Nat.mod_lt i hw) hr
    rw [Nat.mul_comm, Nat.div_add_mod] at e
    rw [e, List.getElem?_map, List.getElem?_range hi]
    rfl
  · rw [List.getElem?_eq_none (by rw [eachI_len]; omega), List.getElem?_eq_none (by rw [List.length_map, List.length_range]; omega)]
end EvM
namespace EvM
/-! lists of natural numbers and of whole numbers, number by number -/
theorem ints_map {x : List Int} {f : Nat → Nat} {g : Int → Int} (h : ∀ z ∈ x, ((f z.toNat : Nat) : Int) = g z) : Sh55Neutral.ints ((Sh55Neutral.nats x).map f) = x.map g := by
  unfold Sh55Neutral.ints Sh55Neutral.nats
  rw [List.map_map, List.map_map]
  exact List.map_congr_left fun z hz => h z hz
theorem ints_zip {x b : List Int} {f : Nat → Nat → Nat} {g : Int → Int → Int} (h : ∀ z ∈ x, ∀ y ∈ b, ((f z.toNat y.toNat : Nat) : Int) = g z y) :
    Sh55Neutral.ints (((Sh55Neutral.nats x).zip (Sh55Neutral.nats b)).map fun p => f p.1 p.2) = (x.zip b).map fun p => g p.1 p.2 := by
  unfold Sh55Neutral.ints Sh55Neutral.nats
  rw [List.zip_map, List.map_map, List.map_map]
  refine List.map_congr_left fun z hz => ?_
  exact h z.1 (List.of_mem_zip hz).1 z.2 (List.of_mem_zip hz).2
theorem zip_get {x b : List Int} {i : Nat} {z y : Int} (h1 : x[i]? = some z) (h2 : b[i]? = some y) : (x.zip b)[i]? = some (z, y) := by
  rw [List.getElem?_zip_eq_some]
  exact ⟨h1, h2⟩
/-- the byte at column c, row r -/
def pix (w : Nat) (x : List Int) (c r : Nat) : Int := (x[r * w + c]?).getD 0
theorem at_cast {w c r : Nat} {x : List Int} (h : Nn x) : ((Sh55.at_ w (Sh55Neutral.nats x) c r : Nat) : Int) = pix w x c r := by
  unfold Sh55.at_ pix
  rw [num_eq]
  unfold Sh55Neutral.nats
  rw [List.getElem?_map]
  cases e : x[r * w + c]? with
  | none => rfl
  | some z =>
    have := h z (List.mem_of_getElem? e)
    show ((z.toNat : Nat) : Int) = z
    omega
theorem pix_get {w c r h : Nat} {x : List Int} (hl : x.length = w * h) (hc : c < w) (hr : r < h) : x[r * w + c]? = some (pix w x c r) := by
  have := place hl hc hr
  unfold pix
  rw [List.getElem?_eq_getElem this]
  rfl
theorem pix_by {w c r : Nat} {x : List Int} (h : By x) : 0 ≤ pix w x c r ∧ pix w x c r ≤ 255 := by
  unfold pix
  cases e : x[r * w + c]? with
  | none => exact ⟨by decide, by decide⟩
  | some z =>
    have := h z (List.mem_of_getElem? e)
    show 0 ≤ z ∧ z ≤ 255
    omega
theorem page_eq {w h : Nat} {x : List Int} (hw : 0 < w) (hl : x.length = w * h) : x = eachI w h (pix w x) := by
  refine List.ext_getElem? fun i => ?_
  by_cases hi : i < h * w
  · have hr : i / w < h := (Nat.div_lt_iff_lt_mul hw).mpr hi
    have e := eachI_get (f := pix w x) (Nat.mod_lt i hw) hr
    have e2 := pix_get hl (Nat.mod_lt i hw) hr
    rw [Nat.mul_comm, Nat.div_add_mod] at e e2
    rw [e, e2]
  · rw [List.getElem?_eq_none (by rw [hl, Nat.mul_comm]; omega), List.getElem?_eq_none (by rw [eachI_len]; omega)]
theorem eachI_map (w h : Nat) (g : Nat → Nat → Int) (f : Int → Int) : (eachI w h g).map f = eachI w h fun c r => f (g c r) := by
  unfold eachI
  rw [List.map_flatMap]
  refine flatMap_congr' fun r _ => ?_
  rw [List.map_map]
  rfl
/-- a row of a page -/
def rowI (w : Nat) (g : Nat → Nat → Int) (r : Nat) : List Int := (List.range w).map fun c => g c r
theorem rowI_len (w : Nat) (g : Nat → Nat → Int) (r : Nat) : (rowI w g r).length = w := by
  unfold rowI
  rw [List.length_map, List.length_range]
theorem rowI_get {w : Nat} {g : Nat → Nat → Int} {r c : Nat} (hc : c < w) : (rowI w g r)[c]? = some (g c r) := by
  unfold rowI
  rw [List.getElem?_map, List.getElem?_range hc]
  rfl
theorem eachI_row {w h : Nat} {g : Nat → Nat → Int} {r : Nat} (hr : r < h) : ((eachI w h g).drop (r * w)).take w = rowI w g r := by
  refine List.ext_getElem? fun i => ?_
  rw [List.getElem?_take, List.getElem?_drop]
  by_cases hi : i < w
  · rw [if_pos hi, eachI_get hi hr, rowI_get hi]
  · rw [if_neg hi, List.getElem?_eq_none (by rw [rowI_len]; omega)]
end EvM
namespace EvM
/-! li_levels -/
theorem levels_okB {lo hi : Int} {x : List Int} (hlo : 0 ≤ lo) (hhi : 0 ≤ hi) : (Sh55.levelsOk lo.toNat hi.toNat (Sh55Neutral.nats x).length) = true ↔ (lo < hi ∧ hi ≤ 255 ∧ x.length ≤ 65536) := by
  rw [nats_len]
  unfold Sh55.levelsOk
  unfold Sh55.few
  simp only [Bool.and_eq_true, decide_eq_true_eq]
  omega
theorem levels_asked {lo hi : Int} {x : List Int} (h : PySh55.li_levels_asked lo hi x = true) : 0 ≤ lo ∧ 0 ≤ hi ∧ By x := by
  have h : (Sh55Neutral.asked1 [[11, lo, hi], x] && _) = true := h
  rw [Bool.and_eq_true] at h
  have h1 : (Sh55Neutral.natural lo 32 && (Sh55Neutral.natural hi 32 && (x.all (fun (z : Int) => Sh55Neutral.natural z 8) && _))) = true := h.1
  rw [Bool.and_eq_true, Bool.and_eq_true, Bool.and_eq_true] at h1
  exact ⟨(natural_iff.mp h1.1).1, (natural_iff.mp h1.2.1).1, by_of h1.2.2.1⟩
theorem levels_bad {lo hi : Int} {x : List Int} (hlo : 0 ≤ lo) (hhi : 0 ≤ hi) (h : ¬ (lo < hi ∧ hi ≤ 255 ∧ x.length ≤ 65536)) : PySh55.li_levels lo hi x = [-2] := by
  show Sh55Neutral.f [[11, lo, hi], x] = _
  unfold Sh55Neutral.f Sh55Neutral.callOf
  have hf : (Sh55.levelsOk lo.toNat hi.toNat (Sh55Neutral.nats x).length) = false := by
    cases e : (Sh55.levelsOk lo.toNat hi.toNat (Sh55Neutral.nats x).length) with
    | false => rfl
    | true => exact absurd ((levels_okB hlo hhi).mp e) h
  simp only [hf]
  rfl
theorem levels_ok {lo hi : Int} {x : List Int} (hlo : 0 ≤ lo) (hhi : 0 ≤ hi) (h : lo < hi ∧ hi ≤ 255 ∧ x.length ≤ 65536) : PySh55.li_levels lo hi x = 0 :: Sh55Neutral.ints ((Sh55Neutral.nats x).map (Sh55.level lo.toNat hi.toNat)) := by
  show Sh55Neutral.f [[11, lo, hi], x] = _
  unfold Sh55Neutral.f Sh55Neutral.callOf
  have hf : (Sh55.levelsOk lo.toNat hi.toNat (Sh55Neutral.nats x).length) = true := (levels_okB hlo hhi).mpr h
  simp only [hf, if_true]
  rfl
end EvM
namespace EvM
def levelI (lo hi v : Int) : Int := if v ≤ lo then 0 else if hi ≤ v then 255 else (255 * (v - lo) + (hi - lo) / 2) / (hi - lo)
theorem level_cast {lo hi v : Int} (hlo : 0 ≤ lo) (h : lo < hi) (hv : 0 ≤ v) : ((Sh55.level lo.toNat hi.toNat v.toNat : Nat) : Int) = levelI lo hi v := by
  obtain ⟨a, rfl⟩ : ∃ a : Nat, lo = a := ⟨lo.toNat, by omega⟩
  obtain ⟨b, rfl⟩ : ∃ a : Nat, hi = a := ⟨hi.toNat, by omega⟩
  obtain ⟨c, rfl⟩ : ∃ a : Nat, v = a := ⟨v.toNat, by omega⟩
  simp only [Int.toNat_natCast]
  unfold Sh55.level levelI
  by_cases h1 : c ≤ a
  · rw [if_pos h1, if_pos (by omega)]
    rfl
  · rw [if_neg h1, if_neg (show ¬ (c : Int) ≤ (a : Int) by omega)]
    by_cases h2 : b ≤ c
    · rw [if_pos h2, if_pos (by omega)]
      rfl
    · rw [if_neg h2, if_neg (by omega)]
      have e1 : (b : Int) - a = ((b - a : Nat) : Int) := by omega
      have e2 : (c : Int) - a = ((c - a : Nat) : Int) := by omega
      rw [e1, e2, Int.natCast_ediv, Int.natCast_add, Int.natCast_ediv, Int.natCast_mul, Int.mul_comm]
      rfl
theorem level_list {lo hi : Int} {x : List Int} (hlo : 0 ≤ lo) (h : lo < hi) (hx : By x) : Sh55Neutral.ints ((Sh55Neutral.nats x).map (Sh55.level lo.toNat hi.toNat)) = x.map (levelI lo hi) :=
  ints_map fun z hz => level_cast hlo h (hx z hz).1
end EvM
namespace Ev
open PySem PySem.Spec PyProof.Rows L2
/-! small words over the hand layer -/
theorem same_upd {H : Hp} {p : Addr} {o : HO} (h : H p = none) : Same H (upd H p o) := fun b x e => by
  rw [upd_ne (ne_of_none e h)]
  exact e
/-- xs[j] by values, for xs[j] += e -/
def rGetL (K : PySem.W.Frag) : V → V → Hp → VK → Prop := fun x y H Q => ∃ (p : Addr) (xs : List V) (j : Nat) (v : V), x = .ref p ∧ y = .int j ∧ SqL K H p xs ∧ xs[j]? = some v ∧ Q v H
theorem get_list {X : Cx} : PGet X (rGetL X.K) := by
  intro pins s σ H x y v u Q I rx ry h
  obtain ⟨p, xs, j, z, rfl, rfl, hq, he, q⟩ := h
  cases rx
  obtain ⟨t, rfl⟩ := ry
  obtain ⟨its, r, pl, hz⟩ := I.list hq
  obtain ⟨w, ew, rw'⟩ := r.get he
  have hj : j < xs.length := (List.getElem?_eq_some_iff.mp he).1
  have hl := r.length
  have hn := line63
  exact wpAny_getItem_list pl.isList (by omega) (by omega) (by rw [Int.toNat_natCast]; simpa using ew) ⟨z, H, I, rw', q⟩
theorem ixN_nat {n j : Nat} (h : j < n) : ixN n (j : Int) = some j := by
  unfold ixN
  rw [if_pos (by omega), if_pos (by omega), Int.toNat_natCast]
theorem map_set {α β : Type} (f : α → β) (l : List α) (i : Nat) (a : α) : (l.map f).set i (f a) = (l.set i a).map f := by
  rw [List.map_set]
theorem get_int {l : List Int} {i : Nat} {y : V} (h : (l.map V.int)[i]? = some y) : ∃ z, l[i]? = some z ∧ y = V.int z := by
  rw [List.getElem?_map] at h
  cases e : l[i]? with
  | none => rw [e] at h; cases h
  | some z => rw [e] at h; exact ⟨z, rfl, (Option.some.inj h).symm⟩
theorem int_get {l : List Int} {i : Nat} {z : Int} (h : l[i]? = some z) : (l.map V.int)[i]? = some (V.int z) := by
  rw [List.getElem?_map, h]
  rfl
theorem take_more {α : Type} {l : List α} {i : Nat} {x : α} (h : l[i]? = some x) : l.take (i + 1) = l.take i ++ [x] := by
  rw [List.take_add_one, h]
  rfl
end Ev
namespace Ev
open PySem PySem.Spec PyProof.Rows L2
theorem cut_nat (l : List Int) (i j : Nat) : cutV (l.map V.int) (some (i : Int)) (some (j : Int)) = ((l.drop i).take (j - i)).map V.int := by
  unfold cutV
  rw [HT.sIx_nat, HT.sIx_nat, List.length_map, ← List.map_drop, ← List.map_take]
  congr 1
  by_cases h : i ≤ l.length
  · rw [Nat.min_eq_left h]
    by_cases h2 : j ≤ l.length
    · rw [Nat.min_eq_left h2]
    · rw [Nat.min_eq_right (by omega), List.take_of_length_le (by rw [List.length_drop]; omega), List.take_of_length_le (by rw [List.length_drop]; omega)]
  · rw [List.drop_eq_nil_of_le (by omega), List.drop_eq_nil_of_le (by omega), List.take_nil, List.take_nil]
theorem rgC_up {i j c : Int} {n : Nat} (hc : 0 < c) (hc2 : c < 1073741824) (hi : 0 ≤ i) (hi2 : i < 2 ^ 60) (hj : 0 ≤ j) (hj2 : j < 2 ^ 60) (hn : (n : Int) = if i < j then (j - i - 1) / c + 1 else 0) : RgC i j c n := by
  have hs : Builtin.Range.rangeSize i j c = n := by
    unfold Builtin.Range.rangeSize
    rw [if_pos hc, hn]
  have hn2 : (n : Int) < 2 ^ 62 := by
    rw [hn]
    split
    · have h1 : (j - i - 1) / c ≤ j - i - 1 := Int.ediv_le_self _ (by omega)
      omega
    · decide
  refine ⟨by omega, by omega, ?_, hs⟩
  unfold Builtin.Range.small
  rw [hs]
  unfold Builtin.Range.rangeFitsLong
  simp only [Bool.and_eq_true, Bool.or_eq_true, decide_eq_true_eq]
  rw [if_pos hc]
  simp only [Bool.and_eq_true, decide_eq_true_eq]
  omega
end Ev
namespace Ev
open PySem PySem.Spec PyProof.Rows L2
/-- the end of a comprehension's turn where nothing else is made -/
theorem lc_fin {H0 : Hp} {D : Addr} {l l' : List Int} {v : Int} (hl : l.length < sizeLine) (e : l' = l ++ [v]) :
    ∃ acc, upd H0 D (.lst (l.map V.int)) D = some (.lst acc) ∧ acc.length < sizeLine ∧ upd (upd H0 D (.lst (l.map V.int))) D (.lst (acc ++ [.int v])) = upd H0 D (.lst (l'.map V.int)) := by
  refine ⟨_, upd_same, by rw [List.length_map]; exact hl, ?_⟩
  rw [upd_upd, e, List.map_append]
  rfl
theorem map_more {l : List Int} {f : Int → Int} {i : Nat} {z : Int} (h : l[i]? = some z) : (l.take (i + 1)).map f = (l.take i).map f ++ [f z] := by
  rw [take_more h, List.map_append]
  rfl
theorem range_more (f : Nat → Int) (i : Nat) : (List.range (i + 1)).map f = (List.range i).map f ++ [f i] := by
  rw [List.range_succ, List.map_append]
  rfl
theorem cutV_nat (l : List V) (i j : Nat) : cutV l (some (i : Int)) (some (j : Int)) = (l.drop i).take (j - i) := by
  unfold cutV
  rw [HT.sIx_nat, HT.sIx_nat]
  by_cases h : i ≤ l.length
  · rw [Nat.min_eq_left h]
    by_cases h2 : j ≤ l.length
    · rw [Nat.min_eq_left h2]
    · rw [Nat.min_eq_right (by omega), List.take_of_length_le (by rw [List.length_drop]; omega), List.take_of_length_le (by rw [List.length_drop]; omega)]
  · rw [List.drop_eq_nil_of_le (by omega), List.drop_eq_nil_of_le (by omega), List.take_nil, List.take_nil]
theorem at_natE {l : List V} {j : Int} {i : Nat} {v : V} (e : j = (i : Int)) (h : l[i]? = some v) : atI l j = some v := at_of e h
theorem small {n : Nat} (h : n ≤ 16777216) : n ≤ sizeLine := Nat.le_trans h (by decide)
theorem smallS {n : Nat} (h : n < 16777216) : n < sizeLine := Nat.lt_of_lt_of_le h (by decide)
end Ev
namespace Ev
open PySem PySem.Spec PyProof.Rows L2
open PySem.W (Codec)
def top (i : Nat) : Stmt := PySem.Challenge.pw_evenlight_s12_li_levels.main.body.getD i (.Pass ⟨0, 0, 0, 0⟩)
abbrev s_level_byte : Stmt := top 5
theorem sc_level_byte : FnScope ["lo", "hi", "value"] ["lo", "hi", "value"] (defScope s_level_byte) := ⟨rfl, rfl, rfl, by decide +kernel, rfl, by decide +kernel, by decide +kernel⟩
abbrev s_li_levels : Stmt := top 4
theorem sc_li_levels : FnScope ["lo", "hi", "x", "value"] ["lo", "hi", "x"] (defScope s_li_levels) := ⟨rfl, rfl, rfl, by decide +kernel, rfl, by decide +kernel, by decide +kernel⟩
section
variable {P : Program} {w : World} {K : PySem.W.Frag} {mg : Str → Option Value} {base : Heap}
def sp_level_byte (K : PySem.W.Frag) : Sp := fun vs H Q _ => ∃ (lo hi v : Int), vs = [.int lo, .int hi, .int v] ∧ 0 ≤ lo ∧ lo < hi ∧ hi ≤ 255 ∧ Q (.int (EvM.levelI lo hi v)) H
theorem sp_level_byte_len {K : PySem.W.Frag} {vs : List V} {H : Hp} {Q : VK} {E : XK} (h : sp_level_byte K vs H Q E) : vs.length = 3 := by
  obtain ⟨_, _, _, rfl, _⟩ := h
  rfl
/-! level_byte: slots 0 lo, 1 hi, 2 value -/
theorem ok_level_byte {f : Addr} {fd : FuncData} (F : Fun K "level_byte" "level_byte" s_level_byte f fd)
    {t_WHITE : Tok} (c_WHITE : mg "WHITE" = some (.int (255) t_WHITE)) : FnOk P w K mg base CX0 1 f fd ["lo", "hi", "value"] (sp_level_byte K) := by
  refine F.ok sc_level_byte (fun vs H Q E h => ?_) (fun cdv A outer s H vs Q E hr h => ?_)
  · exact sp_level_byte_len h
  · refine ⟨_, (pss_cons (ps_if (pt_cmpR op_le (pv 2) (pv 0) (nomark _)) (pss_one (ps_ret pe_int)) pss_nil)
      (pss_cons (ps_if (pt_cmpR op_ge (pv 2) (pv 1) (nomark _)) (pss_one (ps_ret (pe_glob (v := .int (255)) (by rfl) c_WHITE ⟨_, rfl⟩))) pss_nil)
      (pss_one (ps_ret (pe_op op_fdiv (pe_op op_add (pe_op op_mul (pe_glob (v := .int (255)) (by rfl) c_WHITE ⟨_, rfl⟩) (pe_op op_sub (pv 2) (pv 0))) (pe_op op_fdiv (pe_op op_sub (pv 1) (pv 0)) pe_int)) (pe_op op_sub (pv 1) (pv 0))))))), ?_⟩
    obtain ⟨lo, hi, v, rfl, h0, hlt, h255, q⟩ := h
    unfold EvM.levelI at q
    refine ⟨_, rfl, _, rfl, _, _, rfl, rfl, _, rfl, ite2 (fun e => ?_) (fun e => ?_)⟩
    · have e : v ≤ lo := of_decide_eq_true e
      rw [if_pos e] at q
      exact q
    · have e : ¬ v ≤ lo := fun z => e (decide_eq_true z)
      rw [if_neg e] at q
      refine ⟨_, rfl, _, rfl, _, _, rfl, rfl, _, rfl, ite2 (fun e2 => ?_) (fun e2 => ?_)⟩
      · have e2 : hi ≤ v := of_decide_eq_true e2
        rw [if_pos e2] at q
        exact q
      · have e2 : ¬ hi ≤ v := fun z => e2 (decide_eq_true z)
        rw [if_neg e2] at q
        refine ⟨_, rfl, _, rfl, _, _, rfl, rfl, _, _, rfl, rfl, .inl ⟨by decide, by decide⟩, _, rfl, _, rfl, _, _, rfl, rfl, _, _, rfl, rfl, ⟨by decide, by decide⟩, _, _, rfl, rfl, _, rfl, _, rfl, _, _, rfl, rfl, _, _, rfl, rfl, ⟨by omega, by omega⟩, ?_⟩
        exact q
def sp_li_levels (K : PySem.W.Frag) : Sp := fun vs H Q _ => ∃ (lo : Int) (hi : Int) (a_x : Addr) (x : List Int), vs = [.int lo, .int hi, .ref a_x] ∧ SqL K H a_x (x.map V.int) ∧ x.length ≤ 70000 ∧ PySh55.li_levels_asked lo hi x = true ∧
  ∀ (H' : Hp) (p : Addr), H' p = some (.lst ((PySh55.li_levels lo hi x).map V.int)) → Q (.ref p) H'
theorem sp_li_levels_len {K : PySem.W.Frag} {vs : List V} {H : Hp} {Q : VK} {E : XK} (h : sp_li_levels K vs H Q E) : vs.length = 3 := by
  obtain ⟨_, _, _, _, rfl, _⟩ := h
  rfl
/-! li_levels: slots 0 lo, 1 hi, 2 x, 3 value -/
theorem ok_li_levels {f : Addr} {fd : FuncData} (F : Fun K "li_levels" "li_levels" s_li_levels f fd)
    (g_len : mg "len" = none)
    {t_MOST_BYTES : Tok} (c_MOST_BYTES : mg "MOST_BYTES" = some (.int (65536) t_MOST_BYTES))
    {t_WHITE : Tok} (c_WHITE : mg "WHITE" = some (.int (255) t_WHITE))
    {t_OUT_OF_RANGE : Tok} (c_OUT_OF_RANGE : mg "OUT_OF_RANGE" = some (.int (-2) t_OUT_OF_RANGE))
    {f_level_byte : Addr} {fd_level_byte : FuncData} (G_level_byte : FnOk P w K mg base CX0 1 f_level_byte fd_level_byte ["lo", "hi", "value"] (sp_level_byte K)) (m_level_byte : mg "level_byte" = some (.ref f_level_byte)) (k_level_byte : PySem.W.keepIn K (.ref f_level_byte) = true) (b_level_byte : Binds K fd_level_byte ["lo", "hi", "value"] []) : FnOk P w K mg base CX0 2 f fd ["lo", "hi", "x"] (sp_li_levels K) := by
  refine F.ok sc_li_levels (fun vs H Q E h => ?_) (fun cdv A outer s H vs Q E hr h => ?_)
  · exact sp_li_levels_len h
  · refine ⟨_, (pss_cons (ps_if (PW.pt (pw_or (pt_cmpR op_ge (pv 0) (pv 1) (nomark _)) (pw_or (pt_cmpR op_gt (pv 1) (pe_glob (v := .int (255)) (by rfl) c_WHITE ⟨_, rfl⟩) (nomark _)) (pw_or1 (pt_cmpR op_gt (pe_callB call_len_seq (by rfl) g_len PySem.boot_len (pa_cons (pv 2) pa_nil)) (pe_glob (v := .int (65536)) (by rfl) c_MOST_BYTES ⟨_, rfl⟩) (nomark _)))))) (pss_one (ps_ret (pe_lst (pa_cons (pe_glob (v := .int (-2)) (by rfl) c_OUT_OF_RANGE ⟨_, rfl⟩) pa_nil)))) pss_nil)
      (pss_one (ps_ret (pe_op op_cat (pe_lst (pa_cons pe_int pa_nil)) (pe_lc (own := [("value", 3)]) (g := (gName 3)) (tt := tYes) (by rfl) sc_li_levels.nd (pi_list (pv 2)) (blkOk_by (own := [("value", 3)]) (N := ["lo", "hi", "x", "value"]) (sc := defScope s_li_levels) (by decide +kernel)) (fun _ _ _ _ _ => (pg_name (i := 3) sc_li_levels.nd rfl (Or.inl rfl))) (fun _ _ _ _ _ => pts_nil) (fun _ _ _ _ _ => (pe_call G_level_byte (hr.mono (by decide)) (by rfl) m_level_byte k_level_byte b_level_byte .nil pass0 (pa_cons (pv 0) (pa_cons (pv 1) (pa_cons (pv 3) pa_nil)))))))))), ?_⟩
    obtain ⟨lo, hi, a, x, rfl, hS, hlen, hask, q⟩ := h
    obtain ⟨h0, h1, hb⟩ := EvM.levels_asked hask
    have bad : ¬ (lo < hi ∧ hi ≤ 255 ∧ x.length ≤ 65536) → ∀ p, H p = none → Q (.ref p) (upd H p (.lst [.int (-2)])) := fun z p hp => q _ p (by
      rw [upd_same, EvM.levels_bad h0 h1 z]
      rfl)
    refine ⟨_, rfl, _, rfl, _, _, rfl, rfl, _, rfl, ite2 (fun e => ?_) (fun e => ?_)⟩
    · have e : hi ≤ lo := of_decide_eq_true e
      exact iteT ⟨by decide, bad fun z => absurd z.1 (by omega)⟩
    · have e : ¬ hi ≤ lo := fun z => e (decide_eq_true z)
      refine ⟨_, rfl, _, _, rfl, rfl, _, rfl, ite2 (fun e2 => ?_) (fun e2 => ?_)⟩
      · have e2 : 255 < hi := of_decide_eq_true e2
        exact iteT ⟨by decide, bad fun z => absurd z.2.1 (by omega)⟩
      · have e2 : ¬ 255 < hi := fun z => e2 (decide_eq_true z)
        refine ⟨_, rfl, a, _, rfl, .inl hS, _, _, rfl, rfl, _, rfl, ite2 (fun e3 => ?_) (fun e3 => ?_)⟩
        · have e3 := of_decide_eq_true e3
          rw [List.length_map] at e3
          exact ⟨by decide, bad fun z => absurd z.2.2 (by omega)⟩
        · have e3 : ¬ (65536 : Int) < ((x.map V.int).length : Int) := fun z => e3 (decide_eq_true z)
          rw [List.length_map] at e3
          refine ⟨by decide, fun o no => ?_⟩
          have s0 : Same H (upd H o (.lst [.int 0])) := same_upd no
          refine ⟨_, rfl, a, rfl, ⟨_, s0.seq hS⟩, fun D nD => lc_list (K := K) (a := a) (xs := x.map V.int) (fun i H' => H' = upd (upd H o (.lst [.int 0])) D (.lst (((x.take i).map (EvM.levelI lo hi)).map V.int)))
            rfl (fun i H' _ e => e ▸ (same_upd nD).seq (s0.seq hS)) ?_ ?_⟩
          · rintro i y H1 hi' rfl
            obtain ⟨z, hz, rfl⟩ := get_int hi'
            refine ⟨rfl, _, rfl, _, rfl, _, rfl, lo, hi, z, rfl, h0, by omega, by omega, ?_⟩
            exact lc_fin (smallS (by rw [List.length_map, List.length_take]; omega)) (map_more hz)
          · rintro H1 rfl
            rw [List.length_map, List.take_length]
            refine ⟨o, D, [.int 0], _, rfl, rfl, ?_, upd_same, small ?_, fun r nr => q _ r ?_⟩
            · rw [upd_ne (ne_of_none upd_same nD), upd_same]
            · rw [List.length_map, List.length_map]
              show 1 + x.length ≤ _
              omega
            · rw [upd_same, EvM.levels_ok h0 h1 ⟨by omega, by omega, by omega⟩, EvM.level_list h0 (by omega) hb]
              rfl
end
theorem all_mk {P : Program} {w : World} {K : PySem.W.Frag} {h : Heap} {mg : Str → Option Value} {fa : Addr} (X : K.In h) (G : h.Ns mainGlobals mg) (hfa : mg "li_levels" = some (.ref fa))
    {f0 : Addr} {od0 an0 : Option Addr} {sl0 : Array (Option Value)} {oc0 kV0 dc0 pm0 cd0 ct0 : Value}
    (a0 : PySem.W.nsIn K mainGlobals "level_byte" = some (some (.ref f0))) (l0 : K.lookup f0 = some ⟨oc0, od0, .func (PySem.W.fnOf "level_byte" "level_byte" (defArgs s_level_byte) (defBody s_level_byte) (defScope s_level_byte) .none kV0 dc0 pm0 an0 cd0 ct0), sl0⟩) (q0 : PySem.W.codeIn K cd0 "level_byte" = true) (k0 : PySem.W.keepIn K (.ref f0) = true)
    {f1 : Addr} {od1 an1 : Option Addr} {sl1 : Array (Option Value)} {oc1 kV1 dc1 pm1 cd1 ct1 : Value}
    (a1 : PySem.W.nsIn K mainGlobals "li_levels" = some (some (.ref f1))) (l1 : K.lookup f1 = some ⟨oc1, od1, .func (PySem.W.fnOf "li_levels" "li_levels" (defArgs s_li_levels) (defBody s_li_levels) (defScope s_li_levels) .none kV1 dc1 pm1 an1 cd1 ct1), sl1⟩) (q1 : PySem.W.codeIn K cd1 "li_levels" = true) (k1 : PySem.W.keepIn K (.ref f1) = true)
    (z_len : PySem.W.nsIn K mainGlobals "len" = some none)
    {t_MOST_BYTES : Tok} (y_MOST_BYTES : PySem.W.nsIn K mainGlobals "MOST_BYTES" = some (some (.int (65536) t_MOST_BYTES)))
    {t_OUT_OF_RANGE : Tok} (y_OUT_OF_RANGE : PySem.W.nsIn K mainGlobals "OUT_OF_RANGE" = some (some (.int (-2) t_OUT_OF_RANGE)))
    {t_WHITE : Tok} (y_WHITE : PySem.W.nsIn K mainGlobals "WHITE" = some (some (.int (255) t_WHITE)))
    : ∃ fd : FuncData, (∀ (s : Shared) (us : List Value), us.length = (["lo", "hi", "x"] : List Str).length → BindsTo s fd ⟨us, []⟩ ((["lo", "hi", "x"] : List Str).zip us)) ∧ ∀ base : Heap, K.In base → base.Ns mainGlobals mg → FnOk P w K mg base CX0 2 fa fd ["lo", "hi", "x"] (sp_li_levels K) := by
  have e := hfa.symm.trans (PySem.W.mg_of X G a1)
  cases e
  have F0 := fun_mk (st := s_level_byte) l0 q0 k0
  have b0 := F0.binds (ps := ["lo", "hi", "value"]) fun _ _ _ _ _ _ us hl => match us, hl with | [_, _, _], _ => rfl
  have F1 := fun_mk (st := s_li_levels) l1 q1 k1
  have b1 := F1.binds (ps := ["lo", "hi", "x"]) fun _ _ _ _ _ _ us hl => match us, hl with | [_, _, _], _ => rfl
  refine ⟨PySem.W.fnOf "li_levels" "li_levels" (defArgs s_li_levels) (defBody s_li_levels) (defScope s_li_levels) .none kV1 dc1 pm1 an1 cd1 ct1, fun s us hu => match us, hu with | [_, _, _], _ => .of_eq rfl, fun base _ _ => ?_⟩
  have O0 : FnOk P w K mg base CX0 1 _ _ ["lo", "hi", "value"] (sp_level_byte K) := ok_level_byte F0 (PySem.W.mg_of X G y_WHITE)
  have O1 : FnOk P w K mg base CX0 2 _ _ ["lo", "hi", "x"] (sp_li_levels K) := ok_li_levels F1 (PySem.W.mg_none_of X G z_len) (PySem.W.mg_of X G y_MOST_BYTES) (PySem.W.mg_of X G y_WHITE) (PySem.W.mg_of X G y_OUT_OF_RANGE) O0 (PySem.W.mg_of X G a0) k0 b0
  exact O1
theorem end_li_levels {K : PySem.W.Frag} {H : Hp} {lo : Int} {hi : Int} {a_x : Addr} {x : List Int} (h_x : SqL K H a_x (x.map V.int)) (hwi : (Codec.inInt (0) (4294967295) lo && (Codec.inInt (0) (4294967295) hi && ((Codec.inLen 0 70000 x && x.all (Codec.inInt (0) (255))) && true))) = true) (hask : PySh55.li_levels_asked lo hi x = true) :
    sp_li_levels K [.int lo, .int hi, .ref a_x] H (fun v H' => Dw K H' v (.list ((PySh55.li_levels lo hi x).map .int))) fun _ _ _ => False := by
  obtain ⟨w_lo, hwi⟩ := Bool.and_eq_true_iff.mp hwi
  obtain ⟨w_hi, hwi⟩ := Bool.and_eq_true_iff.mp hwi
  obtain ⟨w_x, hwi⟩ := Bool.and_eq_true_iff.mp hwi
  obtain ⟨l_x, _⟩ := Bool.and_eq_true_iff.mp w_x
  exact ⟨lo, hi, _, x, rfl, h_x, (Codec.inNat_iff.mp l_x).2, hask, fun H' p hp => .lst (L2.SqL.of hp) (L2.dw_ints _)⟩
end Ev
open PySem PySem.W PyProof.Rows
set_option maxRecDepth 100000 in
set_option maxHeartbeats 8000000 in
theorem PySem.Challenge.cw_evenlight_s12_li_levels_holds : PySem.Challenge.rw_evenlight_s12_li_levels.Holds := by
  w_on; k_headS; (case hw => exact ⟨[.int 0, .int 0, .list []], by decide +kernel, by decide +kernel⟩)
  k_fillS
  refine L2.walk_specK (r := PySem.Challenge.rw_evenlight_s12_li_levels) (k := 2) (CX := L2.CX0) (ps := ["lo", "hi", "x"]) (sp := Ev.sp_li_levels) (by decide +kernel) rfl rfl ⟨rfl, by decide, by decide⟩ (fun w h Y => PySem.W.kIn_of Y) ?F ?S (fun _ _ _ _ z => z)
  case F =>
    intro w mg fa h Y KX G hmg
    refine' Ev.all_mk KX G hmg ?a0 ?l0 ?q0 ?k0 ?a1 ?l1 ?q1 ?k1 ?z_len ?y_MOST_BYTES ?y_OUT_OF_RANGE ?y_WHITE
    (case a0 => k_is)
    (case l0 => k_is)
    (case q0 => k_is)
    (case k0 => k_is)
    (case a1 => k_is)
    (case l1 => k_is)
    (case q1 => k_is)
    (case k1 => k_is)
    (case z_len => k_is)
    (case y_MOST_BYTES => k_is)
    (case y_OUT_OF_RANGE => k_is)
    (case y_WHITE => k_is)
  case S =>
    intro K H xs a hO hwi hask hx
    obtain ⟨a0, a1, a2, u⟩ := a
    cases hx with
    | cons h0 hx =>
    cases hx with
    | cons h1 hx =>
    cases hx with
    | cons h2 hx =>
    cases hx
    cases h0
    cases h1
    cases h2 with
    | lst hs2 ha2 =>
    have e2 := L2.ints_dw a2 _ ha2
    subst e2
    exact Ev.end_li_levels hs2 hwi hask
#print axioms PySem.Challenge.cw_evenlight_s12_li_levels_holds
