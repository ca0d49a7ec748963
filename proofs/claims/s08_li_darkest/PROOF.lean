import PyProof.Rows.All
import Wide.All
import OpenK.AllK
import Wide.FinOn
import Open.SpecLaws
import KE.OsGo
import HandS.ForSpec
import HandS.ForMost
import HandS.Walk
import HandS.Wide
import HandS.SortInts
import PySem.Challenge.RW_evenlight_s08_li_darkest
set_option Elab.async false
set_option maxRecDepth 100000
set_option maxHeartbeats 4000000
namespace EvM
/-! numbers and lists alone -/
theorem natural_iff {z : Int} {b : Nat} : Sh55Neutral.natural z b = true ↔ 0 ≤ z ∧ z < 2 ^ b := by
  unfold Sh55Neutral.natural
  rw [Bool.and_eq_true, decide_eq_true_eq, decide_eq_true_eq]
def Nn (l : List Int) : Prop := ∀ z ∈ l, 0 ≤ z
def By (l : List Int) : Prop := ∀ z ∈ l, 0 ≤ z ∧ z < 256
theorem By.nn {l : List Int} (h : By l) : Nn l := fun z hz => (h z hz).1
theorem by_of {l : List Int} (h : l.all (fun (z : Int) => Sh55Neutral.natural z 8) = true) : By l := fun z hz => by
  have := natural_iff.mp (List.all_eq_true.mp h z hz)
  exact ⟨this.1, by have h2 := this.2; simpa using h2⟩
def Wd (l : List Int) : Prop := ∀ z ∈ l, 0 ≤ z ∧ z < 65536
theorem Wd.nn {l : List Int} (h : Wd l) : Nn l := fun z hz => (h z hz).1
theorem wd_of {l : List Int} (h : l.all (fun (z : Int) => Sh55Neutral.natural z 16) = true) : Wd l := fun z hz => by
  have := natural_iff.mp (List.all_eq_true.mp h z hz)
  exact ⟨this.1, by have h2 := this.2; simpa using h2⟩
theorem nats_len (l : List Int) : (Sh55Neutral.nats l).length = l.length := by
  unfold Sh55Neutral.nats; rw [List.length_map]
theorem ints_len (l : List Nat) : (Sh55Neutral.ints l).length = l.length := by
  unfold Sh55Neutral.ints; rw [List.length_map]
theorem ints_nats {l : List Int} (h : Nn l) : Sh55Neutral.ints (Sh55Neutral.nats l) = l := by
  unfold Sh55Neutral.ints Sh55Neutral.nats
  rw [List.map_map]
  conv => rhs; rw [← List.map_id l]
  refine List.map_congr_left fun z hz => ?_
  exact Int.toNat_of_nonneg (h z hz)
theorem nats_ints (l : List Nat) : Sh55Neutral.nats (Sh55Neutral.ints l) = l := by
  unfold Sh55Neutral.ints Sh55Neutral.nats
  rw [List.map_map]
  conv => rhs; rw [← List.map_id l]
  rfl
/-- what a list of numbers that are not negative is -/
theorem Nn.eq {l : List Int} (h : Nn l) : ∃ m : List Nat, l = Sh55Neutral.ints m := ⟨_, (ints_nats h).symm⟩
theorem ints_get (l : List Nat) (i : Nat) : (Sh55Neutral.ints l)[i]? = (l[i]?).map fun (n : Nat) => (n : Int) := by
  unfold Sh55Neutral.ints; rw [List.getElem?_map]
theorem num_eq (l : List Nat) (i : Nat) : Sh55.num l i = (l[i]?).getD 0 := by
  unfold Sh55.num; rw [List.getD_eq_getElem?_getD]
end EvM
namespace EvM
/-! pages -/
def isPage (w : Int) (n : Nat) : Bool := Sh55.page w.toNat (n / w.toNat)
theorem isPage_iff {w : Int} {n : Nat} (h0 : 0 ≤ w) : isPage w n = true ↔ (1 ≤ w ∧ w ≤ 256) ∧ 1 ≤ (n : Int) / w ∧ (n : Int) / w ≤ 256 := by
  obtain ⟨m, rfl⟩ : ∃ m : Nat, w = (m : Int) := ⟨w.toNat, by omega⟩
  unfold isPage Sh55.page Sh55.among
  rw [Int.toNat_natCast]
  simp only [Bool.and_eq_true, decide_eq_true_eq]
  rw [← Int.natCast_ediv]
  omega
/-- the same in natural numbers -/
theorem isPage_nat {w : Int} {n : Nat} (h : isPage w n = true) : 1 ≤ w.toNat ∧ w.toNat ≤ 256 ∧ 1 ≤ n / w.toNat ∧ n / w.toNat ≤ 256 := by
  unfold isPage Sh55.page Sh55.among at h
  simp only [Bool.and_eq_true, decide_eq_true_eq] at h
  exact ⟨h.1.1, h.1.2, h.2.1, h.2.2⟩
/-- a place of a page -/
theorem place {w h n c r : Nat} (hl : n = w * h) (hc : c < w) (hr : r < h) : r * w + c < n := by
  have h2 := Nat.mul_le_mul_left w (show r + 1 ≤ h from hr)
  rw [Nat.mul_add, Nat.mul_one, Nat.mul_comm w r] at h2
  omega
theorem nats_get {l : List Int} {i : Nat} (h : i < l.length) : (Sh55Neutral.nats l)[i]? = some (l[i].toNat) := by
  unfold Sh55Neutral.nats
  rw [List.getElem?_map, List.getElem?_eq_getElem h]
  rfl
theorem at_eq {l : List Int} {w c r : Nat} (h : r * w + c < l.length) : Sh55.at_ w (Sh55Neutral.nats l) c r = l[r * w + c].toNat := by
  unfold Sh55.at_
  rw [num_eq, nats_get h]
  rfl
/-- of each place something, row by row; as whole numbers -/
def eachI (w h : Nat) (f : Nat → Nat → Int) : List Int := (List.range h).flatMap fun r => (List.range w).map fun c => f c r
theorem flatMap_congr' {α β : Type} {f g : α → List β} : ∀ {l : List α}, (∀ a, a ∈ l → f a = g a) → l.flatMap f = l.flatMap g
  | [], _ => rfl
  | a :: l, h => by
    rw [List.flatMap_cons, List.flatMap_cons, h a List.mem_cons_self, flatMap_congr' fun b hb => h b (List.mem_cons_of_mem _ hb)]
theorem each_ints (w h : Nat) (f : Nat → Nat → Nat) : Sh55Neutral.ints (Sh55.each w h f) = eachI w h fun c r => ((f c r : Nat) : Int) := by
  unfold Sh55Neutral.ints Sh55.each eachI
  rw [List.map_flatMap]
  refine flatMap_congr' fun r _ => ?_
  rw [List.map_map]
  rfl
theorem eachI_congr {w h : Nat} {f g : Nat → Nat → Int} (e : ∀ c r, c < w → r < h → f c r = g c r) : eachI w h f = eachI w h g := by
  unfold eachI
  refine flatMap_congr' fun r hr => List.map_congr_left fun c hc => e c r (List.mem_range.mp hc) (List.mem_range.mp hr)
theorem eachI_succ (w h : Nat) (f : Nat → Nat → Int) : eachI w (h + 1) f = eachI w h f ++ (List.range w).map fun c => f c h := by
  unfold eachI
  rw [List.range_succ, List.flatMap_append, List.flatMap_singleton]
theorem eachI_len (w h : Nat) (f : Nat → Nat → Int) : (eachI w h f).length = h * w := by
  induction h with
  | zero => simp [eachI]
  | succ h ih => rw [eachI_succ, List.length_append, ih, List.length_map, List.length_range, Nat.add_mul, Nat.one_mul]
theorem eachI_get {w h : Nat} {f : Nat → Nat → Int} {c r : Nat} (hc : c < w) (hr : r < h) : (eachI w h f)[r * w + c]? = some (f c r) := by
  induction h with
  | zero => omega
  | succ h ih =>
    rw [eachI_succ]
    by_cases e : r < h
    · rw [List.getElem?_append_left (by rw [eachI_len]; exact place (Nat.mul_comm h w) hc e)]
      exact ih e
    · have e2 : r = h := by omega
      subst e2
      rw [List.getElem?_append_right (by rw [eachI_len]; omega), eachI_len, Nat.add_sub_cancel_left, List.getElem?_map, List.getElem?_range hc]
      rfl
/-- the same by one running place -/
theorem eachI_flat {w h : Nat} (hw : 0 < w) (f : Nat → Nat → Int) : eachI w h f = (List.range (h * w)).map fun i => f (i % w) (i / w) := by
  refine List.ext_getElem? fun i => ?_
  by_cases hi : i < h * w
  · have hr : i / w < h := (Nat.div_lt_iff_lt_mul hw).mpr hi
    have e := eachI_get (f := f) (Nat.mod_lt i hw) hr
    rw [Nat.mul_comm, Nat.div_add_mod] at e
    rw [e, List.getElem?_map, List.getElem?_range hi]
    rfl
  · rw [List.getElem?_eq_none (by rw [eachI_len]; omega), List.getElem?_eq_none (by rw [List.length_map, List.length_range]; omega)]
end EvM
namespace EvM
/-! what is around a place, by plain ranges -/
theorem span_go (m d n : Nat) : ∀ N : Nat, ((List.range N).filterMap fun j => if d ≤ m + j ∧ m + j - d < n then some (m + j - d) else none) = List.range' (m - d) (min (m + N - d) n - (m - d))
  | 0 => by
    have e : min (m + 0 - d) n - (m - d) = 0 := by omega
    rw [e]
    rfl
  | N + 1 => by
    rw [List.range_succ, List.filterMap_append, span_go m d n N]
    by_cases h : d ≤ m + N ∧ m + N - d < n
    · have e : min (m + (N + 1) - d) n - (m - d) = (min (m + N - d) n - (m - d)) + 1 := by omega
      rw [e, List.range'_concat]
      congr 1
      rw [List.filterMap_cons_some (f := fun j => if d ≤ m + j ∧ m + j - d < n then some (m + j - d) else none) (a := N) (b := m + N - d) (if_pos h), List.filterMap_nil]
      show [m + N - d] = [m - d + 1 * (min (m + N - d) n - (m - d))]
      congr 1
      omega
    · have e : min (m + (N + 1) - d) n - (m - d) = min (m + N - d) n - (m - d) := by omega
      rw [e]
      have e2 : ([N].filterMap fun j => if d ≤ m + j ∧ m + j - d < n then some (m + j - d) else none) = [] := by
        rw [List.filterMap_cons_none (f := fun j => if d ≤ m + j ∧ m + j - d < n then some (m + j - d) else none) (a := N) (if_neg h), List.filterMap_nil]
      rw [e2, List.append_nil]
theorem span_eq (m d n : Nat) : Sh55.span m d n = List.range' (m - d) (min (m + d + 1) n - (m - d)) := by
  unfold Sh55.span
  rw [span_go]
  congr 1
  omega
theorem mem_span {m d n q : Nat} : q ∈ Sh55.span m d n ↔ m - d ≤ q ∧ q < min (m + d + 1) n := by
  rw [span_eq, List.mem_range'_1]
  omega
theorem mem_around {w h d c r : Nat} {x : List Nat} {v : Nat} : v ∈ Sh55.around w h d x c r ↔ ∃ q p, (r - d ≤ q ∧ q < min (r + d + 1) h) ∧ (c - d ≤ p ∧ p < min (c + d + 1) w) ∧ Sh55.at_ w x p q = v := by
  unfold Sh55.around
  rw [List.mem_flatMap]
  constructor
  · rintro ⟨q, hq, hv⟩
    obtain ⟨p, hp, e⟩ := List.mem_map.mp hv
    exact ⟨q, p, mem_span.mp hq, mem_span.mp hp, e⟩
  · rintro ⟨q, p, hq, hp, e⟩
    exact ⟨q, mem_span.mpr hq, List.mem_map.mpr ⟨p, mem_span.mpr hp, e⟩⟩
theorem foldl_min_le : ∀ (l : List Nat) (a : Nat), l.foldl min a ≤ a ∧ ∀ v ∈ l, l.foldl min a ≤ v
  | [], a => ⟨Nat.le_refl _, fun v h => by simp at h⟩
  | b :: l, a => by
    have ih := foldl_min_le l (min a b)
    refine ⟨by show l.foldl min (min a b) ≤ a; omega, fun v hv => ?_⟩
    show l.foldl min (min a b) ≤ v
    rcases List.mem_cons.mp hv with e | hv
    · omega
    · exact ih.2 v hv
theorem foldl_min_mem : ∀ (l : List Nat) (a : Nat), l.foldl min a = a ∨ l.foldl min a ∈ l
  | [], a => .inl rfl
  | b :: l, a => by
    show l.foldl min (min a b) = a ∨ l.foldl min (min a b) ∈ b :: l
    rcases foldl_min_mem l (min a b) with e | e
    · rw [e]
      by_cases h : a ≤ b
      · exact .inl (Nat.min_eq_left h)
      · rw [Nat.min_eq_right (by omega)]
        exact .inr List.mem_cons_self
    · exact .inr (List.mem_cons_of_mem _ e)
theorem foldl_max_ge : ∀ (l : List Nat) (a : Nat), a ≤ l.foldl max a ∧ ∀ v ∈ l, v ≤ l.foldl max a
  | [], a => ⟨Nat.le_refl _, fun v h => by simp at h⟩
  | b :: l, a => by
    have ih := foldl_max_ge l (max a b)
    refine ⟨by show a ≤ l.foldl max (max a b); omega, fun v hv => ?_⟩
    show v ≤ l.foldl max (max a b)
    rcases List.mem_cons.mp hv with e | hv
    · omega
    · exact ih.2 v hv
theorem foldl_max_mem : ∀ (l : List Nat) (a : Nat), l.foldl max a = a ∨ l.foldl max a ∈ l
  | [], a => .inl rfl
  | b :: l, a => by
    show l.foldl max (max a b) = a ∨ l.foldl max (max a b) ∈ b :: l
    rcases foldl_max_mem l (max a b) with e | e
    · rw [e]
      by_cases h : b ≤ a
      · exact .inl (Nat.max_eq_left h)
      · rw [Nat.max_eq_right (by omega)]
        exact .inr List.mem_cons_self
    · exact .inr (List.mem_cons_of_mem _ e)
/-- a number that is none less and one of them is the least (bytes, at least one) -/
theorem is_min {l : List Nat} {m : Nat} (h255 : m ≤ 255) (hm : m ∈ l) (hle : ∀ v ∈ l, m ≤ v) : l.foldl min 255 = m := by
  have h1 := (foldl_min_le l 255).2 m hm
  rcases foldl_min_mem l 255 with e | e
  · omega
  · have := hle _ e
    omega
theorem is_max {l : List Nat} {m : Nat} (hm : m ∈ l) (hge : ∀ v ∈ l, v ≤ m) : l.foldl max 0 = m := by
  have h1 := (foldl_max_ge l 0).2 m hm
  rcases foldl_max_mem l 0 with e | e
  · omega
  · have := hge _ e
    omega
end EvM
namespace EvM
/-! lists of natural numbers and of whole numbers, number by number -/
theorem ints_map {x : List Int} {f : Nat → Nat} {g : Int → Int} (h : ∀ z ∈ x, ((f z.toNat : Nat) : Int) = g z) : Sh55Neutral.ints ((Sh55Neutral.nats x).map f) = x.map g := by
  unfold Sh55Neutral.ints Sh55Neutral.nats
  rw [List.map_map, List.map_map]
  exact List.map_congr_left fun z hz => h z hz
theorem ints_zip {x b : List Int} {f : Nat → Nat → Nat} {g : Int → Int → Int} (h : ∀ z ∈ x, ∀ y ∈ b, ((f z.toNat y.toNat : Nat) : Int) = g z y) :
    Sh55Neutral.ints (((Sh55Neutral.nats x).zip (Sh55Neutral.nats b)).map fun p => f p.1 p.2) = (x.zip b).map fun p => g p.1 p.2 := by
  unfold Sh55Neutral.ints Sh55Neutral.nats
  rw [List.zip_map, List.map_map, List.map_map]
  refine List.map_congr_left fun z hz => ?_
  exact h z.1 (List.of_mem_zip hz).1 z.2 (List.of_mem_zip hz).2
theorem zip_get {x b : List Int} {i : Nat} {z y : Int} (h1 : x[i]? = some z) (h2 : b[i]? = some y) : (x.zip b)[i]? = some (z, y) := by
  rw [List.getElem?_zip_eq_some]
  exact ⟨h1, h2⟩
/-- the byte at column c, row r -/
def pix (w : Nat) (x : List Int) (c r : Nat) : Int := (x[r * w + c]?).getD 0
theorem at_cast {w c r : Nat} {x : List Int} (h : Nn x) : ((Sh55.at_ w (Sh55Neutral.nats x) c r : Nat) : Int) = pix w x c r := by
  unfold Sh55.at_ pix
  rw [num_eq]
  unfold Sh55Neutral.nats
  rw [List.getElem?_map]
  cases e : x[r * w + c]? with
  | none => rfl
  | some z =>
    have := h z (List.mem_of_getElem? e)
    show ((z.toNat : Nat) : Int) = z
    omega
theorem pix_get {w c r h : Nat} {x : List Int} (hl : x.length = w * h) (hc : c < w) (hr : r < h) : x[r * w + c]? = some (pix w x c r) := by
  have := place hl hc hr
  unfold pix
  rw [List.getElem?_eq_getElem this]
  rfl
theorem pix_by {w c r : Nat} {x : List Int} (h : By x) : 0 ≤ pix w x c r ∧ pix w x c r ≤ 255 := by
  unfold pix
  cases e : x[r * w + c]? with
  | none => exact ⟨by decide, by decide⟩
  | some z =>
    have := h z (List.mem_of_getElem? e)
    show 0 ≤ z ∧ z ≤ 255
    omega
theorem page_eq {w h : Nat} {x : List Int} (hw : 0 < w) (hl : x.length = w * h) : x = eachI w h (pix w x) := by
  refine List.ext_getElem? fun i => ?_
  by_cases hi : i < h * w
  · have hr : i / w < h := (Nat.div_lt_iff_lt_mul hw).mpr hi
    have e := eachI_get (f := pix w x) (Nat.mod_lt i hw) hr
    have e2 := pix_get hl (Nat.mod_lt i hw) hr
    rw [Nat.mul_comm, Nat.div_add_mod] at e e2
    rw [e, e2]
  · rw [List.getElem?_eq_none (by rw [hl, Nat.mul_comm]; omega), List.getElem?_eq_none (by rw [eachI_len]; omega)]
theorem eachI_map (w h : Nat) (g : Nat → Nat → Int) (f : Int → Int) : (eachI w h g).map f = eachI w h fun c r => f (g c r) := by
  unfold eachI
  rw [List.map_flatMap]
  refine flatMap_congr' fun r _ => ?_
  rw [List.map_map]
  rfl
/-- a row of a page -/
def rowI (w : Nat) (g : Nat → Nat → Int) (r : Nat) : List Int := (List.range w).map fun c => g c r
theorem rowI_len (w : Nat) (g : Nat → Nat → Int) (r : Nat) : (rowI w g r).length = w := by
  unfold rowI
  rw [List.length_map, List.length_range]
theorem rowI_get {w : Nat} {g : Nat → Nat → Int} {r c : Nat} (hc : c < w) : (rowI w g r)[c]? = some (g c r) := by
  unfold rowI
  rw [List.getElem?_map, List.getElem?_range hc]
  rfl
theorem eachI_row {w h : Nat} {g : Nat → Nat → Int} {r : Nat} (hr : r < h) : ((eachI w h g).drop (r * w)).take w = rowI w g r := by
  refine List.ext_getElem? fun i => ?_
  rw [List.getElem?_take, List.getElem?_drop]
  by_cases hi : i < w
  · rw [if_pos hi, eachI_get hi hr, rowI_get hi]
  · rw [if_neg hi, List.getElem?_eq_none (by rw [rowI_len]; omega)]
end EvM
namespace EvM
/-! li_darkest -/
theorem darkest_okB {w d : Int} {x : List Int} (hw : 0 ≤ w) (hd : 0 ≤ d) : (Sh55.aroundOk w.toNat ((Sh55Neutral.nats x).length / w.toNat) d.toNat) = true ↔ (isPage w x.length = true ∧ d ≤ 64) := by
  rw [nats_len]
  unfold Sh55.aroundOk
  simp only [Bool.and_eq_true, decide_eq_true_eq]
  have e_d : d.toNat ≤ 64 ↔ d ≤ 64 := by omega
  rw [e_d]
  exact Iff.rfl
theorem darkest_asked {w d : Int} {x : List Int} (h : PySh55.li_darkest_asked w d x = true) : 0 ≤ w ∧ 0 ≤ d ∧ By x ∧ ((isPage w x.length = true ∧ d ≤ 64) → x.length = w.toNat * (x.length / w.toNat)) := by
  have h : (Sh55Neutral.asked1 [[7, w, d], x] && _) = true := h
  rw [Bool.and_eq_true] at h
  have h1 : (Sh55Neutral.natural w 32 && (Sh55Neutral.natural d 32 && (x.all (fun (z : Int) => Sh55Neutral.natural z 8) && (if (Sh55.aroundOk w.toNat ((Sh55Neutral.nats x).length / w.toNat) d.toNat) = true then x.length == w.toNat * ((Sh55Neutral.nats x).length / w.toNat) else _)))) = true := h.1
  rw [Bool.and_eq_true, Bool.and_eq_true, Bool.and_eq_true] at h1
  refine ⟨(natural_iff.mp h1.1).1, (natural_iff.mp h1.2.1).1, by_of h1.2.2.1, ?_⟩
  have h2 := h1.2.2.2
  intro ok
  rw [if_pos ((darkest_okB (natural_iff.mp h1.1).1 (natural_iff.mp h1.2.1).1).mpr ok), nats_len] at h2
  exact beq_iff_eq.mp h2
theorem darkest_bad {w d : Int} {x : List Int} (hw : 0 ≤ w) (hd : 0 ≤ d) (h : ¬ (isPage w x.length = true ∧ d ≤ 64)) : PySh55.li_darkest w d x = [-2] := by
  show Sh55Neutral.f [[7, w, d], x] = _
  unfold Sh55Neutral.f Sh55Neutral.callOf
  have hf : (Sh55.aroundOk w.toNat ((Sh55Neutral.nats x).length / w.toNat) d.toNat) = false := by
    cases e : (Sh55.aroundOk w.toNat ((Sh55Neutral.nats x).length / w.toNat) d.toNat) with
    | false => rfl
    | true => exact absurd ((darkest_okB hw hd).mp e) h
  simp only [hf]
  rfl
theorem darkest_ok {w d : Int} {x : List Int} (hw : 0 ≤ w) (hd : 0 ≤ d) (h : isPage w x.length = true ∧ d ≤ 64) : PySh55.li_darkest w d x = 0 :: Sh55Neutral.ints (Sh55.darkest w.toNat (x.length / w.toNat) d.toNat (Sh55Neutral.nats x)) := by
  show Sh55Neutral.f [[7, w, d], x] = _
  unfold Sh55Neutral.f Sh55Neutral.callOf
  have hf : (Sh55.aroundOk w.toNat ((Sh55Neutral.nats x).length / w.toNat) d.toNat) = true := (darkest_okB hw hd).mpr h
  simp only [hf, if_true]
  rw [← nats_len x]
  rfl
end EvM
namespace EvM
/-! the least around a place, by rows and then by columns -/
def lowI (l : List Int) : Int := l.foldl min 255
theorem foldl_minI : ∀ (l : List Int) (a : Int), (l.foldl min a ≤ a ∧ ∀ v ∈ l, l.foldl min a ≤ v) ∧ (l.foldl min a = a ∨ l.foldl min a ∈ l)
  | [], a => ⟨⟨Int.le_refl _, fun v h => by simp at h⟩, .inl rfl⟩
  | b :: l, a => by
    have ih := foldl_minI l (min a b)
    refine ⟨⟨by show l.foldl min (min a b) ≤ a; omega, fun v hv => ?_⟩, ?_⟩
    · show l.foldl min (min a b) ≤ v
      rcases List.mem_cons.mp hv with e | hv
      · omega
      · exact ih.1.2 v hv
    · show l.foldl min (min a b) = a ∨ l.foldl min (min a b) ∈ b :: l
      rcases ih.2 with e | e
      · rw [e]
        by_cases h : a ≤ b
        · exact .inl (by omega)
        · rw [show min a b = b by omega]
          exact .inr List.mem_cons_self
      · exact .inr (List.mem_cons_of_mem _ e)
theorem lowI_le {l : List Int} {v : Int} (h : v ∈ l) : lowI l ≤ v := (foldl_minI l 255).1.2 v h
theorem lowI_255 (l : List Int) : lowI l ≤ 255 := (foldl_minI l 255).1.1
theorem lowI_mem {l : List Int} {v : Int} (h : v ∈ l) (h2 : v ≤ 255) : lowI l ∈ l := by
  rcases (foldl_minI l 255).2 with e | e
  · have := lowI_le h
    unfold lowI at *
    rw [show l.foldl min 255 = v by omega]
    exact h
  · exact e
theorem lowI_eq {l : List Int} {m : Int} (hm : m ∈ l) (hle : ∀ y, y ∈ l → m ≤ y) (h2 : m ≤ 255) : lowI l = m := by
  have h1 := lowI_le hm
  have h3 := hle _ (lowI_mem hm h2)
  omega
theorem lowI_nn {l : List Int} (h : ∀ v ∈ l, 0 ≤ v) : 0 ≤ lowI l := by
  rcases (foldl_minI l 255).2 with e | e
  · unfold lowI
    omega
  · exact h _ e
/-- the least of f at most d away from c, of n -/
def lowS (d n : Nat) (f : Nat → Int) (c : Nat) : Int := lowI ((Sh55.span c d n).map f)
theorem lowS_by {d n c : Nat} {f : Nat → Int} (h : ∀ c, 0 ≤ f c ∧ f c ≤ 255) : 0 ≤ lowS d n f c ∧ lowS d n f c ≤ 255 := by
  refine ⟨lowI_nn fun v hv => ?_, lowI_255 _⟩
  obtain ⟨p, _, rfl⟩ := List.mem_map.mp hv
  exact (h p).1
/-- by rows -/
def lowR (d w : Nat) (g : Nat → Nat → Int) (c r : Nat) : Int := lowS d w (fun p => g p r) c
/-- around -/
def low2 (d w h : Nat) (g : Nat → Nat → Int) (c r : Nat) : Int := lowS d h (fun q => lowR d w g c q) r
theorem low2_by {d w h c r : Nat} {g : Nat → Nat → Int} (hg : ∀ c r, 0 ≤ g c r ∧ g c r ≤ 255) : 0 ≤ low2 d w h g c r ∧ low2 d w h g c r ≤ 255 :=
  lowS_by fun _ => lowS_by fun _ => hg _ _
theorem low2_le {d w h c r p q : Nat} {g : Nat → Nat → Int} (hq : q ∈ Sh55.span r d h) (hp : p ∈ Sh55.span c d w) : low2 d w h g c r ≤ g p q := by
  have h1 : low2 d w h g c r ≤ lowR d w g c q := lowI_le (List.mem_map.mpr ⟨q, hq, rfl⟩)
  have h2 : lowR d w g c q ≤ g p q := lowI_le (List.mem_map.mpr ⟨p, hp, rfl⟩)
  omega
theorem self_span {c d n : Nat} (h : c < n) : c ∈ Sh55.span c d n := mem_span.mpr (by omega)
theorem low2_is {d w h c r : Nat} {g : Nat → Nat → Int} (hg : ∀ c r, 0 ≤ g c r ∧ g c r ≤ 255) (hc : c < w) (hr : r < h) : ∃ q p, q ∈ Sh55.span r d h ∧ p ∈ Sh55.span c d w ∧ low2 d w h g c r = g p q := by
  have h1 : low2 d w h g c r ∈ (Sh55.span r d h).map fun q => lowR d w g c q := lowI_mem (List.mem_map.mpr ⟨r, self_span hr, rfl⟩) (lowI_255 _)
  obtain ⟨q, hq, e1⟩ := List.mem_map.mp h1
  have h2 : lowR d w g c q ∈ (Sh55.span c d w).map fun p => g p q := lowI_mem (List.mem_map.mpr ⟨c, self_span hc, rfl⟩) (hg _ _).2
  obtain ⟨p, hp, e2⟩ := List.mem_map.mp h2
  exact ⟨q, p, hq, hp, by rw [← e1, ← e2]⟩
theorem darkest_at {w h d c r : Nat} {x : List Int} (hx : By x) (hc : c < w) (hr : r < h) : (((Sh55.around w h d (Sh55Neutral.nats x) c r).foldl min 255 : Nat) : Int) = low2 d w h (pix w x) c r := by
  have hg : ∀ c r, 0 ≤ pix w x c r ∧ pix w x c r ≤ 255 := fun c r => pix_by hx
  obtain ⟨q, p, hq, hp, e⟩ := low2_is (d := d) hg hc hr
  have b := low2_by (d := d) (w := w) (h := h) (c := c) (r := r) hg
  rw [is_min (m := (low2 d w h (pix w x) c r).toNat) (by omega)]
  · omega
  · refine mem_around.mpr ⟨q, p, mem_span.mp hq, mem_span.mp hp, ?_⟩
    have := at_cast (w := w) (c := p) (r := q) hx.nn
    omega
  · intro v hv
    obtain ⟨q', p', hq', hp', e'⟩ := mem_around.mp hv
    have := at_cast (w := w) (c := p') (r := q') hx.nn
    have := low2_le (g := pix w x) (mem_span.mpr hq') (mem_span.mpr hp')
    omega
theorem darkest_list {w h d : Nat} {x : List Int} (hx : By x) : Sh55Neutral.ints (Sh55.darkest w h d (Sh55Neutral.nats x)) = eachI w h (low2 d w h (pix w x)) := by
  unfold Sh55.darkest
  rw [each_ints]
  exact eachI_congr fun c r hc hr => darkest_at hx hc hr
/-- the greatest around by the least of what is turned about -/
def high2 (d w h : Nat) (g : Nat → Nat → Int) (c r : Nat) : Int := 255 - low2 d w h (fun c r => 255 - g c r) c r
theorem lightest_at {w h d c r : Nat} {x : List Int} (hx : By x) (hc : c < w) (hr : r < h) : (((Sh55.around w h d (Sh55Neutral.nats x) c r).foldl max 0 : Nat) : Int) = high2 d w h (pix w x) c r := by
  have hg0 : ∀ c r, 0 ≤ pix w x c r ∧ pix w x c r ≤ 255 := fun c r => pix_by hx
  have hg : ∀ c r, 0 ≤ 255 - pix w x c r ∧ 255 - pix w x c r ≤ 255 := fun c r => by
    have := hg0 c r
    omega
  obtain ⟨q, p, hq, hp, e⟩ := low2_is (d := d) hg hc hr
  have b := low2_by (d := d) (w := w) (h := h) (c := c) (r := r) hg
  unfold high2
  rw [is_max (m := (255 - low2 d w h (fun c r => 255 - pix w x c r) c r).toNat)]
  · omega
  · refine mem_around.mpr ⟨q, p, mem_span.mp hq, mem_span.mp hp, ?_⟩
    have := at_cast (w := w) (c := p) (r := q) hx.nn
    omega
  · intro v hv
    obtain ⟨q', p', hq', hp', e'⟩ := mem_around.mp hv
    have := at_cast (w := w) (c := p') (r := q') hx.nn
    have := low2_le (g := fun c r => 255 - pix w x c r) (mem_span.mpr hq') (mem_span.mpr hp')
    omega
theorem lightest_list {w h d : Nat} {x : List Int} (hx : By x) : Sh55Neutral.ints (Sh55.lightest w h d (Sh55Neutral.nats x)) = eachI w h (high2 d w h (pix w x)) := by
  unfold Sh55.lightest
  rw [each_ints]
  exact eachI_congr fun c r hc hr => lightest_at hx hc hr
theorem high2_by {d w h c r : Nat} {g : Nat → Nat → Int} (hg : ∀ c r, 0 ≤ g c r ∧ g c r ≤ 255) : 0 ≤ high2 d w h g c r ∧ high2 d w h g c r ≤ 255 := by
  have := low2_by (d := d) (w := w) (h := h) (c := c) (r := r) (g := fun c r => 255 - g c r) (fun c r => by have := hg c r; omega)
  unfold high2
  omega
theorem lowS_congr {d n c : Nat} {f g : Nat → Int} (h : ∀ i, i < n → f i = g i) : lowS d n f c = lowS d n g c := by
  unfold lowS
  rw [List.map_congr_left fun i hi => h i (by have := mem_span.mp hi; omega)]
theorem low2_congr {d w h c r : Nat} {f g : Nat → Nat → Int} (e : ∀ c r, c < w → r < h → f c r = g c r) : low2 d w h f c r = low2 d w h g c r :=
  lowS_congr fun q hq => lowS_congr fun p hp => e p q hp hq
theorem pix_each {w h c r : Nat} {g : Nat → Nat → Int} (hc : c < w) (hr : r < h) : pix w (eachI w h g) c r = g c r := by
  unfold pix
  rw [eachI_get hc hr]
  rfl
theorem behind_list {w h d : Nat} {x : List Int} (hx : By x) : Sh55Neutral.ints (Sh55.behind w h d (Sh55Neutral.nats x)) = eachI w h (low2 d w h (high2 d w h (pix w x))) := by
  have hg0 : ∀ c r, 0 ≤ pix w x c r ∧ pix w x c r ≤ 255 := fun c r => pix_by hx
  have hb : By (eachI w h (high2 d w h (pix w x))) := fun z hz => by
    unfold eachI at hz
    obtain ⟨r, _, hz⟩ := List.mem_flatMap.mp hz
    obtain ⟨c, _, rfl⟩ := List.mem_map.mp hz
    have := high2_by (d := d) (w := w) (h := h) (c := c) (r := r) hg0
    omega
  unfold Sh55.behind
  have e : Sh55.lightest w h d (Sh55Neutral.nats x) = Sh55Neutral.nats (eachI w h (high2 d w h (pix w x))) := by
    rw [← lightest_list hx, nats_ints]
  rw [e, darkest_list hb]
  exact eachI_congr fun c r hc hr => low2_congr fun c r hc hr => pix_each hc hr
/-- a piece of a row -/
theorem cut_span {w d c : Nat} {f : Nat → Int} : (((List.range w).map f).drop (c - d)).take (c + d + 1 - (c - d)) = (Sh55.span c d w).map f := by
  refine List.ext_getElem? fun i => ?_
  rw [List.getElem?_take, List.getElem?_drop, List.getElem?_map, List.getElem?_map, span_eq]
  by_cases h : i < min (c + d + 1) w - (c - d)
  · rw [if_pos (by omega), List.getElem?_range (by omega), List.getElem?_range' h, Nat.one_mul]
  · rw [List.getElem?_eq_none (l := List.range' _ _) (by rw [List.length_range']; omega)]
    by_cases h2 : i < c + d + 1 - (c - d)
    · rw [if_pos h2, List.getElem?_eq_none (by rw [List.length_range]; omega)]
    · rw [if_neg h2]
      rfl
end EvM
namespace Ev
open PySem PySem.Spec PyProof.Rows L2
/-! small words over the hand layer -/
theorem same_upd {H : Hp} {p : Addr} {o : HO} (h : H p = none) : Same H (upd H p o) := fun b x e => by
  rw [upd_ne (ne_of_none e h)]
  exact e
/-- xs[j] by values, for xs[j] += e -/
def rGetL (K : PySem.W.Frag) : V → V → Hp → VK → Prop := fun x y H Q => ∃ (p : Addr) (xs : List V) (j : Nat) (v : V), x = .ref p ∧ y = .int j ∧ SqL K H p xs ∧ xs[j]? = some v ∧ Q v H
theorem get_list {X : Cx} : PGet X (rGetL X.K) := by
  intro pins s σ H x y v u Q I rx ry h
  obtain ⟨p, xs, j, z, rfl, rfl, hq, he, q⟩ := h
  cases rx
  obtain ⟨t, rfl⟩ := ry
  obtain ⟨its, r, pl, hz⟩ := I.list hq
  obtain ⟨w, ew, rw'⟩ := r.get he
  have hj : j < xs.length := (List.getElem?_eq_some_iff.mp he).1
  have hl := r.length
  have hn := line63
  exact wpAny_getItem_list pl.isList (by omega) (by omega) (by rw [Int.toNat_natCast]; simpa using ew) ⟨z, H, I, rw', q⟩
theorem ixN_nat {n j : Nat} (h : j < n) : ixN n (j : Int) = some j := by
  unfold ixN
  rw [if_pos (by omega), if_pos (by omega), Int.toNat_natCast]
theorem map_set {α β : Type} (f : α → β) (l : List α) (i : Nat) (a : α) : (l.map f).set i (f a) = (l.set i a).map f := by
  rw [List.map_set]
theorem get_int {l : List Int} {i : Nat} {y : V} (h : (l.map V.int)[i]? = some y) : ∃ z, l[i]? = some z ∧ y = V.int z := by
  rw [List.getElem?_map] at h
  cases e : l[i]? with
  | none => rw [e] at h; cases h
  | some z => rw [e] at h; exact ⟨z, rfl, (Option.some.inj h).symm⟩
theorem int_get {l : List Int} {i : Nat} {z : Int} (h : l[i]? = some z) : (l.map V.int)[i]? = some (V.int z) := by
  rw [List.getElem?_map, h]
  rfl
theorem take_more {α : Type} {l : List α} {i : Nat} {x : α} (h : l[i]? = some x) : l.take (i + 1) = l.take i ++ [x] := by
  rw [List.take_add_one, h]
  rfl
end Ev
namespace Ev
open PySem PySem.Spec PyProof.Rows L2
theorem cut_nat (l : List Int) (i j : Nat) : cutV (l.map V.int) (some (i : Int)) (some (j : Int)) = ((l.drop i).take (j - i)).map V.int := by
  unfold cutV
  rw [HT.sIx_nat, HT.sIx_nat, List.length_map, ← List.map_drop, ← List.map_take]
  congr 1
  by_cases h : i ≤ l.length
  · rw [Nat.min_eq_left h]
    by_cases h2 : j ≤ l.length
    · rw [Nat.min_eq_left h2]
    · rw [Nat.min_eq_right (by omega), List.take_of_length_le (by rw [List.length_drop]; omega), List.take_of_length_le (by rw [List.length_drop]; omega)]
  · rw [List.drop_eq_nil_of_le (by omega), List.drop_eq_nil_of_le (by omega), List.take_nil, List.take_nil]
theorem rgC_up {i j c : Int} {n : Nat} (hc : 0 < c) (hc2 : c < 1073741824) (hi : 0 ≤ i) (hi2 : i < 2 ^ 60) (hj : 0 ≤ j) (hj2 : j < 2 ^ 60) (hn : (n : Int) = if i < j then (j - i - 1) / c + 1 else 0) : RgC i j c n := by
  have hs : Builtin.Range.rangeSize i j c = n := by
    unfold Builtin.Range.rangeSize
    rw [if_pos hc, hn]
  have hn2 : (n : Int) < 2 ^ 62 := by
    rw [hn]
    split
    · have h1 : (j - i - 1) / c ≤ j - i - 1 := Int.ediv_le_self _ (by omega)
      omega
    · decide
  refine ⟨by omega, by omega, ?_, hs⟩
  unfold Builtin.Range.small
  rw [hs]
  unfold Builtin.Range.rangeFitsLong
  simp only [Bool.and_eq_true, Bool.or_eq_true, decide_eq_true_eq]
  rw [if_pos hc]
  simp only [Bool.and_eq_true, decide_eq_true_eq]
  omega
end Ev
namespace Ev
open PySem PySem.Spec PyProof.Rows L2
/-- the end of a comprehension's turn where nothing else is made -/
theorem lc_fin {H0 : Hp} {D : Addr} {l l' : List Int} {v : Int} (hl : l.length < sizeLine) (e : l' = l ++ [v]) :
    ∃ acc, upd H0 D (.lst (l.map V.int)) D = some (.lst acc) ∧ acc.length < sizeLine ∧ upd (upd H0 D (.lst (l.map V.int))) D (.lst (acc ++ [.int v])) = upd H0 D (.lst (l'.map V.int)) := by
  refine ⟨_, upd_same, by rw [List.length_map]; exact hl, ?_⟩
  rw [upd_upd, e, List.map_append]
  rfl
theorem map_more {l : List Int} {f : Int → Int} {i : Nat} {z : Int} (h : l[i]? = some z) : (l.take (i + 1)).map f = (l.take i).map f ++ [f z] := by
  rw [take_more h, List.map_append]
  rfl
theorem range_more (f : Nat → Int) (i : Nat) : (List.range (i + 1)).map f = (List.range i).map f ++ [f i] := by
  rw [List.range_succ, List.map_append]
  rfl
theorem cutV_nat (l : List V) (i j : Nat) : cutV l (some (i : Int)) (some (j : Int)) = (l.drop i).take (j - i) := by
  unfold cutV
  rw [HT.sIx_nat, HT.sIx_nat]
  by_cases h : i ≤ l.length
  · rw [Nat.min_eq_left h]
    by_cases h2 : j ≤ l.length
    · rw [Nat.min_eq_left h2]
    · rw [Nat.min_eq_right (by omega), List.take_of_length_le (by rw [List.length_drop]; omega), List.take_of_length_le (by rw [List.length_drop]; omega)]
  · rw [List.drop_eq_nil_of_le (by omega), List.drop_eq_nil_of_le (by omega), List.take_nil, List.take_nil]
theorem at_natE {l : List V} {j : Int} {i : Nat} {v : V} (e : j = (i : Int)) (h : l[i]? = some v) : atI l j = some v := at_of e h
theorem small {n : Nat} (h : n ≤ 16777216) : n ≤ sizeLine := Nat.le_trans h (by decide)
theorem smallS {n : Nat} (h : n < 16777216) : n < sizeLine := Nat.lt_of_lt_of_le h (by decide)
end Ev
namespace Ev
open PySem PySem.Spec PyProof.Rows L2
theorem map_range_get {n i : Nat} {f : Nat → Int} (h : i < n) : (((List.range n).map f).map V.int)[i]? = some (V.int (f i)) := by
  rw [List.getElem?_map, List.getElem?_map, List.getElem?_range h]
  rfl
theorem each_rows {w h : Nat} (hw : 1 ≤ w) (g : Nat → Nat → Int) : ((((EvM.eachI w h g).map V.int).length : Nat) : Int) / (w : Int) = (h : Int) := by
  rw [List.length_map, EvM.eachI_len, ← Int.natCast_ediv, Nat.mul_div_cancel _ (by omega)]
theorem each_row {w h r : Nat} (hr : r < h) (g : Nat → Nat → Int) : (((EvM.eachI w h g).map V.int).drop (r * w)).take w = ((List.range w).map fun c => g c r).map V.int := by
  rw [← List.map_drop, ← List.map_take, EvM.eachI_row hr]
  rfl
theorem rep_range (n : Nat) (f : Nat → Int) (h : ∀ c, f c = 0) : (List.replicate n [V.int 0]).flatten = ((List.range n).map f).map V.int := by
  rw [List.flatten_replicate_singleton, List.map_map]
  symm
  rw [List.eq_replicate_iff]
  refine ⟨by simp, fun b hb => ?_⟩
  obtain ⟨c, _, rfl⟩ := List.mem_map.mp hb
  show V.int (f c) = _
  rw [h]
theorem max_sub (c d : Nat) : (if (0 : Int) > (c : Int) - (d : Int) then 0 else (c : Int) - (d : Int)) = ((c - d : Nat) : Int) := by
  split <;> omega
end Ev
namespace Ev
open PySem PySem.Spec PyProof.Rows L2
open PySem.W (Codec)
def top (i : Nat) : Stmt := PySem.Challenge.pw_evenlight_s08_li_darkest.main.body.getD i (.Pass ⟨0, 0, 0, 0⟩)
abbrev s_turned_page : Stmt := top 9
theorem sc_turned_page : FnScope ["w", "x", "turned", "c", "place"] ["w", "x"] (defScope s_turned_page) := ⟨rfl, rfl, rfl, by decide +kernel, rfl, by decide +kernel, by decide +kernel⟩
abbrev s_row_of : Stmt := top 6
theorem sc_row_of : FnScope ["w", "x", "r"] ["w", "x", "r"] (defScope s_row_of) := ⟨rfl, rfl, rfl, by decide +kernel, rfl, by decide +kernel, by decide +kernel⟩
abbrev s_leasts_in_rows : Stmt := top 8
theorem sc_leasts_in_rows : FnScope ["w", "d", "x", "leasts", "r", "row", "c"] ["w", "d", "x"] (defScope s_leasts_in_rows) := ⟨rfl, rfl, rfl, by decide +kernel, rfl, by decide +kernel, by decide +kernel⟩
abbrev s_darkest_of_page : Stmt := top 7
theorem sc_darkest_of_page : FnScope ["w", "d", "x", "h", "leasts"] ["w", "d", "x"] (defScope s_darkest_of_page) := ⟨rfl, rfl, rfl, by decide +kernel, rfl, by decide +kernel, by decide +kernel⟩
abbrev s_is_page : Stmt := top 5
theorem sc_is_page : FnScope ["w", "x", "h"] ["w", "x"] (defScope s_is_page) := ⟨rfl, rfl, rfl, by decide +kernel, rfl, by decide +kernel, by decide +kernel⟩
abbrev s_li_darkest : Stmt := top 4
theorem sc_li_darkest : FnScope ["w", "d", "x"] ["w", "d", "x"] (defScope s_li_darkest) := ⟨rfl, rfl, rfl, by decide +kernel, rfl, by decide +kernel, by decide +kernel⟩
section
variable {P : Program} {w : World} {K : PySem.W.Frag} {mg : Str → Option Value} {base : Heap}
def sp_turned_page (K : PySem.W.Frag) : Sp := fun vs H Q _ => ∃ (w : Nat) (a : Addr) (h : Nat) (g : Nat → Nat → Int), vs = [.int w, .ref a] ∧ SqL K H a ((EvM.eachI w h g).map V.int) ∧ 1 ≤ w ∧ w ≤ 256 ∧ 1 ≤ h ∧ h ≤ 256 ∧
  ∀ (H' : Hp) (p : Addr), Same H H' → H p = none → H' p = some (.lst ((EvM.eachI h w fun r c => g c r).map V.int)) → Q (.ref p) H'
theorem sp_turned_page_len {K : PySem.W.Frag} {vs : List V} {H : Hp} {Q : VK} {E : XK} (h : sp_turned_page K vs H Q E) : vs.length = 2 := by
  obtain ⟨_, _, _, _, rfl, _⟩ := h
  rfl
theorem turn_count {w h c : Nat} (hc : c < w) (hh : 1 ≤ h) : (h : Int) = if (c : Int) < ((h * w : Nat) : Int) then (((h * w : Nat) : Int) - c - 1) / (w : Int) + 1 else 0 := by
  have h1 : 1 * w ≤ h * w := Nat.mul_le_mul_right w hh
  rw [if_pos (by omega)]
  obtain ⟨j, rfl⟩ : ∃ j, h = j + 1 := ⟨h - 1, by omega⟩
  have e : (((j + 1) * w : Nat) : Int) - (c : Int) - 1 = (((w - 1 - c) + w * j : Nat) : Int) := by
    rw [Nat.add_mul, Nat.one_mul, Nat.mul_comm j w]
    omega
  rw [e, ← Int.natCast_ediv, Nat.add_mul_div_left _ _ (by omega), Nat.div_eq_of_lt (by omega)]
  omega
/-! turned_page: slots 0 w, 1 x, 2 turned, 3 c, 4 place -/
theorem ok_turned_page {f : Addr} {fd : FuncData} (F : Fun K "turned_page" "turned_page" s_turned_page f fd)
    (g_range : mg "range" = none)
    (g_len : mg "len" = none) : FnOk P w K mg base CX0 1 f fd ["w", "x"] (sp_turned_page K) := by
  refine F.ok sc_turned_page (fun vs H Q E h => ?_) (fun cdv A outer s H vs Q E hr h => ?_)
  · exact sp_turned_page_len h
  · refine ⟨_, (pss_cons (ps_set (i := 2) sc_turned_page.nd rfl (Or.inl rfl) (pe_lst pa_nil))
      (pss_cons (ps_for PassesOwn.never rfl (pi_range1 (by rfl) g_range (pa_cons (pv 0) pa_nil)) (pg_name (i := 3) sc_turned_page.nd rfl (Or.inl rfl))
      (pss_one (ps_expr (pe_bm PySem.F.plainAttrs_list PySem.F.slot_list_extend PySem.F.type_list_extend mt_extend (pv 2) (pa_cons (pe_lc (own := [("place", 4)]) (g := (gName 4)) (tt := tYes) (by rfl) sc_turned_page.nd (pi_range3 (by rfl) g_range (pa_cons (pv 3) (pa_cons (pe_callB call_len_seq (by rfl) g_len PySem.boot_len (pa_cons (pv 1) pa_nil)) (pa_cons (pv 0) pa_nil)))) (blkOk_by (own := [("place", 4)]) (N := ["w", "x", "turned", "c", "place"]) (sc := defScope s_turned_page) (by decide +kernel)) (fun _ _ _ _ _ => (pg_name (i := 4) sc_turned_page.nd rfl (Or.inl rfl))) (fun _ _ _ _ _ => pts_nil) (fun _ _ _ _ _ => (pe_ix (r := rIxL K) ix_list (pv 1) (pv 4) (fun _ _ => rfl)))) pa_nil)))))
      (pss_one (ps_ret (pv 2))))), ?_⟩
    obtain ⟨w, a, h, g, rfl, hS, hw1, hw2, hh1, hh, q⟩ := h
    have hwh : h * w ≤ 256 * 256 := Nat.mul_le_mul hh hw2
    refine ⟨by decide, fun o no => ?_⟩
    have s0 : Same H (upd H o (.lst [])) := same_upd no
    refine ⟨_, rfl, (w : Int), rfl, by omega, by omega, ?_⟩
    rw [Int.toNat_natCast]
    refine for_range (lo := 0) (n := w) (fun c σ H' => ∃ v3 : Option V, σ = [some (.int w), some (.ref a), some (.ref o), v3, none] ∧ Same H H' ∧ H' o = some (.lst ((EvM.eachI h c fun r c => g c r).map V.int)))
      ⟨none, rfl, s0, upd_same⟩ ?_ ?_
    · rintro c σ H1 hc ⟨v3, rfl, s1, ho⟩
      have e0 : (0 : Int) + (c : Nat) = (c : Nat) := Int.zero_add _
      rw [e0]
      refine ⟨_, rfl, .inl ⟨rfl, _, SqL.of ho⟩, _, rfl, _, rfl, a, _, rfl, .inl (s1.seq hS), _, rfl, _, _, _, h, rfl, rgC_up (by omega) (by omega) (by omega) (by omega) (by omega) (by rw [List.length_map, EvM.eachI_len]; omega) (by rw [List.length_map, EvM.eachI_len]; exact turn_count hc hh1), fun D nD => ?_⟩
      refine lc_it (walk_rangeC (lo := (c : Int)) (c := (w : Int)) (n := h)) (fun r H' => H' = upd H1 D (.lst (((List.range r).map fun r => g c r).map V.int)))
        rfl (fun _ _ _ _ => trivial) ?_ ?_
      · rintro r y H2 H3 hr rfl ⟨rfl, rfl⟩
        refine ⟨rfl, _, rfl, _, rfl, a, _, _, _, rfl, rfl, (s1.trans (same_upd nD)).seq hS, at_natE (i := r * w + c) (by rw [Int.natCast_add, Int.natCast_mul, Int.add_comm]) (int_get (EvM.eachI_get hc hr)), ?_⟩
        exact lc_fin (smallS (by rw [List.length_map, List.length_range]; omega)) (range_more _ r)
      · rintro H2 rfl
        have s2 := same_upd (o := .lst (((List.range h).map fun r => g c r).map V.int)) nD
        refine ⟨o, D, _, _, rfl, rfl, s2 _ _ ho, upd_same, small ?_, some (.int (c : Nat)), rfl, fun b x e => ?_, ?_⟩
        · rw [List.length_map, List.length_map, List.length_map, List.length_range, EvM.eachI_len]
          have : c * h ≤ 256 * 256 := Nat.mul_le_mul (by omega) (by omega)
          omega
        · rw [upd_ne (ne_of_none e no)]
          exact s2 _ _ (s1 _ _ e)
        · rw [upd_same, EvM.eachI_succ, List.map_append]
    · rintro σ H1 ⟨v3, rfl, s1, ho⟩
      exact ⟨_, rfl, q _ o s1 no ho⟩
def sp_row_of (K : PySem.W.Frag) : Sp := fun vs H Q _ => ∃ (w : Nat) (a : Addr) (xs : List V) (r : Nat), vs = [.int w, .ref a, .int r] ∧ SqL K H a xs ∧ w ≤ 65536 ∧ ∀ p, H p = none → Q (.ref p) (upd H p (.lst ((xs.drop (r * w)).take w)))
theorem sp_row_of_len {K : PySem.W.Frag} {vs : List V} {H : Hp} {Q : VK} {E : XK} (h : sp_row_of K vs H Q E) : vs.length = 3 := by
  obtain ⟨_, _, _, _, rfl, _⟩ := h
  rfl
/-! row_of: slots 0 w, 1 x, 2 r -/
theorem ok_row_of {f : Addr} {fd : FuncData} (F : Fun K "row_of" "row_of" s_row_of f fd)
     : FnOk P w K mg base CX0 1 f fd ["w", "x", "r"] (sp_row_of K) := by
  refine F.ok sc_row_of (fun vs H Q E h => ?_) (fun cdv A outer s H vs Q E hr h => ?_)
  · exact sp_row_of_len h
  · refine ⟨_, (pss_one (ps_ret (pe_slice sl_list (pv 1) (po_some (pe_op op_mul (pv 2) (pv 0))) (po_some (pe_op op_mul (pe_op op_add (pv 2) pe_int) (pv 0)))))), ?_⟩
    obtain ⟨w, a, xs, r, rfl, hS, hw, q⟩ := h
    refine ⟨_, rfl, _, rfl, _, rfl, _, _, rfl, rfl, .inr ⟨by omega, by omega⟩, _, rfl, _, rfl, _, _, rfl, rfl, _, rfl, _, _, rfl, rfl, .inr ⟨by omega, by omega⟩, _, rfl, a, xs, rfl, hS, fun p np => ?_⟩
    have e : cutV xs (some ((r : Int) * (w : Int))) (some (((r : Int) + 1) * (w : Int))) = (xs.drop (r * w)).take w := by
      have e1 : (r : Int) * (w : Int) = ((r * w : Nat) : Int) := (Int.natCast_mul r w).symm
      have e2 : ((r : Int) + 1) * (w : Int) = ((r * w + w : Nat) : Int) := by
        rw [Int.add_mul, Int.one_mul, Int.natCast_add, Int.natCast_mul]
      rw [e1, e2, cutV_nat, Nat.add_sub_cancel_left]
    rw [e]
    exact q p np
def sp_leasts_in_rows (K : PySem.W.Frag) : Sp := fun vs H Q _ => ∃ (w d : Nat) (a : Addr) (h : Nat) (g : Nat → Nat → Int), vs = [.int w, .int d, .ref a] ∧ SqL K H a ((EvM.eachI w h g).map V.int) ∧ 1 ≤ w ∧ w ≤ 256 ∧ 1 ≤ h ∧ h ≤ 256 ∧ d ≤ 64 ∧ (∀ c r, 0 ≤ g c r ∧ g c r ≤ 255) ∧
  ∀ (H' : Hp) (p : Addr), Same H H' → H p = none → H' p = some (.lst ((EvM.eachI w h (EvM.lowR d w g)).map V.int)) → Q (.ref p) H'
theorem sp_leasts_in_rows_len {K : PySem.W.Frag} {vs : List V} {H : Hp} {Q : VK} {E : XK} (h : sp_leasts_in_rows K vs H Q E) : vs.length = 3 := by
  obtain ⟨_, _, _, _, _, rfl, _⟩ := h
  rfl
/-! leasts_in_rows: slots 0 w, 1 d, 2 x, 3 leasts, 4 r, 5 row, 6 c -/
theorem ok_leasts_in_rows {f : Addr} {fd : FuncData} (F : Fun K "leasts_in_rows" "leasts_in_rows" s_leasts_in_rows f fd)
    (g_range : mg "range" = none)
    (g_len : mg "len" = none)
    (g_min : mg "min" = none)
    (g_max : mg "max" = none)
    {f_row_of : Addr} {fd_row_of : FuncData} (G_row_of : FnOk P w K mg base CX0 1 f_row_of fd_row_of ["w", "x", "r"] (sp_row_of K)) (m_row_of : mg "row_of" = some (.ref f_row_of)) (k_row_of : PySem.W.keepIn K (.ref f_row_of) = true) (b_row_of : Binds K fd_row_of ["w", "x", "r"] []) : FnOk P w K mg base CX0 2 f fd ["w", "d", "x"] (sp_leasts_in_rows K) := by
  refine F.ok sc_leasts_in_rows (fun vs H Q E h => ?_) (fun cdv A outer s H vs Q E hr h => ?_)
  · exact sp_leasts_in_rows_len h
  · refine ⟨_, (pss_cons (ps_set (i := 3) sc_leasts_in_rows.nd rfl (Or.inl rfl) (pe_lst pa_nil))
      (pss_cons (ps_for PassesOwn.never rfl (pi_range1 (by rfl) g_range (pa_cons (pe_op op_fdiv (pe_callB call_len_seq (by rfl) g_len PySem.boot_len (pa_cons (pv 2) pa_nil)) (pv 0)) pa_nil)) (pg_name (i := 4) sc_leasts_in_rows.nd rfl (Or.inl rfl))
      (pss_cons (ps_set (i := 5) sc_leasts_in_rows.nd rfl (Or.inr rfl) (pe_call G_row_of (hr.mono (by decide)) (by rfl) m_row_of k_row_of b_row_of .nil pass0 (pa_cons (pv 0) (pa_cons (pv 2) (pa_cons (pv 4) pa_nil)))))
      (pss_one (ps_expr (pe_bm PySem.F.plainAttrs_list PySem.F.slot_list_extend PySem.F.type_list_extend mt_extend (pv 3) (pa_cons (pe_lc (own := [("c", 6)]) (g := (gName 6)) (tt := tYes) (by rfl) sc_leasts_in_rows.nd (pi_range1 (by rfl) g_range (pa_cons (pv 0) pa_nil)) (blkOk_by (own := [("c", 6)]) (N := ["w", "d", "x", "leasts", "r", "row", "c"]) (sc := defScope s_leasts_in_rows) (by decide +kernel)) (fun _ _ _ _ _ => (pg_name (i := 6) sc_leasts_in_rows.nd rfl (Or.inl rfl))) (fun _ _ _ _ _ => pts_nil) (fun _ _ _ _ _ => (pe_callB (id := "min") (r := rMin K) (cr_min rfl) (by rfl) g_min (by decide +kernel) (pa_cons (pe_slice (r := rSlL K) sl_list (pv 5) (po_some (pe_callB (id := "max") (call_max2 rfl) (by rfl) g_max (by decide +kernel) (pa_cons (pe_op op_sub (pv 6) (pv 1)) (pa_cons pe_int pa_nil)))) (po_some (pe_op op_add (pe_op op_add (pv 6) (pv 1)) pe_int))) pa_nil)))) pa_nil))))))
      (pss_one (ps_ret (pv 3))))), ?_⟩
    obtain ⟨w, d, a, h, g, rfl, hS, hw1, hw2, hh1, hh, hd, hg, q⟩ := h
    refine ⟨by decide, fun o no => ?_⟩
    have s0 : Same H (upd H o (.lst [])) := same_upd no
    refine ⟨_, rfl, a, _, rfl, .inl (s0.seq hS), _, rfl, _, _, rfl, rfl, ⟨by omega, by omega⟩, (h : Int), congrArg (fun z => [V.int z]) (each_rows hw1 g), by omega, by omega, ?_⟩
    rw [Int.toNat_natCast]
    refine for_range (lo := 0) (n := h) (fun r σ H' => ∃ v4 v5 : Option V, σ = [some (.int w), some (.int d), some (.ref a), some (.ref o), v4, v5, none] ∧ Same H H' ∧ H' o = some (.lst ((EvM.eachI w r (EvM.lowR d w g)).map V.int)))
      ⟨none, none, rfl, s0, upd_same⟩ ?_ ?_
    · rintro r σ H1 hr ⟨v4, v5, rfl, s1, ho⟩
      have e0 : (0 : Int) + (r : Nat) = (r : Nat) := Int.zero_add _
      rw [e0]
      refine ⟨_, rfl, _, rfl, _, rfl, w, a, _, r, rfl, s1.seq hS, by omega, fun p np => ?_⟩
      rw [each_row hr]
      have s2 : Same H1 (upd H1 p (.lst (((List.range w).map fun c => g c r).map V.int))) := same_upd np
      have hp : upd H1 p (.lst (((List.range w).map fun c => g c r).map V.int)) p = some (.lst (((List.range w).map fun c => g c r).map V.int)) := upd_same
      generalize upd H1 p (.lst (((List.range w).map fun c => g c r).map V.int)) = H2 at s2 hp
      refine ⟨_, rfl, .inl ⟨rfl, _, SqL.of (s2 _ _ ho)⟩, _, rfl, (w : Int), rfl, by omega, by omega, fun D nD => ?_⟩
      rw [Int.toNat_natCast]
      refine lc_range (lo := 0) (n := w) (fun c H' => Same H2 H' ∧ H' D = some (.lst (((List.range c).map fun c => EvM.lowR d w g c r).map V.int)))
        ⟨same_upd nD, upd_same⟩ ?_ ?_
      · rintro c H3 hc ⟨s3, hD⟩
        have e1 : (0 : Int) + (c : Nat) = (c : Nat) := Int.zero_add _
        rw [e1]
        refine ⟨rfl, ?_⟩
        refine ⟨_, rfl, _, rfl, _, rfl, _, _, rfl, rfl, _, _, rfl, _, rfl, _, rfl, _, rfl, _, _, rfl, rfl, _, _, rfl, rfl, _, rfl, p, _, rfl, SqL.of (s3 _ _ hp), fun t nt => ?_⟩
        rw [max_sub]
        have cut : cutV (((List.range w).map fun c => g c r).map V.int) (some ((c - d : Nat) : Int)) (some ((c : Int) + (d : Int) + 1)) = ((Sh55.span c d w).map fun p => g p r).map V.int := by
          rw [show (c : Int) + (d : Int) + 1 = ((c + d + 1 : Nat) : Int) by omega, cut_nat, EvM.cut_span]
        rw [cut]
        refine ⟨t, (Sh55.span c d w).map fun p => g p r, rfl, SqL.of upd_same, ?_, fun m hm hle => ?_⟩
        · rw [List.length_map]
          exact List.length_pos_of_mem (EvM.self_span hc)
        · have em : EvM.lowR d w g c r = m := EvM.lowI_eq hm hle (by
            obtain ⟨i, _, rfl⟩ := List.mem_map.mp hm
            exact (hg i r).2)
          rw [← em]
          refine ⟨_, (upd_ne (ne_of_none hD nt)).trans hD, smallS ?_, fun b x e => ?_, ?_⟩
          · rw [List.length_map, List.length_map, List.length_range]
            omega
          · rw [upd_ne (ne_of_none e nD), upd_ne (ne_of_none (s3 _ _ e) nt)]
            exact s3 _ _ e
          · rw [upd_same, range_more _ c, List.map_append]
            rfl
      · rintro H3 ⟨s3, hD⟩
        have ho3 := s3 _ _ (s2 _ _ ho)
        refine ⟨o, D, _, _, rfl, rfl, ho3, hD, small ?_, some (.int (r : Nat)), some (.ref p), rfl, fun b x e => ?_, ?_⟩
        · rw [List.length_map, List.length_map, List.length_map, List.length_range, EvM.eachI_len]
          have : r * w ≤ 256 * 256 := Nat.mul_le_mul (by omega) (by omega)
          omega
        · rw [upd_ne (ne_of_none e no)]
          exact s3 _ _ (s2 _ _ (s1 _ _ e))
        · rw [upd_same, EvM.eachI_succ, List.map_append]
    · rintro σ H1 ⟨v4, v5, rfl, s1, ho⟩
      exact ⟨_, rfl, q _ o s1 no ho⟩
def sp_darkest_of_page (K : PySem.W.Frag) : Sp := fun vs H Q _ => ∃ (w d : Nat) (a : Addr) (h : Nat) (g : Nat → Nat → Int), vs = [.int w, .int d, .ref a] ∧ SqL K H a ((EvM.eachI w h g).map V.int) ∧ 1 ≤ w ∧ w ≤ 256 ∧ 1 ≤ h ∧ h ≤ 256 ∧ d ≤ 64 ∧ (∀ c r, 0 ≤ g c r ∧ g c r ≤ 255) ∧
  ∀ (H' : Hp) (p : Addr), Same H H' → H p = none → H' p = some (.lst ((EvM.eachI w h (EvM.low2 d w h g)).map V.int)) → Q (.ref p) H'
theorem sp_darkest_of_page_len {K : PySem.W.Frag} {vs : List V} {H : Hp} {Q : VK} {E : XK} (h : sp_darkest_of_page K vs H Q E) : vs.length = 3 := by
  obtain ⟨_, _, _, _, _, rfl, _⟩ := h
  rfl
/-! darkest_of_page: slots 0 w, 1 d, 2 x, 3 h, 4 leasts -/
theorem ok_darkest_of_page {f : Addr} {fd : FuncData} (F : Fun K "darkest_of_page" "darkest_of_page" s_darkest_of_page f fd)
    (g_len : mg "len" = none)
    {f_turned_page : Addr} {fd_turned_page : FuncData} (G_turned_page : FnOk P w K mg base CX0 1 f_turned_page fd_turned_page ["w", "x"] (sp_turned_page K)) (m_turned_page : mg "turned_page" = some (.ref f_turned_page)) (k_turned_page : PySem.W.keepIn K (.ref f_turned_page) = true) (b_turned_page : Binds K fd_turned_page ["w", "x"] [])
    {f_leasts_in_rows : Addr} {fd_leasts_in_rows : FuncData} (G_leasts_in_rows : FnOk P w K mg base CX0 2 f_leasts_in_rows fd_leasts_in_rows ["w", "d", "x"] (sp_leasts_in_rows K)) (m_leasts_in_rows : mg "leasts_in_rows" = some (.ref f_leasts_in_rows)) (k_leasts_in_rows : PySem.W.keepIn K (.ref f_leasts_in_rows) = true) (b_leasts_in_rows : Binds K fd_leasts_in_rows ["w", "d", "x"] []) : FnOk P w K mg base CX0 3 f fd ["w", "d", "x"] (sp_darkest_of_page K) := by
  refine F.ok sc_darkest_of_page (fun vs H Q E h => ?_) (fun cdv A outer s H vs Q E hr h => ?_)
  · exact sp_darkest_of_page_len h
  · refine ⟨_, (pss_cons (ps_set (i := 3) sc_darkest_of_page.nd rfl (Or.inl rfl) (pe_op op_fdiv (pe_callB call_len_seq (by rfl) g_len PySem.boot_len (pa_cons (pv 2) pa_nil)) (pv 0)))
      (pss_cons (ps_set (i := 4) sc_darkest_of_page.nd rfl (Or.inl rfl) (pe_call G_turned_page (hr.mono (by decide)) (by rfl) m_turned_page k_turned_page b_turned_page .nil pass0 (pa_cons (pv 0) (pa_cons (pe_call G_leasts_in_rows (hr.mono (by decide)) (by rfl) m_leasts_in_rows k_leasts_in_rows b_leasts_in_rows .nil pass0 (pa_cons (pv 0) (pa_cons (pv 1) (pa_cons (pv 2) pa_nil)))) pa_nil))))
      (pss_one (ps_ret (pe_call G_turned_page (hr.mono (by decide)) (by rfl) m_turned_page k_turned_page b_turned_page .nil pass0 (pa_cons (pv 3) (pa_cons (pe_call G_leasts_in_rows (hr.mono (by decide)) (by rfl) m_leasts_in_rows k_leasts_in_rows b_leasts_in_rows .nil pass0 (pa_cons (pv 3) (pa_cons (pv 1) (pa_cons (pv 4) pa_nil)))) pa_nil))))))), ?_⟩
    obtain ⟨w, d, a, h, g, rfl, hS, hw1, hw2, hh1, hh, hd, hg, q⟩ := h
    refine ⟨_, rfl, a, _, rfl, .inl hS, _, rfl, _, _, rfl, rfl, ⟨by omega, by omega⟩, ?_⟩
    show tSeq _ _ _ [some (.int w), some (.int d), some (.ref a), some (.int (((((EvM.eachI w h g).map V.int).length : Nat) : Int) / (w : Int))), none] H
    rw [each_rows hw1 g]
    refine ⟨_, rfl, _, rfl, _, rfl, _, rfl, w, d, a, h, g, rfl, hS, hw1, hw2, hh1, hh, hd, hg, fun H1 p1 s1 n1 hp1 => ?_⟩
    refine ⟨w, p1, h, EvM.lowR d w g, rfl, SqL.of hp1, hw1, hw2, hh1, hh, fun H2 p2 s2 n2 hp2 => ?_⟩
    refine ⟨_, rfl, _, rfl, _, rfl, _, rfl, h, d, p2, w, (fun r c => EvM.lowR d w g c r), rfl, SqL.of hp2, hh1, hh, hw1, hw2, hd, fun r c => EvM.lowS_by fun p => hg p r, fun H3 p3 s3 n3 hp3 => ?_⟩
    refine ⟨h, p3, w, EvM.lowR d h (fun r c => EvM.lowR d w g c r), rfl, SqL.of hp3, hh1, hh, hw1, hw2, fun H4 p4 s4 n4 hp4 => ?_⟩
    exact q H4 p4 (((s1.trans s2).trans s3).trans s4) (((s1.trans s2).trans s3).free n4) hp4
def sp_is_page (K : PySem.W.Frag) : Sp := fun vs H Q _ => ∃ (w : Int) (a : Addr) (xs : List Int), vs = [.int w, .ref a] ∧ SqL K H a (xs.map V.int) ∧ 0 ≤ w ∧ Q (.bl (EvM.isPage w xs.length)) H
theorem sp_is_page_len {K : PySem.W.Frag} {vs : List V} {H : Hp} {Q : VK} {E : XK} (h : sp_is_page K vs H Q E) : vs.length = 2 := by
  obtain ⟨_, _, _, rfl, _⟩ := h
  rfl
/-! is_page: slots 0 w, 1 x, 2 h -/
theorem ok_is_page {f : Addr} {fd : FuncData} (F : Fun K "is_page" "is_page" s_is_page f fd)
    (g_len : mg "len" = none)
    {t_MOST_SIDE : Tok} (c_MOST_SIDE : mg "MOST_SIDE" = some (.int (256) t_MOST_SIDE)) : FnOk P w K mg base CX0 1 f fd ["w", "x"] (sp_is_page K) := by
  refine F.ok sc_is_page (fun vs H Q E h => ?_) (fun cdv A outer s H vs Q E hr h => ?_)
  · exact sp_is_page_len h
  · refine ⟨_, (pss_cons (ps_if (PW.pt (pw_or (pt_cmpR op_lt (pv 0) pe_int (nomark _)) (pw_or1 (pt_cmpR op_gt (pv 0) (pe_glob (v := .int (256)) (by rfl) c_MOST_SIDE ⟨_, rfl⟩) (nomark _))))) (pss_one (ps_ret pe_bl)) pss_nil)
      (pss_cons (ps_set (i := 2) sc_is_page.nd rfl (Or.inl rfl) (pe_op op_fdiv (pe_callB call_len_seq (by rfl) g_len PySem.boot_len (pa_cons (pv 1) pa_nil)) (pv 0)))
      (pss_one (ps_ret (pe_and (pe_cmpR op_ge (pv 2) pe_int (nomark _)) (pe_one (pe_cmpR op_le (pv 2) (pe_glob (v := .int (256)) (by rfl) c_MOST_SIDE ⟨_, rfl⟩) (nomark _)))))))), ?_⟩
    obtain ⟨w, a, xs, rfl, hS, h0, q⟩ := h
    have no : ¬ (1 ≤ w ∧ w ≤ 256) → Q (.bl false) H := fun z => by
      have e : EvM.isPage w xs.length = false := by
        cases e : EvM.isPage w xs.length with
        | false => rfl
        | true => exact absurd ((EvM.isPage_iff h0).mp e).1 z
      rw [e] at q
      exact q
    refine ⟨_, rfl, _, _, rfl, rfl, _, rfl, ite2 (fun e => ?_) (fun e => ?_)⟩
    · have e : w < 1 := of_decide_eq_true e
      exact iteT (no (by omega))
    · have e : ¬ w < 1 := fun z => e (decide_eq_true z)
      refine ⟨_, rfl, _, _, rfl, rfl, _, rfl, ite2 (fun e2 => ?_) (fun e2 => ?_)⟩
      · have e2 : 256 < w := of_decide_eq_true e2
        exact no (by omega)
      · have e2 : ¬ 256 < w := fun z => e2 (decide_eq_true z)
        refine ⟨_, rfl, a, _, rfl, .inl hS, _, rfl, _, _, rfl, rfl, ⟨by omega, by omega⟩, ?_⟩
        rw [List.length_map]
        have key : EvM.isPage w xs.length = true ↔ 1 ≤ (xs.length : Int) / w ∧ (xs.length : Int) / w ≤ 256 := by
          rw [EvM.isPage_iff h0]
          exact ⟨fun z => z.2, fun z => ⟨by omega, z⟩⟩
        refine ⟨_, rfl, _, _, rfl, rfl, _, rfl, ite2 (fun e3 => ?_) (fun e3 => ?_)⟩
        · have e3 : 1 ≤ (xs.length : Int) / w := of_decide_eq_true e3
          refine ⟨_, rfl, _, _, rfl, rfl, ?_⟩
          have e4 : EvM.isPage w xs.length = decide ((xs.length : Int) / w ≤ 256) := by
            rw [Bool.eq_iff_iff, key, decide_eq_true_eq]
            exact ⟨fun z => z.2, fun z => ⟨e3, z⟩⟩
          rw [e4] at q
          exact q
        · have e3 : ¬ 1 ≤ (xs.length : Int) / w := fun z => e3 (decide_eq_true z)
          have e4 : EvM.isPage w xs.length = false := by
            cases e : EvM.isPage w xs.length with
            | false => rfl
            | true => exact absurd (key.mp e).1 e3
          rw [e4] at q
          exact q
def sp_li_darkest (K : PySem.W.Frag) : Sp := fun vs H Q _ => ∃ (w : Int) (d : Int) (a_x : Addr) (x : List Int), vs = [.int w, .int d, .ref a_x] ∧ SqL K H a_x (x.map V.int) ∧ x.length ≤ 70000 ∧ PySh55.li_darkest_asked w d x = true ∧
  ∀ (H' : Hp) (p : Addr), H' p = some (.lst ((PySh55.li_darkest w d x).map V.int)) → Q (.ref p) H'
theorem sp_li_darkest_len {K : PySem.W.Frag} {vs : List V} {H : Hp} {Q : VK} {E : XK} (h : sp_li_darkest K vs H Q E) : vs.length = 3 := by
  obtain ⟨_, _, _, _, rfl, _⟩ := h
  rfl
/-! li_darkest: slots 0 w, 1 d, 2 x -/
theorem ok_li_darkest {f : Addr} {fd : FuncData} (F : Fun K "li_darkest" "li_darkest" s_li_darkest f fd)
    {t_MOST_AROUND : Tok} (c_MOST_AROUND : mg "MOST_AROUND" = some (.int (64) t_MOST_AROUND))
    {t_OUT_OF_RANGE : Tok} (c_OUT_OF_RANGE : mg "OUT_OF_RANGE" = some (.int (-2) t_OUT_OF_RANGE))
    {f_darkest_of_page : Addr} {fd_darkest_of_page : FuncData} (G_darkest_of_page : FnOk P w K mg base CX0 3 f_darkest_of_page fd_darkest_of_page ["w", "d", "x"] (sp_darkest_of_page K)) (m_darkest_of_page : mg "darkest_of_page" = some (.ref f_darkest_of_page)) (k_darkest_of_page : PySem.W.keepIn K (.ref f_darkest_of_page) = true) (b_darkest_of_page : Binds K fd_darkest_of_page ["w", "d", "x"] [])
    {f_is_page : Addr} {fd_is_page : FuncData} (G_is_page : FnOk P w K mg base CX0 1 f_is_page fd_is_page ["w", "x"] (sp_is_page K)) (m_is_page : mg "is_page" = some (.ref f_is_page)) (k_is_page : PySem.W.keepIn K (.ref f_is_page) = true) (b_is_page : Binds K fd_is_page ["w", "x"] []) : FnOk P w K mg base CX0 4 f fd ["w", "d", "x"] (sp_li_darkest K) := by
  refine F.ok sc_li_darkest (fun vs H Q E h => ?_) (fun cdv A outer s H vs Q E hr h => ?_)
  · exact sp_li_darkest_len h
  · refine ⟨_, (pss_cons (ps_if (PW.pt (pw_or (pt_not (pt_val (pe_call G_is_page (hr.mono (by decide)) (by rfl) m_is_page k_is_page b_is_page .nil pass0 (pa_cons (pv 0) (pa_cons (pv 2) pa_nil))))) (pw_or1 (pt_cmpR op_gt (pv 1) (pe_glob (v := .int (64)) (by rfl) c_MOST_AROUND ⟨_, rfl⟩) (nomark _))))) (pss_one (ps_ret (pe_lst (pa_cons (pe_glob (v := .int (-2)) (by rfl) c_OUT_OF_RANGE ⟨_, rfl⟩) pa_nil)))) pss_nil)
      (pss_one (ps_ret (pe_op op_cat (pe_lst (pa_cons pe_int pa_nil)) (pe_call G_darkest_of_page (hr.mono (by decide)) (by rfl) m_darkest_of_page k_darkest_of_page b_darkest_of_page .nil pass0 (pa_cons (pv 0) (pa_cons (pv 1) (pa_cons (pv 2) pa_nil)))))))), ?_⟩
    obtain ⟨w, d, a, x, rfl, hS, hlen, hask, q⟩ := h
    obtain ⟨h0, h1, hb, hrows⟩ := EvM.darkest_asked hask
    have bad : ¬ (EvM.isPage w x.length = true ∧ d ≤ 64) → ∀ p, H p = none → Q (.ref p) (upd H p (.lst [.int (-2)])) := fun z p hp => q _ p (by
      rw [upd_same, EvM.darkest_bad h0 h1 z]
      rfl)
    refine ⟨_, rfl, _, rfl, w, a, x, rfl, hS, h0, _, rfl, ite2 (fun e => ?_) (fun e => ?_)⟩
    · have e1 : ¬ EvM.isPage w x.length = true := fun z => by
        rw [z] at e
        cases e
      exact iteT ⟨by decide, bad fun z => e1 z.1⟩
    · have hp : EvM.isPage w x.length = true := by
        cases z : EvM.isPage w x.length with
        | true => rfl
        | false =>
          rw [z] at e
          exact absurd rfl e
      refine ⟨_, rfl, _, _, rfl, rfl, _, rfl, ite2 (fun e2 => ?_) (fun e2 => ?_)⟩
      · have e2 : 64 < d := of_decide_eq_true e2
        exact ⟨by decide, bad fun z => absurd z.2 (by omega)⟩
      · have e2 : ¬ 64 < d := fun z => e2 (decide_eq_true z)
        have hl := hrows ⟨hp, by omega⟩
        have pg := EvM.isPage_nat hp
        have ew : w = (w.toNat : Int) := by omega
        have ed : d = (d.toNat : Int) := by omega
        have goal := EvM.darkest_ok h0 h1 ⟨hp, by omega⟩
        rw [EvM.darkest_list hb] at goal
        rw [goal] at q
        have hg : ∀ c r, 0 ≤ EvM.pix w.toNat x c r ∧ EvM.pix w.toNat x c r ≤ 255 := fun c r => EvM.pix_by hb
        rw [EvM.page_eq (by omega) hl] at hS
        generalize EvM.pix w.toNat x = g at hS q hg
        generalize hn : x.length / w.toNat = n at hS q pg
        clear hl hrows goal bad hask hlen hp
        generalize w.toNat = W at *
        generalize d.toNat = D at *
        subst ew ed
        refine ⟨by decide, fun o no => ?_⟩
        have s0 : Same H (upd H o (.lst [.int 0])) := same_upd no
        refine ⟨_, rfl, _, rfl, _, rfl, W, D, a, n, g, rfl, s0.seq hS, by omega, by omega, by omega, by omega, by omega, hg, fun H1 p s1 np hp1 => ?_⟩
        refine ⟨o, p, _, _, rfl, rfl, s1 _ _ upd_same, hp1, small ?_, fun r nr => q _ r ?_⟩
        · rw [List.length_map, EvM.eachI_len]
          have : n * W ≤ 256 * 256 := Nat.mul_le_mul (by omega) (by omega)
          show 1 + _ ≤ _
          omega
        · rw [upd_same]
          rfl
end
theorem all_mk {P : Program} {w : World} {K : PySem.W.Frag} {h : Heap} {mg : Str → Option Value} {fa : Addr} (X : K.In h) (G : h.Ns mainGlobals mg) (hfa : mg "li_darkest" = some (.ref fa))
    {f0 : Addr} {od0 an0 : Option Addr} {sl0 : Array (Option Value)} {oc0 kV0 dc0 pm0 cd0 ct0 : Value}
    (a0 : PySem.W.nsIn K mainGlobals "turned_page" = some (some (.ref f0))) (l0 : K.lookup f0 = some ⟨oc0, od0, .func (PySem.W.fnOf "turned_page" "turned_page" (defArgs s_turned_page) (defBody s_turned_page) (defScope s_turned_page) .none kV0 dc0 pm0 an0 cd0 ct0), sl0⟩) (q0 : PySem.W.codeIn K cd0 "turned_page" = true) (k0 : PySem.W.keepIn K (.ref f0) = true)
    {f1 : Addr} {od1 an1 : Option Addr} {sl1 : Array (Option Value)} {oc1 kV1 dc1 pm1 cd1 ct1 : Value}
    (a1 : PySem.W.nsIn K mainGlobals "row_of" = some (some (.ref f1))) (l1 : K.lookup f1 = some ⟨oc1, od1, .func (PySem.W.fnOf "row_of" "row_of" (defArgs s_row_of) (defBody s_row_of) (defScope s_row_of) .none kV1 dc1 pm1 an1 cd1 ct1), sl1⟩) (q1 : PySem.W.codeIn K cd1 "row_of" = true) (k1 : PySem.W.keepIn K (.ref f1) = true)
    {f2 : Addr} {od2 an2 : Option Addr} {sl2 : Array (Option Value)} {oc2 kV2 dc2 pm2 cd2 ct2 : Value}
    (a2 : PySem.W.nsIn K mainGlobals "leasts_in_rows" = some (some (.ref f2))) (l2 : K.lookup f2 = some ⟨oc2, od2, .func (PySem.W.fnOf "leasts_in_rows" "leasts_in_rows" (defArgs s_leasts_in_rows) (defBody s_leasts_in_rows) (defScope s_leasts_in_rows) .none kV2 dc2 pm2 an2 cd2 ct2), sl2⟩) (q2 : PySem.W.codeIn K cd2 "leasts_in_rows" = true) (k2 : PySem.W.keepIn K (.ref f2) = true)
    {f3 : Addr} {od3 an3 : Option Addr} {sl3 : Array (Option Value)} {oc3 kV3 dc3 pm3 cd3 ct3 : Value}
    (a3 : PySem.W.nsIn K mainGlobals "darkest_of_page" = some (some (.ref f3))) (l3 : K.lookup f3 = some ⟨oc3, od3, .func (PySem.W.fnOf "darkest_of_page" "darkest_of_page" (defArgs s_darkest_of_page) (defBody s_darkest_of_page) (defScope s_darkest_of_page) .none kV3 dc3 pm3 an3 cd3 ct3), sl3⟩) (q3 : PySem.W.codeIn K cd3 "darkest_of_page" = true) (k3 : PySem.W.keepIn K (.ref f3) = true)
    {f4 : Addr} {od4 an4 : Option Addr} {sl4 : Array (Option Value)} {oc4 kV4 dc4 pm4 cd4 ct4 : Value}
    (a4 : PySem.W.nsIn K mainGlobals "is_page" = some (some (.ref f4))) (l4 : K.lookup f4 = some ⟨oc4, od4, .func (PySem.W.fnOf "is_page" "is_page" (defArgs s_is_page) (defBody s_is_page) (defScope s_is_page) .none kV4 dc4 pm4 an4 cd4 ct4), sl4⟩) (q4 : PySem.W.codeIn K cd4 "is_page" = true) (k4 : PySem.W.keepIn K (.ref f4) = true)
    {f5 : Addr} {od5 an5 : Option Addr} {sl5 : Array (Option Value)} {oc5 kV5 dc5 pm5 cd5 ct5 : Value}
    (a5 : PySem.W.nsIn K mainGlobals "li_darkest" = some (some (.ref f5))) (l5 : K.lookup f5 = some ⟨oc5, od5, .func (PySem.W.fnOf "li_darkest" "li_darkest" (defArgs s_li_darkest) (defBody s_li_darkest) (defScope s_li_darkest) .none kV5 dc5 pm5 an5 cd5 ct5), sl5⟩) (q5 : PySem.W.codeIn K cd5 "li_darkest" = true) (k5 : PySem.W.keepIn K (.ref f5) = true)
    (z_len : PySem.W.nsIn K mainGlobals "len" = some none)
    (z_max : PySem.W.nsIn K mainGlobals "max" = some none)
    (z_min : PySem.W.nsIn K mainGlobals "min" = some none)
    (z_range : PySem.W.nsIn K mainGlobals "range" = some none)
    {t_MOST_AROUND : Tok} (y_MOST_AROUND : PySem.W.nsIn K mainGlobals "MOST_AROUND" = some (some (.int (64) t_MOST_AROUND)))
    {t_MOST_SIDE : Tok} (y_MOST_SIDE : PySem.W.nsIn K mainGlobals "MOST_SIDE" = some (some (.int (256) t_MOST_SIDE)))
    {t_OUT_OF_RANGE : Tok} (y_OUT_OF_RANGE : PySem.W.nsIn K mainGlobals "OUT_OF_RANGE" = some (some (.int (-2) t_OUT_OF_RANGE)))
    : ∃ fd : FuncData, (∀ (s : Shared) (us : List Value), us.length = (["w", "d", "x"] : List Str).length → BindsTo s fd ⟨us, []⟩ ((["w", "d", "x"] : List Str).zip us)) ∧ ∀ base : Heap, K.In base → base.Ns mainGlobals mg → FnOk P w K mg base CX0 4 fa fd ["w", "d", "x"] (sp_li_darkest K) := by
  have e := hfa.symm.trans (PySem.W.mg_of X G a5)
  cases e
  have F0 := fun_mk (st := s_turned_page) l0 q0 k0
  have b0 := F0.binds (ps := ["w", "x"]) fun _ _ _ _ _ _ us hl => match us, hl with | [_, _], _ => rfl
  have F1 := fun_mk (st := s_row_of) l1 q1 k1
  have b1 := F1.binds (ps := ["w", "x", "r"]) fun _ _ _ _ _ _ us hl => match us, hl with | [_, _, _], _ => rfl
  have F2 := fun_mk (st := s_leasts_in_rows) l2 q2 k2
  have b2 := F2.binds (ps := ["w", "d", "x"]) fun _ _ _ _ _ _ us hl => match us, hl with | [_, _, _], _ => rfl
  have F3 := fun_mk (st := s_darkest_of_page) l3 q3 k3
  have b3 := F3.binds (ps := ["w", "d", "x"]) fun _ _ _ _ _ _ us hl => match us, hl with | [_, _, _], _ => rfl
  have F4 := fun_mk (st := s_is_page) l4 q4 k4
  have b4 := F4.binds (ps := ["w", "x"]) fun _ _ _ _ _ _ us hl => match us, hl with | [_, _], _ => rfl
  have F5 := fun_mk (st := s_li_darkest) l5 q5 k5
  have b5 := F5.binds (ps := ["w", "d", "x"]) fun _ _ _ _ _ _ us hl => match us, hl with | [_, _, _], _ => rfl
  refine ⟨PySem.W.fnOf "li_darkest" "li_darkest" (defArgs s_li_darkest) (defBody s_li_darkest) (defScope s_li_darkest) .none kV5 dc5 pm5 an5 cd5 ct5, fun s us hu => match us, hu with | [_, _, _], _ => .of_eq rfl, fun base _ _ => ?_⟩
  have O0 : FnOk P w K mg base CX0 1 _ _ ["w", "x"] (sp_turned_page K) := ok_turned_page F0 (PySem.W.mg_none_of X G z_range) (PySem.W.mg_none_of X G z_len)
  have O1 : FnOk P w K mg base CX0 1 _ _ ["w", "x", "r"] (sp_row_of K) := ok_row_of F1 
  have O2 : FnOk P w K mg base CX0 2 _ _ ["w", "d", "x"] (sp_leasts_in_rows K) := ok_leasts_in_rows F2 (PySem.W.mg_none_of X G z_range) (PySem.W.mg_none_of X G z_len) (PySem.W.mg_none_of X G z_min) (PySem.W.mg_none_of X G z_max) O1 (PySem.W.mg_of X G a1) k1 b1
  have O3 : FnOk P w K mg base CX0 3 _ _ ["w", "d", "x"] (sp_darkest_of_page K) := ok_darkest_of_page F3 (PySem.W.mg_none_of X G z_len) O0 (PySem.W.mg_of X G a0) k0 b0 O2 (PySem.W.mg_of X G a2) k2 b2
  have O4 : FnOk P w K mg base CX0 1 _ _ ["w", "x"] (sp_is_page K) := ok_is_page F4 (PySem.W.mg_none_of X G z_len) (PySem.W.mg_of X G y_MOST_SIDE)
  have O5 : FnOk P w K mg base CX0 4 _ _ ["w", "d", "x"] (sp_li_darkest K) := ok_li_darkest F5 (PySem.W.mg_of X G y_MOST_AROUND) (PySem.W.mg_of X G y_OUT_OF_RANGE) O3 (PySem.W.mg_of X G a3) k3 b3 O4 (PySem.W.mg_of X G a4) k4 b4
  exact O5
theorem end_li_darkest {K : PySem.W.Frag} {H : Hp} {w : Int} {d : Int} {a_x : Addr} {x : List Int} (h_x : SqL K H a_x (x.map V.int)) (hwi : (Codec.inInt (0) (4294967295) w && (Codec.inInt (0) (4294967295) d && ((Codec.inLen 0 70000 x && x.all (Codec.inInt (0) (255))) && true))) = true) (hask : PySh55.li_darkest_asked w d x = true) :
    sp_li_darkest K [.int w, .int d, .ref a_x] H (fun v H' => Dw K H' v (.list ((PySh55.li_darkest w d x).map .int))) fun _ _ _ => False := by
  obtain ⟨w_w, hwi⟩ := Bool.and_eq_true_iff.mp hwi
  obtain ⟨w_d, hwi⟩ := Bool.and_eq_true_iff.mp hwi
  obtain ⟨w_x, hwi⟩ := Bool.and_eq_true_iff.mp hwi
  obtain ⟨l_x, _⟩ := Bool.and_eq_true_iff.mp w_x
  exact ⟨w, d, _, x, rfl, h_x, (Codec.inNat_iff.mp l_x).2, hask, fun H' p hp => .lst (L2.SqL.of hp) (L2.dw_ints _)⟩
end Ev
open PySem PySem.W PyProof.Rows
set_option maxRecDepth 100000 in
set_option maxHeartbeats 8000000 in
theorem PySem.Challenge.cw_evenlight_s08_li_darkest_holds : PySem.Challenge.rw_evenlight_s08_li_darkest.Holds := by
  w_on; k_headS; (case hw => exact ⟨[.int 0, .int 0, .list []], by decide +kernel, by decide +kernel⟩)
  k_fillS
  refine L2.walk_specK (r := PySem.Challenge.rw_evenlight_s08_li_darkest) (k := 4) (CX := L2.CX0) (ps := ["w", "d", "x"]) (sp := Ev.sp_li_darkest) (by decide +kernel) rfl rfl ⟨rfl, by decide, by decide⟩ (fun w h Y => PySem.W.kIn_of Y) ?F ?S (fun _ _ _ _ z => z)
  case F =>
    intro w mg fa h Y KX G hmg
    refine' Ev.all_mk KX G hmg ?a0 ?l0 ?q0 ?k0 ?a1 ?l1 ?q1 ?k1 ?a2 ?l2 ?q2 ?k2 ?a3 ?l3 ?q3 ?k3 ?a4 ?l4 ?q4 ?k4 ?a5 ?l5 ?q5 ?k5 ?z_len ?z_max ?z_min ?z_range ?y_MOST_AROUND ?y_MOST_SIDE ?y_OUT_OF_RANGE
    (case a0 => k_is)
    (case l0 => k_is)
    (case q0 => k_is)
    (case k0 => k_is)
    (case a1 => k_is)
    (case l1 => k_is)
    (case q1 => k_is)
    (case k1 => k_is)
    (case a2 => k_is)
    (case l2 => k_is)
    (case q2 => k_is)
    (case k2 => k_is)
    (case a3 => k_is)
    (case l3 => k_is)
    (case q3 => k_is)
    (case k3 => k_is)
    (case a4 => k_is)
    (case l4 => k_is)
    (case q4 => k_is)
    (case k4 => k_is)
    (case a5 => k_is)
    (case l5 => k_is)
    (case q5 => k_is)
    (case k5 => k_is)
    (case z_len => k_is)
    (case z_max => k_is)
    (case z_min => k_is)
    (case z_range => k_is)
    (case y_MOST_AROUND => k_is)
    (case y_MOST_SIDE => k_is)
    (case y_OUT_OF_RANGE => k_is)
  case S =>
    intro K H xs a hO hwi hask hx
    obtain ⟨a0, a1, a2, u⟩ := a
    cases hx with
    | cons h0 hx =>
    cases hx with
    | cons h1 hx =>
    cases hx with
    | cons h2 hx =>
    cases hx
    cases h0
    cases h1
    cases h2 with
    | lst hs2 ha2 =>
    have e2 := L2.ints_dw a2 _ ha2
    subst e2
    exact Ev.end_li_darkest hs2 hwi hask
#print axioms PySem.Challenge.cw_evenlight_s08_li_darkest_holds
