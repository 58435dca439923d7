/- My own work: derivations that came in, opened. -/
import Derived.Test.YtmpgfepkdhjibaaDoorOwnA
import Derived.ProofKit
import Derived.OpenShut
import Derived.ShutString
import Derived.ChangeOld
import Derived.SizedLaws
import Derived.Deep.DeepHandedRow
import Derived.Deep.Slices
import Derived.Deep.Strs
import Derived.Deep.Grids
namespace Go.Proofs.YtmpgfepkdhjibaaDoor
open Go.ChangeShapes Go.WideShapes Go.ChangeAt Go.RowKit Go.Deep

theorem flat_strV (l : List ByteArray) : l.flatMap (fun s => [Value.string s]) = strV l := by
  unfold strV
  induction l with
  | nil => rfl
  | cons a l ih => rw [List.flatMap_cons, ih]; rfl
theorem len2 {α : Type} {l : List α} (h : l.length = 2) : ∃ a b, l = [a, b] := by
  match l, h with
  | [a, b], _ => exact ⟨a, b, rfl⟩
theorem len3 {α : Type} {l : List α} (h : l.length = 3) : ∃ a b c, l = [a, b, c] := by
  match l, h with
  | [a, b, c], _ => exact ⟨a, b, c, rfl⟩
theorem len7 {α : Type} {l : List α} (h : l.length = 7) : ∃ v0 v1 v2 v3 v4 v5 v6, l = [v0, v1, v2, v3, v4, v5, v6] := by
  match l, h with
  | [v0, v1, v2, v3, v4, v5, v6], _ => exact ⟨_, _, _, _, _, _, _, rfl⟩
theorem laidOut : laidOutB Tryd.prog = true := by kernel_rfl
section
variable {H : Type} {enc : TypeId × Value → H} {W : World}
theorem weights_all {e : TypeId} {d : DataW H} {n : Nat} (hn : n ∈ d.weights Tryd.prog e) : ∀ (L : List (DataW H)), d ∈ L → n ∈ DataW.weightsAll Tryd.prog e L
  | [], h => by cases h
  | y :: r, h => by
    simp only [DataW.weightsAll, List.mem_append]
    rcases List.mem_cons.1 h with e1 | e1
    · left; rw [← e1]; exact hn
    · right; exact weights_all hn r e1
theorem addr_plain (b off i : Nat) : (⟨b, off, none⟩ : Addr).add i = ⟨b, off + i, none⟩ := by unfold Addr.add; split <;> simp_all
/-- What a list's data are. -/
def ListD {α : Type} (R : α → DataW H → Prop) (l : List α) (d : DataW H) : Prop := (l = [] ∧ d = .nil) ∨ ∃ ds sp, d = .slice ds sp ∧ ds.length = l.length ∧ ∀ i (h : i < l.length) (h' : i < ds.length), R l[i] ds[i]
theorem open_sl {α : Type} [Inhabited α] (k bytes : Nat) (hk : 0 < k) (_hby : 1 ≤ bytes) (t e : TypeId) (ht : Tryd.prog.underlying t = some (.slice e)) (hce : Tryd.prog.cellsOf e = k) (hbe : Tryd.prog.bytesOf e = bytes) (f : α → List Value) (hf : ∀ x, (f x).length = k) (R : α → DataW H → Prop)
    (el : ∀ n cs d p, DataW.trod enc Tryd.prog W 0 (fun _ => true) true n e cs = some (d, p) → (∀ q ∈ d.weights Tryd.prog e, q ≤ reachBytes) → ∃ x, cs = f x ∧ R x d)
    {fuel : Nat} {v : Value} {x : DataW H × List MemPlace} (h : DataW.trod enc Tryd.prog W 0 (fun _ => true) true fuel t [v] = some x) (hw : ∀ n ∈ x.1.weights Tryd.prog t, n ≤ reachBytes) :
    ∃ l : List α, SlAt W v l.length (l.flatMap f) ∧ l.length * bytes ≤ 140737488351232 ∧ ListD R l x.1 := by
  rcases open_slice ht h with ⟨hcs, hx⟩ | ⟨x', l, c, mm, n, D, Pl, hcs, _, hl, hm, hmm, hx4, hall4⟩
  · simp at hcs
    subst hcs
    exact ⟨[], ⟨⟨none, 0, 0, 0, rfl, Nat.le_refl _, by omega, fun h => absurd rfl h, fun i x hx => by simp at hx⟩, fun n' c' e => by simp at e; omega⟩, by simp, .inl ⟨rfl, by rw [hx]⟩⟩
  · simp at hcs
    subst hcs
    simp only [if_true] at hmm
    subst hmm
    rw [hce] at hall4
    have each : ∀ i, i < l → ∃ y : α, (∃ cs', W.cells? 0 (x'.add (i * k)) k = some cs' ∧ cs' = f y) ∧ R y (D i) := by
      intro i hi
      obtain ⟨cs', h1, h2⟩ := hall4 i (by omega)
      obtain ⟨y, hy, hR⟩ := el n cs' (D i) (Pl i) h2 (fun q hq => hw q (by
        rw [hx4]
        simp only [DataW.weights, ht, List.mem_cons, List.mem_append]
        right; left
        exact weights_all hq _ (List.mem_map.2 ⟨i, List.mem_range.2 hi, rfl⟩)))
      exact ⟨y, ⟨cs', h1, hy⟩, hR⟩
    obtain ⟨P, hP⟩ := choose_lt each
    have hsp0 : 0 < l → x' = ⟨x'.block, x'.off, none⟩ := fun h0 => by
      obtain ⟨⟨cs', h1, h2⟩, _⟩ := hP 0 h0
      obtain ⟨_, hlen6, hcell⟩ := World.cells?_some h1
      have h3 := hcell 0 (by omega)
      rw [List.getElem?_eq_getElem (by omega)] at h3
      obtain ⟨bb, oo, sp⟩ := x'
      have hs : sp = none := by simpa [Addr.add] using World.cell?_spot h3
      rw [hs]
    have hlen : ((List.range l).map P).length = l := by simp
    refine ⟨(List.range l).map P, ⟨⟨some x', mm, x'.block, x'.off, by rw [hlen], by rw [hlen]; exact hl, by unfold maxLen at hm; omega, fun hne => ?_, fun j u hj => ?_⟩, fun n' c' e => by simp at e⟩, ?_, ?_⟩
    · refine congrArg some (hsp0 ?_)
      by_cases h0 : l = 0
      · subst h0; simp at hne
      · omega
    · have hj2 := (List.getElem?_eq_some_iff.1 hj).1
      rw [flat_len k f hf, hlen] at hj2
      have hi : j / k < l := Nat.div_lt_of_lt_mul hj2
      have hr : j % k < k := Nat.mod_lt _ hk
      have hjk : k * (j / k) + j % k = j := Nat.div_add_mod j k
      have h1 := flat_at k f hf ((List.range l).map P) (j / k) (j % k) (by rw [hlen]; exact hi) hr
      rw [hjk, hj] at h1
      simp only [List.getElem_map, List.getElem_range] at h1
      obtain ⟨⟨cs', h2, h3⟩, _⟩ := hP (j / k) hi
      obtain ⟨_, hlen6, hcell⟩ := World.cells?_some h2
      have h4 := hcell (j % k) (by omega)
      rw [h3, ← h1, hsp0 (Nat.lt_of_le_of_lt (Nat.zero_le _) hi), addr_plain, addr_plain] at h4
      have e : x'.off + j / k * k + j % k = x'.off + j := by rw [Nat.add_assoc, Nat.mul_comm, hjk]
      rw [e] at h4
      exact h4
    · have h := hw ((l + (mm - l)) * bytes) (by
        rw [hx4]
        simp only [DataW.weights, ht, hbe, List.mem_cons, List.length_map, List.length_range]
        left
        first | trivial | (congr 2; simp))
      simp only [reachBytes] at h
      rw [hlen]
      have : l * bytes ≤ (l + (mm - l)) * bytes := Nat.mul_le_mul_right _ (by omega)
      omega
    · refine .inr ⟨(List.range l).map D, _, by rw [hx4], by simp, fun i h h' => ?_⟩
      simp only [List.getElem_map, List.getElem_range]
      rw [hlen] at h
      exact (hP i h).2
theorem cells9 : Tryd.prog.cellsOf 9 = 1 := by kernel_rfl
theorem cellsOS : Tryd.prog.cellsOf 22 = 1 := by kernel_rfl
theorem cellsIS : Tryd.prog.cellsOf 23 = 1 := by kernel_rfl
theorem cellsSS : Tryd.prog.cellsOf 24 = 1 := by kernel_rfl
theorem cellsPS : Tryd.prog.cellsOf 25 = 1 := by kernel_rfl
theorem cellsO : Tryd.prog.cellsOf 46 = 3 := by kernel_rfl
theorem cellsI : Tryd.prog.cellsOf 52 = 2 := by kernel_rfl
theorem cellsP : Tryd.prog.cellsOf 60 = 2 := by kernel_rfl
theorem cellsD : Tryd.prog.cellsOf 27 = 7 := by kernel_rfl
theorem bytes9 : Tryd.prog.bytesOf 9 = 16 := by kernel_rfl
theorem bytesO : Tryd.prog.bytesOf 46 = 48 := by kernel_rfl
theorem bytesI : Tryd.prog.bytesOf 52 = 40 := by kernel_rfl
theorem bytesP : Tryd.prog.bytesOf 60 = 32 := by kernel_rfl
/-- A text's data. -/
def StrD (s : ByteArray) (d : DataW H) : Prop := d = .lit (.string s.data.toList)
def OutD (o : ByteArray × ByteArray × ByteArray) (d : DataW H) : Prop := d = .agg [.lit (.string o.1.data.toList), .lit (.string o.2.1.data.toList), .lit (.string o.2.2.data.toList)]
def PairD (o : ByteArray × ByteArray) (d : DataW H) : Prop := d = .agg [.lit (.string o.1.data.toList), .lit (.string o.2.data.toList)]
def InD (o : ByteArray × List ByteArray) (d : DataW H) : Prop := ∃ dn, d = .agg [.lit (.string o.1.data.toList), dn] ∧ ListD StrD o.2 dn
theorem el_str (n : Nat) (cs : List Value) (d : DataW H) (p : List MemPlace) (h : DataW.trod enc Tryd.prog W 0 (fun _ => true) true n 9 cs = some (d, p)) (_hw : ∀ q ∈ d.weights Tryd.prog 9, q ≤ reachBytes) : ∃ x : ByteArray, cs = [Value.string x] ∧ StrD x d := by
  obtain ⟨s, e1, e2, _⟩ := DataW.trod_string Tryd.underlying9 h
  exact ⟨s, e1, (Prod.mk.injEq .. ▸ e2).1⟩
theorem open_strs8 {fuel : Nat} {v : Value} {x : DataW H × List MemPlace} (h : DataW.trod enc Tryd.prog W 0 (fun _ => true) true fuel 24 [v] = some x) (hw : ∀ n ∈ x.1.weights Tryd.prog 24, n ≤ reachBytes) :
    ∃ l : List ByteArray, SlAt W v l.length (strV l) ∧ l.length * 16 ≤ 140737488351232 ∧ ListD StrD l x.1 := by
  obtain ⟨l, h1, h2, h3⟩ := open_sl (α := ByteArray) 1 16 (by omega) (by omega) 24 9 Tryd.underlying24 cells9 bytes9 (fun s => [Value.string s]) (fun _ => rfl) StrD el_str h hw
  rw [flat_strV] at h1
  exact ⟨l, h1, h2, h3⟩
theorem el_out (n : Nat) (cs : List Value) (d : DataW H) (p : List MemPlace) (h : DataW.trod enc Tryd.prog W 0 (fun _ => true) true n 46 cs = some (d, p)) (_hw : ∀ q ∈ d.weights Tryd.prog 46, q ≤ reachBytes) : ∃ x : ByteArray × ByteArray × ByteArray, cs = [Value.string x.1, .string x.2.1, .string x.2.2] ∧ OutD x d := by
  obtain ⟨y0, y1, y2, m, e, hl, h0, h1, h2⟩ := trod_struct3 Tryd.underlying46 h
  rw [cellsO] at hl
  obtain ⟨s0, e0, rfl, _⟩ := DataW.trod_string Tryd.underlying9 h0
  obtain ⟨s1, e1, rfl, _⟩ := DataW.trod_string Tryd.underlying9 h1
  obtain ⟨s2, e2, rfl, _⟩ := DataW.trod_string Tryd.underlying9 h2
  clear h h0 h1 h2
  obtain ⟨a, b, c, rfl⟩ := len3 hl
  simp only [cells9, List.drop_zero, List.drop_succ_cons, List.take_succ_cons, List.take_zero, List.cons.injEq, and_true] at e0 e1 e2
  simp only [Prod.mk.injEq] at e
  exact ⟨(s0, s1, s2), by rw [e0, e1, e2], e.1⟩
theorem el_pair (n : Nat) (cs : List Value) (d : DataW H) (p : List MemPlace) (h : DataW.trod enc Tryd.prog W 0 (fun _ => true) true n 60 cs = some (d, p)) (_hw : ∀ q ∈ d.weights Tryd.prog 60, q ≤ reachBytes) : ∃ x : ByteArray × ByteArray, cs = [Value.string x.1, .string x.2] ∧ PairD x d := by
  obtain ⟨y0, y1, m, e, hl, h0, h1⟩ := trod_struct2 Tryd.underlying60 h
  rw [cellsP] at hl
  obtain ⟨s0, e0, rfl, _⟩ := DataW.trod_string Tryd.underlying9 h0
  obtain ⟨s1, e1, rfl, _⟩ := DataW.trod_string Tryd.underlying9 h1
  clear h h0 h1
  obtain ⟨a, b, rfl⟩ := len2 hl
  simp only [cells9, List.drop_zero, List.drop_succ_cons, List.take_succ_cons, List.take_zero, List.cons.injEq, and_true] at e0 e1
  simp only [Prod.mk.injEq] at e
  exact ⟨(s0, s1), by rw [e0, e1], e.1⟩
/-- An input with its names' slice. -/
def InR (W : World) (o : (ByteArray × List ByteArray) × Value) (d : DataW H) : Prop := SlAt W o.2 o.1.2.length (strV o.1.2) ∧ o.1.2.length * 16 ≤ 140737488351232 ∧ InD o.1 d
theorem el_in (n : Nat) (cs : List Value) (d : DataW H) (p : List MemPlace) (h : DataW.trod enc Tryd.prog W 0 (fun _ => true) true n 52 cs = some (d, p)) (hw : ∀ q ∈ d.weights Tryd.prog 52, q ≤ reachBytes) : ∃ x : (ByteArray × List ByteArray) × Value, cs = [Value.string x.1.1, x.2] ∧ InR W x d := by
  obtain ⟨y0, y1, m, e, hl, h0, h1⟩ := trod_struct2 Tryd.underlying52 h
  rw [cellsI] at hl
  obtain ⟨s0, e0, rfl, _⟩ := DataW.trod_string Tryd.underlying9 h0
  simp only [Prod.mk.injEq] at e
  obtain ⟨rfl, _⟩ := e
  have hwe : ∀ q ∈ y1.1.weights Tryd.prog 24, q ≤ reachBytes := fun q hq => hw q (by
    simp only [DataW.weights, Tryd.underlying52]
    exact DataW.weights_mem_each (ts := [9, 24]) (j := 1) rfl rfl q hq)
  clear h h0 hw
  obtain ⟨a, b, rfl⟩ := len2 hl
  simp only [cells9, cellsSS, List.drop_zero, List.drop_succ_cons, List.take_succ_cons, List.take_zero, List.cons.injEq, and_true] at e0 h1
  obtain ⟨l, k1, k2, k3⟩ := open_strs8 h1 hwe
  exact ⟨((s0, l), b), by rw [e0], k1, k2, _, rfl, k3⟩
/-- A derivation's data. -/
def DrvD (d : Dv) (x : DataW H) : Prop := ∃ d0 d1 d2 d5 d6, x = .agg [d0, d1, d2, .lit (.string d.sys.data.toList), .lit (.string d.bld.data.toList), d5, d6] ∧ ListD OutD d.outs d0 ∧ ListD InD d.ins d1 ∧ ListD StrD d.srcs d2 ∧ ListD StrD d.args d5 ∧ ListD PairD d.env d6
set_option maxRecDepth 20000 in
theorem open_drv {fuel : Nat} {cs : List Value} {x : DataW H × List MemPlace} (h : DataW.trod enc Tryd.prog W 0 (fun _ => true) true fuel 27 cs = some x) (hw : ∀ n ∈ x.1.weights Tryd.prog 27, n ≤ reachBytes) : ∃ d, DrvAt W d cs.toArray ∧ Few d ∧ DrvD d x.1 := by
  obtain ⟨xs, m, _, hx, hl, hxl, hall⟩ := DataW.trod_struct Tryd.underlying27 h
  rw [cellsD] at hl
  have hxl' : xs.length = 7 := by rw [hxl]; rfl
  obtain ⟨v0, v1, v2, v3, v4, v5, v6, rfl⟩ := len7 hl
  obtain ⟨y0, y1, y2, y3, y4, y5, y6, rfl⟩ := len7 hxl'
  have g0 := hall 0 _ rfl
  have g1 := hall 1 _ rfl
  have g2 := hall 2 _ rfl
  have g3 := hall 3 _ rfl
  have g4 := hall 4 _ rfl
  have g5 := hall 5 _ rfl
  have g6 := hall 6 _ rfl
  simp [cells9, cellsOS, cellsIS, cellsSS, cellsPS] at g0 g1 g2 g3 g4 g5 g6
  have hwe : ∀ n ∈ DataW.weightsEach Tryd.prog [22, 23, 24, 9, 9, 24, 25] [y0.1, y1.1, y2.1, y3.1, y4.1, y5.1, y6.1], n ≤ reachBytes := by
    intro n hn
    refine hw n ?_
    rw [hx]
    simp only [DataW.weights, Tryd.underlying27]
    exact hn
  obtain ⟨s3, e3, rfl, _⟩ := DataW.trod_string Tryd.underlying9 g3
  obtain ⟨s4, e4, rfl, _⟩ := DataW.trod_string Tryd.underlying9 g4
  obtain ⟨lo, o1, o2, o3⟩ := open_sl (α := ByteArray × ByteArray × ByteArray) 3 48 (by omega) (by omega) 22 46 Tryd.underlying22 cellsO bytesO (fun o => [Value.string o.1, .string o.2.1, .string o.2.2]) (fun _ => rfl) OutD el_out g0 (fun n hn => hwe n (DataW.weights_mem_each (j := 0) rfl rfl n hn))
  obtain ⟨li, i1, i2, i3⟩ := open_sl (α := (ByteArray × List ByteArray) × Value) 2 40 (by omega) (by omega) 23 52 Tryd.underlying23 cellsI bytesI (fun o => [Value.string o.1.1, o.2]) (fun _ => rfl) (InR W) el_in g1 (fun n hn => hwe n (DataW.weights_mem_each (j := 1) rfl rfl n hn))
  obtain ⟨ls, s1, s2, sd⟩ := open_strs8 g2 (fun n hn => hwe n (DataW.weights_mem_each (j := 2) rfl rfl n hn))
  obtain ⟨la, a1, a2, ad⟩ := open_strs8 g5 (fun n hn => hwe n (DataW.weights_mem_each (j := 5) rfl rfl n hn))
  obtain ⟨lp, p1, p2, p3⟩ := open_sl (α := ByteArray × ByteArray) 2 32 (by omega) (by omega) 25 60 Tryd.underlying25 cellsP bytesP (fun o => [Value.string o.1, .string o.2]) (fun _ => rfl) PairD el_pair g6 (fun n hn => hwe n (DataW.weights_mem_each (j := 6) rfl rfl n hn))
  simp at e3 e4
  subst e3 e4
  clear g0 g1 g2 g3 g4 g5 g6 hall h
  have hR : ∀ i (h : i < li.length), ∃ d, InR W li[i] (d : DataW H) := by
    intro i h
    rcases i3 with ⟨rfl, _⟩ | ⟨ds, sp, _, h2, h3⟩
    · simp at h
    · exact ⟨_, h3 i h (by omega)⟩
  have hzip : inV (li.map (·.1)) (li.map (·.2)) = li.flatMap fun o => [Value.string o.1.1, o.2] := by
    unfold inV
    rw [List.zip_map', List.flatMap_map]
  refine ⟨⟨lo, li.map (·.1), ls, s3, s4, la, lp⟩, ⟨v0, v1, v2, v5, v6, rfl, o1, ⟨li.map (·.2), by simp, ?_, fun i h h' => ?_⟩, s1, a1, p1⟩, ⟨by simp only; omega, by simp only [List.length_map]; omega, by simp only; omega, by simp only; omega, by simp only; omega, fun x hx => ?_⟩, ?_⟩
  · simp only [List.length_map]
    rw [hzip]
    exact i1
  · simp only [List.getElem_map]
    simp only [List.length_map] at h
    obtain ⟨_, hh⟩ := hR i h
    exact hh.1
  · simp only [List.mem_map] at hx
    obtain ⟨o, ho, rfl⟩ := hx
    obtain ⟨i, hi, rfl⟩ := List.mem_iff_getElem.1 ho
    obtain ⟨_, hh⟩ := hR i hi
    have := hh.2.1
    omega
  · rw [hx]
    refine ⟨y0.1, y1.1, y2.1, y5.1, y6.1, rfl, o3, ?_, sd, ad, p3⟩
    rcases i3 with ⟨rfl, e⟩ | ⟨ds, sp, h1, h2, h3⟩
    · exact .inl ⟨rfl, e⟩
    · refine .inr ⟨ds, sp, h1, by simp only [List.length_map]; exact h2, fun i h h' => ?_⟩
      simp only [List.length_map] at h
      simp only [List.getElem_map]
      exact (h3 i h h').2.2
end
end Go.Proofs.YtmpgfepkdhjibaaDoor
