package tests

import (
	"fmt"
	"math"
	"slices"
	"testing"

	"loop.example/g00246/impl"
)

// Counts below 1, and such as are more than there can be of anything.
var (
	lowCounts  = []int{0, -1, -2, -impl.Pages, math.MinInt + 1, math.MinInt}
	highCounts = []int{longest + 2, 1 << 32, math.MaxInt - 1, math.MaxInt}
)

// plainCut is Cut by the document's words, act by act, of what is ChipOk.
func plainCut(c impl.Chip, list []impl.Act, k, n int) impl.Chip {
	for i, a := range list {
		ok := false
		switch {
		case i < k && a.Kind == impl.ActBurn:
			c, ok = impl.Burn(c, a.At, a.Text)
		case i < k && a.Kind == impl.ActClear:
			c, ok = impl.Clear(c, a.At)
		case a.Kind == impl.ActBurn:
			c = impl.Torn(c, a.At, a.Text, n)
		case a.Kind == impl.ActClear:
			c = impl.Half(c, a.At, n)
		}
		if !ok {
			break
		}
	}
	return c
}

// plainWrites is Writes by the document's words, of what is FtlOk.
func plainWrites(f impl.Ftl, list []impl.Put) ([]impl.Act, impl.Ftl, bool) {
	var acts []impl.Act
	now := f
	for i, p := range list {
		more, then, ok := plainPlan(now, p.Sector, p.Data)
		if i >= 8 || !ok {
			return nil, f, false
		}
		acts, now = append(acts, more...), then
	}
	return acts, now, true
}

// somePuts are so many, of sectors and texts told apart by the seed alone; sectors may come more than once.
func somePuts(seed, many int) []impl.Put {
	var list []impl.Put
	state := uint64(seed)*2654435761 + 99
	for i := range many {
		state = state*6364136223846793005 + 1442695040888963407
		list = append(list, impl.Put{Sector: int(state>>33) % impl.Sectors, Data: fmt.Sprint("put ", seed, " ", i)})
	}
	return list
}

func TestMaxPuts(t *testing.T) {
	if impl.MaxPuts != 8 {
		t.Error("MaxPuts", impl.MaxPuts)
	}
}

// Each count of acts that are done, and each part of the next one: those behind it are not done.
func TestCutKnown(t *testing.T) {
	c := usedChip()
	list := []impl.Act{burnAt(24, "abcd"), clearOf(1), burnAt(6, "hello"), clearOf(lastBlock)}
	done := []impl.Chip{c}
	done = append(done, withPage(done[0], 24, "abcd"))
	done = append(done, withCleared(done[1], 1, impl.Pages))
	done = append(done, withPage(done[2], 6, "hello"))
	done = append(done, withCleared(done[3], lastBlock, impl.Pages))
	for n := -3; n <= 9; n++ {
		part := []impl.Chip{
			withPage(done[0], 24, "abcd"[:min(max(n, 0), 4)]),
			withCleared(done[1], 1, min(n, impl.Pages)),
			withPage(done[2], 6, "hello"[:min(max(n, 0), 5)]),
			withCleared(done[3], lastBlock, min(n, impl.Pages)),
		}
		for k, want := range part {
			wantChip(t, fmt.Sprint("cut at ", k, " ", n), impl.Cut(c, list, k, n), want)
		}
		for _, k := range lowCounts {
			wantChip(t, fmt.Sprint("cut at ", k, " ", n), impl.Cut(c, list, k, n), part[0])
		}
		for _, k := range append([]int{4, 5, 6}, highCounts...) {
			wantChip(t, fmt.Sprint("cut at ", k, " ", n), impl.Cut(c, list, k, n), done[4])
		}
	}
}

// Of no act there is no part; the chip is not asked what it is, as by ApplyAll.
func TestCutOfNothing(t *testing.T) {
	chips := wrongChips()
	chips["new"], chips["used"], chips["full"] = impl.ChipNew(), usedChip(), fullChip()
	for name, c := range chips {
		for _, k := range []int{math.MinInt, -1, 0, 1, math.MaxInt} {
			for _, n := range []int{-1, 0, 3, math.MaxInt} {
				wantChip(t, name, impl.Cut(c, nil, k, n), c)
				wantChip(t, name, impl.Cut(c, []impl.Act{}, k, n), c)
			}
		}
	}
}

// A burn is cut at each of its bytes: none, some, all but one, all, and more than there are.
func TestCutOfABurn(t *testing.T) {
	ahead := []impl.Act{clearOf(3), burnAt(24, "ahead")}
	start := usedChip()
	c := withPage(withCleared(start, 3, impl.Pages), 24, "ahead")
	for _, text := range []string{"h", "hello", recText(3, 9, "hi"), someText(impl.MaxText), someText(longest)} {
		list := append(slices.Clone(ahead), burnAt(18, text), burnAt(19, "behind"))
		for _, n := range lowCounts {
			wantChip(t, fmt.Sprint("bytes: ", n), impl.Cut(start, list, 2, n), c)
		}
		for n := 1; n <= len(text); n++ {
			wantChip(t, fmt.Sprint("bytes: ", n), impl.Cut(start, list, 2, n), withPage(c, 18, text[:n]))
		}
		for _, n := range append([]int{len(text) + 1, len(text) + 2}, highCounts...) {
			wantChip(t, fmt.Sprint("bytes: ", n), impl.Cut(start, list, 2, n), withPage(c, 18, text))
		}
	}
}

// A clear is cut at each of its pages, and counts even where no page was cleared; at MaxNum it does not begin.
func TestCutOfAClear(t *testing.T) {
	for b := range impl.Blocks {
		start := withWear(withShape(fullChip(), (b+1)%impl.Blocks, "......"), b, impl.MaxNum-1)
		page := (b + 1) % impl.Blocks * impl.Pages
		list := []impl.Act{burnAt(page, "ahead"), clearOf(b), clearOf((b + 2) % impl.Blocks)}
		c := withPage(start, page, "ahead")
		for _, n := range lowCounts {
			wantChip(t, fmt.Sprint("pages: ", n), impl.Cut(start, list, 1, n), withCleared(c, b, 0))
		}
		for n := 1; n <= impl.Pages; n++ {
			wantChip(t, fmt.Sprint("pages: ", n), impl.Cut(start, list, 1, n), withCleared(c, b, n))
		}
		for _, n := range append([]int{impl.Pages + 1, impl.Pages + 2, allPages}, highCounts...) {
			wantChip(t, fmt.Sprint("pages: ", n), impl.Cut(start, list, 1, n), withCleared(c, b, impl.Pages))
		}
		for n := -1; n <= impl.Pages+1; n++ {
			often := impl.Cut(withWear(start, b, impl.MaxNum), list, 1, n)
			wantChip(t, fmt.Sprint("once too often, pages: ", n), often, withWear(c, b, impl.MaxNum))
		}
	}
}

// refusedActs can't be done on usedChip with block 5 worn out, as a whole or in part, wherever they stand among those of the next test.
func refusedActs() []impl.Act {
	list := []impl.Act{
		{}, {At: 24, Text: "x"}, burnAt(13, "x"), burnAt(13, ""), burnAt(25, ""),
		burnAt(-1, "x"), burnAt(allPages, "x"), clearOf(-1), clearOf(impl.Blocks), clearOf(5),
	}
	for _, kind := range noKinds {
		list = append(list, impl.Act{Kind: kind, At: 25, Text: "x"}, impl.Act{Kind: kind, At: 1})
	}
	return list
}

// An act that can't be done stands at each place, and the cut is at each: ahead of the cut it ends all, at the cut it
// turns nothing, behind the cut it is as if it were not there.
func TestCutAroundARefusedAct(t *testing.T) {
	c := withWear(usedChip(), 5, impl.MaxNum)
	right := []impl.Act{burnAt(3, "abc"), clearOf(1), burnAt(6, "def"), clearOf(0), burnAt(24, "ghi")}
	for _, a := range refusedActs() {
		for place := 0; place <= len(right); place++ {
			list := slices.Insert(slices.Clone(right), place, a)
			upTo, ok := impl.ApplyAll(c, right[:place])
			if !ok {
				t.Fatal("not meant so")
			}
			for k := -1; k <= len(list)+1; k++ {
				for _, n := range []int{-1, 0, 1, 2, 3, 6, 7} {
					want := upTo
					if max(k, 0) < place {
						want = impl.Cut(c, right[:place], k, n)
					}
					wantChip(t, fmt.Sprintf("%+v at %d, cut at %d, %d", a, place, k, n), impl.Cut(c, list, k, n), want)
				}
			}
		}
	}
}

// What can't be done behind others that were: a page twice, a clear once too often.
func TestCutOfActsThatAreRefusedLater(t *testing.T) {
	c := withWear(usedChip(), 5, impl.MaxNum-1)
	twice := []impl.Act{burnAt(24, "abc"), burnAt(24, "abcdef"), burnAt(25, "x")}
	often := []impl.Act{clearOf(5), clearOf(5), burnAt(25, "x")}
	for _, n := range []int{-1, 0, 1, 3, 4, 6, 7} {
		for _, k := range []int{1, 2, 3, 4} {
			wantChip(t, fmt.Sprint("a page twice ", k), impl.Cut(c, twice, k, n), withPage(c, 24, "abc"))
			wantChip(t, fmt.Sprint("once too often ", k), impl.Cut(c, often, k, n), withCleared(c, 5, impl.Pages))
		}
	}
}

// A burn that is too long is none where it is done whole; in part its first bytes count alone, as by Torn.
func TestCutOfALongBurn(t *testing.T) {
	c := usedChip()
	text := someText(longest + 2)
	list := []impl.Act{clearOf(4), burnAt(24, text), clearOf(0)}
	done := withCleared(c, 4, impl.Pages)
	for _, n := range []int{1, impl.MaxText, longest - 1, longest} {
		wantChip(t, fmt.Sprint("bytes: ", n), impl.Cut(c, list, 1, n), withPage(done, 24, text[:n]))
	}
	for _, n := range []int{-1, 0, longest + 1, longest + 2, math.MaxInt} {
		wantChip(t, fmt.Sprint("bytes: ", n), impl.Cut(c, list, 1, n), done)
	}
	for _, k := range []int{2, 3, 4} {
		wantChip(t, fmt.Sprint("whole, cut at ", k), impl.Cut(c, list, k, 3), done)
	}
}

func TestCutOnWrongChipsIsZero(t *testing.T) {
	acts := append(refusedActs(), burnAt(24, "x"), burnAt(3, "x"), clearOf(0), clearOf(lastBlock))
	for name, c := range wrongChips() {
		for _, a := range acts {
			for _, k := range []int{-1, 0, 1, 2, 3} {
				for _, n := range []int{-1, 0, 1, 6, 7} {
					wantChip(t, name, impl.Cut(c, []impl.Act{a, a}, k, n), impl.Chip{})
				}
			}
		}
	}
}

// Acts of all kinds, right and wrong: as the document's words have it, and all of them as by ApplyAll.
func TestCutOfMixedActs(t *testing.T) {
	for seed := range 300 {
		c := mixedChip(seed)
		state := uint64(seed)*2654435761 + 5
		draw := func(n int) int {
			state = state*6364136223846793005 + 1442695040888963407
			return int(state>>33) % n
		}
		var list []impl.Act
		for range draw(7) {
			kind := []int{impl.ActBurn, impl.ActBurn, impl.ActClear, impl.ActClear, impl.ActClear, draw(5)}[draw(6)]
			list = append(list, impl.Act{Kind: kind, At: draw(12), Text: someText(draw(5))})
		}
		for k := -1; k <= len(list)+1; k++ {
			for n := -1; n <= 7; n++ {
				wantChip(t, fmt.Sprintf("%+v, cut at %d, %d", list, k, n), impl.Cut(c, list, k, n), plainCut(c, list, k, n))
			}
		}
		all, _ := impl.ApplyAll(c, list)
		wantChip(t, fmt.Sprintf("all of %+v", list), impl.Cut(c, list, len(list), 0), all)
	}
}

func TestWritesKnown(t *testing.T) {
	f := laidFtl()
	acts, g, ok := impl.Writes(f, []impl.Put{{Sector: 3, Data: "hi"}, {Sector: lastSector, Data: ""}, {Sector: 0, Data: "you"}})
	wantPlanned(t, "three", f, acts, g, ok, []impl.Act{
		burnAt(0, recText(3, 1, "hi")), burnAt(1, recText(lastSector, 2, "")), burnAt(2, recText(0, 3, "you")),
	})
	// The second put of one sector counts, and the first is written all the same.
	acts, g, ok = impl.Writes(f, []impl.Put{{Sector: 3, Data: "a"}, {Sector: 4, Data: "b"}, {Sector: 3, Data: "c"}, {Sector: 3, Data: "c"}})
	wantPlanned(t, "one sector again", f, acts, g, ok, []impl.Act{
		burnAt(0, recText(3, 1, "a")), burnAt(1, recText(4, 2, "b")), burnAt(2, recText(3, 3, "c")), burnAt(3, recText(3, 4, "c")),
	})
	if impl.Sector(g, 3) != "c" || impl.Sector(g, 4) != "b" || g.Map[3] != 3 {
		t.Error("one sector again", impl.View(g), g.Map)
	}
	// Cleans stand where a Plan needs them, not ahead of all.
	f = laidFtl(append(times(7, "xxxxxx"), "xxxxx.")...)
	acts, g, ok = impl.Writes(f, []impl.Put{{Sector: 9, Data: "a"}, {Sector: 8, Data: "b"}, {Sector: 9, Data: "c"}})
	wantPlanned(t, "a clean between", f, acts, g, ok, []impl.Act{
		burnAt(47, recText(9, 1, "a")), clearOf(0), burnAt(48, recText(8, 2, "b")), burnAt(49, recText(9, 3, "c")),
	})
}

// Of no put nothing comes, and f is as it was.
func TestWritesOfNothing(t *testing.T) {
	for name, f := range map[string]impl.Ftl{
		"new": laidFtl(), "busy": busyFtl(), "crowded": laidFtl(times(10, "oxxxxx")...), "MaxNum was given": impl.Mount(laid(impl.MaxNum, "o.....")),
	} {
		for _, list := range [][]impl.Put{nil, {}} {
			acts, g, ok := impl.Writes(f, list)
			wantPlanned(t, name, f, acts, g, ok, nil)
			wantFtl(t, name, g, f.Chip, f.Map, f.Seq)
		}
	}
}

// As many as MaxPuts are written, one more is refused, whatever they are.
func TestWritesOfMany(t *testing.T) {
	for _, f := range []impl.Ftl{laidFtl(), busyFtl(), laidFtl(times(8, "oooxxx")...)} {
		for many := 0; many <= impl.MaxPuts; many++ {
			list := somePuts(many, many)
			want, _, fine := plainWrites(f, list)
			if !fine {
				t.Fatal("not meant so", many)
			}
			acts, g, ok := impl.Writes(f, list)
			wantPlanned(t, fmt.Sprint("puts: ", many), f, acts, g, ok, want)
		}
		for _, many := range []int{impl.MaxPuts + 1, impl.MaxPuts + 2, 1000} {
			acts, g, ok := impl.Writes(f, somePuts(many, many))
			wantRefused(t, fmt.Sprint("puts: ", many), acts, g, ok, f)
			acts, g, ok = impl.Writes(f, make([]impl.Put, many))
			wantRefused(t, fmt.Sprint("empty puts: ", many), acts, g, ok, f)
			acts, g, ok = impl.Writes(f, slices.Repeat([]impl.Put{{Sector: impl.Sectors}}, many))
			wantRefused(t, fmt.Sprint("wrong puts: ", many), acts, g, ok, f)
		}
	}
}

// A put that can't be planned at any place refuses all: what was planned ahead of it is taken back.
func TestWritesRefusedAtEachPlace(t *testing.T) {
	wrong := []impl.Put{
		{Sector: -1, Data: "x"}, {Sector: impl.Sectors, Data: "x"}, {Sector: -1}, {Sector: impl.Sectors},
		{Sector: 3, Data: someText(impl.MaxText + 1)}, {Sector: lastSector, Data: someText(100000)},
	}
	for _, s := range noSectors {
		wrong = append(wrong, impl.Put{Sector: s, Data: "x"})
	}
	for _, f := range []impl.Ftl{laidFtl(), busyFtl(), laidFtl(times(8, "oooxxx")...)} {
		for _, ahead := range []int{0, 1, 4, impl.MaxPuts - 1} {
			right := somePuts(ahead, ahead)
			if _, _, ok := impl.Writes(f, right); !ok {
				t.Fatal("not meant so", ahead)
			}
			for place := 0; place <= ahead; place++ {
				for _, p := range wrong {
					acts, g, ok := impl.Writes(f, slices.Insert(slices.Clone(right), place, p))
					wantRefused(t, fmt.Sprintf("sector %d at %d of %d", p.Sector, place, ahead), acts, g, ok, f)
				}
			}
		}
	}
}

// Where the numbers end within the puts, all are refused; one put less is done.
func TestWritesToTheLastNumber(t *testing.T) {
	for left := range impl.MaxPuts {
		f := impl.Mount(laid(impl.MaxNum-1-left, "o....."))
		for many := 0; many <= impl.MaxPuts; many++ {
			list := somePuts(left, many)
			acts, g, ok := impl.Writes(f, list)
			if many > left {
				wantRefused(t, fmt.Sprint(many, " puts, numbers: ", left), acts, g, ok, f)
				continue
			}
			want, _, _ := plainWrites(f, list)
			wantPlanned(t, fmt.Sprint(many, " puts, numbers: ", left), f, acts, g, ok, want)
			if len(acts) != many || g.Seq != f.Seq+many {
				t.Error("number", g.Seq, acts)
			}
		}
	}
}

// A put may also find no Worst, Clean or NextPage behind others that were planned.
func TestWritesWithoutRoom(t *testing.T) {
	worn := wornOut(laidFtl(append([]string{"xxxxxx"}, append(times(6, "oxxxxx"), "xxxx..")...)...), 0, impl.MaxNum)
	two := somePuts(1, 2)
	want, _, fine := plainWrites(worn, two)
	acts, g, ok := impl.Writes(worn, two)
	wantPlanned(t, "two pages", worn, acts, g, ok, want)
	if !fine || len(want) != 2 {
		t.Fatal("not meant so", want)
	}
	acts, g, ok = impl.Writes(worn, somePuts(1, 3))
	wantRefused(t, "the third has no Clean", acts, g, ok, worn)
	full := laidFtl(times(10, "oxxxxx")...)
	acts, g, ok = impl.Writes(full, somePuts(1, 1))
	wantRefused(t, "no NextPage", acts, g, ok, full)
}

func TestPowerOfWrongFtls(t *testing.T) {
	for name, f := range wrongFtls() {
		for _, list := range [][]impl.Put{nil, {{Sector: 3, Data: "hi"}}, {{Sector: -1}}, somePuts(1, impl.MaxPuts), somePuts(1, impl.MaxPuts+1)} {
			acts, g, ok := impl.Writes(f, list)
			wantRefused(t, name, acts, g, ok, impl.Ftl{})
		}
		if got := impl.View(f); len(got) != 0 {
			t.Errorf("%s: View = %q, want nothing", name, got)
		}
		if least, most := impl.Wears(f); least != 0 || most != 0 {
			t.Errorf("%s: Wears = %d, %d, want 0, 0", name, least, most)
		}
	}
	// A chip that was cleared often tells nothing of it where its Seq or its Map is another one.
	f := worn(busyFtl(), 5, 6, 7, 8, 9, 5, 6, 7, 8, 9)
	f.Seq++
	if least, most := impl.Wears(f); least != 0 || most != 0 {
		t.Error("another number", least, most)
	}
}

func TestWritesOfMixedChips(t *testing.T) {
	done, refused := 0, 0
	for seed := range 600 {
		for _, c := range []impl.Chip{mixedChip(seed), crampedChip(seed)} {
			f := impl.Mount(c)
			list := somePuts(seed, 1+seed%impl.MaxPuts)
			want, then, fine := plainWrites(f, list)
			acts, g, ok := impl.Writes(f, list)
			if ok != fine || !slices.Equal(acts, want) || !sameFtl(g, then) {
				t.Fatalf("chip %d: %+v, %v, want %+v, %v", seed, acts, ok, want, fine)
			}
			if !ok {
				refused++
				continue
			}
			done++
			if c, ok := impl.ApplyAll(f.Chip, acts); !ok || !sameFtl(impl.Mount(c), g) {
				t.Fatalf("chip %d: not what was planned", seed)
			}
		}
	}
	if done < 300 || refused < 100 {
		t.Error("too few of one kind:", done, refused)
	}
}

func wantView(t *testing.T, what string, f impl.Ftl, want []string) {
	t.Helper()
	if got := impl.View(f); !slices.Equal(got, want) {
		t.Errorf("%s: View = %q, want %q", what, got, want)
	}
}

func TestViewKnown(t *testing.T) {
	nothing := make([]string, impl.Sectors)
	wantView(t, "new", laidFtl(), nothing)
	wantView(t, "full of junk", impl.Mount(fullChip()), nothing)
	want := slices.Clone(nothing)
	want[0], want[3], want[lastSector] = "first", "newer", "new"
	wantView(t, "busy", busyFtl(), want)
	for s := range impl.Sectors {
		want := slices.Clone(nothing)
		want[s] = someText(impl.MaxText)
		wantView(t, fmt.Sprint("sector ", s), impl.Mount(withPage(fullChip(), s, recText(s, impl.MaxNum, want[s]))), want)
	}
}

func TestViewIsSectorOfEach(t *testing.T) {
	for seed := range 200 {
		for _, c := range []impl.Chip{mixedChip(seed), crampedChip(seed)} {
			f := impl.Mount(c)
			var want []string
			for s := range impl.Sectors {
				want = append(want, impl.Sector(f, s))
			}
			wantView(t, fmt.Sprint("chip ", seed), f, want)
		}
	}
}

func wantWears(t *testing.T, f impl.Ftl, least, most int) {
	t.Helper()
	if a, b := impl.Wears(f); a != least || b != most {
		t.Errorf("%v: Wears = %d, %d, want %d, %d", f.Chip.Wear, a, b, least, most)
	}
}

// The least and the greatest stand at each place, next to numbers at the edges.
func TestWears(t *testing.T) {
	for _, n := range []int{0, 1, 7, impl.MaxNum - 1, impl.MaxNum} {
		wantWears(t, worn(busyFtl(), slices.Repeat([]int{n}, impl.Blocks)...), n, n)
	}
	for a := range impl.Blocks {
		for b := range impl.Blocks {
			for _, n := range [][3]int{{4, 5, 6}, {0, 1, 2}, {0, 5, impl.MaxNum}, {impl.MaxNum - 2, impl.MaxNum - 1, impl.MaxNum}} {
				wear := slices.Repeat([]int{n[1]}, impl.Blocks)
				wear[a] = n[0]
				wantWears(t, worn(laidFtl("oxx..."), wear...), n[0], n[1])
				wear[b] = n[2]
				if a != b {
					wantWears(t, worn(laidFtl("oxx..."), wear...), n[0], n[2])
				}
				wear[a] = n[1]
				wear[b] = n[2]
				wantWears(t, worn(laidFtl("oxx..."), wear...), n[1], n[2])
			}
		}
	}
}

// partsOf are the counts at which an act is cut: at none, at the first, in the middle, at all but one, at all and beyond.
func partsOf(a impl.Act) []int {
	all := impl.Pages
	if a.Kind == impl.ActBurn {
		all = len(a.Text)
	}
	return []int{-1, 0, 1, all / 2, all - 1, all, all + 1}
}

// wantCutApart: cut anywhere, each put ahead of the one that was under way is there whole, each behind it is not there, and that
// one is there or not: it is once all bytes of its record are. It tells how many cuts there were within a clear.
func wantCutApart(t *testing.T, what string, f impl.Ftl, list []impl.Put) int {
	t.Helper()
	acts, _, ok := impl.Writes(f, list)
	if !ok {
		t.Fatalf("%s: refused", what)
	}
	clears, k := 0, 0
	has := views(f)
	for i, p := range list {
		upTo, _, _ := impl.Writes(f, list[:i+1])
		gets := slices.Clone(has)
		gets[p.Sector] = p.Data
		for ; k < len(upTo); k++ {
			for _, n := range partsOf(acts[k]) {
				want := has
				if k == len(upTo)-1 && n >= len(acts[k].Text) {
					want = gets
				}
				c := impl.Cut(f.Chip, acts, k, n)
				if got := views(impl.Mount(c)); !impl.ChipOk(c) || !slices.Equal(got, want) {
					t.Fatalf("%s: put %d cut at %d, %d: %q, want %q", what, i, k, n, got, want)
				}
			}
			if acts[k].Kind == impl.ActClear {
				clears++
			}
		}
		has = gets
	}
	for _, more := range []int{len(acts), len(acts) + 1, math.MaxInt} {
		if got := views(impl.Mount(impl.Cut(f.Chip, acts, more, 0))); !slices.Equal(got, has) {
			t.Fatalf("%s: not cut: %q, want %q", what, got, has)
		}
	}
	return clears
}

func TestCutAnywhereTurnsOneSector(t *testing.T) {
	wantCutApart(t, "new", laidFtl(), somePuts(1, impl.MaxPuts))
	wantCutApart(t, "busy", busyFtl(), somePuts(2, impl.MaxPuts))
	same := []impl.Put{{Sector: 3, Data: "a"}, {Sector: 3, Data: "b"}, {Sector: 0, Data: ""}, {Sector: 3, Data: ""}, {Sector: 3, Data: "a"}}
	wantCutApart(t, "one sector again", busyFtl(), same)
	clears := 0
	for name, f := range map[string]impl.Ftl{
		"a clean with Lives": laidFtl(times(8, "oooxxx")...),
		"old ones, too":      laidFtl(times(8, "sosoxx")...),
		"none is free":       laidFtl(append(times(9, "oxxxxx"), "xxxxx.")...),
		"three cleans":       laidFtl(times(10, "xxxxxx")...),
		"a clear cut short":  laidFtl(append(times(8, "oxxxxx"), "..xxxx")...),
		"the last clears":    worn(laidFtl(times(8, "oxxxxx")...), slices.Repeat([]int{impl.MaxNum - 1}, impl.Blocks)...),
	} {
		clears += wantCutApart(t, name, f, []impl.Put{{Sector: 2, Data: "new"}, {Sector: 3, Data: someText(impl.MaxText)}})
	}
	if clears < 8 {
		t.Error("too few clears:", clears)
	}
}

func TestCutAnywhereOnMixedChips(t *testing.T) {
	writes, clears := 0, 0
	for seed := range 150 {
		for _, c := range []impl.Chip{mixedChip(seed), crampedChip(seed)} {
			f := impl.Mount(c)
			list := somePuts(seed, 1+seed%3)
			if _, _, ok := impl.Writes(f, list); !ok {
				continue
			}
			writes++
			clears += wantCutApart(t, fmt.Sprint("chip ", seed), f, list)
		}
	}
	if writes < 200 || clears < 100 {
		t.Error("too few:", writes, clears)
	}
}

// What was told as done is there behind any failure, however many there were: each write is cut somewhere, and the next one goes on from there.
func TestCutOnAndOn(t *testing.T) {
	for seed := range 6 {
		f := laidFtl()
		has := views(f)
		state := uint64(seed) + 1
		draw := func(n int) int {
			state = state*6364136223846793005 + 1442695040888963407
			return int(state>>33) % n
		}
		for round := range 400 {
			p := impl.Put{Sector: draw(impl.Sectors), Data: fmt.Sprint(round)}
			acts, _, ok := impl.Writes(f, []impl.Put{p})
			if !ok {
				t.Fatalf("seed %d, round %d: refused", seed, round)
			}
			k, gets := draw(len(acts)+seed/2), slices.Clone(has)
			gets[p.Sector] = p.Data
			f = impl.Mount(impl.Cut(f.Chip, acts, k, draw(12)))
			got := impl.View(f)
			if !slices.Equal(got, gets) && (k >= len(acts) || !slices.Equal(got, has)) {
				t.Fatalf("seed %d, round %d: %q, want %q or %q", seed, round, got, has, gets)
			}
			has = got
		}
	}
}

func scribblePuts(list []impl.Put) {
	list = list[:cap(list)]
	for i := range list {
		list[i] = impl.Put{Sector: -99, Data: "scribble"}
	}
}

// powered is what the functions of the layer answer.
type powered struct {
	written
	views [][]string
}

func powerAnswers(f impl.Ftl, acts []impl.Act, puts []impl.Put) powered {
	var p powered
	for many := range len(puts) + 1 {
		acts, g, _ := impl.Writes(f, puts[:many])
		p.acts, p.ftls = append(p.acts, acts), append(p.ftls, g)
	}
	for many := range len(acts) + 1 {
		for k := -1; k <= many+1; k++ {
			p.chips = append(p.chips, impl.Cut(f.Chip, acts[:many], k, 0), impl.Cut(f.Chip, acts[:many], k, 1), impl.Cut(f.Chip, acts[:many], k, 9))
		}
	}
	impl.Wears(f)
	p.views = append(p.views, impl.View(f))
	return p
}

// Nothing is written into an argument, nor into the spare room behind it, and every answer is new memory.
func TestPowerArgumentsStayAndAnswersAreNew(t *testing.T) {
	ftls := []impl.Ftl{busyFtl(), laidFtl(), laidFtl(times(8, "ooxxxx")...), laidFtl(times(10, "oxxxxx")...), impl.Mount(mixedChip(5))}
	for _, f := range wrongFtls() {
		ftls = append(ftls, f)
	}
	acts := []impl.Act{clearOf(0), burnAt(0, "x"), burnAt(lastPage, "x"), {Kind: 3}, clearOf(1)}
	puts := []impl.Put{{Sector: 3, Data: "a"}, {Sector: 4, Data: "b"}, {Sector: 3, Data: "c"}, {Sector: -1}}
	for _, plain := range ftls {
		f := roomyFtl(plain)
		before := cloneFtl(wholeFtl(f))
		list := append(slices.Clone(acts), burnAt(77, "mark"), burnAt(78, "mark"))
		more := append(slices.Clone(puts), impl.Put{Sector: 77, Data: "mark"})
		marked, markedPuts := slices.Clone(list), slices.Clone(more)
		stays := func(what string) {
			t.Helper()
			wantFtl(t, what, wholeFtl(f), before.Chip, before.Map, before.Seq)
			wantActs(t, what, list, marked)
			if !slices.Equal(more, markedPuts) {
				t.Errorf("%s: puts %+v", what, more)
			}
		}
		first := powerAnswers(f, list[:len(acts)], more[:len(puts)])
		second := powerAnswers(f, list[:len(acts)], more[:len(puts)])
		want, view := second.clone(), slices.Clone(second.views[0])
		stays("argument")
		first.scribble()
		scribbleTexts(first.views[0])
		stays("argument behind a scribble")
		scribbleFtl(f)
		scribbleActs(list)
		scribblePuts(more)
		wantSameWritten(t, second.written, want)
		if !slices.Equal(second.views[0], view) {
			t.Errorf("second view: %q, want %q", second.views[0], view)
		}
	}
}

func scribbleTexts(list []string) {
	list = list[:cap(list)]
	for i := range list {
		list[i] = "scribble"
	}
}

// The lists of one answer share nothing.
func TestWritesListsAreApart(t *testing.T) {
	f := laidFtl(times(8, "ooxxxx")...)
	for _, many := range []int{0, 2, impl.MaxPuts + 1} {
		_, right, _ := impl.Writes(f, somePuts(1, many))
		acts, g, _ := impl.Writes(f, somePuts(1, many))
		scribbleActs(acts)
		wantFtl(t, "acts", g, right.Chip, right.Map, right.Seq)
		scribbleNumbers(g.Map)
		wantChip(t, "map", g.Chip, right.Chip)
		scribbleNumbers(g.Chip.Wear)
		wantChip(t, "wear", impl.Chip{Pages: g.Chip.Pages, Wear: right.Chip.Wear}, right.Chip)
	}
}
