package tests

import (
	"fmt"
	"math"
	"slices"
	"testing"

	"loop.example/g00246/impl"
)

// Kinds that no act has.
var noKinds = []int{0, -1, 3, 4, -2, impl.Blocks, math.MinInt, math.MaxInt, 1 << 32, 1<<32 + 1}

func burnAt(page int, text string) impl.Act {
	return impl.Act{Kind: impl.ActBurn, At: page, Text: text}
}

func clearOf(block int) impl.Act {
	return impl.Act{Kind: impl.ActClear, At: block}
}

// laid is a chip with the blocks so laid out, all others clear: a dot for each clear page, an x for one that is no record, an o for
// a record of the next sector, an s for an old one of it (so that an o of it must follow). Numbers ascend from first on.
func laid(first int, blocks ...string) impl.Chip {
	c := impl.ChipNew()
	sector, seq := 0, first
	for b, text := range blocks {
		for i, x := range text {
			switch page := b*impl.Pages + i; x {
			case 'x':
				c.Pages[page] = "junk"
			case 'o':
				c.Pages[page] = recText(sector, seq, fmt.Sprint("data ", sector))
				sector, seq = sector+1, seq+1
			case 's':
				c.Pages[page] = recText(sector, seq, "old")
				seq++
			}
		}
	}
	return c
}

// laidFtl is laid from number 1 on, and mounted.
func laidFtl(blocks ...string) impl.Ftl {
	return impl.Mount(laid(1, blocks...))
}

// times is n blocks of one layout.
func times(n int, layout string) []string {
	return slices.Repeat([]string{layout}, n)
}

// worn is f with these numbers.
func worn(f impl.Ftl, wear ...int) impl.Ftl {
	f = cloneFtl(f)
	copy(f.Chip.Wear, wear)
	return f
}

// wornOut is f with one block that was cleared so often.
func wornOut(f impl.Ftl, block, times int) impl.Ftl {
	return impl.Ftl{Chip: withWear(f.Chip, block, times), Map: f.Map, Seq: f.Seq}
}

func sameFtl(a, b impl.Ftl) bool {
	return sameChip(a.Chip, b.Chip) && slices.Equal(a.Map, b.Map) && a.Seq == b.Seq
}

func wantActs(t *testing.T, what string, got, want []impl.Act) {
	t.Helper()
	if !slices.Equal(got, want) {
		t.Errorf("%s: got acts %+v, want %+v", what, got, want)
	}
}

// wantRefused: nothing is planned, and f is as it was.
func wantRefused(t *testing.T, what string, acts []impl.Act, got impl.Ftl, ok bool, f impl.Ftl) {
	t.Helper()
	if ok || len(acts) != 0 {
		t.Errorf("%s: %+v, %v, want nothing, false", what, acts, ok)
	}
	wantFtl(t, what, got, f.Chip, f.Map, f.Seq)
}

// wantPlanned: these acts, which the chip takes one by one, and the Ftl is what is mounted behind them.
func wantPlanned(t *testing.T, what string, f impl.Ftl, acts []impl.Act, got impl.Ftl, ok bool, want []impl.Act) {
	t.Helper()
	wantActs(t, what, acts, want)
	c := f.Chip
	for i, a := range want {
		var done bool
		if a.Kind == impl.ActBurn {
			c, done = impl.Burn(c, a.At, a.Text)
		} else {
			c, done = impl.Clear(c, a.At)
		}
		if !done {
			t.Fatalf("%s: act %d of those wanted can't be done", what, i)
		}
	}
	pages, seq := plainMount(c)
	wantFtl(t, what, got, c, pages, seq)
	if !ok {
		t.Errorf("%s: false", what)
	}
}

// plainLives is Lives by the document's words, of what is FtlOk.
func plainLives(f impl.Ftl, block int) []int {
	var lives []int
	for p := block * impl.Pages; p < (block+1)*impl.Pages; p++ {
		if slices.Contains(f.Map, p) {
			lives = append(lives, p)
		}
	}
	return lives
}

// plainWorst is Worst by the document's words, of what is FtlOk: the greater block stays only where it is better in something.
func plainWorst(f impl.Ftl) int {
	worst := -1
	next := plainNextPage(f.Chip)
	for b := lastBlock; b >= 0; b-- {
		if shape(f.Chip, b) == "......" || next >= 0 && next/impl.Pages == b {
			continue
		}
		if worst >= 0 {
			few, least := len(plainLives(f, worst)), f.Chip.Wear[worst]
			if n := len(plainLives(f, b)); n > few || n == few && f.Chip.Wear[b] > least {
				continue
			}
		}
		worst = b
	}
	if worst >= 0 && len(plainLives(f, worst)) == impl.Pages {
		return -1
	}
	return worst
}

func plainMounted(c impl.Chip) impl.Ftl {
	pages, seq := plainMount(c)
	return impl.Ftl{Chip: c, Map: pages, Seq: seq}
}

// plainClean is Clean by the document's words, of what is FtlOk.
func plainClean(f impl.Ftl, block int) ([]impl.Act, impl.Ftl, bool) {
	if block < 0 || block > lastBlock || shape(f.Chip, block) == "......" || f.Chip.Wear[block] == impl.MaxNum {
		return nil, f, false
	}
	var acts []impl.Act
	now := f
	for _, p := range plainLives(f, block) {
		next := plainNextPage(now.Chip)
		if next < 0 || next/impl.Pages == block || now.Seq == impl.MaxNum {
			return nil, f, false
		}
		r, _ := impl.RecRead(f.Chip.Pages[p])
		acts = append(acts, burnAt(next, recText(r.Sector, now.Seq, r.Data)))
		now = plainMounted(withPage(now.Chip, next, recText(r.Sector, now.Seq, r.Data)))
	}
	return append(acts, clearOf(block)), plainMounted(withCleared(now.Chip, block, impl.Pages)), true
}

// plainPlan is Plan by the document's words, of what is FtlOk.
func plainPlan(f impl.Ftl, s int, data string) ([]impl.Act, impl.Ftl, bool) {
	var acts []impl.Act
	now := f
	for round := 0; round < impl.Blocks; round++ {
		free, next := plainFreeBlocks(now.Chip), plainNextPage(now.Chip)
		if len(free) > 2 || len(free) == 2 && next != free[0]*impl.Pages && next != free[1]*impl.Pages {
			break
		}
		more, then, ok := plainClean(now, plainWorst(now))
		if !ok {
			return nil, f, false
		}
		acts, now = append(acts, more...), then
	}
	r := impl.Rec{Sector: s, Seq: now.Seq, Data: data}
	next := plainNextPage(now.Chip)
	if !impl.RecOk(r) || now.Seq == impl.MaxNum || next < 0 {
		return nil, f, false
	}
	return append(acts, burnAt(next, impl.RecText(r))), plainMounted(withPage(now.Chip, next, impl.RecText(r))), true
}

// views is what each sector has. (Sector mounts f each time; here that would be many times.)
func views(f impl.Ftl) []string {
	list := make([]string, impl.Sectors)
	for s, page := range f.Map {
		if page >= 0 {
			r, _ := impl.RecRead(f.Chip.Pages[page])
			list[s] = r.Data
		}
	}
	return list
}

// crampedChip has few clear pages, or numbers or blocks that are nearly used up, told apart by the seed alone.
func crampedChip(seed int) impl.Chip {
	c := impl.ChipNew()
	state := uint64(seed)*2654435761 + 777
	draw := func(n int) int {
		state = state*6364136223846793005 + 1442695040888963407
		return int(state>>33) % n
	}
	seq := []int{1, impl.MaxNum - 80}[draw(2)] + draw(40)
	least := []int{0, impl.MaxNum - 2}[draw(2)]
	sectors := 1 + draw(impl.Sectors)
	shapes := []string{"xxxxxx", "xxxxxx", "xxxxxx", "xxxxxx", "......", "xxxxx.", "xx....", "..xxxx", "x.x..x"}
	for b := range c.Wear {
		c.Wear[b] = least + draw(3)
		for i, x := range shapes[draw(4+draw(6))] {
			if x == '.' {
				continue
			}
			text := recText(draw(sectors), min(seq, impl.MaxNum), someText(draw(9)))
			if seq++; draw(5) == 0 {
				text = text[:len(text)-1]
			}
			c.Pages[b*impl.Pages+i] = text
		}
	}
	return c
}

func TestActKinds(t *testing.T) {
	if impl.ActBurn != 1 || impl.ActClear != 2 {
		t.Error("kinds", impl.ActBurn, impl.ActClear)
	}
}

// An act is a burn or a clear, at each page and block and at those that there are not.
func TestApplyIsBurnOrClear(t *testing.T) {
	for _, c := range []impl.Chip{impl.ChipNew(), usedChip(), fullChip(), withWear(fullChip(), 3, impl.MaxNum), busyChip()} {
		for at := -2; at <= allPages+1; at++ {
			for _, text := range []string{"", "x", someText(longest), someText(longest + 1)} {
				want, done := impl.Burn(c, at, text)
				got, ok := impl.Apply(c, burnAt(at, text))
				wantAct(t, fmt.Sprint("burn ", at), got, ok, want, done)
				want, done = impl.Clear(c, at)
				// Text is nothing for a clear.
				got, ok = impl.Apply(c, impl.Act{Kind: impl.ActClear, At: at, Text: text})
				wantAct(t, fmt.Sprint("clear ", at), got, ok, want, done)
			}
		}
	}
	c := usedChip()
	for _, at := range noPages {
		got, ok := impl.Apply(c, burnAt(at, "x"))
		wantAct(t, fmt.Sprint("burn ", at), got, ok, c, false)
	}
	for _, at := range noBlocks {
		got, ok := impl.Apply(c, clearOf(at))
		wantAct(t, fmt.Sprint("clear ", at), got, ok, c, false)
	}
}

func TestApplyKnown(t *testing.T) {
	c := usedChip()
	got, ok := impl.Apply(c, burnAt(24, "x"))
	wantAct(t, "burn", got, ok, withPage(c, 24, "x"), true)
	got, ok = impl.Apply(c, clearOf(lastBlock))
	wantAct(t, "clear", got, ok, withCleared(c, lastBlock, impl.Pages), true)
	got, ok = impl.Apply(c, burnAt(0, "x"))
	wantAct(t, "burn of a page that is not clear", got, ok, c, false)
	c = withWear(c, 2, impl.MaxNum)
	got, ok = impl.Apply(c, clearOf(2))
	wantAct(t, "clear once too often", got, ok, c, false)
}

func TestApplyOfOtherKinds(t *testing.T) {
	for _, kind := range noKinds {
		for _, c := range []impl.Chip{impl.ChipNew(), usedChip()} {
			for _, at := range []int{-1, 0, 3, 4, lastBlock, impl.Blocks, lastPage, allPages} {
				got, ok := impl.Apply(c, impl.Act{Kind: kind, At: at, Text: "x"})
				wantAct(t, fmt.Sprint("kind ", kind), got, ok, c, false)
			}
		}
	}
}

func TestApplyOnWrongChipsIsZero(t *testing.T) {
	for name, c := range wrongChips() {
		for _, kind := range append([]int{impl.ActBurn, impl.ActClear}, noKinds...) {
			for _, at := range []int{-1, 0, 3, 4, lastBlock, impl.Blocks, 24, lastPage, allPages} {
				a := impl.Act{Kind: kind, At: at, Text: "x"}
				got, ok := impl.Apply(c, a)
				wantAct(t, name, got, ok, impl.Chip{}, false)
				got, ok = impl.ApplyAll(c, []impl.Act{a, a})
				wantAct(t, "all on "+name, got, ok, impl.Chip{}, false)
			}
		}
	}
}

// Of no act at all none was refused; the chip is not asked what it is.
func TestApplyAllOfNothing(t *testing.T) {
	chips := wrongChips()
	chips["new"], chips["used"], chips["full"] = impl.ChipNew(), usedChip(), fullChip()
	for name, c := range chips {
		for _, list := range [][]impl.Act{nil, {}} {
			got, ok := impl.ApplyAll(c, list)
			wantAct(t, name, got, ok, c, true)
		}
	}
}

func TestApplyAllInOrder(t *testing.T) {
	c := usedChip()
	got, ok := impl.ApplyAll(c, []impl.Act{burnAt(24, "a"), clearOf(4), burnAt(24, "b"), burnAt(25, "c"), clearOf(0), burnAt(5, "d")})
	want := withCleared(withCleared(c, 4, impl.Pages), 0, impl.Pages)
	wantAct(t, "in order", got, ok, withPage(withPage(withPage(want, 24, "b"), 25, "c"), 5, "d"), true)
	got, ok = impl.ApplyAll(c, []impl.Act{clearOf(7), clearOf(7), clearOf(7)})
	want = withWear(withCleared(c, 7, impl.Pages), 7, c.Wear[7]+3)
	wantAct(t, "three times", got, ok, want, true)
}

// An act that can't be done, at each place: those ahead of it are done, those behind it are not.
func TestApplyAllUpToTheFirstRefused(t *testing.T) {
	c := withWear(usedChip(), 5, impl.MaxNum)
	right := []impl.Act{burnAt(3, "a"), clearOf(1), burnAt(6, "b"), clearOf(0), burnAt(0, "c"), burnAt(24, "d"), clearOf(lastBlock)}
	wrong := []impl.Act{
		{}, {Kind: 3, At: 24, Text: "x"}, {Kind: -1}, burnAt(13, "x"), burnAt(-1, "x"), burnAt(allPages, "x"),
		burnAt(25, ""), burnAt(25, someText(longest+1)), clearOf(-1), clearOf(impl.Blocks), clearOf(5),
	}
	done := c
	for place := 0; place <= len(right); place++ {
		for _, a := range wrong {
			got, ok := impl.ApplyAll(c, slices.Insert(slices.Clone(right), place, a))
			wantAct(t, fmt.Sprintf("%+v at %d", a, place), got, ok, done, false)
		}
		if place < len(right) {
			done, _ = impl.Apply(done, right[place])
		}
	}
	got, ok := impl.ApplyAll(c, right)
	wantAct(t, "all right", got, ok, done, true)
	got, ok = impl.ApplyAll(c, []impl.Act{burnAt(24, "a"), burnAt(24, "a"), burnAt(25, "b")})
	wantAct(t, "a page twice", got, ok, withPage(c, 24, "a"), false)
	got, ok = impl.ApplyAll(withWear(c, 5, impl.MaxNum-1), []impl.Act{clearOf(5), clearOf(5), burnAt(24, "x")})
	wantAct(t, "once too often", got, ok, withWear(withCleared(c, 5, impl.Pages), 5, impl.MaxNum), false)
}

func wantWorst(t *testing.T, what string, f impl.Ftl, want int) {
	t.Helper()
	if got := impl.Worst(f); got != want {
		t.Errorf("%s: Worst = %d, want %d", what, got, want)
	}
	if got := plainWorst(f); got != want {
		t.Errorf("%s: by the words it is %d, want %d", what, got, want)
	}
}

func TestWorstFewestLives(t *testing.T) {
	wantWorst(t, "the fewest", laidFtl("oooxxx", "ooxxxx", "oxxxxx", "ooxxxx"), 2)
	wantWorst(t, "the fewest, worn most", worn(laidFtl("oooxxx", "ooxxxx", "oxxxxx", "ooxxxx"), 0, 1, impl.MaxNum, 1), 2)
	wantWorst(t, "none", laidFtl("oxxxxx", "ooxxxx", "xxxxxx", "oxxxxx"), 2)
	wantWorst(t, "old ones are none", laidFtl("ooxxxx", "sssssx", "oooxxx"), 1)
	wantWorst(t, "five", laidFtl("oooooo", "ooooox", "oooooo", "oooooo"), 1)
	wantWorst(t, "one alone", laidFtl("oxxxxx"), 0)
	wantWorst(t, "the last block", laidFtl(append(times(9, "ooxxxx"), "oxxxxx")...), lastBlock)
}

// Of several with equally few the one cleared the least often, of those the first.
func TestWorstOfSeveral(t *testing.T) {
	f := laidFtl("oooxxx", "oxxxxx", "xoxxxx", "xxxxxo", "ooxxxx")
	wantWorst(t, "all alike", f, 1)
	wantWorst(t, "the second", worn(f, 0, 5, 4, 5, 0), 2)
	wantWorst(t, "the third", worn(f, 0, 5, 4, 3, 0), 3)
	wantWorst(t, "the last two alike", worn(f, 0, 5, 4, 4, 0), 2)
	wantWorst(t, "the first and the last alike", worn(f, 0, 4, 5, 4, 0), 1)
	wantWorst(t, "at the edge", worn(f, 0, impl.MaxNum, impl.MaxNum-1, impl.MaxNum, 0), 2)
	wantWorst(t, "all worn out", worn(f, 0, impl.MaxNum, impl.MaxNum, impl.MaxNum, 0), 1)
	full := laidFtl(times(impl.Blocks, "ooxxxx")...)
	wantWorst(t, "ten alike", full, 0)
	for b := range impl.Blocks {
		wear := slices.Repeat([]int{7}, impl.Blocks)
		wear[b] = 6
		wantWorst(t, fmt.Sprint("ten, the least worn is ", b), worn(full, wear...), b)
	}
}

// The block in which NextPage is stays, and so do those that are free.
func TestWorstLeavesTheNextPage(t *testing.T) {
	wantWorst(t, "it has the fewest", laidFtl("ooxxxx", "xx....", "oxxxxx"), 2)
	wantWorst(t, "it is alone", laidFtl("oxx..."), -1)
	wantWorst(t, "it is block 0", laidFtl("x.....", "oooooo", "ooxxxx"), 2)
	wantWorst(t, "one clear page", laidFtl("oxxxxx", "xxxxx."), 0)
	wantWorst(t, "two that were begun", laidFtl("oxx...", "ox....", "ooxxxx"), 1)
	wantWorst(t, "a hole", laidFtl("oxxxxx", "xx.xxx", "xxx..."), 1)
	wantWorst(t, "a clear that was cut short", laidFtl("oxxxxx", "....xx", "xxx..."), 1)
	wantWorst(t, "a free block is begun next", laidFtl("ooxxxx", "oxxxxx", "......"), 1)
	// Where there is no NextPage no block is left out, block 0 neither.
	wantWorst(t, "no clear page", laidFtl(append([]string{"xxxxxx"}, times(9, "oxxxxx")...)...), 0)
	wantWorst(t, "no clear page, all alike", laidFtl(times(10, "ooxxxx")...), 0)
}

func TestWorstWhereThereIsNone(t *testing.T) {
	wantWorst(t, "new", laidFtl(), -1)
	wantWorst(t, "all its pages are Lives", laidFtl("oooooo"), -1)
	wantWorst(t, "of all", laidFtl(times(4, "oooooo")...), -1)
	wantWorst(t, "of all but the next one's", laidFtl("oooooo", "oxxx..", "oooooo"), -1)
	wantWorst(t, "four, and one with five", laidFtl("oooooo", "oooooo", "oooooo", "oooooo", "ooxxxx"), 4)
	for name, f := range wrongFtls() {
		if got := impl.Worst(f); got != -1 {
			t.Errorf("%s: Worst = %d, want -1", name, got)
		}
	}
	f := laidFtl("oxxxxx", "xxxxxx")
	f.Seq++
	if got := impl.Worst(f); got != -1 {
		t.Errorf("another number: Worst = %d, want -1", got)
	}
}

func TestWorstOfMixedChips(t *testing.T) {
	for seed := range 3000 {
		for _, c := range []impl.Chip{mixedChip(seed), crampedChip(seed)} {
			f := impl.Mount(c)
			if got, want := impl.Worst(f), plainWorst(f); got != want {
				t.Errorf("chip %d: Worst = %d, want %d", seed, got, want)
			}
		}
	}
}

// What lives is burnt under the next numbers, ascending by page, and the block is cleared behind that.
func TestCleanKnown(t *testing.T) {
	f := laidFtl("oxosxo", "xxx...")
	acts, g, ok := impl.Clean(f, 0)
	wantPlanned(t, "three lives", f, acts, g, ok, []impl.Act{
		burnAt(9, recText(0, 5, "data 0")), burnAt(10, recText(1, 6, "data 1")), burnAt(11, recText(2, 7, "data 2")), clearOf(0),
	})
	if g.Map[0] != 9 || g.Map[1] != 10 || g.Map[2] != 11 || g.Seq != 8 || g.Chip.Wear[0] != 1 {
		t.Error("three lives", g.Map, g.Seq, g.Chip.Wear)
	}
	f = worn(laidFtl("xxxxx.", "ooxxxx"), 0, 0, 4, 3, 3, 9, 9, 9, 9, 9)
	acts, g, ok = impl.Clean(f, 1)
	wantPlanned(t, "into a block that is begun then", f, acts, g, ok, []impl.Act{
		burnAt(5, recText(0, 3, "data 0")), burnAt(18, recText(1, 4, "data 1")), clearOf(1),
	})
	// Pages count, not sectors nor numbers.
	c := withPage(withPage(withPage(impl.ChipNew(), 8, recText(lastSector, 3, "late")), 6, recText(9, 40, "")), 11, recText(2, 7, "two"))
	f = impl.Mount(c)
	acts, g, ok = impl.Clean(f, 1)
	wantPlanned(t, "as the pages stand", f, acts, g, ok, []impl.Act{
		burnAt(0, recText(9, 41, "")), burnAt(1, recText(lastSector, 42, "late")), burnAt(2, recText(2, 43, "two")), clearOf(1),
	})
	f = laidFtl("oooooo")
	acts, g, ok = impl.Clean(f, 0)
	if len(acts) != 7 || !slices.Equal(impl.Lives(g, 1), []int{6, 7, 8, 9, 10, 11}) || !ok {
		t.Error("all its pages live", acts, g.Map, ok)
	}
}

// Without Lives a block is just cleared, also where there is no NextPage, where that is in it, and at the last number.
func TestCleanWithoutLives(t *testing.T) {
	for name, f := range map[string]impl.Ftl{
		"junk":                laidFtl("xxxxxx", "oxx..."),
		"old records":         laidFtl("ssssss", "oxx..."),
		"NextPage is in it":   laidFtl("xxx...", "ooxxxx"),
		"no NextPage":         laidFtl(append([]string{"xxxxxx"}, times(9, "ooxxxx")...)...),
		"a clear cut short":   laidFtl("...xxx", "oxx..."),
		"one page":            laidFtl(".....x", "oxx..."),
		"the last number":     impl.Mount(laid(impl.MaxNum-1, "xxxxxx", "o.....")),
		"MaxNum was given":    impl.Mount(laid(impl.MaxNum, "xxxxxx", "o.....")),
		"it was cleared once": wornOut(laidFtl("xxxxxx", "oxx..."), 0, 1),
		"the last time":       wornOut(laidFtl("xxxxxx", "oxx..."), 0, impl.MaxNum-1),
	} {
		acts, g, ok := impl.Clean(f, 0)
		wantPlanned(t, name, f, acts, g, ok, []impl.Act{clearOf(0)})
	}
}

func TestCleanRefused(t *testing.T) {
	full := append([]string{"oxxxxx"}, times(9, "xxxxxx")...)
	for name, f := range map[string]impl.Ftl{
		"it is free":                      laidFtl("......", "oxx..."),
		"free and worn out":               wornOut(laidFtl("......", "oxx..."), 0, impl.MaxNum),
		"worn out":                        wornOut(laidFtl("xxxxxx", "oxx..."), 0, impl.MaxNum),
		"worn out, with Lives":            wornOut(laidFtl("oxxxxx", "oxx..."), 0, impl.MaxNum),
		"no NextPage":                     laidFtl(full...),
		"NextPage is in it":               laidFtl("oxx..."),
		"NextPage is in it, room behind":  laidFtl("oxx...", "x....."),
		"no NextPage for the second":      laidFtl(append([]string{"ooxxxx", "xxxxx."}, times(8, "xxxxxx")...)...),
		"no NextPage for the third":       laidFtl(append([]string{"oooxxx", "xxxx.."}, times(8, "xxxxxx")...)...),
		"no NextPage for the last of six": laidFtl(append([]string{"oooooo", "x....."}, times(8, "xxxxxx")...)...),
		"Seq is MaxNum":                   impl.Mount(laid(impl.MaxNum-1, "o.xxxx")),
		"MaxNum was given":                impl.Mount(laid(impl.MaxNum, "o.xxxx")),
		"Seq is MaxNum at the second":     impl.Mount(laid(impl.MaxNum-3, "ooxxxx")),
		"Seq is MaxNum at the third":      impl.Mount(laid(impl.MaxNum-5, "oooxxx")),
	} {
		if name == "Seq is MaxNum at the second" && f.Seq != impl.MaxNum-1 || name == "Seq is MaxNum at the third" && f.Seq != impl.MaxNum-2 {
			t.Fatal("not meant so", f.Seq)
		}
		acts, g, ok := impl.Clean(f, 0)
		wantRefused(t, name, acts, g, ok, f)
	}
	f := laidFtl("oxxxxx", "ooxxxx", "xxx...")
	for _, b := range noBlocks {
		acts, g, ok := impl.Clean(f, b)
		wantRefused(t, fmt.Sprint("block ", b), acts, g, ok, f)
		acts, g, ok = impl.Clean(laidFtl(), b)
		wantRefused(t, fmt.Sprint("block of a new chip ", b), acts, g, ok, laidFtl())
	}
}

// One step short of each refusal it is done.
func TestCleanJustDone(t *testing.T) {
	for name, c := range map[string]struct {
		f    impl.Ftl
		acts int
	}{
		"room for one":              {laidFtl(append([]string{"oxxxxx", "xxxxx."}, times(8, "xxxxxx")...)...), 2},
		"room for two":              {laidFtl(append([]string{"ooxxxx", "xxxx.."}, times(8, "xxxxxx")...)...), 3},
		"room for six":              {laidFtl(append([]string{"oooooo", "......"}, times(8, "xxxxxx")...)...), 7},
		"room in two blocks":        {laidFtl(append([]string{"oooooo", "xxxxx.", "x....."}, times(7, "xxxxxx")...)...), 7},
		"the last number for one":   {impl.Mount(laid(impl.MaxNum-2, "oxxxxx")), 2},
		"the last numbers for two":  {impl.Mount(laid(impl.MaxNum-4, "ooxxxx")), 3},
		"the last time":             {wornOut(laidFtl("oxxxxx"), 0, impl.MaxNum-1), 2},
		"into one that is worn out": {worn(laidFtl("oxxxxx"), 0, impl.MaxNum, impl.MaxNum, impl.MaxNum, impl.MaxNum, impl.MaxNum, impl.MaxNum, impl.MaxNum, impl.MaxNum, impl.MaxNum), 2},
	} {
		acts, g, ok := impl.Clean(c.f, 0)
		want, _, fine := plainClean(c.f, 0)
		if len(want) != c.acts || !fine {
			t.Fatalf("%s: not meant so: %+v", name, want)
		}
		wantPlanned(t, name, c.f, acts, g, ok, want)
	}
	f := impl.Mount(laid(impl.MaxNum-2, "oxxxxx"))
	if _, g, ok := impl.Clean(f, 0); !ok || f.Seq != impl.MaxNum-1 || g.Seq != impl.MaxNum {
		t.Error("the last number", f.Seq, g.Seq, ok)
	}
}

// Of two blocks that were begun the second can be cleaned into the first, but not into itself.
func TestCleanOfASecondBegunBlock(t *testing.T) {
	f := laidFtl("xxxx..", "ooxx..")
	acts, g, ok := impl.Clean(f, 1)
	wantPlanned(t, "room enough", f, acts, g, ok, []impl.Act{burnAt(4, recText(0, 3, "data 0")), burnAt(5, recText(1, 4, "data 1")), clearOf(1)})
	f = laidFtl("xxxxx.", "ooxx..")
	acts, g, ok = impl.Clean(f, 1)
	wantRefused(t, "the second would be burnt into it", acts, g, ok, f)
}

func TestCleanOfWrongFtlsIsZero(t *testing.T) {
	for name, f := range wrongFtls() {
		for block := -1; block <= impl.Blocks; block++ {
			acts, g, ok := impl.Clean(f, block)
			wantRefused(t, name, acts, g, ok, impl.Ftl{})
		}
	}
}

// wantCleaned: as the document's words have it; what is acted is what was planned, and no sector was turned. It tells whether it was done.
func wantCleaned(t *testing.T, what string, f impl.Ftl, block int) bool {
	t.Helper()
	want, then, fine := plainClean(f, block)
	acts, g, ok := impl.Clean(f, block)
	if ok != fine || !slices.Equal(acts, want) || !sameFtl(g, then) {
		t.Fatalf("%s: %+v, %v, want %+v, %v", what, acts, ok, want, fine)
	}
	if !ok {
		return false
	}
	if c, ok := impl.ApplyAll(f.Chip, acts); !ok || !sameFtl(impl.Mount(c), g) {
		t.Errorf("%s: not what was planned", what)
	}
	if !slices.Equal(views(f), views(g)) || shape(g.Chip, block) != "......" || g.Chip.Wear[block] != f.Chip.Wear[block]+1 {
		t.Errorf("%s: %q, %q", what, views(f), views(g))
	}
	return true
}

func TestCleanOfMixedChips(t *testing.T) {
	done, refused := 0, 0
	for seed := range 400 {
		for _, c := range []impl.Chip{mixedChip(seed), crampedChip(seed)} {
			f := impl.Mount(c)
			for block := -1; block <= impl.Blocks; block++ {
				if wantCleaned(t, fmt.Sprint("chip ", seed, " block ", block), f, block) {
					done++
				} else if block >= 0 && block < impl.Blocks && shape(c, block) != "......" {
					refused++
				}
			}
		}
	}
	if done < 1000 || refused < 1000 {
		t.Error("too few of one kind:", done, refused)
	}
}

func TestPlanOnANewChip(t *testing.T) {
	f := laidFtl()
	for s := range impl.Sectors {
		acts, g, ok := impl.Plan(f, s, "hi")
		wantPlanned(t, fmt.Sprint("sector ", s), f, acts, g, ok, []impl.Act{burnAt(0, recText(s, 1, "hi"))})
		if g.Map[s] != 0 || g.Seq != 2 || impl.Sector(g, s) != "hi" {
			t.Error("sector", s, g.Map, g.Seq)
		}
	}
	f = worn(f, 1, 1, 1, 0, 1, 0)
	f.Chip.Wear[6], f.Chip.Wear[7], f.Chip.Wear[8], f.Chip.Wear[9] = 1, 1, 1, 1
	acts, g, ok := impl.Plan(f, 3, "")
	wantPlanned(t, "the least worn", f, acts, g, ok, []impl.Act{burnAt(18, recText(3, 1, ""))})
}

// How many blocks are free, and where NextPage is, says whether something is cleaned first.
func TestPlanKeepsTwoFree(t *testing.T) {
	for name, c := range map[string]struct {
		f      impl.Ftl
		cleans []int
	}{
		"three are free":                    {laidFtl("xxxxxx", "xxxxxx", "xxxxxx", "xxxxxx", "xxxxxx", "xxxxxx", "xxxxxx"), nil},
		"three are free, one was begun":     {laidFtl("xxxxxx", "xxxxxx", "xxxxxx", "xxxxxx", "xxxxxx", "xxxxxx", "x....."), nil},
		"two are free, NextPage of one":     {laidFtl(times(8, "xxxxxx")...), []int{0}},
		"two are free, one was begun":       {laidFtl(append(times(7, "xxxxxx"), "x.....")...), nil},
		"two are free, one page was left":   {laidFtl(append(times(7, "xxxxxx"), "xxxxx.")...), nil},
		"two are free, one has a hole":      {laidFtl(append(times(7, "oxxxxx"), ".xxxxx")...), []int{7}},
		"one is free, one was begun":        {laidFtl(append(times(8, "xxxxxx"), "xxxxx.")...), []int{0}},
		"one is free":                       {laidFtl(times(9, "xxxxxx")...), []int{0, 1}},
		"none is free, one was begun":       {laidFtl(append(times(9, "xxxxxx"), "x.....")...), []int{0, 1}},
		"none is free":                      {laidFtl(times(10, "xxxxxx")...), []int{0, 1, 2}},
		"none is free, one has no Lives":    {laidFtl(append([]string{"xxxxxx"}, times(9, "oxxxxx")...)...), []int{0, 1, 2}},
		"two with Lives, NextPage of one":   {laidFtl(times(8, "oooxxx")...), []int{0}},
		"two, the least worn is cleaned":    {worn(laidFtl(times(8, "oooxxx")...), 3, 2, 1, 1, 2, 2, 2, 2), []int{2}},
		"two, the fewest Lives are cleaned": {worn(laidFtl("ooxxxx", "ooxxxx", "ooxxxx", "oxxxxx", "oxxxxx", "ooxxxx", "ooxxxx", "ooxxxx"), 0, 0, 0, 9, 9), []int{3}},
	} {
		want, then, fine := plainPlan(c.f, 25, "late")
		acts, g, ok := impl.Plan(c.f, 25, "late")
		if !fine {
			t.Fatalf("%s: not meant so", name)
		}
		wantPlanned(t, name, c.f, acts, g, ok, want)
		var cleans []int
		for _, a := range acts {
			if a.Kind == impl.ActClear {
				cleans = append(cleans, a.At)
			}
		}
		wantList(t, name+": cleaned", cleans, c.cleans)
		if !sameFtl(g, then) || impl.Sector(g, 25) != "late" || len(impl.FreeBlocks(g.Chip)) < 2 {
			t.Errorf("%s: %v", name, impl.FreeBlocks(g.Chip))
		}
	}
}

func TestPlanKnown(t *testing.T) {
	f := laidFtl(append([]string{"oxxxxx", "xxoxxo"}, times(6, "oooxxx")...)...)
	acts, g, ok := impl.Plan(f, 1, "new")
	wantPlanned(t, "a clean ahead", f, acts, g, ok, []impl.Act{burnAt(48, recText(0, 22, "data 0")), clearOf(0), burnAt(49, recText(1, 23, "new"))})
	f = worn(laidFtl(append(times(9, "oxxxxx"), "xxxxx.")...), 9, 8, 7, 6, 5, 4, 3, 2, 1, 0)
	acts, g, ok = impl.Plan(f, 0, "new")
	wantPlanned(t, "the last clear page", f, acts, g, ok, []impl.Act{
		burnAt(59, recText(8, 10, "data 8")), clearOf(8),
		burnAt(48, recText(8, 11, "data 8")), clearOf(9),
		burnAt(49, recText(7, 12, "data 7")), clearOf(7),
		burnAt(50, recText(0, 13, "new")),
	})
}

// That there is no Worst can't be met here: where fewer than three blocks are free, more than the four that sectors can fill are not.
func TestPlanRefused(t *testing.T) {
	for name, f := range map[string]impl.Ftl{
		"Seq is MaxNum":                impl.Mount(laid(impl.MaxNum-1, "o.....")),
		"MaxNum was given":             impl.Mount(laid(impl.MaxNum, "o.....")),
		"Seq is MaxNum behind a clean": impl.Mount(laid(impl.MaxNum-9, times(8, "oxxxxx")...)),
		"Seq is MaxNum in a clean":     impl.Mount(laid(impl.MaxNum-17, times(8, "ooxxxx")...)),
		"Worst is worn out":            wornOut(laidFtl(append([]string{"xxxxxx"}, times(7, "oxxxxx")...)...), 0, impl.MaxNum),
		"no NextPage for what lives":   laidFtl(times(10, "oxxxxx")...),
		"the second Clean is none":     worn(laidFtl(times(9, "xxxxxx")...), impl.MaxNum-1, impl.MaxNum, impl.MaxNum, impl.MaxNum, impl.MaxNum, impl.MaxNum, impl.MaxNum, impl.MaxNum, impl.MaxNum),
	} {
		if _, _, fine := plainPlan(f, 3, "x"); fine {
			t.Fatalf("%s: not meant so", name)
		}
		acts, g, ok := impl.Plan(f, 3, "x")
		wantRefused(t, name, acts, g, ok, f)
	}
}

// At the last number but one there is still one write, and none behind it.
func TestPlanAtTheLastNumber(t *testing.T) {
	f := impl.Mount(laid(impl.MaxNum-2, "o....."))
	acts, g, ok := impl.Plan(f, 3, "x")
	wantPlanned(t, "the last one", f, acts, g, ok, []impl.Act{burnAt(1, recText(3, impl.MaxNum-1, "x"))})
	if f.Seq != impl.MaxNum-1 || g.Seq != impl.MaxNum {
		t.Error("numbers", f.Seq, g.Seq)
	}
	acts, h, ok := impl.Plan(g, 3, "y")
	wantRefused(t, "one more", acts, h, ok, g)
	f = impl.Mount(laid(impl.MaxNum-10, times(8, "oxxxxx")...))
	acts, g, ok = impl.Plan(f, 3, "x")
	wantPlanned(t, "the last one behind a clean", f, acts, g, ok, []impl.Act{
		burnAt(48, recText(0, impl.MaxNum-2, "data 0")), clearOf(0), burnAt(49, recText(3, impl.MaxNum-1, "x")),
	})
}

func TestPlanLimits(t *testing.T) {
	for _, f := range []impl.Ftl{laidFtl(), laidFtl("oxx..."), laidFtl(times(8, "oxxxxx")...)} {
		for _, s := range []int{0, 7, lastSector} {
			for _, size := range []int{0, 1, impl.MaxText - 1, impl.MaxText} {
				want, _, _ := plainPlan(f, s, someText(size))
				acts, g, ok := impl.Plan(f, s, someText(size))
				wantPlanned(t, fmt.Sprint(size, " bytes"), f, acts, g, ok, want)
				if impl.Sector(g, s) != someText(size) {
					t.Errorf("%d bytes: %q", size, impl.Sector(g, s))
				}
			}
			for _, size := range []int{impl.MaxText + 1, impl.MaxText + 2, longest, longest + 1, 100000} {
				acts, g, ok := impl.Plan(f, s, someText(size))
				wantRefused(t, fmt.Sprint(size, " bytes"), acts, g, ok, f)
			}
		}
		for _, s := range noSectors {
			for _, data := range []string{"", "x", someText(impl.MaxText + 1)} {
				acts, g, ok := impl.Plan(f, s, data)
				wantRefused(t, fmt.Sprint("sector ", s), acts, g, ok, f)
			}
		}
	}
}

func TestPlanOfWrongFtlsIsZero(t *testing.T) {
	for name, f := range wrongFtls() {
		for _, s := range []int{-1, 0, 3, lastSector, impl.Sectors} {
			for _, data := range []string{"", "x", someText(impl.MaxText + 1)} {
				acts, g, ok := impl.Plan(f, s, data)
				wantRefused(t, name, acts, g, ok, impl.Ftl{})
			}
		}
	}
}

// wantWritten: what is acted is what was planned, that sector has data, and no other one was turned.
func wantWritten(t *testing.T, what string, f impl.Ftl, acts []impl.Act, g impl.Ftl, s int, data string) {
	t.Helper()
	c, ok := impl.ApplyAll(f.Chip, acts)
	if !ok || !sameChip(c, g.Chip) || !sameFtl(impl.Mount(c), g) {
		t.Fatalf("%s: not what was planned: %+v", what, acts)
	}
	want := views(f)
	want[s] = data
	if got := views(g); !slices.Equal(got, want) {
		t.Fatalf("%s: %q, want %q", what, got, want)
	}
}

func TestPlanOfMixedChips(t *testing.T) {
	done, refused := 0, 0
	for seed := range 2000 {
		for _, c := range []impl.Chip{mixedChip(seed), crampedChip(seed)} {
			f := impl.Mount(c)
			s, data := seed%impl.Sectors, fmt.Sprint("data ", seed)
			what := fmt.Sprint("chip ", seed)
			want, then, fine := plainPlan(f, s, data)
			acts, g, ok := impl.Plan(f, s, data)
			if ok != fine || !slices.Equal(acts, want) || !sameFtl(g, then) {
				t.Fatalf("%s: %+v, %v, want %+v, %v", what, acts, ok, want, fine)
			}
			if !ok {
				refused++
				continue
			}
			done++
			wantWritten(t, what, f, acts, g, s, data)
		}
	}
	if done < 1000 || refused < 200 {
		t.Error("too few of one kind:", done, refused)
	}
}

// spread is how many times more the block that was cleared the most often was cleared than the one that was so the least often.
func spread(f impl.Ftl) int {
	return slices.Max(f.Chip.Wear) - slices.Min(f.Chip.Wear)
}

// Written on and on, two blocks stay free, and no block wears much more than another one; whatever sectors are written in turn.
func TestPlanOnAndOn(t *testing.T) {
	for many := 1; many <= impl.Sectors; many++ {
		for _, mixed := range []bool{false, true} {
			f := laidFtl()
			state := uint64(many)
			for i := range 700 {
				state = state*6364136223846793005 + 1442695040888963407
				s := i % many
				if mixed {
					s = int(state>>33) % many
				}
				acts, g, ok := impl.Plan(f, s, fmt.Sprint(i))
				if !ok || len(impl.FreeBlocks(g.Chip)) < 2 || g.Seq <= f.Seq {
					t.Fatalf("%d sectors, write %d: %v, %v, number %d", many, i, ok, impl.FreeBlocks(g.Chip), g.Seq)
				}
				wantWritten(t, fmt.Sprint(many, " sectors, write ", i), f, acts, g, s, fmt.Sprint(i))
				if f = g; spread(f) > 3 {
					t.Fatalf("%d sectors, write %d: %v", many, i, f.Chip.Wear)
				}
			}
			if slices.Min(f.Chip.Wear) < 8 {
				t.Errorf("%d sectors: hardly cleared: %v", many, f.Chip.Wear)
			}
		}
	}
}

func TestPlanRoundsInStep(t *testing.T) {
	f := laidFtl()
	for i := range 3000 {
		_, g, ok := impl.Plan(f, i%7, "x")
		if f = g; !ok || spread(f) > 1 {
			t.Fatal("write", i, ok, f.Chip.Wear)
		}
	}
}

func scribbleActs(list []impl.Act) {
	list = list[:cap(list)]
	for i := range list {
		list[i] = impl.Act{Kind: -99, At: -99, Text: "scribble"}
	}
}

// written is what the functions of the layer answer.
type written struct {
	acts  [][]impl.Act
	ftls  []impl.Ftl
	chips []impl.Chip
}

func writtenAnswers(f impl.Ftl, list []impl.Act) written {
	var w written
	for block := -1; block <= impl.Blocks; block++ {
		acts, g, _ := impl.Clean(f, block)
		w.acts, w.ftls = append(w.acts, acts), append(w.ftls, g)
	}
	for _, s := range []int{-1, 0, 5, lastSector, impl.Sectors} {
		acts, g, _ := impl.Plan(f, s, "data")
		w.acts, w.ftls = append(w.acts, acts), append(w.ftls, g)
	}
	for _, a := range append(slices.Clone(list), impl.Act{Kind: 3}) {
		c, _ := impl.Apply(f.Chip, a)
		w.chips = append(w.chips, c)
	}
	for n := range len(list) + 1 {
		c, _ := impl.ApplyAll(f.Chip, list[:n])
		w.chips = append(w.chips, c)
	}
	impl.Worst(f)
	return w
}

func (w written) scribble() {
	for _, acts := range w.acts {
		scribbleActs(acts)
	}
	for _, f := range w.ftls {
		scribbleFtl(f)
	}
	for _, c := range w.chips {
		scribbleChip(c)
	}
}

func (w written) clone() written {
	var out written
	for _, acts := range w.acts {
		out.acts = append(out.acts, slices.Clone(acts))
	}
	for _, f := range w.ftls {
		out.ftls = append(out.ftls, cloneFtl(f))
	}
	for _, c := range w.chips {
		out.chips = append(out.chips, cloneChip(c))
	}
	return out
}

func wantSameWritten(t *testing.T, got, want written) {
	t.Helper()
	for i, acts := range got.acts {
		wantActs(t, "second acts", acts, want.acts[i])
	}
	for i, f := range got.ftls {
		wantFtl(t, "second Ftl", f, want.ftls[i].Chip, want.ftls[i].Map, want.ftls[i].Seq)
	}
	for i, c := range got.chips {
		wantChip(t, "second chip", c, want.chips[i])
	}
}

// Nothing is written into an argument, nor into the spare room behind it, and every answer is new memory.
func TestWriteArgumentsStayAndAnswersAreNew(t *testing.T) {
	ftls := []impl.Ftl{busyFtl(), laidFtl(), laidFtl(times(8, "ooxxxx")...), laidFtl(times(10, "oxxxxx")...), impl.Mount(mixedChip(5))}
	for _, f := range wrongFtls() {
		ftls = append(ftls, f)
	}
	acts := []impl.Act{clearOf(0), burnAt(0, "x"), burnAt(lastPage, "x"), burnAt(lastPage, "y"), {Kind: 3}, clearOf(1)}
	for _, plain := range ftls {
		f := roomyFtl(plain)
		before := cloneFtl(wholeFtl(f))
		list := append(slices.Clone(acts), burnAt(77, "mark"), burnAt(78, "mark"))
		marked := slices.Clone(list)
		first := writtenAnswers(f, list[:len(acts)])
		second := writtenAnswers(f, list[:len(acts)])
		want := second.clone()
		wantFtl(t, "argument", wholeFtl(f), before.Chip, before.Map, before.Seq)
		wantActs(t, "list", list, marked)
		first.scribble()
		wantFtl(t, "argument behind a scribble", wholeFtl(f), before.Chip, before.Map, before.Seq)
		wantActs(t, "list behind a scribble", list, marked)
		scribbleFtl(f)
		scribbleActs(list)
		wantSameWritten(t, second, want)
	}
}

// The lists of one answer share nothing.
func TestPlanListsAreApart(t *testing.T) {
	f := laidFtl(times(8, "ooxxxx")...)
	for _, s := range []int{3, impl.Sectors} {
		_, right, _ := impl.Plan(f, s, "x")
		acts, g, _ := impl.Plan(f, s, "x")
		scribbleActs(acts)
		wantFtl(t, "acts", g, right.Chip, right.Map, right.Seq)
		scribbleNumbers(g.Map)
		wantChip(t, "map", g.Chip, right.Chip)
		scribbleNumbers(g.Chip.Wear)
		wantChip(t, "wear", impl.Chip{Pages: g.Chip.Pages, Wear: right.Chip.Wear}, right.Chip)
	}
}
