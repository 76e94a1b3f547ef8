package tests

import (
	"fmt"
	"math"
	"slices"
	"strings"
	"testing"

	"loop.example/g00246/impl"
)

const (
	allPages = impl.Blocks * impl.Pages
	longest  = 2 * impl.MaxText
)

// Blocks and pages that a chip has not, beside those of noPlaces.
var (
	noPages  = append([]int{allPages, allPages + 1, 1000}, noPlaces...)
	noBlocks = append([]int{impl.Blocks, impl.Blocks + 1, allPages, math.MaxInt/impl.Pages + 1, math.MinInt / impl.Pages}, noPlaces...)
)

// usedChip has full, clear and torn blocks, and a different number for each block.
func usedChip() impl.Chip {
	c := impl.Chip{Pages: make([]string, allPages), Wear: make([]int, impl.Blocks)}
	for p := range c.Pages {
		if p%7 != 3 && p/impl.Pages != 4 {
			c.Pages[p] = fmt.Sprint("page ", p)
		}
	}
	for b := range c.Wear {
		c.Wear[b] = 100 + b
	}
	return c
}

// fullChip has no page that is clear.
func fullChip() impl.Chip {
	c := usedChip()
	for p := range c.Pages {
		c.Pages[p] = fmt.Sprint("page ", p)
	}
	return c
}

func cloneChip(c impl.Chip) impl.Chip {
	return impl.Chip{Pages: slices.Clone(c.Pages), Wear: slices.Clone(c.Wear)}
}

func sameChip(a, b impl.Chip) bool {
	return slices.Equal(a.Pages, b.Pages) && slices.Equal(a.Wear, b.Wear)
}

func wantChip(t *testing.T, what string, got, want impl.Chip) {
	t.Helper()
	if !sameChip(got, want) {
		t.Errorf("%s: got %q %v, want %q %v", what, got.Pages, got.Wear, want.Pages, want.Wear)
	}
}

func wantAct(t *testing.T, what string, got impl.Chip, ok bool, want impl.Chip, wantOk bool) {
	t.Helper()
	wantChip(t, what, got, want)
	if ok != wantOk {
		t.Errorf("%s: %v, want %v", what, ok, wantOk)
	}
}

// withPage is c but for one page.
func withPage(c impl.Chip, page int, text string) impl.Chip {
	c = cloneChip(c)
	c.Pages[page] = text
	return c
}

// withWear is c but for one number.
func withWear(c impl.Chip, block, times int) impl.Chip {
	c = cloneChip(c)
	c.Wear[block] = times
	return c
}

// withCleared is c with the first n pages of a block clear, and its number one more.
func withCleared(c impl.Chip, block, n int) impl.Chip {
	c = withWear(c, block, c.Wear[block]+1)
	for i := 0; i < n; i++ {
		c.Pages[block*impl.Pages+i] = ""
	}
	return c
}

// wrongChips are not ChipOk, each for one reason alone (but for those that lack all of something).
func wrongChips() map[string]impl.Chip {
	c := usedChip()
	wrong := map[string]impl.Chip{
		"zero":         {},
		"no pages":     {Wear: c.Wear},
		"no numbers":   {Pages: c.Pages},
		"empty lists":  {Pages: []string{}, Wear: []int{}},
		"few pages":    {Pages: c.Pages[:allPages-1], Wear: c.Wear},
		"many pages":   {Pages: append(slices.Clone(c.Pages), ""), Wear: c.Wear},
		"few numbers":  {Pages: c.Pages, Wear: c.Wear[:impl.Blocks-1]},
		"many numbers": {Pages: c.Pages, Wear: append(slices.Clone(c.Wear), 0)},
		"turned round": {Pages: make([]string, impl.Blocks), Wear: make([]int, allPages)},
	}
	for _, p := range []int{0, 30, allPages - 1} {
		wrong[fmt.Sprint("long page ", p)] = withPage(c, p, someText(longest+1))
	}
	for _, b := range []int{0, 5, impl.Blocks - 1} {
		for _, times := range []int{-1, impl.MaxNum + 1, math.MinInt, math.MaxInt} {
			wrong[fmt.Sprint("number ", b, " ", times)] = withWear(c, b, times)
		}
	}
	return wrong
}

func TestChipLimits(t *testing.T) {
	if impl.Blocks != 10 || impl.Pages != 6 {
		t.Error("limits", impl.Blocks, impl.Pages)
	}
}

func TestChipNewIsClear(t *testing.T) {
	c := impl.ChipNew()
	wantChip(t, "new", c, impl.Chip{Pages: make([]string, allPages), Wear: make([]int, impl.Blocks)})
	if !impl.ChipOk(c) {
		t.Error("a new chip is not ChipOk")
	}
}

func TestChipOkOfRightOnes(t *testing.T) {
	c := usedChip()
	right := []impl.Chip{c, fullChip(), withPage(c, 0, "\x00"), withPage(c, 1, "\xff\xfe")}
	for p := range allPages {
		right = append(right, withPage(c, p, someText(longest)), withPage(c, p, someText(longest-1)))
	}
	for b := range impl.Blocks {
		right = append(right, withWear(c, b, 0), withWear(c, b, impl.MaxNum), withWear(c, b, impl.MaxNum-1))
	}
	for i, c := range right {
		if !impl.ChipOk(c) {
			t.Errorf("%d: not ChipOk: %v", i, c.Wear)
		}
	}
}

func TestChipOkOfWrongOnes(t *testing.T) {
	for name, c := range wrongChips() {
		if impl.ChipOk(c) {
			t.Errorf("%s: ChipOk", name)
		}
	}
	c := usedChip()
	for p := range allPages {
		if impl.ChipOk(withPage(c, p, someText(longest+1))) {
			t.Errorf("ChipOk with a long page %d", p)
		}
	}
	for b := range impl.Blocks {
		if impl.ChipOk(withWear(c, b, -1)) || impl.ChipOk(withWear(c, b, impl.MaxNum+1)) {
			t.Errorf("ChipOk with a wrong number %d", b)
		}
	}
}

// A chip that is not ChipOk comes to the zero value, wherever the act is and whatever else is wrong.
func TestWrongChipsComeToZero(t *testing.T) {
	for name, c := range wrongChips() {
		for _, at := range []int{-1, 0, 3, 4, impl.Blocks - 1, impl.Blocks, 24, allPages - 1, allPages} {
			for _, text := range []string{"", "x", someText(longest + 1)} {
				got, ok := impl.Burn(c, at, text)
				wantAct(t, "Burn of "+name, got, ok, impl.Chip{}, false)
				for _, n := range []int{-1, 0, 1, 900} {
					wantChip(t, "Torn of "+name, impl.Torn(c, at, text, n), impl.Chip{})
				}
			}
			got, ok := impl.Clear(c, at)
			wantAct(t, "Clear of "+name, got, ok, impl.Chip{}, false)
			for _, n := range []int{-1, 0, 1, 6, 7} {
				wantChip(t, "Half of "+name, impl.Half(c, at, n), impl.Chip{})
			}
		}
	}
}

// A page is written only when it is clear, and that page alone.
func TestBurnEachPage(t *testing.T) {
	for _, c := range []impl.Chip{impl.ChipNew(), usedChip(), fullChip()} {
		for p := range allPages {
			for _, text := range []string{"x", "\x00", "page", someText(longest)} {
				want, clear := c, c.Pages[p] == ""
				if clear {
					want = withPage(c, p, text)
				}
				got, ok := impl.Burn(c, p, text)
				wantAct(t, fmt.Sprint("Burn ", p), got, ok, want, clear)
			}
		}
	}
}

func TestBurnTextSizes(t *testing.T) {
	c := usedChip()
	for _, p := range []int{3, 24, 59} {
		c.Pages[p] = ""
		for _, size := range []int{1, 2, impl.MaxText, impl.MaxText + 1, longest - 1, longest} {
			got, ok := impl.Burn(c, p, someText(size))
			wantAct(t, fmt.Sprint("Burn of ", size), got, ok, withPage(c, p, someText(size)), true)
		}
		for _, size := range []int{0, longest + 1, longest + 2, 100000} {
			got, ok := impl.Burn(c, p, someText(size))
			wantAct(t, fmt.Sprint("Burn of ", size), got, ok, c, false)
		}
	}
}

// What a page has is not written again, not even with the same or with nothing.
func TestBurnOfAPageThatIsNotClear(t *testing.T) {
	c := withPage(withPage(usedChip(), 0, "x"), allPages-1, someText(longest))
	for _, p := range []int{0, 1, allPages - 1} {
		for _, text := range []string{c.Pages[p], "", "x", "y", c.Pages[p] + "y", someText(longest + 1)} {
			got, ok := impl.Burn(c, p, text)
			wantAct(t, fmt.Sprintf("Burn %d %.9q", p, text), got, ok, c, false)
		}
	}
}

func TestBurnNoSuchPage(t *testing.T) {
	for _, c := range []impl.Chip{impl.ChipNew(), usedChip()} {
		for _, p := range noPages {
			got, ok := impl.Burn(c, p, "x")
			wantAct(t, fmt.Sprint("Burn ", p), got, ok, c, false)
		}
	}
}

// A block is cleared whole, and that block alone; also one that is clear.
func TestClearEachBlock(t *testing.T) {
	for _, c := range []impl.Chip{impl.ChipNew(), usedChip(), fullChip()} {
		for b := range impl.Blocks {
			got, ok := impl.Clear(c, b)
			wantAct(t, fmt.Sprint("Clear ", b), got, ok, withCleared(c, b, impl.Pages), true)
		}
		for _, b := range noBlocks {
			got, ok := impl.Clear(c, b)
			wantAct(t, fmt.Sprint("Clear ", b), got, ok, c, false)
		}
	}
}

// A block that was cleared MaxNum times is cleared no more, in part neither; the others still are.
func TestClearedMaxNumTimes(t *testing.T) {
	for b := range impl.Blocks {
		c := withWear(fullChip(), b, impl.MaxNum-1)
		got, ok := impl.Clear(c, b)
		wantAct(t, fmt.Sprint("Clear ", b, " the last time"), got, ok, withCleared(c, b, impl.Pages), true)
		wantChip(t, "Half the last time", impl.Half(c, b, 2), withCleared(c, b, 2))

		c = withWear(fullChip(), b, impl.MaxNum)
		got, ok = impl.Clear(c, b)
		wantAct(t, fmt.Sprint("Clear ", b, " once too often"), got, ok, c, false)
		for n := -1; n <= impl.Pages+1; n++ {
			wantChip(t, "Half once too often", impl.Half(c, b, n), c)
		}
		other := (b + 1) % impl.Blocks
		got, ok = impl.Clear(c, other)
		wantAct(t, fmt.Sprint("Clear ", other), got, ok, withCleared(c, other, impl.Pages), true)
	}
}

// What is torn has the first n bytes, on that page alone.
func TestTornEachCount(t *testing.T) {
	for _, c := range []impl.Chip{impl.ChipNew(), usedChip()} {
		for _, p := range []int{3, 24, 29, 59} {
			for _, text := range []string{"h", "hello", someText(longest)} {
				c := withPage(c, p, "")
				for n := -2; n < 1; n++ {
					wantChip(t, fmt.Sprint("Torn ", n), impl.Torn(c, p, text, n), c)
				}
				for n := 1; n <= len(text); n++ {
					wantChip(t, fmt.Sprint("Torn ", n), impl.Torn(c, p, text, n), withPage(c, p, text[:n]))
				}
				for _, n := range []int{len(text) + 1, len(text) + 2, longest + 1, math.MaxInt} {
					wantChip(t, fmt.Sprint("Torn ", n), impl.Torn(c, p, text, n), withPage(c, p, text))
				}
				wantChip(t, "Torn far below 1", impl.Torn(c, p, text, math.MinInt), c)
			}
		}
	}
}

// How long the text is counts for what is burnt of it alone.
func TestTornOfALongText(t *testing.T) {
	c := usedChip()
	for _, size := range []int{longest + 1, longest + 2, 100000} {
		text := someText(size)
		for _, n := range []int{1, impl.MaxText, longest - 1, longest} {
			wantChip(t, fmt.Sprint("Torn ", n, " of ", size), impl.Torn(c, 3, text, n), withPage(c, 3, text[:n]))
		}
		for _, n := range []int{0, longest + 1, size - 1, size, size + 1, math.MaxInt} {
			if n > 0 && min(n, size) <= longest {
				continue
			}
			wantChip(t, fmt.Sprint("Torn ", n, " of ", size), impl.Torn(c, 3, text, n), c)
		}
	}
}

func TestTornWhereBurnIsFalse(t *testing.T) {
	c := usedChip()
	for _, n := range []int{-1, 0, 1, 3, 5, 6, math.MaxInt} {
		for _, p := range append([]int{0, 1, 58}, noPages...) {
			wantChip(t, fmt.Sprint("Torn ", p, " ", n), impl.Torn(c, p, "hello", n), c)
		}
		wantChip(t, "Torn of nothing", impl.Torn(c, 3, "", n), c)
	}
}

// Half a clear turns the first pages of that block alone, but it counts.
func TestHalfEachCount(t *testing.T) {
	for _, c := range []impl.Chip{impl.ChipNew(), usedChip(), fullChip()} {
		for b := range impl.Blocks {
			for n := 0; n <= impl.Pages; n++ {
				wantChip(t, fmt.Sprint("Half ", b, " ", n), impl.Half(c, b, n), withCleared(c, b, n))
			}
			for _, n := range []int{-1, -2, -impl.Pages, math.MinInt} {
				wantChip(t, fmt.Sprint("Half ", b, " ", n), impl.Half(c, b, n), withCleared(c, b, 0))
			}
			for _, n := range []int{impl.Pages + 1, allPages, 1000, math.MaxInt} {
				wantChip(t, fmt.Sprint("Half ", b, " ", n), impl.Half(c, b, n), withCleared(c, b, impl.Pages))
			}
		}
		for _, b := range noBlocks {
			for _, n := range []int{-1, 0, 1, 6, math.MaxInt} {
				wantChip(t, fmt.Sprint("Half ", b, " ", n), impl.Half(c, b, n), c)
			}
		}
	}
}

// What is torn or half done is mended by a clear, and then written again.
func TestChipRounds(t *testing.T) {
	c := impl.ChipNew()
	for round := 1; round <= 5; round++ {
		for b := range impl.Blocks {
			first := b * impl.Pages
			c = impl.Torn(c, first, "hello", round)
			if _, ok := impl.Burn(c, first, "again"); ok || c.Pages[first] != "hello"[:round] {
				t.Fatalf("torn page %d: %q", first, c.Pages[first])
			}
			var ok bool
			if c, ok = impl.Burn(c, first+1, strings.Repeat("z", round)); !ok {
				t.Fatal("burn", first+1)
			}
			if c = impl.Half(c, b, 1); c.Pages[first] != "" || c.Pages[first+1] == "" {
				t.Fatalf("half %d: %q", b, c.Pages[first:first+2])
			}
			if c, ok = impl.Clear(c, b); !ok || !impl.ChipOk(c) || c.Wear[b] != 2*round {
				t.Fatal("clear", b, c.Wear)
			}
		}
	}
	wantChip(t, "cleared", impl.Chip{Pages: c.Pages, Wear: make([]int, impl.Blocks)}, impl.ChipNew())
}

// roomyChip is c with marked spare room behind its lists.
func roomyChip(c impl.Chip) impl.Chip {
	pages, wear := append(slices.Clone(c.Pages), "mark", "mark", "mark"), append(slices.Clone(c.Wear), 77, 77, 77)
	return impl.Chip{Pages: pages[:len(c.Pages)], Wear: wear[:len(c.Wear)]}
}

// wholeChip is c with its spare room.
func wholeChip(c impl.Chip) impl.Chip {
	return impl.Chip{Pages: c.Pages[:cap(c.Pages)], Wear: c.Wear[:cap(c.Wear)]}
}

// scribbleChip writes over all of c and over its spare room.
func scribbleChip(c impl.Chip) {
	c = wholeChip(c)
	for i := range c.Pages {
		c.Pages[i] = "scribble"
	}
	for i := range c.Wear {
		c.Wear[i] = -99
	}
}

// chipAnswers are the answers of all acts on c, those that are done and those that are refused.
func chipAnswers(c impl.Chip, at int) []impl.Chip {
	burnt, _ := impl.Burn(c, at, "hello")
	empty, _ := impl.Burn(c, at, "")
	cleared, _ := impl.Clear(c, at)
	return []impl.Chip{
		burnt, empty, cleared,
		impl.Torn(c, at, "hello", 3), impl.Torn(c, at, "hello", 0),
		impl.Half(c, at, 3), impl.Half(c, at, 0),
	}
}

// Nothing is written into an argument, nor into the spare room behind it, and every answer is new memory.
func TestChipArgumentsStayAndAnswersAreNew(t *testing.T) {
	chips := []impl.Chip{impl.ChipNew(), usedChip(), fullChip()}
	for _, c := range wrongChips() {
		chips = append(chips, c)
	}
	for _, plain := range chips {
		for _, at := range []int{-1, 0, 3, 4, 9, 10, 59, 60} {
			c := roomyChip(plain)
			before := cloneChip(wholeChip(c))
			impl.ChipOk(c)
			answers, again := chipAnswers(c, at), chipAnswers(c, at)
			wantChip(t, "argument", wholeChip(c), before)
			var want []impl.Chip
			for _, a := range again {
				want = append(want, cloneChip(a))
			}
			for _, a := range answers {
				scribbleChip(a)
			}
			wantChip(t, "argument behind a scribble", wholeChip(c), before)
			scribbleChip(c)
			for i, a := range again {
				wantChip(t, "second answer", a, want[i])
			}
		}
	}
}

func TestChipNewIsNewEachTime(t *testing.T) {
	first, second := impl.ChipNew(), impl.ChipNew()
	scribbleChip(first)
	empty := impl.Chip{Pages: make([]string, allPages), Wear: make([]int, impl.Blocks)}
	wantChip(t, "second", second, empty)
	wantChip(t, "third", impl.ChipNew(), empty)
}
