package tests

import (
	"fmt"
	"math"
	"slices"
	"testing"

	"loop.example/g00246/impl"
)

const (
	lastSector = impl.Sectors - 1
	lastPage   = allPages - 1
	lastBlock  = impl.Blocks - 1
)

// Sectors that there are not, beside those of noPlaces.
var noSectors = append([]int{impl.Sectors, impl.Sectors + 1, allPages, 1000}, noPlaces...)

func recText(sector, seq int, data string) string {
	return impl.RecText(impl.Rec{Sector: sector, Seq: seq, Data: data})
}

// emptyMap is the Map of a chip without records.
func emptyMap() []int {
	return slices.Repeat([]int{-1}, impl.Sectors)
}

// withPlace is list but for one sector.
func withPlace(list []int, sector, page int) []int {
	list = slices.Clone(list)
	list[sector] = page
	return list
}

func wantFtl(t *testing.T, what string, got impl.Ftl, chip impl.Chip, pages []int, seq int) {
	t.Helper()
	wantChip(t, what, got.Chip, chip)
	if !slices.Equal(got.Map, pages) || got.Seq != seq {
		t.Errorf("%s: got %v, %d, want %v, %d", what, got.Map, got.Seq, pages, seq)
	}
}

func wantList(t *testing.T, what string, got, want []int) {
	t.Helper()
	if !slices.Equal(got, want) {
		t.Errorf("%s: got %v, want %v", what, got, want)
	}
}

// plainMount is Map and Seq by the document's words, sector by sector.
func plainMount(c impl.Chip) ([]int, int) {
	pages, greatest := emptyMap(), 0
	for s := range pages {
		best := 0
		for p := lastPage; p >= 0; p-- {
			if r, ok := impl.RecRead(c.Pages[p]); ok && r.Sector == s && r.Seq >= best {
				best, pages[s] = r.Seq, p
			}
		}
		greatest = max(greatest, best)
	}
	if greatest == impl.MaxNum {
		return pages, impl.MaxNum
	}
	return pages, greatest + 1
}

// shape is a block as text: a dot for each clear page, an x for each other one.
func shape(c impl.Chip, block int) string {
	s := ""
	for _, text := range c.Pages[block*impl.Pages : (block+1)*impl.Pages] {
		if text == "" {
			s += "."
		} else {
			s += "x"
		}
	}
	return s
}

// Where a block of that shape is gone on with; no other shape is.
var goesOn = map[string]int{"x.....": 1, "xx....": 2, "xxx...": 3, "xxxx..": 4, "xxxxx.": 5}

func plainFreeBlocks(c impl.Chip) []int {
	var free []int
	for b := range impl.Blocks {
		if shape(c, b) == "......" {
			free = append(free, b)
		}
	}
	return free
}

func plainNextPage(c impl.Chip) int {
	for b := range impl.Blocks {
		if at, ok := goesOn[shape(c, b)]; ok {
			return b*impl.Pages + at
		}
	}
	best := -1
	for _, b := range plainFreeBlocks(c) {
		if best < 0 || c.Wear[b] < c.Wear[best] {
			best = b
		}
	}
	if best < 0 {
		return -1
	}
	return best * impl.Pages
}

// shaped is a full chip but for blocks of these shapes, the first ones.
func shaped(shapes ...string) impl.Chip {
	c := fullChip()
	for b, s := range shapes {
		c = withShape(c, b, s)
	}
	return c
}

// withShape is c but for one block; what is not clear there is no record.
func withShape(c impl.Chip, block int, s string) impl.Chip {
	c = cloneChip(c)
	for i, x := range s {
		c.Pages[block*impl.Pages+i] = ""
		if x == 'x' {
			c.Pages[block*impl.Pages+i] = "junk"
		}
	}
	return c
}

// allShapes are those of a block, clear from anywhere on, or with clear pages ahead of others.
func allShapes() []string {
	shapes := []string{""}
	for range impl.Pages {
		var longer []string
		for _, s := range shapes {
			longer = append(longer, s+".", s+"x")
		}
		shapes = longer
	}
	return shapes
}

// mixedChip has records, old and new, torn ones, others and clear pages, told apart by the seed alone.
func mixedChip(seed int) impl.Chip {
	c := impl.ChipNew()
	state := uint64(seed)*2654435761 + 12345
	draw := func(n int) int {
		state = state*6364136223846793005 + 1442695040888963407
		return int(state>>33) % n
	}
	few := 1 + draw(9)
	top := []int{3, 40, impl.MaxNum}[draw(3)]
	begun := draw(20)
	for b := range c.Wear {
		c.Wear[b] = draw(few)
		ahead := impl.Pages * draw(2)
		if b == begun {
			ahead = draw(impl.Pages + 1)
		}
		for i := range impl.Pages {
			text := recText(draw(impl.Sectors), 1+draw(top), someText(draw(9)))
			switch kind := draw(12); {
			case i >= ahead && kind > 0:
				text = ""
			case kind == 1:
				text = text[:len(text)-1-draw(3)]
			case kind == 2:
				text = "junk"
			}
			c.Pages[b*impl.Pages+i] = text
		}
	}
	return c
}

// busyChip has two sectors with two records each, one with one, one with an empty one, and a torn one.
func busyChip() impl.Chip {
	c := impl.ChipNew()
	c.Pages[0] = recText(lastSector, 1, "old")
	c.Pages[1] = recText(3, 2, "older")
	c.Pages[6] = recText(0, 7, "first")
	c.Pages[7] = recText(lastSector, 8, "new")
	c.Pages[8] = "junk"
	c.Pages[30] = recText(5, 9, "")
	text := recText(4, 99, "torn")
	c.Pages[31] = text[:len(text)-1]
	c.Pages[lastPage] = recText(3, 4, "newer")
	c.Wear[2] = 5
	return c
}

func busyFtl() impl.Ftl {
	pages := emptyMap()
	pages[0], pages[3], pages[5], pages[lastSector] = 6, lastPage, 30, 7
	return impl.Ftl{Chip: busyChip(), Map: pages, Seq: 10}
}

// wrongFtls are not FtlOk, each for one reason alone (but for the zero one).
func wrongFtls() map[string]impl.Ftl {
	right := busyFtl()
	wrong := map[string]impl.Ftl{
		"zero":        {},
		"no map":      {Chip: right.Chip, Seq: right.Seq},
		"empty map":   {Chip: right.Chip, Map: []int{}, Seq: right.Seq},
		"short map":   {Chip: right.Chip, Map: right.Map[:lastSector], Seq: right.Seq},
		"long map":    {Chip: right.Chip, Map: append(slices.Clone(right.Map), -1), Seq: right.Seq},
		"longer map":  {Chip: right.Chip, Map: append(slices.Clone(right.Map), 7), Seq: right.Seq},
		"clear chip":  {Chip: impl.ChipNew(), Map: right.Map, Seq: right.Seq},
		"another one": {Chip: withPage(right.Chip, 6, "junk"), Map: right.Map, Seq: right.Seq},
	}
	for _, seq := range []int{-1, 0, 1, right.Seq - 1, right.Seq + 1, impl.MaxNum, math.MinInt, math.MaxInt} {
		wrong[fmt.Sprint("number ", seq)] = impl.Ftl{Chip: right.Chip, Map: right.Map, Seq: seq}
	}
	for s, page := range right.Map {
		for _, other := range []int{-2, -1, 0, 1, 6, 7, 8, 9, 30, lastPage, allPages, math.MinInt, math.MaxInt} {
			if other != page {
				wrong[fmt.Sprint("sector ", s, " at ", other)] = impl.Ftl{Chip: right.Chip, Map: withPlace(right.Map, s, other), Seq: right.Seq}
			}
		}
	}
	for name, c := range wrongChips() {
		wrong["chip: "+name] = impl.Ftl{Chip: c, Map: emptyMap(), Seq: 1}
		wrong["chip and no map: "+name] = impl.Ftl{Chip: c}
	}
	return wrong
}

func TestMountWithoutRecords(t *testing.T) {
	junk := usedChip()
	torn := recText(3, 9, "hi")
	for name, c := range map[string]impl.Chip{
		"new": impl.ChipNew(), "junk": junk, "full": fullChip(),
		"torn": withPage(junk, 0, torn[:len(torn)-1]),
		"long": withPage(junk, lastPage, someText(longest)),
		"more": withPage(junk, 7, torn+"x"),
	} {
		wantFtl(t, name, impl.Mount(c), c, emptyMap(), 1)
		if !impl.FtlOk(impl.Mount(c)) {
			t.Errorf("%s: not FtlOk", name)
		}
	}
}

func TestMountOfWrongChipsIsZero(t *testing.T) {
	for name, c := range wrongChips() {
		wantFtl(t, name, impl.Mount(c), impl.Chip{}, nil, 0)
	}
	// A record on a chip that is not ChipOk counts as little.
	wantFtl(t, "with a record", impl.Mount(withWear(busyChip(), 0, -1)), impl.Chip{}, nil, 0)
}

// Each sector is met on each page.
func TestMountOneRecord(t *testing.T) {
	for s := range impl.Sectors {
		for p := range allPages {
			for _, c := range []impl.Chip{impl.ChipNew(), fullChip()} {
				c = withPage(c, p, recText(s, 300, "hi"))
				wantFtl(t, fmt.Sprint(s, " on ", p), impl.Mount(c), c, withPlace(emptyMap(), s, p), 301)
			}
		}
	}
}

// The record with the greatest number is the sector's, wherever it stands.
func TestMountGreatestNumber(t *testing.T) {
	places := []int{0, 1, 5, 6, 30, 53, 54, lastPage}
	for _, s := range []int{0, 3, lastSector} {
		for _, a := range places {
			for _, b := range places {
				for _, n := range places {
					if a == b || a == n || b == n {
						continue
					}
					c := withPage(impl.ChipNew(), a, recText(s, 4, "old"))
					c = withPage(withPage(c, b, recText(s, 5, "new")), n, recText(s, 1, "oldest"))
					f := impl.Mount(c)
					wantFtl(t, fmt.Sprint(a, b, n), f, c, withPlace(emptyMap(), s, b), 6)
					if got := impl.Sector(f, s); got != "new" {
						t.Errorf("sector %d at %d, %d, %d: %q", s, a, b, n, got)
					}
				}
			}
		}
	}
}

// Numbers are compared as numbers: at both sides of each length of theirs, and at MaxNum.
func TestMountNumbersAtTheirEdges(t *testing.T) {
	for _, n := range []int{1, 2, 9, 127, 128, 16383, 16384, 2097151, 268435455, impl.MaxNum - 2, impl.MaxNum - 1} {
		for _, at := range [][2]int{{0, lastPage}, {lastPage, 0}, {6, 7}, {7, 6}} {
			c := withPage(impl.ChipNew(), at[0], recText(3, n, "old"))
			c = withPage(c, at[1], recText(3, n+1, "new"))
			wantFtl(t, fmt.Sprint(n), impl.Mount(c), c, withPlace(emptyMap(), 3, at[1]), min(n+2, impl.MaxNum))
		}
	}
}

// Of records of one sector with one number the first is the sector's, also among lesser ones, but not ahead of a greater one.
func TestMountTwoOfOneNumber(t *testing.T) {
	for _, seq := range []int{2, 300, impl.MaxNum} {
		for a := range allPages {
			for b := a + 1; b < allPages; b++ {
				c := withPage(impl.ChipNew(), a, recText(3, seq, "a"))
				c = withPage(c, b, recText(3, seq, "b"))
				f := impl.Mount(c)
				wantFtl(t, fmt.Sprint(a, b), f, c, withPlace(emptyMap(), 3, a), min(seq+1, impl.MaxNum))
				if got := impl.Sector(f, 3); got != "a" {
					t.Errorf("sector at %d, %d: %q", a, b, got)
				}
				if f.Map[3] = b; impl.FtlOk(f) {
					t.Errorf("FtlOk with the second of %d, %d", a, b)
				}
			}
		}
	}
	c := impl.ChipNew()
	for p, seq := range []int{4, 9, 4, 9, 9, 1, 9} {
		c.Pages[p] = recText(3, seq, fmt.Sprint(p))
	}
	wantFtl(t, "several", impl.Mount(c), c, withPlace(emptyMap(), 3, 1), 10)
	c.Pages[40] = recText(3, 10, "greater")
	wantFtl(t, "a greater one", impl.Mount(c), c, withPlace(emptyMap(), 3, 40), 11)
}

// Two sectors with one number do not stand in each other's way.
func TestMountOneNumberOfTwoSectors(t *testing.T) {
	c := withPage(impl.ChipNew(), 20, recText(4, 7, "four"))
	c = withPage(c, 10, recText(5, 7, "five"))
	f := impl.Mount(c)
	wantFtl(t, "two", f, c, withPlace(withPlace(emptyMap(), 4, 20), 5, 10), 8)
	if impl.Sector(f, 4) != "four" || impl.Sector(f, 5) != "five" {
		t.Errorf("%q, %q", impl.Sector(f, 4), impl.Sector(f, 5))
	}
}

// The next number is one more than the greatest of all sectors', and MaxNum at most.
func TestMountNextNumber(t *testing.T) {
	for _, c := range []struct{ seq, want int }{
		{1, 2}, {2, 3}, {300, 301}, {impl.MaxNum - 2, impl.MaxNum - 1}, {impl.MaxNum - 1, impl.MaxNum}, {impl.MaxNum, impl.MaxNum},
	} {
		for _, s := range []int{0, 7, lastSector} {
			for _, p := range []int{0, 31, lastPage} {
				chip := withPage(withPage(impl.ChipNew(), 30, recText(9, 1, "least")), p, recText(s, c.seq, "x"))
				f := impl.Mount(chip)
				wantFtl(t, fmt.Sprint(c.seq), f, chip, withPlace(withPlace(emptyMap(), 9, 30), s, p), c.want)
				if !impl.FtlOk(f) {
					t.Errorf("number %d: not FtlOk", c.seq)
				}
			}
		}
	}
}

// What was torn is no record: the one ahead of it stays, and its number is not counted.
func TestMountOfATornBurn(t *testing.T) {
	c, _ := impl.Burn(impl.ChipNew(), 0, recText(3, 1, "old"))
	text := recText(3, 2, "new")
	for n := range len(text) {
		torn := impl.Torn(c, 1, text, n)
		wantFtl(t, fmt.Sprint("torn at ", n), impl.Mount(torn), torn, withPlace(emptyMap(), 3, 0), 2)
	}
	whole := impl.Torn(c, 1, text, len(text))
	wantFtl(t, "whole", impl.Mount(whole), whole, withPlace(emptyMap(), 3, 1), 3)
}

// A clear that was cut short takes the first pages alone; what there still is counts.
func TestMountOfAHalfClear(t *testing.T) {
	c := impl.ChipNew()
	for i := range impl.Pages {
		c.Pages[12+i] = recText(3, 10-i, fmt.Sprint(i))
	}
	for n := range impl.Pages {
		half := impl.Half(c, 2, n)
		f := impl.Mount(half)
		wantFtl(t, fmt.Sprint("half ", n), f, half, withPlace(emptyMap(), 3, 12+n), 11-n)
		if got := impl.Sector(f, 3); got != fmt.Sprint(n) {
			t.Errorf("half %d: %q", n, got)
		}
	}
	clear := impl.Half(c, 2, impl.Pages)
	wantFtl(t, "all of it", impl.Mount(clear), clear, emptyMap(), 1)
}

func TestMountBusyChip(t *testing.T) {
	right := busyFtl()
	wantFtl(t, "busy", impl.Mount(busyChip()), right.Chip, right.Map, right.Seq)
}

// Mounted again it is the same.
func TestMountAgain(t *testing.T) {
	for seed := range 2000 {
		c := mixedChip(seed)
		f := impl.Mount(c)
		pages, seq := plainMount(c)
		wantFtl(t, fmt.Sprint("chip ", seed), f, c, pages, seq)
		wantFtl(t, fmt.Sprint("chip again ", seed), impl.Mount(f.Chip), c, pages, seq)
		if !impl.FtlOk(f) {
			t.Errorf("chip %d: not FtlOk", seed)
		}
	}
}

func TestFtlOk(t *testing.T) {
	if !impl.FtlOk(busyFtl()) || !impl.FtlOk(impl.Ftl{Chip: impl.ChipNew(), Map: emptyMap(), Seq: 1}) {
		t.Error("not FtlOk")
	}
	for name, f := range wrongFtls() {
		if impl.FtlOk(f) {
			t.Errorf("%s: FtlOk", name)
		}
	}
}

func TestSectorData(t *testing.T) {
	want := map[int]string{0: "first", 3: "newer", lastSector: "new"}
	f := busyFtl()
	for s := range impl.Sectors {
		if got := impl.Sector(f, s); got != want[s] {
			t.Errorf("Sector(%d) = %q, want %q", s, got, want[s])
		}
	}
	for _, s := range noSectors {
		if got := impl.Sector(f, s); got != "" {
			t.Errorf("Sector(%d) = %q, want nothing", s, got)
		}
	}
}

func TestSectorDataSizes(t *testing.T) {
	for _, size := range []int{0, 1, 2, 127, 128, impl.MaxText - 1, impl.MaxText} {
		for _, s := range []int{0, 12, lastSector} {
			for _, p := range []int{0, 29, lastPage} {
				f := impl.Mount(withPage(fullChip(), p, recText(s, impl.MaxNum, someText(size))))
				if got := impl.Sector(f, s); got != someText(size) {
					t.Errorf("sector %d of %d bytes on page %d: %q", s, size, p, got)
				}
			}
		}
	}
}

// What is not FtlOk has no sector and no page that lives, though its chip may have them.
func TestNothingOfWrongFtls(t *testing.T) {
	for name, f := range wrongFtls() {
		for _, s := range []int{-1, 0, 3, 5, lastSector, impl.Sectors} {
			if got := impl.Sector(f, s); got != "" {
				t.Errorf("%s: Sector(%d) = %q, want nothing", name, s, got)
			}
		}
		for block := -1; block <= impl.Blocks; block++ {
			wantList(t, fmt.Sprint(name, ": Lives ", block), impl.Lives(f, block), nil)
		}
	}
}

// An empty text is a record like any other: it takes the place of what was there ahead of it.
func TestSectorEmptiedLater(t *testing.T) {
	c := withPage(withPage(impl.ChipNew(), 4, recText(3, 8, "was")), 2, recText(3, 9, ""))
	f := impl.Mount(c)
	if f.Map[3] != 2 || impl.Sector(f, 3) != "" {
		t.Errorf("page %d, %q", f.Map[3], impl.Sector(f, 3))
	}
	wantList(t, "lives", impl.Lives(f, 0), []int{2})
}

func TestFreeBlocksKnown(t *testing.T) {
	all := []int{0, 1, 2, 3, 4, 5, 6, 7, 8, 9}
	wantList(t, "new", impl.FreeBlocks(impl.ChipNew()), all)
	wantList(t, "full", impl.FreeBlocks(fullChip()), nil)
	wantList(t, "used", impl.FreeBlocks(usedChip()), []int{4})
	// What was cleared often is free all the same.
	wantList(t, "worn", impl.FreeBlocks(withWear(impl.ChipNew(), 5, impl.MaxNum)), all)
	for b := range impl.Blocks {
		wantList(t, fmt.Sprint("but ", b), impl.FreeBlocks(withShape(fullChip(), b, "......")), []int{b})
	}
	for p := range allPages {
		want := slices.Delete(slices.Clone(all), p/impl.Pages, p/impl.Pages+1)
		wantList(t, fmt.Sprint("page ", p), impl.FreeBlocks(withPage(impl.ChipNew(), p, "\x00")), want)
		wantList(t, fmt.Sprint("page alone ", p), impl.FreeBlocks(withPage(fullChip(), p, "")), nil)
	}
	wantList(t, "several", impl.FreeBlocks(shaped("x.....", "......", "......", ".....x", "......", "xx.xxx")), []int{1, 2, 4})
}

func TestPlacesOnWrongChips(t *testing.T) {
	for name, c := range wrongChips() {
		wantList(t, name, impl.FreeBlocks(c), nil)
		if got := impl.NextPage(c); got != -1 {
			t.Errorf("%s: NextPage = %d, want -1", name, got)
		}
	}
	for name, c := range map[string]impl.Chip{
		"clear, worn below 0": withWear(impl.ChipNew(), lastBlock, -1),
		"clear, worn out":     withWear(impl.ChipNew(), 0, impl.MaxNum+1),
		"clear, a long page":  withPage(impl.ChipNew(), lastPage, someText(longest+1)),
	} {
		wantList(t, name, impl.FreeBlocks(c), nil)
		if got := impl.NextPage(c); got != -1 {
			t.Errorf("%s: NextPage = %d, want -1", name, got)
		}
	}
}

func wantNext(t *testing.T, what string, c impl.Chip, want int) {
	t.Helper()
	if got := impl.NextPage(c); got != want {
		t.Errorf("%s: NextPage = %d, want %d", what, got, want)
	}
}

// A block that was begun is gone on with, wherever it is, though all others are free.
func TestNextPageOfABlockThatWasBegun(t *testing.T) {
	for b := range impl.Blocks {
		for s, at := range goesOn {
			want := b*impl.Pages + at
			wantNext(t, fmt.Sprint(s, " at ", b, " among full ones"), withShape(fullChip(), b, s), want)
			worn := withWear(withShape(impl.ChipNew(), b, s), b, impl.MaxNum)
			wantNext(t, fmt.Sprint(s, " at ", b, " among free ones"), worn, want)
		}
	}
	wantNext(t, "the first of two", shaped("xxxxxx", "xxxxx.", "x....."), 11)
	wantNext(t, "the first, not the least worn", withWear(shaped("xx....", "x....."), 0, 1000), 2)
}

// A clear page ahead of one that is not is passed over, and all of its block with it; the search goes on behind it.
func TestNextPagePassesOverHoles(t *testing.T) {
	for _, s := range []string{".xxxxx", ".....x", "x.xxxx", "xxxx.x", "x....x", "xx.x..", "x.x...", ".x....", "x.x.x.", "...xxx"} {
		for b := range impl.Blocks {
			wantNext(t, s+" alone", withShape(fullChip(), b, s), -1)
			free := (b + 7) % impl.Blocks
			wantNext(t, s+" and a free one", withShape(withShape(fullChip(), b, s), free, "......"), free*impl.Pages)
			begun := withShape(withShape(fullChip(), b, s), free, "xxxx..")
			wantNext(t, s+" and one that was begun", begun, free*impl.Pages+4)
		}
	}
	wantNext(t, "all have holes", shaped(slices.Repeat([]string{".xxxxx"}, impl.Blocks)...), -1)
}

// Of the free blocks the one that was cleared the least often is begun, of several the first.
func TestNextPageLeastWorn(t *testing.T) {
	for _, c := range []struct {
		wear []int
		want int
	}{
		{[]int{0, 0, 0, 0, 0, 0, 0, 0, 0, 0}, 0},
		{[]int{1, 0, 0, 0, 0, 0, 0, 0, 0, 0}, 6},
		{[]int{1, 1, 1, 1, 1, 1, 1, 1, 1, 0}, 54},
		{[]int{9, 8, 7, 6, 5, 5, 6, 7, 8, 9}, 24},
		{[]int{3, 2, 3, 2, 3, 2, 3, 2, 3, 2}, 6},
		{[]int{7, 7, 7, 7, 7, 7, 7, 7, 7, 7}, 0},
		{[]int{impl.MaxNum, impl.MaxNum - 1, impl.MaxNum, 0, 1, 2, 3, 4, 5, 6}, 18},
		{slices.Repeat([]int{impl.MaxNum}, impl.Blocks), 0},
	} {
		chip := impl.ChipNew()
		chip.Wear = c.wear
		wantNext(t, fmt.Sprint(c.wear), chip, c.want)
	}
	// How often others were cleared is of no weight.
	c := withShape(withShape(fullChip(), 3, "......"), 8, "......")
	c.Wear = []int{0, 0, 0, 50, 0, 0, 0, 0, 40, 0}
	wantNext(t, "two are free", c, 48)
	c.Wear[8] = 50
	wantNext(t, "two are free, cleared equally often", c, 18)
	c.Wear[8] = 51
	wantNext(t, "two are free, the first was cleared less often", c, 18)
	wantNext(t, "none is free", fullChip(), -1)
}

// Blocks of each shape, at each place, among full ones, among free ones and among some of each.
func TestPlacesOfEachShape(t *testing.T) {
	for _, s := range allShapes() {
		for b := range impl.Blocks {
			mixed := withShape(withShape(usedChip(), (b+1)%impl.Blocks, "xxx..."), (b+5)%impl.Blocks, "......")
			for _, c := range []impl.Chip{fullChip(), impl.ChipNew(), usedChip(), mixed} {
				c = withShape(c, b, s)
				what := fmt.Sprint(s, " at ", b)
				wantList(t, what, impl.FreeBlocks(c), plainFreeBlocks(c))
				wantNext(t, what, c, plainNextPage(c))
			}
		}
	}
}

func TestPlacesOfTwoShapes(t *testing.T) {
	for _, a := range allShapes() {
		for _, b := range allShapes() {
			c := shaped("xxxxxx", a, b)
			wantList(t, a+" "+b, impl.FreeBlocks(c), plainFreeBlocks(c))
			wantNext(t, a+" "+b, c, plainNextPage(c))
		}
	}
}

func TestPlacesOfMixedChips(t *testing.T) {
	for seed := range 5000 {
		c := mixedChip(seed)
		wantList(t, fmt.Sprint("chip ", seed), impl.FreeBlocks(c), plainFreeBlocks(c))
		wantNext(t, fmt.Sprint("chip ", seed), c, plainNextPage(c))
	}
}

// Burnt page for page a chip is filled whole, each page once.
func TestNextPageFillsTheChip(t *testing.T) {
	c := impl.ChipNew()
	for b := range c.Wear {
		c.Wear[b] = (b * 7) % impl.Blocks
	}
	for n := range allPages {
		page := impl.NextPage(c)
		if want := c.Wear[page/impl.Pages]*impl.Pages + page%impl.Pages; want != n {
			t.Fatalf("page %d as the one of number %d", page, n)
		}
		var ok bool
		if c, ok = impl.Burn(c, page, recText(n%impl.Sectors, n+1, "x")); !ok {
			t.Fatal("not clear:", page)
		}
	}
	wantNext(t, "full", c, -1)
}

func TestLivesKnown(t *testing.T) {
	want := map[int][]int{1: {6, 7}, 5: {30}, lastBlock: {lastPage}}
	f := busyFtl()
	for b := range impl.Blocks {
		wantList(t, fmt.Sprint("Lives ", b), impl.Lives(f, b), want[b])
	}
	for _, b := range noBlocks {
		wantList(t, fmt.Sprint("Lives ", b), impl.Lives(f, b), nil)
	}
}

// Sectors that have no page make none live: not page -1, nor a block next to it.
func TestLivesWithoutRecords(t *testing.T) {
	for _, c := range []impl.Chip{impl.ChipNew(), fullChip()} {
		for b := -2; b <= impl.Blocks+1; b++ {
			wantList(t, fmt.Sprint("Lives ", b), impl.Lives(impl.Mount(c), b), nil)
		}
	}
}

// Pages are told ascending, whatever the order of their sectors.
func TestLivesAscending(t *testing.T) {
	for b := range impl.Blocks {
		c := impl.ChipNew()
		var want []int
		for i := range impl.Pages {
			c.Pages[b*impl.Pages+i] = recText(lastSector-3*i, 20-i, "x")
			want = append(want, b*impl.Pages+i)
		}
		for other := range impl.Blocks {
			if other == b {
				wantList(t, fmt.Sprint("Lives ", b), impl.Lives(impl.Mount(c), b), want)
			} else {
				wantList(t, fmt.Sprint("Lives ", other), impl.Lives(impl.Mount(c), other), nil)
			}
		}
	}
}

// Each page that a sector has lives in its block, and no other one does.
func TestLivesOfMixedChips(t *testing.T) {
	for seed := range 1000 {
		f := impl.Mount(mixedChip(seed))
		var lives []int
		for b := range impl.Blocks {
			for _, page := range impl.Lives(f, b) {
				if page/impl.Pages != b {
					t.Errorf("chip %d: page %d in block %d", seed, page, b)
				}
				lives = append(lives, page)
			}
		}
		want := slices.DeleteFunc(slices.Clone(f.Map), func(page int) bool { return page < 0 })
		slices.Sort(want)
		wantList(t, fmt.Sprint("chip ", seed), lives, want)
	}
}

// roomyFtl is f with marked spare room behind its lists.
func roomyFtl(f impl.Ftl) impl.Ftl {
	pages := append(slices.Clone(f.Map), 77, 77, 77)
	return impl.Ftl{Chip: roomyChip(f.Chip), Map: pages[:len(f.Map)], Seq: f.Seq}
}

// wholeFtl is f with its spare room.
func wholeFtl(f impl.Ftl) impl.Ftl {
	return impl.Ftl{Chip: wholeChip(f.Chip), Map: f.Map[:cap(f.Map)], Seq: f.Seq}
}

func cloneFtl(f impl.Ftl) impl.Ftl {
	return impl.Ftl{Chip: cloneChip(f.Chip), Map: slices.Clone(f.Map), Seq: f.Seq}
}

// scribbleNumbers writes over all of list and over its spare room.
func scribbleNumbers(list []int) {
	list = list[:cap(list)]
	for i := range list {
		list[i] = -99
	}
}

func scribbleFtl(f impl.Ftl) {
	scribbleChip(f.Chip)
	scribbleNumbers(f.Map)
}

// ftlAnswers asks all functions of the layer; the lists are those of FreeBlocks and Lives.
func ftlAnswers(f impl.Ftl) (impl.Ftl, [][]int) {
	lists := [][]int{impl.FreeBlocks(f.Chip)}
	for b := -1; b <= impl.Blocks; b++ {
		lists = append(lists, impl.Lives(f, b))
	}
	for s := -1; s <= impl.Sectors; s++ {
		impl.Sector(f, s)
	}
	impl.FtlOk(f)
	impl.NextPage(f.Chip)
	return impl.Mount(f.Chip), lists
}

// Nothing is written into an argument, nor into the spare room behind it, and every answer is new memory.
func TestFtlArgumentsStayAndAnswersAreNew(t *testing.T) {
	list := []impl.Ftl{busyFtl(), impl.Mount(impl.ChipNew()), impl.Mount(usedChip()), impl.Mount(mixedChip(5))}
	for _, f := range wrongFtls() {
		list = append(list, f)
	}
	for _, plain := range list {
		f := roomyFtl(plain)
		before := cloneFtl(wholeFtl(f))
		stays := func(what string) {
			t.Helper()
			wantFtl(t, what, wholeFtl(f), before.Chip, before.Map, before.Seq)
		}
		first, lists := ftlAnswers(f)
		second, more := ftlAnswers(f)
		stays("argument")
		want := cloneFtl(second)
		var wants [][]int
		for _, l := range more {
			wants = append(wants, slices.Clone(l))
		}
		scribbleFtl(first)
		for _, l := range lists {
			scribbleNumbers(l)
		}
		stays("argument behind a scribble")
		scribbleFtl(f)
		wantFtl(t, "second answer", second, want.Chip, want.Map, want.Seq)
		for i, l := range more {
			wantList(t, "second list", l, wants[i])
		}
	}
}

// The lists of one answer share nothing: writing over one leaves the others.
func TestMountListsAreApart(t *testing.T) {
	f, right := impl.Mount(busyChip()), busyFtl()
	scribbleNumbers(f.Map)
	wantChip(t, "chip", f.Chip, right.Chip)
	f = impl.Mount(busyChip())
	scribbleChip(f.Chip)
	wantList(t, "map", f.Map, right.Map)
	f = impl.Mount(busyChip())
	scribbleNumbers(f.Chip.Wear)
	wantFtl(t, "wear", f, impl.Chip{Pages: right.Chip.Pages, Wear: f.Chip.Wear}, right.Map, right.Seq)
}
