package tests

import (
	"fmt"
	"math"
	"slices"
	"strings"
	"testing"

	"loop.example/g00246/impl"
)

// Volumes that there are not, and such as come round to one that there is where they are multiplied.
var noVolumes = []int{-1, -2, 2, 3, impl.Nodes, impl.Sectors, 1 << 32, 1 << 61, 1 << 62, -1 << 62, math.MinInt, math.MinInt + 1, math.MaxInt}

// Texts that Log may have, and that are no LogText.
func noLogs() []string {
	right := impl.LogText([]impl.Put{{Sector: 3, Data: "hi"}})
	return []string{
		"x", "\x00", "\xff", right[:len(right)-1], right + "\x00", right + right, right[1:], summed(""), summed("\x00"),
		batchText(impl.Put{Sector: impl.Log, Data: "hi"}), batchText(impl.Put{Sector: 3}, impl.Put{Sector: 3}),
		batchText(impl.Put{Sector: 0}, impl.Put{Sector: 1}, impl.Put{Sector: 2}, impl.Put{Sector: 3}),
		recText(3, 9, "hi"), someText(impl.MaxText),
	}
}

// batchText is what LogText would tell of the puts if it had no limits.
func batchText(list ...impl.Put) string {
	body := string(impl.PutNum(len(list)))
	for _, p := range list {
		body += string(impl.PutNum(p.Sector)) + string(impl.PutNum(len(p.Data))) + p.Data
	}
	return summed(body)
}

// plainLogText is LogText by the document's words.
func plainLogText(list []impl.Put) string {
	if len(list) < 1 || len(list) > 3 {
		return ""
	}
	for i, p := range list {
		if p.Sector < 0 || p.Sector > 23 || slices.ContainsFunc(list[i+1:], func(q impl.Put) bool { return q.Sector == p.Sector }) {
			return ""
		}
	}
	if s := batchText(list...); len(s) <= 400 {
		return s
	}
	return ""
}

// plainLogRead is LogRead by the document's words, for what has so few puts as a batch has.
func plainLogRead(s string) ([]impl.Put, bool) {
	b := []byte(s)
	_, at, ok := impl.GetNum(b, 0)
	many, at, counted := impl.GetNum(b, at)
	if !ok || !counted || many > 3 {
		return nil, false
	}
	var list []impl.Put
	for range many {
		var p impl.Put
		if p.Sector, at, ok = impl.GetNum(b, at); !ok {
			return nil, false
		}
		if p.Data, at, ok = impl.GetText(b, at); !ok {
			return nil, false
		}
		list = append(list, p)
	}
	if s == "" || plainLogText(list) != s {
		return nil, false
	}
	return list, true
}

// plainCommit is Commit by the document's words, of what is FtlOk.
func plainCommit(f impl.Ftl, list []impl.Put) ([]impl.Act, impl.Ftl, bool) {
	text := plainLogText(list)
	if text == "" || views(f)[24] != "" {
		return nil, f, false
	}
	puts := append([]impl.Put{{Sector: 24, Data: text}}, list...)
	return plainWrites(f, append(puts, impl.Put{Sector: 24}))
}

// plainRecover is Recover by the document's words, of what is FtlOk.
func plainRecover(f impl.Ftl) ([]impl.Act, impl.Ftl, bool) {
	text := views(f)[24]
	if text == "" {
		return nil, f, true
	}
	batch, _ := plainLogRead(text)
	return plainWrites(f, append(batch, impl.Put{Sector: 24}))
}

// someBatch is right, told apart by the seed alone.
func someBatch(seed int) []impl.Put {
	first := seed * 7 % impl.Log
	list := []impl.Put{
		{Sector: first, Data: fmt.Sprint("first of ", seed)},
		{Sector: (first + 1 + seed%5) % impl.Log, Data: ""},
		{Sector: (first + 11) % impl.Log, Data: someText(seed % 300)},
	}
	return list[:1+seed%impl.MaxTxn]
}

// rightBatches have a LogText, those at the limits among them.
func rightBatches() [][]impl.Put {
	var all [][]impl.Put
	for s := range impl.Log {
		for _, size := range []int{0, 1, 2, 127, 128, 393} {
			all = append(all, []impl.Put{{Sector: s, Data: someText(size)}})
		}
	}
	for seed := range 60 {
		all = append(all, someBatch(seed))
	}
	inner := impl.LogText(someBatch(2))
	return append(all,
		[]impl.Put{{Sector: 0}, {Sector: impl.Log - 1}},
		[]impl.Put{{Sector: impl.Log - 1}, {Sector: 0}, {Sector: 12}},
		[]impl.Put{{Sector: 2, Data: "same"}, {Sector: 1, Data: "same"}, {Sector: 0, Data: "same"}},
		[]impl.Put{{Sector: 4, Data: inner}, {Sector: 5, Data: "\x00"}, {Sector: 6, Data: "\x80"}},
		[]impl.Put{{Sector: 0, Data: someText(130)}, {Sector: 1, Data: someText(128)}, {Sector: 2, Data: someText(100)}},
	)
}

// wrongBatches have no LogText, most of them for one reason alone.
func wrongBatches() [][]impl.Put {
	all := [][]impl.Put{
		nil, {},
		{{Sector: 0}, {Sector: 1}, {Sector: 2}, {Sector: 3}},
		{{Sector: 0}, {Sector: 1}, {Sector: 2}, {Sector: 2}},
		slices.Repeat([]impl.Put{{Sector: 1}}, impl.MaxTxn+1),
		make([]impl.Put, impl.MaxPuts), make([]impl.Put, 1000),
		{{Sector: 1}, {Sector: 1}},
		{{Sector: 0, Data: "a"}, {Sector: 0, Data: "b"}},
		{{Sector: 1}, {Sector: 2}, {Sector: 1}},
		{{Sector: 1}, {Sector: 2}, {Sector: 2}},
		{{Sector: 1}, {Sector: 1}, {Sector: 2}},
		{{Sector: impl.Log - 1}, {Sector: 2}, {Sector: impl.Log - 1}},
		{{Sector: 0, Data: someText(200)}, {Sector: 1, Data: someText(200)}},
		{{Sector: 0, Data: someText(130)}, {Sector: 1, Data: someText(130)}, {Sector: 2, Data: someText(130)}},
	}
	for _, s := range append([]int{impl.Log, impl.Log + 1, -1}, noSectors...) {
		p := impl.Put{Sector: s, Data: "x"}
		all = append(all, []impl.Put{p}, []impl.Put{p, {Sector: 1}}, []impl.Put{{Sector: 1}, p}, []impl.Put{{Sector: 1}, {Sector: 2}, p})
	}
	for _, size := range []int{394, impl.MaxText - 1, impl.MaxText, impl.MaxText + 1, impl.MaxText + 2, 16384, 100000} {
		p := impl.Put{Sector: 5, Data: strings.Repeat("z", size)}
		all = append(all, []impl.Put{p}, []impl.Put{p, {Sector: 1}}, []impl.Put{{Sector: 1}, {Sector: 2}, p})
	}
	return all
}

func wantLogRead(t *testing.T, s string, want []impl.Put) {
	t.Helper()
	if got, ok := impl.LogRead(s); !ok || !slices.Equal(got, want) {
		t.Errorf("LogRead(%q) = %+v, %v, want %+v, true", s, got, ok, want)
	}
}

func wantNoLog(t *testing.T, s string) {
	t.Helper()
	if got, ok := impl.LogRead(s); ok || len(got) != 0 {
		t.Errorf("LogRead(%q) = %+v, %v, want nothing, false", s, got, ok)
	}
}

func TestLogLimits(t *testing.T) {
	if impl.Log != 24 || impl.MaxTxn != 3 || impl.Nodes != 12 {
		t.Error("limits", impl.Log, impl.MaxTxn, impl.Nodes)
	}
}

// The bytes of these were worked out apart from the program, from the document's words.
func TestLogTextKnown(t *testing.T) {
	for _, c := range []struct {
		list []impl.Put
		want string
	}{
		{[]impl.Put{{Sector: 0}}, "\xda\xe4\x0c\x01\x00\x00"},
		{[]impl.Put{{Sector: 23, Data: "\x00\xff"}}, "\x86\x70\x01\x17\x02\x00\xff"},
		{[]impl.Put{{Sector: 3, Data: "hi"}, {Sector: 14}}, "\xee\x8b\x28\x02\x03\x02hi\x0e\x00"},
		{[]impl.Put{{Sector: 1, Data: "a"}, {Sector: 0, Data: "bc"}, {Sector: 23, Data: "\x02"}}, "\xc8\x9a\x15\x03\x01\x01a\x00\x02bc\x17\x01\x02"},
	} {
		if got := impl.LogText(c.list); got != c.want {
			t.Errorf("LogText(%+v) = %q, want %q", c.list, got, c.want)
		}
		wantLogRead(t, c.want, c.list)
	}
}

// A batch is read as it was, its puts in their order.
func TestLogReadOfLogText(t *testing.T) {
	for _, list := range rightBatches() {
		s := impl.LogText(list)
		if s != batchText(list...) {
			t.Errorf("LogText(%+v) = %q, want %q", list, s, batchText(list...))
		}
		wantLogRead(t, s, list)
	}
}

func TestLogTextOfNoBatchIsEmpty(t *testing.T) {
	for _, list := range wrongBatches() {
		if got := impl.LogText(list); got != "" {
			t.Errorf("LogText of %d puts, the first of sector %d = %q, want nothing", len(list), append(list, impl.Put{})[0].Sector, got)
		}
	}
}

// sizedBatch has so many puts, and a text of so many bytes, of which the sum takes so many.
func sizedBatch(t *testing.T, many, size, sum int) []impl.Put {
	t.Helper()
	list := []impl.Put{{Sector: 7}, {Sector: 23, Data: "z"}, {Sector: 0}}[:many]
	// The number of puts, and of the first one its sector and its size, which takes two bytes, are 4 bytes; the others have 3 and 2.
	data := size - sum - []int{4, 7, 9}[many-1]
	for x := range 1000000 {
		list[0].Data = fmt.Sprintf("%0*d", data, x)
		// A text of that size has a sum of so many bytes.
		if len(batchText(list...)) == size {
			return list
		}
	}
	t.Fatal("not found:", many, size, sum)
	return nil
}

// Just MaxText bytes are told, one more are not, whatever the sum and how many the puts are.
func TestLogTextOfMaxText(t *testing.T) {
	for many := 1; many <= impl.MaxTxn; many++ {
		for sum := 1; sum <= 3; sum++ {
			list := sizedBatch(t, many, impl.MaxText, sum)
			if got := impl.LogText(list); got != batchText(list...) || len(got) != impl.MaxText {
				t.Errorf("%d puts, MaxText bytes: LogText has %d", many, len(got))
			}
			wantLogRead(t, batchText(list...), list)
			list = sizedBatch(t, many, impl.MaxText+1, sum)
			if got := impl.LogText(list); got != "" {
				t.Errorf("%d puts, a byte more: LogText has %d, want none", many, len(got))
			}
			wantNoLog(t, batchText(list...))
		}
	}
}

// Cut short at any place, ahead or behind, a batch is none, even where the sum is that of what is left.
func TestLogReadCutShort(t *testing.T) {
	for _, list := range rightBatches() {
		s := impl.LogText(list)
		_, behind, _ := impl.GetNum([]byte(s), 0)
		for at := range len(s) {
			wantNoLog(t, s[:at])
		}
		for at := 1; at <= len(s); at++ {
			wantNoLog(t, s[at:])
		}
		for at := behind; at < len(s); at++ {
			wantNoLog(t, summed(s[behind:at]))
		}
	}
}

// Something behind a batch makes it none, whether the sum is of all or of the batch alone.
func TestLogReadSomethingBehind(t *testing.T) {
	for _, list := range rightBatches() {
		s := impl.LogText(list)
		_, behind, _ := impl.GetNum([]byte(s), 0)
		for _, more := range []string{"\x00", "x", "\x80", "\xff", "\x00\x00", "\x05\x00", s, strings.Repeat("z", 1000)} {
			wantNoLog(t, s+more)
			wantNoLog(t, summed(s[behind:]+more))
			wantNoLog(t, more+s)
		}
	}
}

// Each byte in turn is another one: the sum, or what it is of, is not right any more.
func TestLogReadAnotherByte(t *testing.T) {
	for _, list := range rightBatches() {
		s := impl.LogText(list)
		for at := range len(s) {
			for _, by := range []byte{1, 128, 255} {
				b := []byte(s)
				b[at] += by
				wantNoLog(t, string(b))
			}
		}
	}
}

// A sum that is another one makes it none, also one that leaves the same by Sum's divisor.
func TestLogReadAnotherSum(t *testing.T) {
	for _, list := range rightBatches() {
		s := impl.LogText(list)
		sum, behind, _ := impl.GetNum([]byte(s), 0)
		for _, n := range []int{0, 7, sum - 1, sum + 1, sum + 1000003, sum + 2*1000003, impl.MaxNum} {
			if n != sum {
				wantNoLog(t, string(impl.PutNum(n))+s[behind:])
			}
		}
		wantNoLog(t, s[behind:])
	}
}

// longNum is n with a byte more than its shortest form has.
func longNum(n int) string {
	b := impl.PutNum(n)
	b[len(b)-1] += 128
	return string(b) + "\x00"
}

// Each number in turn is not the shortest, the sum being right.
func TestLogReadOfLongNumbers(t *testing.T) {
	short := func(n int) string { return string(impl.PutNum(n)) }
	for _, p := range []impl.Put{{Sector: 0}, {Sector: 3, Data: "hi"}, {Sector: 23, Data: someText(128)}} {
		body := batchText(p)
		sum, at, _ := impl.GetNum([]byte(body), 0)
		wantLogRead(t, short(sum)+body[at:], []impl.Put{p})
		wantNoLog(t, longNum(sum)+body[at:])
		for place := range 3 {
			num := []func(int) string{short, short, short}
			num[place] = longNum
			wantNoLog(t, summed(num[0](1)+num[1](p.Sector)+num[2](len(p.Data))+p.Data))
		}
		// Nor is one too great to be a number.
		wantNoLog(t, summed("\x01\xff\xff\xff\xff\xff\xff\xff\xff\xff\x00\x00"))
		wantNoLog(t, "\xff\xff\xff\xff\xff\xff\xff\xff\xff\x01"+body[at:])
	}
}

// The number of puts is 0, or more than there are, or fewer, or more than MaxTxn, the sum being right.
func TestLogReadOfAnotherCount(t *testing.T) {
	wantNoLog(t, "")
	wantNoLog(t, summed(""))
	wantNoLog(t, summed("\x00"))
	for many := 0; many <= 6; many++ {
		var puts string
		var list []impl.Put
		for s := range many {
			list = append(list, impl.Put{Sector: s, Data: "x"})
			puts += string(impl.PutNum(s)) + "\x01x"
		}
		for count := range 300 {
			s := summed(string(impl.PutNum(count)) + puts)
			if count == many && many >= 1 && many <= impl.MaxTxn {
				wantLogRead(t, s, list)
			} else {
				wantNoLog(t, s)
			}
		}
		wantNoLog(t, summed(string(impl.PutNum(impl.MaxNum))+puts))
	}
}

// What is told of no batch is none, though its sum and its numbers are right.
func TestLogReadOfNoBatch(t *testing.T) {
	for _, s := range noLogs() {
		wantNoLog(t, s)
	}
	for _, list := range wrongBatches() {
		wantNoLog(t, batchText(list...))
	}
	for _, n := range farNumbers {
		wantNoLog(t, summed("\x01"+string(impl.PutNum(n))+"\x00"))
	}
}

// As the document's words have it, for texts that are nearly right.
func TestLogReadOfMixedTexts(t *testing.T) {
	right := 0
	for seed := range 100000 {
		state := uint64(seed)*2654435761 + 31
		draw := func(n int) int {
			state = state*6364136223846793005 + 1442695040888963407
			return int(state>>33) % n
		}
		body := []byte{byte(draw(5))}
		for range draw(5) {
			size := draw(3)
			body = append(body, byte([]int{draw(26), draw(4)}[draw(2)]), byte(size))
			body = append(body, someText(size)...)
		}
		s := summed(string(body))
		want, fine := plainLogRead(s)
		got, ok := impl.LogRead(s)
		if ok != fine || !slices.Equal(got, want) {
			t.Fatalf("LogRead(%q) = %+v, %v, want %+v, %v", s, got, ok, want, fine)
		}
		if ok {
			right++
		}
	}
	if right < 1000 {
		t.Error("too few are right:", right)
	}
}

// logged is c with one more record of Log, in the next page.
func logged(c impl.Chip, text string) impl.Ftl {
	return impl.Mount(withPage(c, impl.NextPage(c), recText(impl.Log, impl.Mount(c).Seq, text)))
}

func TestCommitKnown(t *testing.T) {
	f := laidFtl()
	list := []impl.Put{{Sector: 23, Data: "hi"}, {Sector: 0}, {Sector: 14, Data: "you"}}
	text := impl.LogText(list)
	acts, g, ok := impl.Commit(f, list)
	wantPlanned(t, "three", f, acts, g, ok, []impl.Act{
		burnAt(0, recText(24, 1, text)), burnAt(1, recText(23, 2, "hi")), burnAt(2, recText(0, 3, "")),
		burnAt(3, recText(14, 4, "you")), burnAt(4, recText(24, 5, "")),
	})
	// Log has had a batch, and has none any more.
	acts, h, ok := impl.Commit(g, list[:1])
	wantPlanned(t, "one more", g, acts, h, ok, []impl.Act{
		burnAt(5, recText(24, 6, impl.LogText(list[:1]))), burnAt(6, recText(23, 7, "hi")), burnAt(7, recText(24, 8, "")),
	})
	// Cleans stand where a write needs them.
	f = laidFtl(append(times(7, "xxxxxx"), "xxxx..")...)
	acts, g, ok = impl.Commit(f, list[:1])
	wantPlanned(t, "a clean between", f, acts, g, ok, []impl.Act{
		burnAt(46, recText(24, 1, impl.LogText(list[:1]))), burnAt(47, recText(23, 2, "hi")), clearOf(0), burnAt(48, recText(24, 3, "")),
	})
}

func TestCommitOfRightBatches(t *testing.T) {
	for _, f := range []impl.Ftl{laidFtl(), busyFtl(), laidFtl(times(8, "oooxxx")...)} {
		for _, list := range rightBatches() {
			want, _, fine := plainCommit(f, list)
			acts, g, ok := impl.Commit(f, list)
			what := fmt.Sprintf("%+v", list)
			wantPlanned(t, what, f, acts, g, ok, want)
			gets := views(f)
			for _, p := range list {
				gets[p.Sector] = p.Data
			}
			if !fine || !slices.Equal(views(g), gets) {
				t.Errorf("%s: %q, want %q", what, views(g), gets)
			}
		}
	}
}

func TestCommitOfNoLogText(t *testing.T) {
	for _, f := range []impl.Ftl{laidFtl(), busyFtl(), laidFtl(times(8, "oooxxx")...)} {
		for _, list := range wrongBatches() {
			acts, g, ok := impl.Commit(f, list)
			wantRefused(t, fmt.Sprint("puts: ", len(list)), acts, g, ok, f)
		}
	}
}

// What is in Log already stays there, whatever it is; an empty text is none.
func TestCommitWhereLogIsNotEmpty(t *testing.T) {
	list := someBatch(2)
	for _, c := range []impl.Chip{impl.ChipNew(), busyChip(), laid(1, times(8, "oooxxx")...)} {
		for _, text := range append(noLogs(), impl.LogText(list), impl.LogText(someBatch(1))) {
			f := logged(c, text)
			acts, g, ok := impl.Commit(f, list)
			wantRefused(t, fmt.Sprintf("log: %q", text), acts, g, ok, f)
		}
		f := logged(logged(logged(c, impl.LogText(list)).Chip, "x").Chip, "")
		want, _, _ := plainCommit(f, list)
		acts, g, ok := impl.Commit(f, list)
		wantPlanned(t, "emptied", f, acts, g, ok, want)
	}
}

func TestRecoverKnown(t *testing.T) {
	list := []impl.Put{{Sector: 23, Data: "hi"}, {Sector: 0}}
	f := logged(laid(1, "oxx..."), impl.LogText(list))
	acts, g, ok := impl.Recover(f)
	wantPlanned(t, "a batch", f, acts, g, ok, []impl.Act{
		burnAt(4, recText(23, 3, "hi")), burnAt(5, recText(0, 4, "")), burnAt(6, recText(24, 5, "")),
	})
	f = logged(laid(1, "oxx..."), "x")
	acts, g, ok = impl.Recover(f)
	wantPlanned(t, "no LogText", f, acts, g, ok, []impl.Act{burnAt(4, recText(24, 3, ""))})
	f = logged(laid(1, "oxx..."), "")
	acts, g, ok = impl.Recover(f)
	wantPlanned(t, "emptied", f, acts, g, ok, nil)
	f = laidFtl("oxx...")
	acts, g, ok = impl.Recover(f)
	wantPlanned(t, "never written", f, acts, g, ok, nil)
	// Only what Log has counts, not what it had, nor what another sector has.
	f = logged(logged(laid(1, "oxx..."), impl.LogText(list)).Chip, "")
	f = impl.Mount(withPage(withPage(f.Chip, lastPage-1, recText(25, 9, impl.LogText(list))), lastPage, recText(23, 10, impl.LogText(list))))
	acts, g, ok = impl.Recover(f)
	wantPlanned(t, "had a batch", f, acts, g, ok, nil)
}

// Of each text that Log may have: a batch is written, all else is not, and Log is empty then. Behind a Recover there is nothing to recover.
func TestRecoverOfEach(t *testing.T) {
	texts := noLogs()
	for _, list := range rightBatches() {
		texts = append(texts, impl.LogText(list))
	}
	for _, c := range []impl.Chip{impl.ChipNew(), busyChip(), laid(1, times(8, "oooxxx")...)} {
		for _, text := range texts {
			f := logged(c, text)
			what := fmt.Sprintf("log: %q", text)
			want, _, fine := plainRecover(f)
			acts, g, ok := impl.Recover(f)
			wantPlanned(t, what, f, acts, g, ok, want)
			gets := views(f)
			batch, _ := plainLogRead(text)
			for _, p := range append(batch, impl.Put{Sector: impl.Log}) {
				gets[p.Sector] = p.Data
			}
			if !fine || !slices.Equal(views(g), gets) {
				t.Errorf("%s: %q, want %q", what, views(g), gets)
			}
			wantNothingToRecover(t, what, g)
		}
	}
}

func wantNothingToRecover(t *testing.T, what string, f impl.Ftl) {
	t.Helper()
	acts, g, ok := impl.Recover(f)
	if !ok || len(acts) != 0 || !sameFtl(g, f) {
		t.Errorf("%s: Recover = %+v, %v, want nothing, true, and the same Ftl", what, acts, ok)
	}
}

func TestLogOfWrongFtls(t *testing.T) {
	wrong := wrongFtls()
	for name, text := range map[string]string{"a batch": impl.LogText(someBatch(2)), "no LogText": "x", "empty": ""} {
		f := logged(busyChip(), text)
		f.Seq++
		wrong[name+", another number"] = f
		f = logged(busyChip(), text)
		f.Map[3] = -1
		wrong[name+", another map"] = f
	}
	for name, f := range wrong {
		for _, list := range [][]impl.Put{nil, someBatch(0), someBatch(2), {{Sector: -1}}} {
			acts, g, ok := impl.Commit(f, list)
			wantRefused(t, name, acts, g, ok, impl.Ftl{})
		}
		acts, g, ok := impl.Recover(f)
		wantRefused(t, name, acts, g, ok, impl.Ftl{})
		for _, v := range append([]int{0, 1}, noVolumes...) {
			if got := impl.Volume(f, v); len(got) != 0 {
				t.Errorf("%s: Volume(%d) = %q, want nothing", name, v, got)
			}
		}
	}
}

// Where the numbers end within a Commit or a Recover, all of it is refused; with one number more all is done.
func TestLogToTheLastNumber(t *testing.T) {
	for left := range 7 {
		f := impl.Mount(laid(impl.MaxNum-1-left, "o....."))
		for many := 1; many <= impl.MaxTxn; many++ {
			list := someBatch(many - 1)
			what := fmt.Sprint(many, " puts, numbers: ", left)
			want, _, fine := plainCommit(f, list)
			acts, g, ok := impl.Commit(f, list)
			if fine != (left >= many+2) {
				t.Fatal("not meant so", what)
			}
			if fine {
				wantPlanned(t, what, f, acts, g, ok, want)
			} else {
				wantRefused(t, what, acts, g, ok, f)
			}
			wantRecoverToTheLastNumber(t, what, left, many+1, impl.LogText(list))
		}
		wantRecoverToTheLastNumber(t, fmt.Sprint("no LogText, numbers: ", left), left, 1, "x")
		wantRecoverToTheLastNumber(t, fmt.Sprint("empty, numbers: ", left), left, 0, "")
	}
}

// wantRecoverToTheLastNumber: so many numbers are left, so many are needed.
func wantRecoverToTheLastNumber(t *testing.T, what string, left, needed int, text string) {
	t.Helper()
	f := logged(laid(impl.MaxNum-2-left, "o....."), text)
	if f.Seq != impl.MaxNum-left {
		t.Fatal("not meant so", f.Seq)
	}
	want, _, fine := plainRecover(f)
	acts, g, ok := impl.Recover(f)
	if fine != (left >= needed) {
		t.Fatal("not meant so", what)
	}
	if fine {
		wantPlanned(t, what, f, acts, g, ok, want)
	} else {
		wantRefused(t, what, acts, g, ok, f)
	}
}

// MaxNum itself may have been given: then there is no Commit, and only what is empty is recovered.
func TestLogBehindTheLastNumber(t *testing.T) {
	for _, text := range []string{"", "x", impl.LogText(someBatch(0))} {
		f := impl.Mount(withPage(laid(1, "o....."), 1, recText(impl.Log, impl.MaxNum, text)))
		acts, g, ok := impl.Commit(f, someBatch(0))
		wantRefused(t, "Commit", acts, g, ok, f)
		acts, g, ok = impl.Recover(f)
		if text == "" {
			wantPlanned(t, "empty", f, acts, g, ok, nil)
		} else {
			wantRefused(t, "Recover", acts, g, ok, f)
		}
	}
}

// Where there is no room for the last write, nothing is planned, though there is room for the first ones.
func TestLogWithoutRoom(t *testing.T) {
	full := laidFtl(times(10, "oxxxxx")...)
	acts, g, ok := impl.Commit(full, someBatch(0))
	wantRefused(t, "full", acts, g, ok, full)
	wantNothingToRecover(t, "full", full)
	list := []impl.Put{{Sector: 9, Data: "hi"}}
	for clear := 1; clear <= 3; clear++ {
		last := "xxxxxx"[clear:] + "..."[:clear]
		worn := wornOut(laidFtl(append([]string{"xxxxxx"}, append(times(6, "oxxxxx"), last)...)...), 0, impl.MaxNum)
		acts, g, ok := impl.Commit(worn, list)
		if clear < 3 {
			wantRefused(t, fmt.Sprint("clear pages: ", clear), acts, g, ok, worn)
			continue
		}
		want, _, _ := plainCommit(worn, list)
		wantPlanned(t, "clear pages: 3", worn, acts, g, ok, want)
	}
	for _, text := range []string{"x", impl.LogText(someBatch(0)), impl.LogText(someBatch(2))} {
		f := impl.Mount(withPage(full.Chip, lastPage, recText(impl.Log, full.Seq, text)))
		acts, g, ok := impl.Recover(f)
		wantRefused(t, "Recover of a full one", acts, g, ok, f)
	}
}

func TestLogOfMixedChips(t *testing.T) {
	done, refused, recovered, left := 0, 0, 0, 0
	for seed := range 500 {
		for _, c := range []impl.Chip{mixedChip(seed), crampedChip(seed)} {
			f := impl.Mount(c)
			list := someBatch(seed)
			if next := impl.NextPage(c); next >= 0 && f.Seq < impl.MaxNum && seed%3 > 0 {
				text := []string{"", "junk", impl.LogText(list)}[seed/3%3]
				f = impl.Mount(withPage(c, next, recText(impl.Log, f.Seq, text)))
			}
			want, then, fine := plainCommit(f, list)
			acts, g, ok := impl.Commit(f, list)
			if ok != fine || !slices.Equal(acts, want) || !sameFtl(g, then) {
				t.Fatalf("chip %d: Commit: %+v, %v, want %+v, %v", seed, acts, ok, want, fine)
			}
			done, refused = count(ok, done, refused)
			want, then, fine = plainRecover(f)
			acts, g, ok = impl.Recover(f)
			if ok != fine || !slices.Equal(acts, want) || !sameFtl(g, then) {
				t.Fatalf("chip %d: Recover: %+v, %v, want %+v, %v", seed, acts, ok, want, fine)
			}
			recovered, left = count(ok && len(acts) > 0, recovered, left)
		}
	}
	if min(done, refused, recovered, left) < 100 {
		t.Error("too few of one kind:", done, refused, recovered, left)
	}
}

// count counts one more, of this kind or of the other.
func count(ok bool, done, not int) (int, int) {
	if ok {
		return done + 1, not
	}
	return done, not + 1
}

func TestVolumeKnown(t *testing.T) {
	f := laidFtl("oooooo", "oooooo", "oooooo", "oooooo", "oo....")
	var want []string
	for s := range 2 * impl.Nodes {
		want = append(want, fmt.Sprint("data ", s))
	}
	wantVolume(t, f, 0, want[:12])
	wantVolume(t, f, 1, want[12:])
	wantVolume(t, laidFtl(), 0, make([]string, 12))
	wantVolume(t, laidFtl(), 1, make([]string, 12))
	for _, v := range noVolumes {
		wantVolume(t, f, v, nil)
		wantVolume(t, laidFtl(), v, nil)
	}
}

func wantVolume(t *testing.T, f impl.Ftl, v int, want []string) {
	t.Helper()
	if got := impl.Volume(f, v); !slices.Equal(got, want) {
		t.Errorf("Volume(%d) = %q, want %q", v, got, want)
	}
}

func TestVolumeIsSectorOfEach(t *testing.T) {
	for seed := range 200 {
		for _, c := range []impl.Chip{mixedChip(seed), crampedChip(seed)} {
			f := impl.Mount(c)
			has := views(f)
			wantVolume(t, f, 0, has[:12])
			wantVolume(t, f, 1, has[12:24])
			wantVolume(t, f, 2, nil)
			wantVolume(t, f, -1, nil)
		}
	}
}

// wantRecovered: m, recovered, has that, and so it has where the power fails within the Recover, too, and what is left is recovered.
func wantRecovered(t *testing.T, what string, m impl.Ftl, want []string) {
	t.Helper()
	acts, r, ok := impl.Recover(m)
	c, done := impl.ApplyAll(m.Chip, acts)
	if !ok || !done || !sameFtl(impl.Mount(c), r) || !slices.Equal(views(r), want) {
		t.Fatalf("%s: recovered: %q, %v, want %q", what, views(r), ok, want)
	}
	wantNothingToRecover(t, what, r)
	for k, a := range acts {
		// None, or a part, or all of it: more parts are cut where Writes is told.
		for _, n := range []int{0, 1 + len(a.Text)/2, len(a.Text) + impl.Pages} {
			_, again, ok := impl.Recover(impl.Mount(impl.Cut(m.Chip, acts, k, n)))
			if !ok || !slices.Equal(views(again), want) {
				t.Fatalf("%s: the Recover cut at %d, %d and recovered: %q, %v, want %q", what, k, n, views(again), ok, want)
			}
		}
	}
}

// wantWholeOrNotAtAll: cut anywhere, mounted and recovered, the batch is not there until all bytes of its LogText are, and whole from then on;
// no other sector turns. It tells how many clears were cut.
func wantWholeOrNotAtAll(t *testing.T, what string, f impl.Ftl, list []impl.Put) int {
	t.Helper()
	acts, _, ok := impl.Commit(f, list)
	first, _, _ := impl.Writes(f, []impl.Put{{Sector: impl.Log, Data: impl.LogText(list)}})
	if !ok || len(first) == 0 {
		t.Fatalf("%s: refused", what)
	}
	has := views(f)
	gets := slices.Clone(has)
	for _, p := range list {
		gets[p.Sector] = p.Data
	}
	clears := 0
	for k := range len(acts) + 1 {
		parts := []int{0}
		if k < len(acts) {
			parts = partsOf(acts[k])
		}
		for _, n := range parts {
			want := has
			if k >= len(first) || k == len(first)-1 && n >= len(acts[k].Text) {
				want = gets
			}
			wantRecovered(t, fmt.Sprintf("%s: cut at %d, %d", what, k, n), impl.Mount(impl.Cut(f.Chip, acts, k, n)), want)
		}
		if k < len(acts) && acts[k].Kind == impl.ActClear {
			clears++
		}
	}
	return clears
}

func TestCutAnywhereAndRecovered(t *testing.T) {
	clears := 0
	for name, f := range map[string]impl.Ftl{
		"new":                laidFtl(),
		"busy":               busyFtl(),
		"a clean with Lives": laidFtl(times(8, "oooxxx")...),
		"none is free":       laidFtl(append(times(9, "oxxxxx"), "xxxxx.")...),
		"three cleans":       laidFtl(append(times(9, "xxxxxx"), "xxxxx.")...),
		"a clear cut short":  laidFtl(append(times(8, "oxxxxx"), "..xxxx")...),
		"the last numbers":   impl.Mount(laid(impl.MaxNum-80, times(8, "oooxxx")...)),
	} {
		for many := 1; many <= impl.MaxTxn; many++ {
			clears += wantWholeOrNotAtAll(t, fmt.Sprint(name, ", puts: ", many), f, someBatch(many+2))
		}
		clears += wantWholeOrNotAtAll(t, name+", sectors at the edges", f, []impl.Put{{Sector: impl.Log - 1, Data: "last"}, {Sector: 0, Data: "first"}})
		clears += wantWholeOrNotAtAll(t, name+", a long one", f, []impl.Put{{Sector: 2, Data: someText(393)}})
	}
	if clears < 20 {
		t.Error("too few clears:", clears)
	}
}

func TestCutAnywhereAndRecoveredOnMixedChips(t *testing.T) {
	commits, clears := 0, 0
	for seed := range 200 {
		for _, c := range []impl.Chip{mixedChip(seed), crampedChip(seed)} {
			f := impl.Mount(c)
			// Close to the limits a Recover may be refused that is needed behind the cut.
			if f.Seq > impl.MaxNum-40 || slices.Max(c.Wear) > impl.MaxNum-20 {
				continue
			}
			list := someBatch(seed)
			if _, _, ok := impl.Commit(f, list); !ok {
				continue
			}
			commits++
			clears += wantWholeOrNotAtAll(t, fmt.Sprint("chip ", seed), f, list)
		}
	}
	if commits < 50 || clears < 20 {
		t.Error("too few:", commits, clears)
	}
}

// What was told as done is there behind any failure, however many there were: Commits are cut on and on, and Recovers as well.
func TestCommitsCutOnAndOn(t *testing.T) {
	for seed := range 6 {
		f := laidFtl()
		has := views(f)
		state := uint64(seed) + 1
		draw := func(n int) int {
			state = state*6364136223846793005 + 1442695040888963407
			return int(state>>33) % n
		}
		whole, none := 0, 0
		for round := range 150 {
			list := someBatch(round*6 + seed)
			acts, _, ok := impl.Commit(f, list)
			if !ok {
				t.Fatalf("seed %d, round %d: Commit refused", seed, round)
			}
			gets := slices.Clone(has)
			for _, p := range list {
				gets[p.Sector] = p.Data
			}
			// Half of them are cut early, where the batch is not in Log yet.
			f = impl.Mount(impl.Cut(f.Chip, acts, draw(1+draw(2)*len(acts)), draw(40)))
			for range draw(4) {
				acts, _, _ := impl.Recover(f)
				f = impl.Mount(impl.Cut(f.Chip, acts, draw(len(acts)+1), draw(40)))
			}
			if _, f, ok = impl.Recover(f); !ok {
				t.Fatalf("seed %d, round %d: Recover refused", seed, round)
			}
			got := impl.View(f)
			if !slices.Equal(got, gets) && !slices.Equal(got, has) {
				t.Fatalf("seed %d, round %d: %q, want %q or %q", seed, round, got, has, gets)
			}
			whole, none = count(slices.Equal(got, gets), whole, none)
			has = got
		}
		if min(whole, none) < 20 {
			t.Error("too few of one kind:", whole, none)
		}
	}
}

// logAnswered is what the functions of the layer answer.
type logAnswered struct {
	written
	puts    [][]impl.Put
	volumes [][]string
}

func logAnswers(f impl.Ftl, puts []impl.Put) logAnswered {
	var l logAnswered
	for many := range len(puts) + 1 {
		acts, g, _ := impl.Commit(f, puts[:many])
		l.acts, l.ftls = append(l.acts, acts), append(l.ftls, g)
		list, _ := impl.LogRead(impl.LogText(puts[:many]))
		l.puts = append(l.puts, list)
	}
	acts, g, _ := impl.Recover(f)
	l.acts, l.ftls = append(l.acts, acts), append(l.ftls, g)
	l.volumes = append(l.volumes, impl.Volume(f, 0), impl.Volume(f, 1), impl.Volume(f, 2))
	return l
}

func (l logAnswered) scribble() {
	l.written.scribble()
	for _, list := range l.puts {
		scribblePuts(list)
	}
	for _, list := range l.volumes {
		scribbleTexts(list)
	}
}

func (l logAnswered) clone() logAnswered {
	out := logAnswered{written: l.written.clone()}
	for _, list := range l.puts {
		out.puts = append(out.puts, slices.Clone(list))
	}
	for _, list := range l.volumes {
		out.volumes = append(out.volumes, slices.Clone(list))
	}
	return out
}

// Nothing is written into an argument, nor into the spare room behind it, and every answer is new memory.
func TestLogArgumentsStayAndAnswersAreNew(t *testing.T) {
	ftls := []impl.Ftl{
		busyFtl(), laidFtl(), laidFtl(times(8, "ooxxxx")...), laidFtl(times(10, "oxxxxx")...),
		logged(busyChip(), impl.LogText(someBatch(2))), logged(busyChip(), "x"), logged(busyChip(), ""),
	}
	for _, f := range wrongFtls() {
		ftls = append(ftls, f)
	}
	for _, plain := range ftls {
		for seed := range impl.MaxTxn {
			f := roomyFtl(plain)
			before := cloneFtl(wholeFtl(f))
			puts := someBatch(seed)
			many := len(puts)
			puts = append(puts, impl.Put{Sector: 77, Data: "mark"}, impl.Put{Sector: 78, Data: "mark"})
			marked := slices.Clone(puts)
			stays := func(what string) {
				t.Helper()
				wantFtl(t, what, wholeFtl(f), before.Chip, before.Map, before.Seq)
				if !slices.Equal(puts, marked) {
					t.Errorf("%s: puts %+v", what, puts)
				}
			}
			first, second := logAnswers(f, puts[:many]), logAnswers(f, puts[:many])
			want := second.clone()
			stays("argument")
			first.scribble()
			stays("argument behind a scribble")
			scribbleFtl(f)
			scribblePuts(puts)
			wantSameWritten(t, second.written, want.written)
			for i := range want.puts {
				if !slices.Equal(second.puts[i], want.puts[i]) {
					t.Errorf("second puts: %+v, want %+v", second.puts[i], want.puts[i])
				}
			}
			for i := range want.volumes {
				if !slices.Equal(second.volumes[i], want.volumes[i]) {
					t.Errorf("second volume: %q, want %q", second.volumes[i], want.volumes[i])
				}
			}
		}
	}
}

// The lists of one answer share nothing.
func TestLogListsAreApart(t *testing.T) {
	full := logged(laid(1, times(8, "ooxxxx")...), impl.LogText(someBatch(2)))
	for name, ask := range map[string]func() ([]impl.Act, impl.Ftl, bool){
		"Commit":  func() ([]impl.Act, impl.Ftl, bool) { return impl.Commit(laidFtl("ooxxxx"), someBatch(2)) },
		"refused": func() ([]impl.Act, impl.Ftl, bool) { return impl.Commit(full, someBatch(2)) },
		"Recover": func() ([]impl.Act, impl.Ftl, bool) { return impl.Recover(full) },
		"nothing": func() ([]impl.Act, impl.Ftl, bool) { return impl.Recover(laidFtl("ooxxxx")) },
	} {
		_, right, _ := ask()
		acts, g, _ := ask()
		scribbleActs(acts)
		wantFtl(t, name, g, right.Chip, right.Map, right.Seq)
		scribbleNumbers(g.Map)
		wantChip(t, name, g.Chip, right.Chip)
		scribbleNumbers(g.Chip.Wear)
		wantChip(t, name, impl.Chip{Pages: g.Chip.Pages, Wear: right.Chip.Wear}, right.Chip)
	}
}
