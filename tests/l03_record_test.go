package tests

import (
	"math"
	"strings"
	"testing"

	"loop.example/g00246/impl"
)

// Numbers that none of the limits takes, at the ends of what an int can be too.
var farNumbers = []int{-1, -2, -300, math.MinInt, math.MinInt + 1, impl.MaxNum + 1, impl.MaxNum + 2, 1 << 35, math.MaxInt}

// rightRecs are within their limits, those at the edges among them.
func rightRecs() []impl.Rec {
	var recs []impl.Rec
	for _, sector := range []int{0, 1, 3, impl.Sectors - 2, impl.Sectors - 1} {
		for _, seq := range []int{1, 2, 9, 127, 128, 300, 16383, 16384, 2097152, 268435456, impl.MaxNum - 1, impl.MaxNum} {
			for _, size := range []int{0, 1, 2, 127, 128, 300, impl.MaxText - 1, impl.MaxText} {
				recs = append(recs, impl.Rec{Sector: sector, Seq: seq, Data: someText(size)})
			}
		}
	}
	return recs
}

// wrongRecs pass a limit, most of them one alone and by one.
func wrongRecs() []impl.Rec {
	recs := []impl.Rec{
		{},
		{Sector: 3},
		{Data: "hi"},
		{Sector: -1, Seq: 9, Data: "hi"},
		{Sector: impl.Sectors, Seq: 1},
		{Sector: impl.Sectors, Seq: 9, Data: "hi"},
		{Sector: impl.Sectors + 1, Seq: 9, Data: "hi"},
		{Sector: impl.MaxNum, Seq: 9, Data: "hi"},
		{Sector: 3, Seq: 0, Data: "hi"},
		{Sector: -1, Seq: 0, Data: someText(impl.MaxText + 1)},
		{Sector: impl.Sectors, Seq: impl.MaxNum + 1, Data: someText(impl.MaxText + 1)},
	}
	for _, size := range []int{impl.MaxText + 1, impl.MaxText + 2, 2 * impl.MaxText, 16384, 100000} {
		recs = append(recs, impl.Rec{Sector: 0, Seq: 1, Data: someText(size)}, impl.Rec{Sector: 25, Seq: impl.MaxNum, Data: someText(size)})
	}
	for _, n := range farNumbers {
		recs = append(recs, impl.Rec{Sector: n, Seq: 9, Data: "hi"}, impl.Rec{Sector: 3, Seq: n, Data: "hi"})
	}
	return recs
}

// summed is body with the number of its sum ahead, whatever body is.
func summed(body string) string {
	return string(impl.PutNum(impl.Sum([]byte(body)))) + body
}

// bodyOf is what follows the sum of r, with no word on its limits.
func bodyOf(r impl.Rec) string {
	return string(impl.PutNum(r.Sector)) + string(impl.PutNum(r.Seq)) + string(impl.PutNum(len(r.Data))) + r.Data
}

func wantRec(t *testing.T, s string, want impl.Rec) {
	t.Helper()
	if got, ok := impl.RecRead(s); !ok || got != want {
		t.Errorf("RecRead(%q) = %v, %v, want %v, true", s, got, ok, want)
	}
}

func wantNoRec(t *testing.T, s string) {
	t.Helper()
	if got, ok := impl.RecRead(s); ok || got != (impl.Rec{}) {
		t.Errorf("RecRead(%q) = %v, %v, want zero, false", s, got, ok)
	}
}

func TestRecordLimits(t *testing.T) {
	if impl.Sectors != 26 {
		t.Error("sectors", impl.Sectors)
	}
}

func TestRecOkOfRightOnes(t *testing.T) {
	for _, r := range rightRecs() {
		if !impl.RecOk(r) {
			t.Errorf("not RecOk: %v", r)
		}
	}
	for sector := range impl.Sectors {
		if !impl.RecOk(impl.Rec{Sector: sector, Seq: 1}) {
			t.Errorf("not RecOk: sector %d", sector)
		}
	}
}

func TestRecOkOfWrongOnes(t *testing.T) {
	for _, r := range wrongRecs() {
		if impl.RecOk(r) {
			t.Errorf("RecOk: %d, %d, %d bytes", r.Sector, r.Seq, len(r.Data))
		}
	}
}

// The bytes of these were worked out apart from the program, from the document's words.
func TestRecTextKnown(t *testing.T) {
	for _, c := range []struct {
		r    impl.Rec
		want string
	}{
		{impl.Rec{Sector: 0, Seq: 1}, "\xb8\xdd\x0c\x00\x01\x00"},
		{impl.Rec{Sector: 3, Seq: 9, Data: "hi"}, "\x95\xa7\x1b\x03\x09\x02hi"},
		{impl.Rec{Sector: 25, Seq: impl.MaxNum, Data: "\x00\xff"}, "\x82\xa1\x09\x19\x80\x94\xeb\xdc\x03\x02\x00\xff"},
	} {
		if got := impl.RecText(c.r); got != c.want {
			t.Errorf("RecText(%v) = %q, want %q", c.r, got, c.want)
		}
		wantRec(t, c.want, c.r)
	}
}

func TestRecTextIsSumAndBody(t *testing.T) {
	for _, r := range rightRecs() {
		if got, want := impl.RecText(r), summed(bodyOf(r)); got != want {
			t.Errorf("RecText(%v) = %q, want %q", r, got, want)
		}
	}
}

func TestRecTextOfWrongOnesIsEmpty(t *testing.T) {
	for _, r := range wrongRecs() {
		if got := impl.RecText(r); got != "" {
			t.Errorf("RecText of %d, %d, %d bytes = %q, want nothing", r.Sector, r.Seq, len(r.Data), got)
		}
	}
}

// A record is read as it was.
func TestRecReadOfRecText(t *testing.T) {
	for _, r := range rightRecs() {
		wantRec(t, impl.RecText(r), r)
	}
	for sector := range impl.Sectors {
		for size := range impl.MaxText + 1 {
			r := impl.Rec{Sector: sector, Seq: 1 + sector*size*size*230, Data: someText(size)}
			wantRec(t, impl.RecText(r), r)
		}
	}
}

// What looks like a record, or like the end of one, is Data like any other.
func TestRecReadOfARecordInARecord(t *testing.T) {
	inner := impl.RecText(impl.Rec{Sector: 3, Seq: 9, Data: "hi"})
	for _, data := range []string{inner, inner + inner, "\x00", "\x80", "\x80\x00", "\xff\xff\xff\xff\xff\xff"} {
		r := impl.Rec{Sector: 7, Seq: 300, Data: data}
		wantRec(t, impl.RecText(r), r)
	}
}

// Cut short at any place, ahead or behind, a record is none.
func TestRecReadCutShort(t *testing.T) {
	for _, r := range rightRecs() {
		s := impl.RecText(r)
		for at := range len(s) {
			wantNoRec(t, s[:at])
		}
		for at := 1; at <= len(s); at++ {
			wantNoRec(t, s[at:])
		}
	}
}

// What is cut short is none even where its sum is right.
func TestRecReadCutShortWithItsSum(t *testing.T) {
	for _, r := range rightRecs() {
		body := bodyOf(r)
		for at := range len(body) {
			wantNoRec(t, summed(body[:at]))
		}
	}
}

// Something behind a record makes it none, whether the sum is of all or of the record alone.
func TestRecReadSomethingBehind(t *testing.T) {
	for _, r := range rightRecs() {
		s, body := impl.RecText(r), bodyOf(r)
		for _, behind := range []string{"\x00", "x", "\x80", "\xff", "\x00\x00", s, strings.Repeat("z", 1000)} {
			wantNoRec(t, s+behind)
			wantNoRec(t, summed(body+behind))
		}
	}
}

func TestRecReadSomethingAhead(t *testing.T) {
	s := impl.RecText(impl.Rec{Sector: 3, Seq: 9, Data: "hi"})
	for _, ahead := range []string{"\x00", "\x07", "x", "\x80", "\xff", s} {
		wantNoRec(t, ahead+s)
	}
}

// A sum that is another one makes it none, also one that leaves the same by Sum's divisor.
func TestRecReadAnotherSum(t *testing.T) {
	for _, r := range rightRecs() {
		body := bodyOf(r)
		sum := impl.Sum([]byte(body))
		for _, other := range []int{0, 1, 7, sum - 1, sum + 1, sum + 128, sum ^ 16384, sum + 1000003, sum + 2000006, impl.MaxNum} {
			if other != sum && other >= 0 {
				wantNoRec(t, string(impl.PutNum(other))+body)
			}
		}
		wantNoRec(t, body)
	}
}

// All numbers of a record are the shortest, the sum is right.
func TestRecReadNotTheShortest(t *testing.T) {
	sum := string(impl.PutNum(impl.Sum([]byte("\x03\x09\x02hi"))))
	longer := sum[:len(sum)-1] + string([]byte{sum[len(sum)-1] | 128, 0})
	wantRec(t, sum+"\x03\x09\x02hi", impl.Rec{Sector: 3, Seq: 9, Data: "hi"})
	wantNoRec(t, longer+"\x03\x09\x02hi")
	for _, body := range []string{
		"\x83\x00\x09\x02hi", "\x83\x80\x00\x09\x02hi", "\x80\x00\x09\x02hi",
		"\x03\x89\x00\x02hi", "\x03\x89\x80\x80\x00\x02hi", "\x03\x80\x94\xeb\xdc\x83\x00\x02hi",
		"\x03\x09\x82\x00hi", "\x03\x09\x82\x80\x00hi", "\x03\x09\x80\x00",
	} {
		wantNoRec(t, summed(body))
	}
}

// Numbers beyond their limits make it none, though the sum is right and all bytes are there.
func TestRecReadNumbersBeyond(t *testing.T) {
	for _, sector := range []int{impl.Sectors, impl.Sectors + 1, 127, 128, 300, impl.MaxNum} {
		for _, size := range []int{0, 2, impl.MaxText} {
			wantNoRec(t, summed(bodyOf(impl.Rec{Sector: sector, Seq: 9, Data: someText(size)})))
		}
	}
	for _, sector := range []int{0, 3, impl.Sectors - 1} {
		wantNoRec(t, summed(bodyOf(impl.Rec{Sector: sector, Seq: 0, Data: "hi"})))
		wantNoRec(t, summed(bodyOf(impl.Rec{Sector: sector, Seq: 0})))
		for _, size := range []int{impl.MaxText + 1, impl.MaxText + 2, 2 * impl.MaxText, 16384} {
			wantNoRec(t, summed(bodyOf(impl.Rec{Sector: sector, Seq: 9, Data: someText(size)})))
		}
	}
	const past = "\x81\x94\xeb\xdc\x03" // MaxNum and one more
	for _, beyond := range []string{past, "\xff\xff\xff\xff\x7f", "\x89\x80\x80\x80\x80\x80\x80\x80\x80\x02", strings.Repeat("\x80", 1000)} {
		wantNoRec(t, beyond+"\x03\x09\x02hi")
		wantNoRec(t, summed(beyond+"\x09\x02hi"))
		wantNoRec(t, summed("\x03"+beyond+"\x02hi"))
		wantNoRec(t, summed("\x03\x09"+beyond+"hi"))
	}
}

// A Data that says it is longer or shorter than what is there makes it none.
func TestRecReadAnotherSize(t *testing.T) {
	for _, size := range []int{0, 1, 2, 4, 127, 128, 400} {
		wantNoRec(t, summed("\x03\x09"+string(impl.PutNum(size))+"abc"))
	}
	wantRec(t, summed("\x03\x09\x03abc"), impl.Rec{Sector: 3, Seq: 9, Data: "abc"})
}

// Sum's divisor is a prime: one byte of the body that is another one always makes it another sum.
func TestRecReadOneByteChanged(t *testing.T) {
	for _, r := range []impl.Rec{{Sector: 0, Seq: 1}, {Sector: 3, Seq: 9, Data: "hi"}, {Sector: 25, Seq: impl.MaxNum, Data: someText(130)}} {
		s := impl.RecText(r)
		for at := len(s) - len(bodyOf(r)); at < len(s); at++ {
			for x := range 256 {
				if byte(x) != s[at] {
					wantNoRec(t, s[:at]+string([]byte{byte(x)})+s[at+1:])
				}
			}
		}
	}
}

// plainRec tells the record of a body by the document's words, with no word on its sum.
func plainRec(body string) (impl.Rec, bool) {
	sector, at, ok := plainNum([]byte(body))
	seq, more, fine := plainNum([]byte(body[at:]))
	size, rest, right := plainNum([]byte(body[at+more:]))
	at += more + rest
	if !ok || !fine || !right || size != len(body)-at {
		return impl.Rec{}, false
	}
	if sector >= impl.Sectors || seq < 1 || size > impl.MaxText {
		return impl.Rec{}, false
	}
	return impl.Rec{Sector: sector, Seq: seq, Data: body[at:]}, true
}

// A record is read if and only if its RecText stands there: all bodies of up to six bytes made of those at the edges, with their sum ahead.
func TestRecReadIsWhatWasPut(t *testing.T) {
	bodies := []string{""}
	read := 0
	for range 6 {
		var longer []string
		for _, b := range bodies {
			for _, x := range []string{"\x00", "\x01", "\x02", "\x03", "\x19", "\x1a", "\x7f", "\x80", "\xff"} {
				longer = append(longer, b+x)
			}
		}
		bodies = longer
		for _, b := range bodies {
			want, ok := plainRec(b)
			got, right := impl.RecRead(summed(b))
			if got != want || right != ok {
				t.Fatalf("RecRead(%q) = %v, %v, want %v, %v", summed(b), got, right, want, ok)
			}
			if ok {
				read++
			}
		}
	}
	if read == 0 {
		t.Error("no body was a record")
	}
}

// Any text is answered, and what is read is what was put: all of up to three bytes, and some that are long.
func TestRecReadOfAnyText(t *testing.T) {
	try := func(s string) {
		if r, ok := impl.RecRead(s); ok != (r != impl.Rec{}) || impl.RecText(r) != s && ok {
			t.Fatalf("RecRead(%q) = %v, %v", s, r, ok)
		}
	}
	wantNoRec(t, "")
	for x := range 256 {
		wantNoRec(t, string([]byte{byte(x)}))
		for y := range 256 {
			wantNoRec(t, string([]byte{byte(x), byte(y)}))
			for z := range 256 {
				try(string([]byte{byte(x), byte(y), byte(z)}))
			}
		}
	}
	for size := range 900 {
		try(someText(size))
		wantNoRec(t, strings.Repeat("\x00", size))
		wantNoRec(t, strings.Repeat("\xff", size))
	}
	try(someText(100000))
}

// The longest record fits on a page; what the power left of it there is none, but whole it is read.
func TestRecordOnATornPage(t *testing.T) {
	for _, r := range []impl.Rec{{Sector: 0, Seq: 1}, {Sector: 25, Seq: impl.MaxNum, Data: someText(impl.MaxText)}} {
		s := impl.RecText(r)
		c, ok := impl.Burn(impl.ChipNew(), 7, s)
		if !ok {
			t.Fatal("no room on a page for bytes:", len(s))
		}
		wantRec(t, c.Pages[7], r)
		for n := range len(s) {
			wantNoRec(t, impl.Torn(impl.ChipNew(), 7, s, n).Pages[7])
		}
		wantRec(t, impl.Torn(impl.ChipNew(), 7, s, len(s)).Pages[7], r)
	}
}

// Nothing is kept from one call to another: what was read before turns no answer.
func TestRecordAnswersStay(t *testing.T) {
	first, second := impl.Rec{Sector: 3, Seq: 9, Data: "hi"}, impl.Rec{Sector: 25, Seq: 300, Data: someText(impl.MaxText)}
	for range 3 {
		wantRec(t, impl.RecText(first), first)
		wantNoRec(t, impl.RecText(impl.Rec{}))
		wantRec(t, impl.RecText(second), second)
	}
}
