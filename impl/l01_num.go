package impl

const (
	MaxNum  = 1000000000
	MaxText = 400
)

const (
	// A byte carries seven bits; from numStep on it says that another one follows.
	numStep = 128

	sumFirst = 7
	sumTimes = 31
	sumBy    = 1000003
)

const (
	noNumber = "no number begins here"
	noText   = "no text begins here"
)

// PutNum tells n in as few bytes as there can be, the low ones first; empty when n is not in 0 .. MaxNum.
func PutNum(n int) []byte {
	if n < 0 || n > MaxNum {
		return nil
	}
	var out []byte
	for n >= numStep {
		out = append(out, byte(n%numStep+numStep))
		n /= numStep
	}
	return append(out, byte(n))
}

// GetNum tells the number whose PutNum begins at that place, and the place behind it.
func GetNum(b []byte, at int) (n int, next int, ok bool) {
	defer func() {
		if recover() != nil {
			n, next, ok = 0, 0, false
		}
	}()
	place := at
	n = takeNum(b, &place)
	return n, place, true
}

// PutText tells how many bytes s has, and these; empty when there are more than MaxText.
func PutText(s string) []byte {
	if len(s) > MaxText {
		return nil
	}
	return append(PutNum(len(s)), s...)
}

// GetText tells the text whose PutText begins at that place, and the place behind it.
func GetText(b []byte, at int) (s string, next int, ok bool) {
	defer func() {
		if recover() != nil {
			s, next, ok = "", 0, false
		}
	}()
	place := at
	s = takeText(b, &place)
	return s, place, true
}

// Sum tells what stands ahead of a record, so that one that was cut short is known.
func Sum(b []byte) int {
	sum := sumFirst
	for _, x := range b {
		sum = (sumTimes*sum + int(x)) % sumBy
	}
	return sum
}

// takeByte moves place behind the byte that stands there; it panics where there is none.
func takeByte(b []byte, place *int) int {
	if *place < 0 || *place >= len(b) {
		panic(noNumber)
	}
	x := b[*place]
	*place++
	return int(x)
}

// takeNum moves place behind the number that begins there; it panics where there is none.
func takeNum(b []byte, place *int) int {
	n := 0
	// Ending at the first unit past MaxNum keeps n far from wrapping round, however many bytes say that another one follows.
	for unit := 1; unit <= MaxNum; unit *= numStep {
		x := takeByte(b, place)
		n += x % numStep * unit
		if x >= numStep {
			continue
		}
		// A last byte of 0 adds nothing: without it the number would be shorter.
		if n > MaxNum || x == 0 && unit > 1 {
			panic(noNumber)
		}
		return n
	}
	panic(noNumber)
}

// takeText moves place behind the text that begins there; it panics where there is none.
func takeText(b []byte, place *int) string {
	size := takeNum(b, place)
	if size > MaxText || size > len(b)-*place {
		panic(noText)
	}
	from := *place
	*place += size
	return string(b[from:*place])
}
