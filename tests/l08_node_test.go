package tests

import (
	"fmt"
	"math"
	"regexp"
	"slices"
	"strings"
	"testing"

	"loop.example/g00246/impl"
)

// Names that there may be, in order.
var rightNames = []string{"a", "aa", "aaaaaa", "aaaaab", "ab", "abc", "abcdef", "b", "d", "f", "l", "m", "mz", "n", "y", "z", "za", "zz", "zzzzzz"}

// Names that there may not be; the bytes beside a and z are among them.
var wrongNames = []string{
	"", "abcdefg", "aaaaaaa", "zzzzzzzz", strings.Repeat("a", 1000), "`", "{", "a`", "a{", "`a", "{a", "A", "Z", "aB", "0", "a1", "=", "a=", "=a", "a=1",
	" ", "a ", " a", "a b", "/", "a/b", ".", "-", "\x00", "a\x00", "\n", "a\n", "\x7f", "\x80", "\xff", "a\xff", "\xe1", "é", "aé", "ａ", "a\u0301",
}

// Numbers that no kid has; some are such in a byte as one that has.
var noKids = append([]int{0, impl.Nodes, impl.Nodes + 1, 48, 59, 60, 255, 256, 257, 267, 1<<32 + 1, -255, 1 - 1<<32, 128}, farNumbers...)

var nodeBody = regexp.MustCompile("^d([a-z]{1,6}=[1-;])*$")
var nodeKid = regexp.MustCompile("([a-z]*)=(.)")
var nodeName = regexp.MustCompile("^[a-z]{1,6}$")

// folderOf is a folder of these, each a name and its number, whatever they are.
func folderOf(kids ...any) impl.Node {
	n := impl.Node{Dir: true}
	for i := 0; i < len(kids); i += 2 {
		n.Names, n.Kids = append(n.Names, kids[i].(string)), append(n.Kids, kids[i+1].(int))
	}
	return n
}

func fileOf(data string) impl.Node {
	return impl.Node{Data: data}
}

// someFolder is right, with so many names, told apart by the seed alone.
func someFolder(seed, many int) impl.Node {
	n := impl.Node{Dir: true}
	for i := range rightNames {
		if len(n.Names) < many && (i*7+seed)%3 != 0 {
			n.Names = append(n.Names, rightNames[i])
			n.Kids = append(n.Kids, 1+(len(n.Kids)*(1+seed%(impl.Nodes-2))+seed)%(impl.Nodes-1))
		}
	}
	return n
}

func sameNode(a, b impl.Node) bool {
	return a.Dir == b.Dir && slices.Equal(a.Names, b.Names) && slices.Equal(a.Kids, b.Kids) && a.Data == b.Data
}

func cloneNode(n impl.Node) impl.Node {
	return impl.Node{Dir: n.Dir, Names: slices.Clone(n.Names), Kids: slices.Clone(n.Kids), Data: n.Data}
}

// plainNameOk is NameOk by the document's words.
func plainNameOk(s string) bool {
	return nodeName.MatchString(s)
}

// plainNodeOk is NodeOk by the document's words.
func plainNodeOk(n impl.Node) bool {
	if !n.Dir {
		return len(n.Data) <= 60 && len(n.Names) == 0 && len(n.Kids) == 0
	}
	if len(n.Names) != len(n.Kids) || n.Data != "" {
		return false
	}
	for i := range n.Names {
		if !plainNameOk(n.Names[i]) || n.Kids[i] < 1 || n.Kids[i] > 11 {
			return false
		}
		for j := range i {
			if strings.Compare(n.Names[j], n.Names[i]) >= 0 || n.Kids[j] == n.Kids[i] {
				return false
			}
		}
	}
	return true
}

// plainNodeText is NodeText by the document's words.
func plainNodeText(n impl.Node) string {
	if !plainNodeOk(n) {
		return ""
	}
	if !n.Dir {
		return "f" + n.Data
	}
	s := "d"
	for i, name := range n.Names {
		s += fmt.Sprintf("%s=%c", name, 48+n.Kids[i])
	}
	return s
}

// plainNodeRead is NodeRead by the document's words.
func plainNodeRead(s string) (impl.Node, bool) {
	n := impl.Node{}
	if strings.HasPrefix(s, "f") {
		n.Data = s[1:]
	} else if nodeBody.MatchString(s) {
		n.Dir = true
		for _, kid := range nodeKid.FindAllStringSubmatch(s[1:], -1) {
			n.Names, n.Kids = append(n.Names, kid[1]), append(n.Kids, int(kid[2][0])-48)
		}
	} else {
		return impl.Node{}, false
	}
	if !plainNodeOk(n) {
		return impl.Node{}, false
	}
	return n, true
}

// plainKid is Kid by the document's words.
func plainKid(n impl.Node, name string) int {
	for i := 0; i < len(n.Names) && i < len(n.Kids); i++ {
		if n.Names[i] == name {
			return n.Kids[i]
		}
	}
	return -1
}

// plainKidDrop is KidDrop by the document's words.
func plainKidDrop(n impl.Node, name string) impl.Node {
	out := impl.Node{Dir: n.Dir, Data: n.Data}
	for i, met := 0, false; i < len(n.Names) && i < len(n.Kids); i++ {
		if n.Names[i] == name && !met {
			met = true
			continue
		}
		out.Names, out.Kids = append(out.Names, n.Names[i]), append(out.Kids, n.Kids[i])
	}
	return out
}

// plainKidPut is KidPut by the document's words.
func plainKidPut(n impl.Node, name string, k int) impl.Node {
	left := plainKidDrop(n, name)
	at := len(left.Names)
	for i := len(left.Names) - 1; i >= 0; i-- {
		if left.Names[i] > name {
			at = i
		}
	}
	out := impl.Node{Dir: n.Dir, Data: n.Data}
	out.Names = append(append(append(out.Names, left.Names[:at]...), name), left.Names[at:]...)
	out.Kids = append(append(append(out.Kids, left.Kids[:at]...), k), left.Kids[at:]...)
	return out
}

// rightNodes are NodeOk, those at the limits among them.
func rightNodes() []impl.Node {
	all := []impl.Node{
		{Dir: true}, {}, {Dir: true, Names: []string{}, Kids: []int{}}, {Names: []string{}, Kids: []int{}},
		folderOf("a", 2, "b", 1), folderOf("a", 11, "aa", 1, "b", 5), folderOf("abcdef", 1, "abcdeg", 2, "z", 3),
		folderOf("d", 1, "f", 2), folderOf("a", 1, "az", 2, "b", 3), folderOf("y", 3, "z", 2, "za", 1),
		folderOf("a", 11, "b", 10, "c", 9, "d", 8, "e", 7, "f", 6, "g", 5, "h", 4, "i", 3, "j", 2, "k", 1),
	}
	for _, name := range rightNames {
		all = append(all, folderOf(name, 1))
	}
	for k := 1; k < impl.Nodes; k++ {
		all = append(all, folderOf("a", k), folderOf("zzzzzz", k))
	}
	for seed := range 40 {
		for many := range impl.Nodes {
			if n := someFolder(seed, many); plainNodeOk(n) {
				all = append(all, n)
			}
		}
	}
	for size := range impl.MaxData + 1 {
		all = append(all, fileOf(someText(size)), fileOf(strings.Repeat("x", size)), fileOf(strings.Repeat("\xff", size)))
	}
	for _, data := range []string{"a=1", "da=1", "d", "f", "fhello", "\x00", "\n", "=", "é", " ", "a=1b=2"} {
		all = append(all, fileOf(data))
	}
	return all
}

// wrongNodes are not NodeOk, most of them for one reason alone.
func wrongNodes() []impl.Node {
	all := []impl.Node{
		folderOf("b", 1, "a", 2), folderOf("a", 1, "b", 2, "ab", 3), folderOf("aa", 1, "a", 2), folderOf("b", 1, "c", 2, "a", 3), folderOf("z", 1, "y", 2, "zz", 3),
		folderOf("a", 1, "a", 2), folderOf("a", 1, "b", 2, "b", 3), folderOf("a", 1, "b", 2, "a", 3), folderOf("zzzzzz", 1, "zzzzzz", 1),
		folderOf("a", 1, "b", 1), folderOf("a", 1, "b", 2, "c", 1), folderOf("a", 11, "b", 11), folderOf("a", 1, "b", 2, "c", 3, "d", 3),
		folderOf("a", 1, "b", 2, "c", 3, "d", 4, "e", 5, "f", 6, "g", 7, "h", 8, "i", 9, "j", 10, "k", 11, "l", 1),
		{Dir: true, Data: "x"}, {Dir: true, Data: "\x00"}, {Dir: true, Names: []string{"a"}, Kids: []int{1}, Data: "x"}, {Dir: true, Data: someText(impl.MaxData + 1)},
		{Dir: true, Names: []string{"a"}}, {Dir: true, Kids: []int{1}}, {Dir: true, Names: []string{"a", "b"}, Kids: []int{1}}, {Dir: true, Names: []string{"a"}, Kids: []int{1, 2}},
		{Dir: true, Names: []string{"a", ""}, Kids: []int{1}}, {Dir: true, Names: []string{"a"}, Kids: []int{1, 0}},
		{Names: []string{"a"}, Kids: []int{1}}, {Names: []string{"a"}}, {Kids: []int{1}}, {Names: []string{"a"}, Kids: []int{1}, Data: "x"}, {Names: []string{""}}, {Kids: []int{0}},
		{Names: []string{"a"}, Data: "x"}, {Kids: []int{1}, Data: "x"},
	}
	for _, size := range []int{impl.MaxData + 1, impl.MaxData + 2, 2 * impl.MaxData, 256, 257, impl.MaxText, 100000} {
		all = append(all, fileOf(strings.Repeat("x", size)))
	}
	for _, name := range wrongNames {
		all = append(all, folderOf(name, 1), folderOf("a", 2, name, 1), folderOf(name, 1, "zzzzzz", 2))
	}
	for _, k := range noKids {
		all = append(all, folderOf("a", k), folderOf("a", 1, "b", k), folderOf("a", k, "b", 1))
	}
	return append(all, impl.Node{Dir: true, Names: make([]string, 1000), Kids: make([]int, 1000)}, impl.Node{Dir: true, Names: make([]string, 1000)}, impl.Node{Kids: make([]int, 1000)})
}

// mixedNode is right or wrong, told apart by the seed alone; its names and numbers are often twice there or in no order.
func mixedNode(seed int) impl.Node {
	state := uint64(seed)*2654435761 + 77
	draw := func(n int) int {
		state = state*6364136223846793005 + 1442695040888963407
		return int(state>>33) % n
	}
	names := []string{"a", "b", "aa", "m", "z", "abcdef", "c", "d"}
	if draw(4) == 0 {
		names = append(names, "", "abcdefg", "`", "{", "\xff", "A")
	}
	n := impl.Node{Dir: draw(6) > 0}
	many := draw(6)
	for range many {
		n.Names = append(n.Names, names[draw(len(names))])
	}
	for range max(0, many+[]int{0, 0, 0, 0, 0, 1, -1, 2}[draw(8)]) {
		n.Kids = append(n.Kids, 1+draw(impl.Nodes-1))
	}
	if draw(5) == 0 && len(n.Kids) > 0 {
		n.Kids[draw(len(n.Kids))] = noKids[draw(len(noKids))]
	}
	if draw(3) > 0 {
		slices.Sort(n.Names)
	}
	if !n.Dir && draw(3) > 0 {
		n.Names, n.Kids = nil, nil
	}
	if !n.Dir || draw(5) == 0 {
		n.Data = someText(draw(impl.MaxData + 9))
	}
	return n
}

// allNodes are right ones, wrong ones, and many that are either.
func allNodes() []impl.Node {
	all := append(rightNodes(), wrongNodes()...)
	for seed := range 3000 {
		all = append(all, mixedNode(seed))
	}
	return all
}

func wantNode(t *testing.T, what string, got, want impl.Node) {
	t.Helper()
	if !sameNode(got, want) {
		t.Errorf("%s = %+v, want %+v", what, got, want)
	}
}

func wantNodeRead(t *testing.T, s string, want impl.Node) {
	t.Helper()
	if got, ok := impl.NodeRead(s); !ok || !sameNode(got, want) {
		t.Errorf("NodeRead(%q) = %+v, %v, want %+v, true", s, got, ok, want)
	}
}

func wantNoNode(t *testing.T, s string) {
	t.Helper()
	if got, ok := impl.NodeRead(s); ok || !sameNode(got, impl.Node{}) {
		t.Errorf("NodeRead(%q) = %+v, %v, want zero, false", s, got, ok)
	}
}

func TestNodeLimits(t *testing.T) {
	if impl.MaxName != 6 || impl.MaxData != 60 {
		t.Error("limits", impl.MaxName, impl.MaxData)
	}
}

func TestNameOkOfRightOnes(t *testing.T) {
	for _, s := range rightNames {
		if !impl.NameOk(s) {
			t.Errorf("not NameOk: %q", s)
		}
	}
	for size := 1; size <= impl.MaxName; size++ {
		for x := 'a'; x <= 'z'; x++ {
			if s := strings.Repeat(string(x), size); !impl.NameOk(s) {
				t.Errorf("not NameOk: %q", s)
			}
		}
	}
}

func TestNameOkOfWrongOnes(t *testing.T) {
	for _, s := range wrongNames {
		if impl.NameOk(s) {
			t.Errorf("NameOk: %q", s)
		}
	}
	for size := impl.MaxName + 1; size < 600; size++ {
		if impl.NameOk(strings.Repeat("a", size)) {
			t.Errorf("NameOk: %d bytes", size)
		}
	}
}

// Each byte at each place of a name, those just below a and just above z among them.
func TestNameOkByteForByte(t *testing.T) {
	for size := range impl.MaxName + 3 {
		for at := range size {
			for x := range 256 {
				b := []byte(strings.Repeat("k", size))
				b[at] = byte(x)
				want := x >= 97 && x <= 122 && size <= 6
				if got := impl.NameOk(string(b)); got != want {
					t.Errorf("NameOk(%q) = %v, want %v", b, got, want)
				}
			}
		}
	}
}

func TestNodeOkOfRightOnes(t *testing.T) {
	for _, n := range rightNodes() {
		if !impl.NodeOk(n) {
			t.Errorf("not NodeOk: %+v", n)
		}
	}
}

func TestNodeOkOfWrongOnes(t *testing.T) {
	for _, n := range wrongNodes() {
		if impl.NodeOk(n) {
			t.Errorf("NodeOk: %+v", n)
		}
	}
}

// As the document's words have it, for nodes that are nearly right.
func TestNodeOkAndNodeTextOfMixedNodes(t *testing.T) {
	right, wrong := 0, 0
	for seed := range 60000 {
		n := mixedNode(seed)
		want := plainNodeOk(n)
		if got := impl.NodeOk(n); got != want {
			t.Fatalf("NodeOk(%+v) = %v, want %v", n, got, want)
		}
		if got := impl.NodeText(n); got != plainNodeText(n) {
			t.Fatalf("NodeText(%+v) = %q, want %q", n, got, plainNodeText(n))
		}
		right, wrong = count(want, right, wrong)
	}
	if min(right, wrong) < 10000 {
		t.Error("too few of one kind:", right, wrong)
	}
}

func TestNodeTextKnown(t *testing.T) {
	for _, c := range []struct {
		n    impl.Node
		want string
	}{
		{impl.Node{Dir: true}, "d"},
		{impl.Node{}, "f"},
		{fileOf("hello"), "fhello"},
		{fileOf("da=1"), "fda=1"},
		{fileOf("\x00\xff\n"), "f\x00\xff\n"},
		{folderOf("a", 1), "da=1"},
		{folderOf("abcdef", 9), "dabcdef=9"},
		{folderOf("a", 10), "da=:"},
		{folderOf("a", 11, "b", 3), "da=;b=3"},
		{folderOf("d", 2, "f", 1), "dd=2f=1"},
		{folderOf("a", 3, "aa", 2, "b", 1), "da=3aa=2b=1"},
	} {
		if got := impl.NodeText(c.n); got != c.want {
			t.Errorf("NodeText(%+v) = %q, want %q", c.n, got, c.want)
		}
		wantNodeRead(t, c.want, c.n)
	}
}

// A node is read as it was.
func TestNodeReadOfNodeText(t *testing.T) {
	for _, n := range rightNodes() {
		s := impl.NodeText(n)
		if s != plainNodeText(n) {
			t.Errorf("NodeText(%+v) = %q, want %q", n, s, plainNodeText(n))
		}
		wantNodeRead(t, s, n)
	}
}

// Two nodes that are not the same have two texts.
func TestNodeTextsAreApart(t *testing.T) {
	met := map[string]impl.Node{}
	for _, n := range rightNodes() {
		s := impl.NodeText(n)
		if m, ok := met[s]; ok && !sameNode(m, n) {
			t.Errorf("%q is of %+v and of %+v", s, m, n)
		}
		met[s] = n
	}
}

func TestNodeTextOfWrongOnesIsEmpty(t *testing.T) {
	for _, n := range wrongNodes() {
		if got := impl.NodeText(n); got != "" {
			t.Errorf("NodeText(%+v) = %q, want nothing", n, got)
		}
	}
}

// A node's text has room in a sector, as long as it may be.
func TestNodeTextsFit(t *testing.T) {
	n := impl.Node{Dir: true}
	for k := 1; k < impl.Nodes; k++ {
		n = impl.KidPut(n, "aaaaa"+string(rune('a'+k)), k)
	}
	for _, n := range []impl.Node{n, fileOf(someText(impl.MaxData))} {
		if s := impl.NodeText(n); s == "" || len(s) > impl.MaxText {
			t.Errorf("%d bytes", len(s))
		}
	}
}

func TestNodeReadOfNoNode(t *testing.T) {
	for _, s := range []string{
		"", "x", "D", "F", "e", "g", "c", " ", "=", "\x00", "\xff", "hello", "a=1", " da=1", "xda=1", "=1", "1", "Da=1", "\xe4",
		"da", "dabc", "da=", "dabc=", "da=1b", "da=1b=", "da=1bc", "d=", "d=1", "da=1=2", "d1", "d=a", "d==", "da==1", "da11", "da 1", "da:1", "da<1", "da>1",
		"da=0", "da=/", "da=<", "da=\x00", "da=\x01", "da=\x0b", "da=a", "da= ", "da=\xff", "da=\xb1", "da=-1",
		"da=11", "da=1 ", "da=1\x00", "da=1\n", "da=1x", "da=1;", "da=1d", "da=1f", "d ", "d\x00", "dx", "dd", "df", "dfhello",
		"db=1a=2", "daa=1a=2", "da=1b=2ab=3", "db=1c=2a=3",
		"da=1a=2", "da=1a=1", "da=1b=2b=3", "da=1b=2a=3",
		"da=1b=1", "da=1b=2c=1", "da=;b=;",
		"dA=1", "d`=1", "d{=1", "dabcdefg=1", "da=1abcdefg=2", "dé=1", "da b=1", "d a=1", "da =1", "da= 1",
		"da=1b=2c=3d=4e=5f=6g=7h=8i=9j=:k=;l=1", "da=1b=2c=3d=4e=5f=6g=7h=8i=9j=:k=;l=<",
	} {
		wantNoNode(t, s)
	}
	wantNodeRead(t, "da=1b=2c=3d=4e=5f=6g=7h=8i=9j=:k=;", folderOf("a", 1, "b", 2, "c", 3, "d", 4, "e", 5, "f", 6, "g", 7, "h", 8, "i", 9, "j", 10, "k", 11))
}

// A file's Data may be any bytes, of at most MaxData.
func TestNodeReadOfFiles(t *testing.T) {
	for size := range 200 {
		for _, data := range []string{someText(size), strings.Repeat("=", size), strings.Repeat("\x00", size)} {
			if size <= 60 {
				wantNodeRead(t, "f"+data, fileOf(data))
			} else {
				wantNoNode(t, "f"+data)
			}
		}
	}
	wantNoNode(t, "f"+strings.Repeat("x", 100000))
	// It is bytes that are counted, not runes.
	wantNodeRead(t, "f"+strings.Repeat("é", 30), fileOf(strings.Repeat("é", 30)))
	wantNoNode(t, "f"+strings.Repeat("é", 31))
}

// Each byte in turn as the number, the sign, the name, and as what follows a right text.
func TestNodeReadByteForByte(t *testing.T) {
	for x := range 256 {
		c := string([]byte{byte(x)})
		for _, s := range []string{c, "d" + c, "da=" + c, "da" + c + "1", "d" + c + "=1", "da" + c + "=1", c + "a=1", "da=1" + c, "da=1b=" + c, "da=1" + c + "=2", "da=:b" + c + "1", "f" + c, c + "hello"} {
			want, fine := plainNodeRead(s)
			if got, ok := impl.NodeRead(s); ok != fine || !sameNode(got, want) {
				t.Errorf("NodeRead(%q) = %+v, %v, want %+v, %v", s, got, ok, want, fine)
			}
		}
		if _, ok := impl.NodeRead("da=" + c); ok != (x >= 49 && x <= 59) {
			t.Errorf("byte %d is a number: %v", x, ok)
		}
		if _, ok := impl.NodeRead(c); ok != (x == 'd' || x == 'f') {
			t.Errorf("byte %d begins a node: %v", x, ok)
		}
	}
}

// A node is read if and only if its text stands there: all texts of up to seven bytes that begin as a folder's, made of those at the edges.
func TestNodeReadOfEdgeTexts(t *testing.T) {
	texts := []string{"d"}
	read := 0
	for range 6 {
		var longer []string
		for _, s := range texts {
			for _, x := range []string{"a", "b", "{", "=", "0", "1", ";", "<"} {
				longer = append(longer, s+x)
			}
		}
		texts = longer
		for _, s := range texts {
			got, ok := impl.NodeRead(s)
			want, fine := plainNodeRead(s)
			if ok != fine || !sameNode(got, want) {
				t.Fatalf("NodeRead(%q) = %+v, %v, want %+v, %v", s, got, ok, want, fine)
			}
			if ok {
				read++
			}
		}
	}
	if read < 20 {
		t.Error("too few are nodes:", read)
	}
}

// Cut short, a folder is none but where a kid ends; something behind it makes it none.
func TestNodeReadOfCutAndLongerTexts(t *testing.T) {
	for _, n := range rightNodes() {
		s := plainNodeText(n)
		for at := range len(s) {
			want, fine := plainNodeRead(s[:at])
			if got, ok := impl.NodeRead(s[:at]); ok != fine || !sameNode(got, want) {
				t.Errorf("NodeRead(%q) = %+v, %v, want %+v, %v", s[:at], got, ok, want, fine)
			}
		}
		if n.Dir {
			for _, more := range []string{"\x00", "x", "1", "=", " ", "\n", "=1", s, strings.Repeat("z", 1000)} {
				wantNoNode(t, s+more)
			}
		}
	}
}

// A folder's text with one byte that is another one, or that is not there, is read as the document's words have it.
func TestNodeReadOfAnotherByte(t *testing.T) {
	for _, n := range rightNodes() {
		s := plainNodeText(n)
		for at := range len(s) {
			texts := []string{s[:at] + s[at+1:]}
			for _, x := range []byte{'a', 'z', '=', '1', ';', 'd', 'f', 0, s[at] + 1, s[at] - 1} {
				texts = append(texts, s[:at]+string([]byte{x})+s[at+1:], s[:at]+string([]byte{x})+s[at:])
			}
			for _, text := range texts {
				want, fine := plainNodeRead(text)
				if got, ok := impl.NodeRead(text); ok != fine || !sameNode(got, want) {
					t.Fatalf("NodeRead(%q) = %+v, %v, want %+v, %v", text, got, ok, want, fine)
				}
			}
		}
	}
}

// Long texts end too.
func TestNodeReadOfLongTexts(t *testing.T) {
	for _, part := range []string{"a", "=", "1", "a=1", "a=", "=1", "\x00", "d", "z=;y=1"} {
		wantNoNode(t, "d"+strings.Repeat(part, 100000))
	}
}

func TestKidKnown(t *testing.T) {
	for _, c := range []struct {
		n    impl.Node
		name string
		want int
	}{
		{folderOf("a", 4, "b", 3), "a", 4},
		{folderOf("a", 4, "b", 3), "b", 3},
		{folderOf("a", 4, "b", 3), "c", -1},
		{folderOf("a", 4, "b", 3), "", -1},
		{folderOf("a", 4, "b", 3), "aa", -1},
		{folderOf("aa", 4, "b", 3), "a", -1},
		{folderOf("b", 4, "a", 3, "b", 2), "b", 4},
		{folderOf("a", 1, "b", 5, "b", 6, "b", 7), "b", 5},
		{folderOf(), "a", -1},
		{folderOf("", 7, "A", 8, "\xff", 9), "", 7},
		{folderOf("", 7, "A", 8, "\xff", 9), "A", 8},
		{folderOf("", 7, "A", 8, "\xff", 9), "\xff", 9},
		{folderOf("", 7, "A", 8, "\xff", 9), "a", -1},
		{folderOf("a", -5, "b", 0, "c", math.MaxInt), "a", -5},
		{folderOf("a", -5, "b", 0, "c", math.MaxInt), "b", 0},
		{folderOf("a", -5, "b", 0, "c", math.MaxInt), "c", math.MaxInt},
		// Of as many names as there are numbers.
		{impl.Node{Dir: true, Names: []string{"a", "b"}, Kids: []int{4}}, "a", 4},
		{impl.Node{Dir: true, Names: []string{"a", "b"}, Kids: []int{4}}, "b", -1},
		{impl.Node{Dir: true, Names: []string{"a", "b"}}, "a", -1},
		{impl.Node{Dir: true, Names: []string{"a"}, Kids: []int{4, 5}}, "a", 4},
		{impl.Node{Dir: true, Kids: []int{4, 5}}, "", -1},
		{impl.Node{Dir: true, Names: []string{"b", "a", "b"}, Kids: []int{1, 2}}, "b", 1},
		{impl.Node{Dir: true, Names: []string{"c", "a", "b"}, Kids: []int{1, 2}}, "b", -1},
		// Of what is no folder, too, where it has names.
		{impl.Node{Names: []string{"a"}, Kids: []int{4}, Data: "x"}, "a", 4},
		{fileOf("a"), "a", -1},
		{fileOf("a=1"), "a", -1},
		{impl.Node{}, "", -1},
	} {
		if got := impl.Kid(c.n, c.name); got != c.want {
			t.Errorf("Kid(%+v, %q) = %d, want %d", c.n, c.name, got, c.want)
		}
	}
}

func TestKidPutKnown(t *testing.T) {
	n := folderOf("b", 1, "d", 2, "f", 3)
	twice := folderOf("b", 1, "a", 2, "b", 3, "d", 4)
	long := impl.Node{Names: []string{"b", "d", "f"}, Kids: []int{1, 2}, Data: "x"}
	for _, c := range []struct {
		n    impl.Node
		name string
		k    int
		want impl.Node
	}{
		{n, "a", 4, folderOf("a", 4, "b", 1, "d", 2, "f", 3)},
		{n, "c", 4, folderOf("b", 1, "c", 4, "d", 2, "f", 3)},
		{n, "e", 4, folderOf("b", 1, "d", 2, "e", 4, "f", 3)},
		{n, "g", 4, folderOf("b", 1, "d", 2, "f", 3, "g", 4)},
		{n, "b", 4, folderOf("b", 4, "d", 2, "f", 3)},
		{n, "d", 4, folderOf("b", 1, "d", 4, "f", 3)},
		{n, "f", 4, folderOf("b", 1, "d", 2, "f", 4)},
		{n, "d", 2, n},
		{n, "d", 1, folderOf("b", 1, "d", 1, "f", 3)},
		{n, "bb", 4, folderOf("b", 1, "bb", 4, "d", 2, "f", 3)},
		{n, "", -7, folderOf("", -7, "b", 1, "d", 2, "f", 3)},
		{n, "B", math.MaxInt, folderOf("B", math.MaxInt, "b", 1, "d", 2, "f", 3)},
		{n, "\xff", math.MinInt, folderOf("b", 1, "d", 2, "f", 3, "\xff", math.MinInt)},
		{n, "c/long", 0, folderOf("b", 1, "c/long", 0, "d", 2, "f", 3)},
		{folderOf(), "a", 1, folderOf("a", 1)},
		// The first one goes, the other one stays, and the new one is not between those that were there.
		{twice, "b", 9, folderOf("a", 2, "b", 3, "b", 9, "d", 4)},
		{twice, "a", 9, folderOf("a", 9, "b", 1, "b", 3, "d", 4)},
		// Ahead of the first greater one, though a smaller one follows.
		{folderOf("d", 1, "a", 2), "b", 3, folderOf("b", 3, "d", 1, "a", 2)},
		{folderOf("a", 1, "z", 2, "b", 3), "c", 4, folderOf("a", 1, "c", 4, "z", 2, "b", 3)},
		{folderOf("z", 1, "a", 2), "z", 3, folderOf("a", 2, "z", 3)},
		// Dir and Data as they are, of as many names as numbers.
		{long, "c", 9, impl.Node{Names: []string{"b", "c", "d"}, Kids: []int{1, 9, 2}, Data: "x"}},
		{long, "e", 9, impl.Node{Names: []string{"b", "d", "e"}, Kids: []int{1, 2, 9}, Data: "x"}},
		{long, "f", 9, impl.Node{Names: []string{"b", "d", "f"}, Kids: []int{1, 2, 9}, Data: "x"}},
		{impl.Node{Dir: true, Kids: []int{1, 2}, Data: "y"}, "c", 9, impl.Node{Dir: true, Names: []string{"c"}, Kids: []int{9}, Data: "y"}},
		{impl.Node{Dir: true, Names: []string{"a", "z"}}, "c", 9, folderOf("c", 9)},
		{fileOf("x"), "c", 9, impl.Node{Names: []string{"c"}, Kids: []int{9}, Data: "x"}},
	} {
		wantNode(t, fmt.Sprintf("KidPut(%+v, %q, %d)", c.n, c.name, c.k), impl.KidPut(c.n, c.name, c.k), c.want)
	}
}

func TestKidDropKnown(t *testing.T) {
	n := folderOf("b", 1, "d", 2, "f", 3)
	for _, c := range []struct {
		n    impl.Node
		name string
		want impl.Node
	}{
		{n, "b", folderOf("d", 2, "f", 3)},
		{n, "d", folderOf("b", 1, "f", 3)},
		{n, "f", folderOf("b", 1, "d", 2)},
		{n, "a", n}, {n, "c", n}, {n, "g", n}, {n, "", n}, {n, "bb", n},
		{folderOf("b", 1), "b", folderOf()},
		{folderOf(), "b", folderOf()},
		{folderOf("b", 1, "a", 2, "b", 3), "b", folderOf("a", 2, "b", 3)},
		{folderOf("a", 1, "b", 2, "b", 3, "b", 4), "b", folderOf("a", 1, "b", 3, "b", 4)},
		{folderOf("", 0, "A", -1), "", folderOf("A", -1)},
		{impl.Node{Dir: true, Names: []string{"a", "b"}, Kids: []int{4}}, "b", folderOf("a", 4)},
		{impl.Node{Dir: true, Names: []string{"a", "b"}, Kids: []int{4}}, "a", folderOf()},
		{impl.Node{Dir: true, Names: []string{"a"}, Kids: []int{4, 5}}, "b", folderOf("a", 4)},
		{impl.Node{Dir: true, Names: []string{"a"}, Kids: []int{4, 5}}, "a", folderOf()},
		{impl.Node{Dir: true, Names: []string{"a", "b"}}, "c", folderOf()},
		{impl.Node{Dir: true, Kids: []int{4, 5}}, "c", folderOf()},
		{impl.Node{Dir: true, Names: []string{"a"}, Kids: []int{4}, Data: "x"}, "a", impl.Node{Dir: true, Data: "x"}},
		{impl.Node{Names: []string{"a"}, Kids: []int{4}, Data: "x"}, "a", fileOf("x")},
		{impl.Node{Names: []string{"a"}, Kids: []int{4}, Data: "x"}, "b", impl.Node{Names: []string{"a"}, Kids: []int{4}, Data: "x"}},
		{fileOf("x"), "x", fileOf("x")},
		{fileOf(someText(1000)), "a", fileOf(someText(1000))},
	} {
		wantNode(t, fmt.Sprintf("KidDrop(%+v, %q)", c.n, c.name), impl.KidDrop(c.n, c.name), c.want)
	}
}

// As the document's words have it, for nodes that are right and such that are not.
func TestKidsOfAllNodes(t *testing.T) {
	names := append(slices.Clone(rightNames), wrongNames...)
	for i, n := range allNodes() {
		asked := append([]string{names[i%len(names)], "a", "b", "c"}, n.Names[:min(len(n.Names), 12)]...)
		for _, name := range asked {
			if got, want := impl.Kid(n, name), plainKid(n, name); got != want {
				t.Errorf("Kid(%+v, %q) = %d, want %d", n, name, got, want)
			}
			k := i % 20
			wantNode(t, fmt.Sprintf("KidPut(%+v, %q, %d)", n, name, k), impl.KidPut(n, name, k), plainKidPut(n, name, k))
			wantNode(t, fmt.Sprintf("KidDrop(%+v, %q)", n, name), impl.KidDrop(n, name), plainKidDrop(n, name))
		}
	}
}

// What is put into a folder is its kid, and all others are what they were; with a number that no other one has it is right, and is read as it was.
func TestWhatIsPutIsAKid(t *testing.T) {
	right := 0
	for _, n := range rightNodes() {
		if !n.Dir {
			continue
		}
		for i, name := range rightNames {
			k := 1 + i%(impl.Nodes-1)
			put := impl.KidPut(n, name, k)
			if got := impl.Kid(put, name); got != k {
				t.Errorf("%+v: %q is %d, put was %d", n, name, got, k)
			}
			for _, other := range rightNames {
				if other != name && impl.Kid(put, other) != impl.Kid(n, other) {
					t.Errorf("%+v: %q put, %q turned", n, name, other)
				}
			}
			wantNode(t, "put and dropped", impl.KidDrop(put, name), impl.KidDrop(n, name))
			wantNode(t, "put twice", impl.KidPut(put, name, k), put)
			if slices.Contains(impl.KidDrop(n, name).Kids, k) {
				continue
			}
			right++
			if !impl.NodeOk(put) {
				t.Fatalf("not NodeOk: %+v", put)
			}
			wantNodeRead(t, impl.NodeText(put), put)
		}
	}
	if right < 1000 {
		t.Error("too few are right:", right)
	}
}

// What is dropped of a folder is no kid, and what is left is right.
func TestWhatIsDroppedIsNoKid(t *testing.T) {
	for _, n := range rightNodes() {
		for _, name := range append([]string{"none"}, rightNames...) {
			left := impl.KidDrop(n, name)
			if impl.Kid(left, name) != -1 || !impl.NodeOk(left) {
				t.Errorf("%+v without %q: %+v", n, name, left)
			}
			for _, other := range rightNames {
				if other != name && impl.Kid(left, other) != impl.Kid(n, other) {
					t.Errorf("%+v: %q dropped, %q turned", n, name, other)
				}
			}
			wantNodeRead(t, impl.NodeText(left), left)
		}
	}
}

// In whatever order kids are put, the folder is the same.
func TestKidsPutInAnyOrder(t *testing.T) {
	want := folderOf("a", 4, "aa", 1, "b", 3, "ba", 11, "z", 2)
	var put func(n impl.Node, left []int)
	put = func(n impl.Node, left []int) {
		if len(left) == 0 {
			wantNode(t, "put", n, want)
		}
		for i, at := range left {
			put(impl.KidPut(n, want.Names[at], want.Kids[at]), slices.Delete(slices.Clone(left), i, i+1))
		}
	}
	put(impl.Node{Dir: true}, []int{0, 1, 2, 3, 4})
}

// Nothing is kept from one call to another: what was asked before turns no answer.
func TestNodeAnswersStay(t *testing.T) {
	first, second := folderOf("a", 11, "b", 3), fileOf("hello")
	for range 3 {
		wantNodeRead(t, impl.NodeText(first), first)
		wantNoNode(t, impl.NodeText(folderOf("b", 1, "a", 2)))
		wantNodeRead(t, impl.NodeText(second), second)
		wantNode(t, "KidPut", impl.KidPut(first, "c", 1), folderOf("a", 11, "b", 3, "c", 1))
		wantNode(t, "KidDrop", impl.KidDrop(first, "a"), folderOf("b", 3))
	}
}

// roomyNode is n with marks in the spare room behind its lists.
func roomyNode(n impl.Node) impl.Node {
	names, kids := append(slices.Clone(n.Names), "mark", "mark", "mark"), append(slices.Clone(n.Kids), 77, 77, 77)
	return impl.Node{Dir: n.Dir, Names: names[:len(n.Names)], Kids: kids[:len(n.Kids)], Data: n.Data}
}

// wholeNode is n with its spare room.
func wholeNode(n impl.Node) impl.Node {
	return impl.Node{Dir: n.Dir, Names: n.Names[:cap(n.Names)], Kids: n.Kids[:cap(n.Kids)], Data: n.Data}
}

// scribbleNode writes over the lists of n and over their spare room.
func scribbleNode(n impl.Node) {
	scribbleTexts(n.Names)
	scribbleNumbers(n.Kids)
}

// nodeAnswers are the nodes that the functions of the layer answer; all of them are asked.
func nodeAnswers(n impl.Node) []impl.Node {
	impl.NodeOk(n)
	read, _ := impl.NodeRead(impl.NodeText(n))
	list := []impl.Node{read}
	for _, name := range append([]string{"", "a", "az", "none", "zzzzzz"}, n.Names[:min(len(n.Names), 3)]...) {
		impl.Kid(n, name)
		list = append(list, impl.KidDrop(n, name), impl.KidPut(n, name, 5))
	}
	return list
}

// Nothing is written into an argument, nor into the spare room behind it, and every answer is new memory.
func TestNodeArgumentsStayAndAnswersAreNew(t *testing.T) {
	for _, plain := range allNodes() {
		n := roomyNode(plain)
		before := cloneNode(wholeNode(n))
		first, second := nodeAnswers(n), nodeAnswers(n)
		wantNode(t, "argument", wholeNode(n), before)
		var want []impl.Node
		for _, m := range second {
			want = append(want, cloneNode(m))
		}
		for _, m := range first {
			scribbleNode(m)
		}
		wantNode(t, "argument behind a scribble", wholeNode(n), before)
		scribbleNode(n)
		for i, m := range second {
			wantNode(t, "second answer", m, want[i])
		}
	}
}
