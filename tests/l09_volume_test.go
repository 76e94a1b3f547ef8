package tests

import (
	"fmt"
	"math"
	"slices"
	"strings"
	"testing"

	"loop.example/g00246/impl"
)

// Numbers that no node has; some are such in a byte as one that has.
var noNumbers = append([]int{impl.Nodes, impl.Nodes + 1, 2 * impl.Nodes, 24, 48, 100, 255, 256, 257, 1 << 32, 1<<32 + 1, -256, -1 << 32, 1 - 1<<32}, farNumbers...)

// Texts that are no node's, and are not empty.
var noNodes = []string{"x", " ", "D", "F", "=", "da", "da=", "da=0", "da=<", "db=1a=2", "da=1b=1", "d ", "d1", "\x00", "f" + strings.Repeat("x", impl.MaxData+1)}

// volumeOf has these texts from number 0 on; all others are empty.
func volumeOf(texts ...string) []string {
	return append(slices.Clone(texts), make([]string, impl.Nodes-len(texts))...)
}

// chain has a folder in each folder, so many within number 0, and that text in the last one.
func chain(many int, last string) []string {
	v := make([]string, impl.Nodes)
	for k := range many {
		v[k] = impl.NodeText(folderOf("a", k+1))
	}
	v[many] = last
	return v
}

// with has that text at number k.
func with(list []string, k int, text string) []string {
	out := slices.Clone(list)
	out[k] = text
	return out
}

// plainVolumeOk is VolumeOk by the document's words, one row of folders behind the other.
func plainVolumeOk(list []string) bool {
	if len(list) != 12 {
		return false
	}
	var met [12]int
	row := []int{0}
	for deep := 0; len(row) > 0; deep++ {
		var next []int
		for _, k := range row {
			n, ok := plainNodeRead(list[k])
			met[k]++
			if !ok || met[k] > 1 || deep > 4 || k == 0 && !n.Dir {
				return false
			}
			next = append(next, n.Kids...)
		}
		row = next
	}
	for k := range list {
		if met[k] == 0 && list[k] != "" {
			return false
		}
	}
	return true
}

// plainItems are the paths of all that is met in a right volume, but of number 0.
func plainItems(list []string, k int, ahead string) []string {
	n, _ := plainNodeRead(list[k])
	var paths []string
	for i, name := range n.Names {
		path := ahead + name
		paths = append(paths, path)
		paths = append(paths, plainItems(list, n.Kids[i], path+"/")...)
	}
	return paths
}

// dice draws numbers that are told apart by the seed alone.
func dice(seed int) func(n int) int {
	state := uint64(seed)*2654435761 + 99
	return func(n int) int {
		state = state*6364136223846793005 + 1442695040888963407
		return int(state>>33) % n
	}
}

// treeVolume has so many nodes beside number 0, at numbers in any order, none more than so many folders deep; which, is told by the seed.
func treeVolume(seed, many, deepest int) []string {
	draw := dice(seed)
	names := []string{"a", "b", "ab", "m", "zzzzzz", "c", "d", "e", "g", "h", "i", "j"}
	nodes := [impl.Nodes]impl.Node{0: {Dir: true}}
	var deep [impl.Nodes]int
	met := []int{0}
	for range many {
		k := 1 + draw(impl.Nodes-1)
		for slices.Contains(met, k) {
			k = 1 + k%(impl.Nodes-1)
		}
		in := met[draw(len(met))]
		// A folder that was met late is the likelier one, so trees are deep.
		for i := len(met) - 1; i >= 0 && draw(3) > 0; i-- {
			in = met[i]
		}
		if !nodes[in].Dir || deep[in] >= deepest {
			in = 0
		}
		nodes[in] = impl.KidPut(nodes[in], names[len(met)-1], k)
		deep[k] = deep[in] + 1
		met = append(met, k)
		if nodes[k].Dir = draw(3) > 0; !nodes[k].Dir {
			nodes[k].Data = someText(draw(impl.MaxData + 1))
		}
	}
	v := make([]string, impl.Nodes)
	for _, k := range met {
		v[k] = impl.NodeText(nodes[k])
	}
	return v
}

// mixedVolume is right or wrong, told apart by the seed alone; most of the wrong ones are nearly right.
func mixedVolume(seed int) []string {
	draw := dice(seed + 1<<20)
	v := treeVolume(seed, draw(impl.Nodes), 3+draw(3))
	for range draw(3) {
		k := draw(impl.Nodes)
		n, folder := impl.NodeRead(v[k])
		switch draw(7) {
		case 0:
			v[k] = ""
		case 1:
			v[k] = "f"
		case 2:
			v[k] = "d"
		case 3:
			v[k] = noNodes[draw(len(noNodes))]
		case 4, 5:
			if folder && n.Dir {
				v[k] = impl.NodeText(impl.KidPut(n, "k", 1+draw(impl.Nodes-1)))
			}
		case 6:
			if folder && len(n.Names) > 0 {
				v[k] = impl.NodeText(impl.KidDrop(n, n.Names[draw(len(n.Names))]))
			}
		}
	}
	if draw(12) == 0 {
		v = append(v, "")[:impl.Nodes-1+2*draw(2)]
	}
	return v
}

// rightVolumes are VolumeOk, those at the limits among them.
func rightVolumes() [][]string {
	all := [][]string{
		volumeOf("d"),
		volumeOf("da=1b=3", "dcd=2", "fhello", "f"),
		volumeOf("da=1", "d"), volumeOf("da=1", "f"), volumeOf("da=1", "fda=1"), volumeOf("da=1", "f"+someText(impl.MaxData)),
		volumeOf("da=2", "", "f"), with(volumeOf("da=;"), 11, "f"), with(volumeOf("da=;"), 11, "d"), with(volumeOf("da=;", "f", "db=1"), 11, "da=2"),
		// A number may lead to a smaller one, and two folders may have the same names.
		volumeOf("da=3", "f", "da=1", "da=2"), volumeOf("da=1b=2", "da=3b=4", "da=5b=6", "f", "f", "d", "d"),
		// Every number is met: from number 0, and in folders one in the other.
		volumeOf("da=1b=2c=3d=4e=5f=6g=7h=8i=9j=:k=;", "f", "d", "f", "d", "f", "d", "f", "d", "f", "d", "f"),
		volumeOf("da=1b=2c=3", "da=4b=5", "da=6b=7", "da=8", "f", "d", "f", "da=9", "da=:", "f", "da=;", "f"),
		volumeOf("da=1", "da=2", "da=3", "da=4b=5c=6d=7e=8f=9g=:h=;", "d", "f", "d", "f", "d", "f", "d", "f"),
	}
	for many := range impl.MaxSteps + 1 {
		all = append(all, chain(many, "d"))
		if many > 0 {
			all = append(all, chain(many, "f"), chain(many, "fhello"))
		}
	}
	for seed := range 600 {
		all = append(all, treeVolume(seed, seed%impl.Nodes, impl.MaxSteps))
	}
	return all
}

// wrongVolumes are not VolumeOk, most of them for one reason alone.
func wrongVolumes() [][]string {
	good := volumeOf("da=1b=3", "dcd=2", "fhello", "f")
	all := [][]string{
		nil, {}, {"d"}, {"d", ""}, {"da=1", "f"},
		// Number 0 is a file, is empty, or is no node.
		volumeOf("f"), volumeOf("fhello"), volumeOf("fda=1"), volumeOf("fda=1", "f"), volumeOf(), volumeOf("", "f"), volumeOf("", "d"), with(good, 0, ""), with(good, 0, "f"),
		// A number that is met is empty.
		volumeOf("da=1"), volumeOf("da=;"), volumeOf("da=1b=2", "", "f"), volumeOf("da=1b=2", "f"), with(good, 1, ""), with(good, 2, ""), with(good, 3, ""),
		// Met twice: from two folders, or from a folder that it leads back to.
		volumeOf("da=1b=2", "dc=2", "f"), volumeOf("da=1b=2", "dc=2", "d"), volumeOf("da=1b=2", "dc=3", "dc=3", "f"), volumeOf("da=1b=2", "f", "dc=1"), with(good, 1, "dcd=3"), with(good, 1, "dcd=2e=3"),
		volumeOf("da=1", "da=1"), volumeOf("da=1", "da=2", "da=1"), volumeOf("da=1", "da=2", "da=3", "da=1"), volumeOf("da=1", "da=2", "da=2"), volumeOf("da=1", "da=2", "da=3", "da=2"), volumeOf("da=1", "da=1b=2", "f"), volumeOf("da=1b=2", "f", "da=2"), volumeOf("da=1b=2", "d", "da=2"),
		volumeOf("da=1b=2c=3", "f", "f", "da=1"), volumeOf("da=1b=2c=3", "da=3", "f", "f"), volumeOf("da=1b=2", "dx=3", "dy=4", "dz=4", "f"),
		// A text at a number that is not met, also where such lead to each other, to themselves or into the tree.
		volumeOf("d", "f"), volumeOf("d", "d"), with(volumeOf("d"), 11, "f"), with(good, 4, "f"), with(good, 11, "d"), with(good, 5, "x"), with(good, 4, "da=3"), with(good, 4, "da=4"), with(with(good, 4, "da=5"), 5, "da=4"), with(with(good, 4, "da=5"), 5, "f"),
	}
	for _, text := range noNodes {
		all = append(all, volumeOf(text), with(good, 0, text), with(good, 1, text), with(good, 2, text), with(good, 3, text), with(good, 4, text), with(volumeOf("da=;"), 11, text))
	}
	// Too deep: a folder, a file, and what is within.
	for many := impl.MaxSteps + 1; many < impl.Nodes; many++ {
		all = append(all, chain(many, "d"), chain(many, "f"))
	}
	all = append(all, chain(impl.MaxSteps, "da=5"), chain(impl.MaxSteps, "x"), chain(impl.MaxSteps, ""), chain(impl.MaxSteps, "da=1"), chain(impl.MaxSteps, "da=4"))
	// One of two ways is too deep.
	all = append(all, volumeOf("da=1b=7", "da=2", "da=3", "da=4", "da=5", "f", "", "f"), volumeOf("da=7b=1", "da=2", "da=3", "da=4", "da=5", "f", "", "f"))
	for _, v := range rightVolumes() {
		all = append(all, v[1:], v[:impl.Nodes-1], append(slices.Clone(v), ""), append(slices.Clone(v), "f"), append([]string{"d"}, v...), append(slices.Clone(v), v...))
	}
	return all
}

// allVolumes are right ones, wrong ones, and many that are either.
func allVolumes() [][]string {
	all := append(rightVolumes(), wrongVolumes()...)
	for seed := range 3000 {
		all = append(all, mixedVolume(seed))
	}
	return all
}

func wantNodeAt(t *testing.T, list []string, k int, want impl.Node) {
	t.Helper()
	if got, ok := impl.NodeAt(list, k); !ok || !sameNode(got, want) {
		t.Errorf("NodeAt(%q, %d) = %+v, %v, want %+v, true", list, k, got, ok, want)
	}
}

func wantNoNodeAt(t *testing.T, list []string, k int) {
	t.Helper()
	if got, ok := impl.NodeAt(list, k); ok || !sameNode(got, impl.Node{}) {
		t.Errorf("NodeAt(%q, %d) = %+v, %v, want zero, false", list, k, got, ok)
	}
}

func wantFree(t *testing.T, list []string, want int) {
	t.Helper()
	if got := impl.FreeNode(list); got != want {
		t.Errorf("FreeNode(%q) = %d, want %d", list, got, want)
	}
}

func wantUsed(t *testing.T, list []string, want int) {
	t.Helper()
	if got := impl.Used(list); got != want {
		t.Errorf("Used(%q) = %d, want %d", list, got, want)
	}
}

func TestVolumeOkOfRightOnes(t *testing.T) {
	for _, v := range rightVolumes() {
		if !impl.VolumeOk(v) {
			t.Errorf("not VolumeOk: %q", v)
		}
	}
}

func TestVolumeOkOfWrongOnes(t *testing.T) {
	for _, v := range wrongVolumes() {
		if impl.VolumeOk(v) {
			t.Errorf("VolumeOk: %q", v)
		}
	}
}

// A folder may be MaxSteps folders deep, number 0 being the first of them, and a file too; nothing may be one deeper.
func TestVolumeOkHowDeep(t *testing.T) {
	for many := range impl.Nodes {
		for _, last := range []string{"d", "f", "fhello"} {
			want := many <= 4 && (many > 0 || last == "d")
			if got := impl.VolumeOk(chain(many, last)); got != want {
				t.Errorf("%q %d deep: VolumeOk is %v, want %v", last, many, got, want)
			}
		}
	}
	// The deepest folder that is right has nothing in it; the one that it is in may have more.
	if deepest := volumeOf("da=1", "db=2", "dc=3", "dd=4e=5f=6", "d", "f", "d"); !impl.VolumeOk(deepest) {
		t.Error("not VolumeOk: a/b/c/d, a/b/c/e, a/b/c/f")
	} else if impl.VolumeOk(with(with(deepest, 4, "dg=7"), 7, "f")) || impl.VolumeOk(with(with(deepest, 6, "dg=7"), 7, "d")) {
		t.Error("VolumeOk: a/b/c/d/g")
	}
}

// Where number 0 has no more than one kid, each number in turn is it.
func TestVolumeOkOfOneKid(t *testing.T) {
	for k := 1; k < impl.Nodes; k++ {
		for at := 1; at < impl.Nodes; at++ {
			for _, text := range []string{"f", "d", "fhello"} {
				v := with(volumeOf(impl.NodeText(folderOf("a", k))), at, text)
				if got := impl.VolumeOk(v); got != (k == at) {
					t.Errorf("VolumeOk(%q) = %v", v, got)
				}
			}
		}
	}
}

// All volumes that have one of these texts at numbers 0, 1, 2 and 3: as the document's words have it.
func TestVolumeOkOfAllSmallVolumes(t *testing.T) {
	texts := []string{"", "d", "f", "x", "da=1", "da=2", "da=3", "da=4", "da=1b=2", "da=2b=1", "da=2b=3", "da=1b=3", "da=1b=2c=3", "da=3b=2c=1"}
	right, wrong := 0, 0
	for i := range len(texts) * len(texts) * len(texts) * len(texts) {
		var some []string
		for left := i; len(some) < 4; left /= len(texts) {
			some = append(some, texts[left%len(texts)])
		}
		v := volumeOf(some...)
		want := plainVolumeOk(v)
		if got := impl.VolumeOk(v); got != want {
			t.Fatalf("VolumeOk(%q) = %v, want %v", v, got, want)
		}
		right, wrong = count(want, right, wrong)
	}
	if min(right, wrong) < 50 {
		t.Error("too few of one kind:", right, wrong)
	}
}

// As the document's words have it, for volumes that are nearly right.
func TestVolumesOfMixedTexts(t *testing.T) {
	right, wrong := 0, 0
	for seed := range 40000 {
		v := mixedVolume(seed)
		want := plainVolumeOk(v)
		if got := impl.VolumeOk(v); got != want {
			t.Fatalf("VolumeOk(%q) = %v, want %v", v, got, want)
		}
		right, wrong = count(want, right, wrong)
	}
	if min(right, wrong) < 10000 {
		t.Error("too few of one kind:", right, wrong)
	}
}

// A volume that is right has as many nodes as items and one more; each item has a path of its own, of at most MaxSteps names.
func TestRightVolumesHaveAsManyNodesAsItemsAndOneMore(t *testing.T) {
	most, full := 0, 0
	for _, v := range allVolumes() {
		if !impl.VolumeOk(v) {
			continue
		}
		paths := plainItems(v, 0, "")
		wantUsed(t, v, len(paths)+1)
		nodes := 0
		for k := range v {
			if _, ok := impl.NodeAt(v, k); ok {
				nodes++
			}
		}
		if nodes != len(paths)+1 {
			t.Errorf("%q: %d nodes, %d items", v, nodes, len(paths))
		}
		for _, path := range paths {
			most = max(most, strings.Count(path, "/")+1)
		}
		slices.Sort(paths)
		if len(slices.Compact(paths)) != nodes-1 {
			t.Errorf("%q: two of one path: %q", v, paths)
		}
		if nodes == impl.Nodes {
			full++
		}
	}
	if most != impl.MaxSteps || full < 20 {
		t.Error("deepest, full ones:", most, full)
	}
}

// A right volume is so no more when any of its texts is gone, or one is put where none is.
func TestVolumesOneTextFromRight(t *testing.T) {
	for _, v := range rightVolumes() {
		for k := range v {
			if v[k] != "" && impl.VolumeOk(with(v, k, "")) {
				t.Errorf("%q without %d is VolumeOk", v, k)
			}
			for _, text := range append([]string{"d", "f", "da=1"}, noNodes...) {
				if v[k] == "" && impl.VolumeOk(with(v, k, text)) {
					t.Errorf("%q with %q at %d is VolumeOk", v, text, k)
				}
			}
		}
	}
}

func TestVolumeNew(t *testing.T) {
	v := impl.VolumeNew()
	if want := []string{"d", "", "", "", "", "", "", "", "", "", "", ""}; !slices.Equal(v, want) {
		t.Errorf("VolumeNew() = %q", v)
	}
	if !impl.VolumeOk(v) {
		t.Error("a new volume is not right")
	}
	wantUsed(t, v, 1)
	wantFree(t, v, 1)
	wantNodeAt(t, v, 0, impl.Node{Dir: true})
	for k := 1; k < impl.Nodes; k++ {
		wantNoNodeAt(t, v, k)
	}
}

func TestVolumeNewIsNewEachTime(t *testing.T) {
	first, second := impl.VolumeNew(), impl.VolumeNew()
	scribbleTexts(first)
	for _, v := range [][]string{second, impl.VolumeNew()} {
		if !slices.Equal(v, volumeOf("d")) {
			t.Errorf("VolumeNew() = %q", v)
		}
	}
}

func TestNodeAtKnown(t *testing.T) {
	v := with(volumeOf("da=1b=3", "dcd=2", "fhello", "f", "", "x", "da=", "f"+strings.Repeat("x", 61)), 11, "fend")
	wantNodeAt(t, v, 0, folderOf("a", 1, "b", 3))
	wantNodeAt(t, v, 1, folderOf("cd", 2))
	wantNodeAt(t, v, 2, fileOf("hello"))
	wantNodeAt(t, v, 3, fileOf(""))
	wantNodeAt(t, v, 11, fileOf("end"))
	for k := 4; k < 11; k++ {
		wantNoNodeAt(t, v, k)
	}
	for _, k := range noNumbers {
		wantNoNodeAt(t, v, k)
	}
	// It need not be met, nor need the volume be right.
	wantNodeAt(t, with(volumeOf(), 9, "da=9"), 9, folderOf("a", 9))
	wantNodeAt(t, volumeOf("f"), 0, fileOf(""))
}

func TestNodeAtOfAnotherLength(t *testing.T) {
	for _, size := range []int{0, 1, 2, impl.Nodes - 1, impl.Nodes + 1, 2 * impl.Nodes, 1000} {
		list := slices.Repeat([]string{"fhello"}, size)
		for _, k := range append([]int{0, 1, impl.Nodes - 2, impl.Nodes - 1, size - 1, size}, noNumbers...) {
			wantNoNodeAt(t, list, k)
		}
	}
	wantNoNodeAt(t, nil, 0)
}

// It is NodeRead of that number.
func TestNodeAtOfAllVolumes(t *testing.T) {
	for _, v := range allVolumes() {
		for k := -1; k <= len(v); k++ {
			if len(v) != 12 || k < 0 || k > 11 {
				wantNoNodeAt(t, v, k)
				continue
			}
			want, fine := plainNodeRead(v[k])
			if got, ok := impl.NodeAt(v, k); ok != fine || !sameNode(got, want) {
				t.Errorf("NodeAt(%q, %d) = %+v, %v, want %+v, %v", v, k, got, ok, want, fine)
			}
		}
	}
}

func TestFreeNodeKnown(t *testing.T) {
	full := slices.Repeat([]string{"f"}, impl.Nodes)
	wantFree(t, full, -1)
	wantFree(t, with(full, 0, ""), -1)
	wantFree(t, volumeOf(), 1)
	wantFree(t, volumeOf("d"), 1)
	wantFree(t, volumeOf("da=1b=3", "dcd=2", "fhello", "f"), 4)
	for k := 1; k < impl.Nodes; k++ {
		wantFree(t, with(full, k, ""), k)
		wantFree(t, with(with(full, 0, ""), k, ""), k)
		wantFree(t, with(with(full, 11, ""), k, ""), k)
	}
	// What is no node is not empty either.
	wantFree(t, volumeOf("x", " ", "\x00", "da="), 4)
	wantFree(t, slices.Repeat([]string{"x"}, impl.Nodes), -1)
}

func TestFreeNodeOfAnotherLength(t *testing.T) {
	wantFree(t, nil, -1)
	for _, size := range []int{0, 1, 2, impl.Nodes - 1, impl.Nodes + 1, 2 * impl.Nodes, 1000} {
		wantFree(t, make([]string, size), -1)
		wantFree(t, slices.Repeat([]string{"f"}, size), -1)
	}
}

// What is free has no node, and is used when a text is put there.
func TestFreeNodeOfAllVolumes(t *testing.T) {
	for _, v := range allVolumes() {
		want := -1
		for k := len(v) - 1; k > 0 && len(v) == 12; k-- {
			if v[k] == "" {
				want = k
			}
		}
		wantFree(t, v, want)
		if want > 0 {
			wantNoNodeAt(t, v, want)
			wantUsed(t, with(v, want, "f"), impl.Used(v)+1)
		}
	}
}

// They are filled from 1 on, one behind the other.
func TestFreeNodesFillAVolume(t *testing.T) {
	v := impl.VolumeNew()
	for k := 1; k < impl.Nodes; k++ {
		wantFree(t, v, k)
		wantUsed(t, v, k)
		root, _ := impl.NodeAt(v, 0)
		v[0] = impl.NodeText(impl.KidPut(root, string(rune('a'+(k*5)%26)), k))
		if impl.VolumeOk(v) {
			t.Errorf("%q: VolumeOk without %d", v, k)
		}
		v[k] = impl.NodeText(impl.Node{Dir: k%2 == 0})
		if !impl.VolumeOk(v) {
			t.Errorf("%q: not VolumeOk with %d", v, k)
		}
	}
	wantFree(t, v, -1)
	wantUsed(t, v, impl.Nodes)
}

// Of lists of any length.
func TestUsed(t *testing.T) {
	wantUsed(t, nil, 0)
	wantUsed(t, []string{}, 0)
	wantUsed(t, []string{""}, 0)
	wantUsed(t, []string{"x"}, 1)
	wantUsed(t, []string{"", "", "\x00", "", " "}, 2)
	wantUsed(t, volumeOf(), 0)
	wantUsed(t, volumeOf("da=1b=3", "dcd=2", "fhello", "f"), 4)
	for size := range 40 {
		wantUsed(t, make([]string, size), 0)
		wantUsed(t, slices.Repeat([]string{"f"}, size), size)
		wantUsed(t, slices.Repeat([]string{"", "x", "d"}, size), 2*size)
	}
	wantUsed(t, append(make([]string, 100000), "x"), 1)
	for _, v := range allVolumes() {
		wantUsed(t, v, len(v)-len(slices.DeleteFunc(slices.Clone(v), func(s string) bool { return s != "" })))
	}
}

// Long lists and long texts end too.
func TestVolumesOfLongLists(t *testing.T) {
	for _, list := range [][]string{slices.Repeat([]string{"da=1"}, 100000), volumeOf("d" + strings.Repeat("a=1", 100000)), volumeOf("da=1", "f"+strings.Repeat("x", 100000))} {
		if impl.VolumeOk(list) {
			t.Errorf("VolumeOk: %.20q", list[0])
		}
	}
}

// volumeAnswers are what the functions of the layer tell of list, each as a text.
func volumeAnswers(list []string) []string {
	all := []string{fmt.Sprint(impl.VolumeOk(list)), fmt.Sprint(impl.FreeNode(list)), fmt.Sprint(impl.Used(list))}
	for _, k := range []int{-1, 0, 1, 2, impl.Nodes - 1, impl.Nodes, math.MinInt, math.MaxInt} {
		n, ok := impl.NodeAt(list, k)
		all = append(all, fmt.Sprintf("%+v %v", n, ok))
	}
	return all
}

// roomyTexts is list with these texts in the spare room behind it.
func roomyTexts(list []string, behind ...string) []string {
	return append(slices.Clone(list), behind...)[:len(list)]
}

// Nothing is written into a list, nor into the spare room behind it, and what stands there is not of the list.
func TestVolumeListsStay(t *testing.T) {
	for _, plain := range allVolumes() {
		want := volumeAnswers(plain)
		for _, behind := range [][]string{{"mark", "mark"}, {"", "f"}, {"f", "d", "da=1"}} {
			list := roomyTexts(plain, behind...)
			got := volumeAnswers(list)
			if !slices.Equal(got, want) {
				t.Errorf("%q with room: %q, want %q", plain, got, want)
			}
			if !slices.Equal(list[:len(plain)+len(behind)], append(slices.Clone(plain), behind...)) {
				t.Errorf("%q was written into: %q", plain, list[:len(plain)+len(behind)])
			}
		}
	}
}

// A node that was told is new memory: neither another answer nor the list turns with it.
func TestNodeAtIsNew(t *testing.T) {
	for _, plain := range rightVolumes() {
		list := slices.Clone(plain)
		for k := range list {
			first, ok := impl.NodeAt(list, k)
			if !ok {
				continue
			}
			second, _ := impl.NodeAt(list, k)
			want := cloneNode(second)
			scribbleNode(first)
			wantNode(t, "second answer", second, want)
			wantNodeAt(t, list, k, want)
			if !slices.Equal(list, plain) {
				t.Errorf("%q was written into: %q", plain, list)
			}
		}
	}
}

// Nothing is kept from one call to another, and what is told does not hang on the order in which what was met is gone through.
func TestVolumeAnswersStay(t *testing.T) {
	var want [][]string
	lists := allVolumes()[:1200]
	for _, v := range lists {
		want = append(want, volumeAnswers(v))
	}
	for range 5 {
		for i, v := range lists {
			if got := volumeAnswers(v); !slices.Equal(got, want[i]) {
				t.Errorf("%q: %q, and %q before", v, got, want[i])
			}
		}
	}
}
