package relay

import (
	"encoding/hex"
	"slices"
	"strings"
	"testing"

	"compact/api"
)

// letters are digests, one for each letter.
func letters(s string) []string {
	var ids []string
	for _, letter := range strings.Split(s, "") {
		ids = append(ids, twice(letter))
	}
	return ids
}

func wantRoot(t *testing.T, what string, ids []string, want string, wantTwins bool) {
	t.Helper()
	if root, twins, err := Root(ids); root != want || twins != wantTwins || err != api.OK {
		t.Errorf("P3: Root of %s = %x, %v, %d, want %x, %v", what, root, twins, err, want, wantTwins)
	}
}

// rootByHalves is the root, told from the top: of a tree of so many heights, of which what lacks on the right is doubled.
func rootByHalves(ids []string, heights int) string {
	if heights == 0 {
		return ids[0]
	}
	half := 1 << (heights - 1)
	if len(ids) <= half {
		left := rootByHalves(ids, heights-1)
		return twice(left + left)
	}
	return twice(rootByHalves(ids[:half], heights-1) + rootByHalves(ids[half:], heights-1))
}

// P3, example 5.
func TestRootOfTheDocument(t *testing.T) {
	a, b, c := twice("a"), twice("b"), twice("c")
	abc := twice(twice(a+b) + twice(c+c))
	wantRoot(t, "a, b, c", []string{a, b, c}, abc, false)
	wantRoot(t, "a, b, c, c", []string{a, b, c, c}, abc, true)
	wantRoot(t, "a, b, b, c", []string{a, b, b, c}, twice(twice(a+b)+twice(b+c)), false)
	wantRoot(t, "a, b, a, b", []string{a, b, a, b}, twice(twice(a+b)+twice(a+b)), true)
}

// P3: of one it is that one, whatever its bytes are.
func TestRootOfOne(t *testing.T) {
	for _, id := range []string{twice("a"), strings.Repeat("\x00", 32), strings.Repeat("\xff", 32), stepping(32)} {
		wantRoot(t, "one", []string{id}, id, false)
	}
}

// P3: even and odd numbers of them, at each height.
func TestRootOfMany(t *testing.T) {
	heights := 0
	for n := 1; n <= 70; n++ {
		if n > 1<<heights {
			heights++
		}
		var ids []string
		for i := range n {
			ids = append(ids, twice(stepping(i)))
		}
		wantRoot(t, "many", ids, rootByHalves(ids, heights), false)
	}
}

// P3: a root that the world knows: that of block 100000 of Bitcoin. (Its digests are shown with their last byte first.)
func TestRootOfAKnownBlock(t *testing.T) {
	shown := func(s string) string {
		b, err := hex.DecodeString(s)
		if err != nil {
			t.Fatal(err)
		}
		slices.Reverse(b)
		return string(b)
	}
	wantRoot(t, "block 100000", []string{
		shown("8c14f0db3df150123e6f3dbbf30f8b955a8249b62ac1d1ff16284aefa3d06d87"),
		shown("fff2525b8931402dd09222c50775608f75787bd2b87e56995a7bdd30f79702c4"),
		shown("6359f0868171b1d194cbee1af2f16ea598ae8fad666d9b012c8ed2b79a236ec4"),
		shown("e9a66845e05d5abc0ad04ec80f774a7e585c6e8db975962d069a522137b80c1d"),
	}, shown("f3e94742aca4b5ef85488dc37c06c3282295ffec960994b2c0d5ac2a25a95766"), false)
}

// P3: twins are told at any height, in any pair, and are not forgotten at a height above.
func TestRootTellsTwins(t *testing.T) {
	for _, s := range []string{
		"aa", "aab", "aabc", "abcc", "aabb", "abccd", "abcdee", "abcddd", "abccc", "abcdefgg", // at the lowest height
		"abab", "ababc", "ababcd", "abcdefef", "abcdefghijij", "ababcdef", // one above it
		"abcdabcd", "abcdabcde", "abcdefghijklijkl", "abcdefghabcdefgh", // and two, and three
	} {
		if root, twins, err := Root(letters(s)); root == "" || !twins || err != api.OK {
			t.Errorf("P3: Root of %s: %x, twins %v, %d", s, root, twins, err)
		}
	}
	for height := range 7 { // the right half of the whole tree is as the left one, and nothing else is the same
		var ids []string
		for i := range 1 << height {
			ids = append(ids, twice(stepping(i)))
		}
		ids = append(ids, ids...)
		wantRoot(t, "two halves", ids, rootByHalves(ids, height+1), true)
	}
}

// P3: the same ones that are not the two of a pair are no twins, nor is a last one that was doubled, at any height.
func TestRootTellsNoTwins(t *testing.T) {
	for _, s := range []string{
		"aba", "abb", "abba", "baab", "abca", "abcb", "abbc", "abbcca", "abcbad", "abcdeff", // in two pairs, or on the right alone
		"abcdab", "abcdcd", "cdababef", "abcdefghef", "abcdefghefgh", // above
		"a", "abc", "abcde", "abcdef", "abcdefg", "abcdefghi", "abcdefghij", "abcdefghijkl", // doubled
	} {
		if root, twins, err := Root(letters(s)); root == "" || twins || err != api.OK {
			t.Errorf("P3: Root of %s: %x, twins %v, %d", s, root, twins, err)
		}
	}
}

// P3: a digest is the same as another only if all its bytes are.
func TestRootComparesAllBytes(t *testing.T) {
	id := twice("a")
	for i := range id {
		other := id[:i] + string([]byte{id[i] ^ 1}) + id[i+1:]
		wantRoot(t, "two that differ in a byte", []string{id, other}, twice(id+other), false)
	}
}

// P3: a last one that stands twice has the root of the one that was doubled.
func TestRootOfADoubledLastOne(t *testing.T) {
	for odd, doubled := range map[string]string{"abc": "abcc", "abcde": "abcdee", "abcdef": "abcdefef", "abcdefghi": "abcdefghii"} {
		want, _, _ := Root(letters(odd))
		wantRoot(t, doubled, letters(doubled), want, true)
	}
}

// P3: ErrBound, if there is none, or one, wherever it stands, has not 32 bytes.
func TestRootOfWrongDigests(t *testing.T) {
	wrong := [][]string{nil, {}}
	for _, n := range []int{0, 1, 31, 33, 64} {
		for place := range 5 {
			ids := letters("abcde")
			ids[place] = strings.Repeat("x", n)
			wrong = append(wrong, ids, ids[:place+1], ids[place:])
		}
	}
	for _, ids := range wrong {
		if root, twins, err := Root(ids); root != "" || twins || err != api.ErrBound {
			t.Errorf("P3: Root(%q) = %x, %v, %d, want ErrBound", ids, root, twins, err)
		}
	}
	if _, twins, err := Root(append(letters("aa"), "")); twins || err != api.ErrBound {
		t.Errorf("P3: twins ahead of a wrong one: %v, %d", twins, err)
	}
}
