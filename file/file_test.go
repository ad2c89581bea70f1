package file_test

import (
	"bytes"
	"math"
	"slices"
	"testing"

	"pantry/api"
	"pantry/file"
)

const (
	size     = api.PageSize
	maxPages = 4096
	maxFiles = 16
)

// far has numbers that are nowhere near any file, page or number of pages.
func far() []int {
	return []int{-2, -maxPages, 1 << 16, 1 << 32, 1<<32 + 1, -1 << 32, 1 - 1<<32, math.MinInt, math.MinInt + 1, math.MaxInt, math.MaxInt - 1}
}

// noFile has numbers of which there is no file, where there are so many.
func noFile(files int) []int { return append(far(), -1, 0, files+1, files+2, files+maxFiles) }

// noPage has numbers of which a file of so many pages has none.
func noPage(pages int) []int { return append(far(), -1, pages, pages+1, pages+maxPages) }

// noSize has numbers of pages that no file may have.
func noSize() []int { return append(far(), -1, maxPages+1, maxPages+2, 2*maxPages) }

// noBytes has lengths that are not a page's.
func noBytes() []int { return []int{0, 1, size / 2, size - 1, size + 1, 2 * size, 16 * size} }

// pattern is a page that has no nought, and is another one for each seed from 0 to 254.
func pattern(seed int) []byte { return long(seed, size) }

// long is as a pattern, but has so many bytes.
func long(seed, n int) []byte {
	p := make([]byte, n)
	for i := range p {
		p[i] = byte(1 + (i*7+i/256*13+seed)%255)
	}
	return p
}

// noughts is a page of noughts.
func noughts() []byte { return make([]byte, size) }

// blank are so many pages of noughts.
func blank(n int) [][]byte {
	pages := make([][]byte, n)
	for i := range pages {
		pages[i] = noughts()
	}
	return pages
}

// made is a store with files of so many pages.
func made(t *testing.T, sizes ...int) *file.Store {
	t.Helper()
	s := file.New()
	for i, n := range sizes {
		makes(t, "made", s, n, i+1, api.OK)
	}
	return s
}

// filled is a store with files of so many pages, none of noughts and no two alike, and what it has.
func filled(t *testing.T, sizes ...int) (*file.Store, [][][]byte) {
	t.Helper()
	s, files := made(t, sizes...), make([][][]byte, len(sizes))
	seed := 0
	for i, n := range sizes {
		files[i] = blank(n)
		for page := range n {
			files[i][page] = pattern(seed)
			writes(t, "filled", s, i+1, page, pattern(seed), api.OK)
			seed++
		}
	}
	return s, files
}

// makes asks Make for its answer.
func makes(t *testing.T, what string, s *file.Store, pages, id int, want api.Errno) {
	t.Helper()
	if got, err := s.Make(pages); got != id || err != want {
		t.Fatalf("%s: Make(%d): %d, %v, want %d, %v", what, pages, got, err, id, want)
	}
}

// resizes asks Resize for its answer.
func resizes(t *testing.T, what string, s *file.Store, id, pages int, want api.Errno) {
	t.Helper()
	if err := s.Resize(id, pages); err != want {
		t.Fatalf("%s: Resize(%d, %d): %v, want %v", what, id, pages, err, want)
	}
}

// writes asks Write for its answer.
func writes(t *testing.T, what string, s *file.Store, id, page int, b []byte, want api.Errno) {
	t.Helper()
	if err := s.Write(id, page, b); err != want {
		t.Fatalf("%s: Write(%d, %d) of %d bytes: %v, want %v", what, id, page, len(b), err, want)
	}
}

// reads asks Read for a page; beside an error for none.
func reads(t *testing.T, what string, s *file.Store, id, page int, b []byte, want api.Errno) {
	t.Helper()
	got, err := s.Read(id, page)
	if err != want {
		t.Fatalf("%s: Read(%d, %d): %v, want %v", what, id, page, err, want)
	}
	if err != api.OK && len(got) != 0 {
		t.Fatalf("%s: Read(%d, %d): %v, and %d bytes", what, id, page, err, len(got))
	}
	if err == api.OK && !bytes.Equal(got, b) {
		t.Fatalf("%s: Read(%d, %d): other bytes, or not so many: %d, want %d", what, id, page, len(got), len(b))
	}
}

// plans asks Plan for its answer.
func plans(t *testing.T, what string, s *file.Store, n int, want api.Errno) {
	t.Helper()
	if err := s.Plan(n); err != want {
		t.Fatalf("%s: Plan(%d): %v, want %v", what, n, err, want)
	}
}

// holds asks by Ids, Size and Peek whether the store has these files, and nothing more.
func holds(t *testing.T, what string, s *file.Store, files [][][]byte) {
	t.Helper()
	want := make([]int, len(files))
	for i := range want {
		want[i] = i + 1
	}
	if ids := s.Ids(); !slices.Equal(ids, want) {
		t.Fatalf("%s: Ids: %v, want %v", what, ids, want)
	}
	for i, pages := range files {
		if n, ok := s.Size(i + 1); n != len(pages) || !ok {
			t.Fatalf("%s: Size(%d): %d, %v, want %d, true", what, i+1, n, ok, len(pages))
		}
		for page, b := range pages {
			if p := s.Peek(i+1, page); !bytes.Equal(p, b) {
				t.Fatalf("%s: Peek(%d, %d): other bytes, or not so many: %d", what, i+1, page, len(p))
			}
		}
		for _, page := range noPage(len(pages)) {
			if p := s.Peek(i+1, page); len(p) != 0 {
				t.Fatalf("%s: Peek(%d, %d): %d bytes, want none", what, i+1, page, len(p))
			}
		}
	}
	for _, id := range noFile(len(files)) {
		if n, ok := s.Size(id); n != 0 || ok {
			t.Fatalf("%s: Size(%d): %d, %v, want 0, false", what, id, n, ok)
		}
		if p := s.Peek(id, 0); len(p) != 0 {
			t.Fatalf("%s: Peek(%d, 0): %d bytes, want none", what, id, len(p))
		}
	}
}

func TestNew(t *testing.T) { // P10.1
	s := file.New()
	if s == nil {
		t.Fatal("New: nil")
	}
	holds(t, "New", s, nil)
	plans(t, "New", s, 1, api.OK)
	for _, id := range noFile(0) {
		resizes(t, "New", s, id, 1, api.ErrNone)
		reads(t, "New", s, id, 0, nil, api.ErrNone)
		writes(t, "New", s, id, 0, pattern(1), api.ErrNone)
	}
	holds(t, "New", s, nil)
}

func TestNewIsApart(t *testing.T) { // P10.1
	a, files := filled(t, 3)
	b := made(t, 3)
	holds(t, "the second store", b, [][][]byte{blank(3)})
	plans(t, "the first store", a, 1, api.OK)
	writes(t, "the second store", b, 1, 1, pattern(99), api.OK)
	resizes(t, "the second store", b, 1, 2, api.OK)
	makes(t, "the second store", b, 5, 2, api.OK)
	holds(t, "the first store", a, files)
	writes(t, "the first store", a, 1, 1, pattern(99), api.ErrIO)
}

func TestMake(t *testing.T) { // P10.1
	s := file.New()
	var files [][][]byte
	for i, n := range []int{0, 1, maxPages, 2, 0, maxPages - 1, 3} {
		makes(t, "Make", s, n, i+1, api.OK)
		files = append(files, blank(n))
		holds(t, "Make", s, files)
	}
	for i, pages := range files {
		if n := len(pages); n > 0 {
			reads(t, "the first page", s, i+1, 0, noughts(), api.OK)
			reads(t, "the last page", s, i+1, n-1, noughts(), api.OK)
			writes(t, "the last page", s, i+1, n-1, pattern(i), api.OK)
			pages[n-1] = pattern(i)
		}
		reads(t, "one page more", s, i+1, len(pages), nil, api.ErrInval)
	}
	holds(t, "written", s, files)
}

func TestMakeOfPagesThatMayNotBe(t *testing.T) { // P10.1
	s, files := filled(t, 2)
	for _, n := range noSize() {
		makes(t, "may not be", s, n, 0, api.ErrInval)
		holds(t, "may not be", s, files)
	}
	makes(t, "behind ErrInval", s, 1, 2, api.OK)
	holds(t, "behind ErrInval", s, append(files, blank(1)))
}

func TestMakeOfMoreThanMayBe(t *testing.T) { // P10.1, R2
	s, files := filled(t, 1, 2, 0, 1, 1, 1, 1, 1, 1, 1, 1, 1, 1, 1, 1)
	makes(t, "the last one", s, 1, maxFiles, api.OK)
	files = append(files, blank(1))
	for range 2 {
		for _, n := range []int{0, 1, maxPages} {
			makes(t, "one too many", s, n, 0, api.ErrNoMem)
		}
		for _, n := range noSize() {
			makes(t, "one too many, and no number of pages", s, n, 0, api.ErrInval)
		}
	}
	holds(t, "one too many", s, files)
	for id := 1; id <= maxFiles; id++ {
		resizes(t, "no pages", s, id, 0, api.OK)
		files[id-1] = nil
	}
	makes(t, "files without pages are files", s, 0, 0, api.ErrNoMem)
	holds(t, "no pages", s, files)
}

func TestIdsAreNewMemory(t *testing.T) { // P10.1, R3
	s, files := filled(t, 1, 0, 2)
	first, second := s.Ids(), s.Ids()
	for i := range first {
		first[i] = 77
	}
	_ = append(first[:1], 78, 79)
	if !slices.Equal(second, []int{1, 2, 3}) {
		t.Errorf("a change of Ids' answer changed another one: %v", second)
	}
	holds(t, "behind a change of Ids' answer", s, files)
	makes(t, "one more", s, 1, 4, api.OK)
	if !slices.Equal(second, []int{1, 2, 3}) {
		t.Errorf("Make changed an older answer: %v", second)
	}
	for _, id := range second[len(second):cap(second)] {
		if id != 0 {
			t.Errorf("spare room of Ids has %d", id)
		}
	}
}

func TestResize(t *testing.T) { // P10.2
	for _, from := range []int{0, 1, 2, 5} {
		for _, to := range []int{0, 1, 2, 3, 5, 6, 40} {
			s, files := filled(t, 2, from, 3)
			resizes(t, "Resize", s, 2, to, api.OK)
			pages := blank(to)
			copy(pages, files[1])
			files[1] = pages
			holds(t, "Resize", s, files)
			for page, b := range pages {
				reads(t, "Resize", s, 2, page, b, api.OK)
			}
			reads(t, "one page more", s, 2, to, nil, api.ErrInval)
			writes(t, "one page more", s, 2, to, pattern(1), api.ErrInval)
			resizes(t, "the same", s, 2, to, api.OK)
			holds(t, "the same", s, files)
		}
	}
}

func TestResizeToTheMost(t *testing.T) { // P10.2
	s, files := filled(t, 2, 2)
	for _, n := range []int{maxPages, maxPages - 1, 2, maxPages, 0, maxPages} {
		resizes(t, "the most", s, 2, n, api.OK)
		pages := blank(n)
		copy(pages, files[1])
		files[1] = pages
		holds(t, "the most", s, files)
		if n > 0 {
			writes(t, "the last page", s, 2, n-1, pattern(9), api.OK)
			pages[n-1] = pattern(9)
		}
		reads(t, "one page more", s, 2, n, nil, api.ErrInval)
	}
	holds(t, "the most", s, files)
}

func TestResizeThatMayNotBe(t *testing.T) { // P10.2, R2
	s, files := filled(t, 2, 0, 3)
	for _, n := range noSize() {
		for id := 1; id <= 3; id++ {
			resizes(t, "may not be", s, id, n, api.ErrInval)
		}
		for _, id := range noFile(3) {
			resizes(t, "no file, and may not be", s, id, n, api.ErrNone)
		}
	}
	for _, id := range noFile(3) {
		for _, n := range []int{0, 1, 2, maxPages} {
			resizes(t, "no file", s, id, n, api.ErrNone)
		}
	}
	holds(t, "may not be", s, files)
	makes(t, "Resize makes no file", s, 1, 4, api.OK)
}

func TestCutPagesComeAgainWithNoughts(t *testing.T) { // P10.3
	const n = 6
	for cut := range n + 1 {
		for _, again := range []int{cut, cut + 1, n, n + 2} {
			s, files := filled(t, 3, n, 2)
			resizes(t, "cut", s, 2, cut, api.OK)
			resizes(t, "again", s, 2, max(again, cut), api.OK)
			pages := blank(max(again, cut))
			copy(pages, files[1][:cut])
			files[1] = pages
			holds(t, "again", s, files)
			for page, b := range pages {
				reads(t, "again", s, 2, page, b, api.OK)
			}
			for page := cut; page < len(pages); page++ {
				writes(t, "written again", s, 2, page, pattern(80+page), api.OK)
				pages[page] = pattern(80 + page)
			}
			holds(t, "written again", s, files)
		}
	}
}

func TestCutStepByStep(t *testing.T) { // P10.3
	s, files := filled(t, 5, 5)
	for n := 4; n >= 0; n-- {
		resizes(t, "down", s, 1, n, api.OK)
		files[0] = files[0][:n]
		holds(t, "down", s, files)
	}
	for n := 1; n <= 5; n++ {
		resizes(t, "up", s, 1, n, api.OK)
		files[0] = blank(n)
		holds(t, "up", s, files)
	}
}

func TestChaptersExample(t *testing.T) { // P10.3
	s := file.New()
	makes(t, "the example", s, 2, 1, api.OK)
	writes(t, "the example", s, 1, 1, pattern(1), api.OK)
	resizes(t, "the example", s, 1, 1, api.OK)
	resizes(t, "the example", s, 1, 2, api.OK)
	reads(t, "the example", s, 1, 1, noughts(), api.OK)
}

func TestFilesAreApart(t *testing.T) { // P10.3
	sizes := slices.Repeat([]int{5}, maxFiles)
	for id := 1; id <= maxFiles; id++ {
		s, files := filled(t, sizes...)
		writes(t, "one page", s, id, 2, pattern(200), api.OK)
		files[id-1][2] = pattern(200)
		holds(t, "one page", s, files)
		writes(t, "noughts", s, id, 3, noughts(), api.OK)
		files[id-1][3] = noughts()
		holds(t, "noughts", s, files)
		resizes(t, "fewer", s, id, 1, api.OK)
		files[id-1] = files[id-1][:1]
		holds(t, "fewer", s, files)
		resizes(t, "more", s, id, 7, api.OK)
		files[id-1] = append(files[id-1][:1:1], blank(6)...)
		holds(t, "more", s, files)
	}
}

func TestWrite(t *testing.T) { // P10.2
	s, files := filled(t, 1, 0, 2, 40)
	holds(t, "each page its own bytes", s, files)
	for i, pages := range files {
		for page, b := range pages {
			reads(t, "each page its own bytes", s, i+1, page, b, api.OK)
		}
	}
	for i, pages := range files {
		for page := range pages {
			writes(t, "one page", s, i+1, page, pattern(100), api.OK)
			pages[page] = pattern(100)
			holds(t, "one page", s, files)
		}
	}
}

func TestWhatWasWrittenTwice(t *testing.T) { // P10.2
	s := made(t, 1, 2)
	for _, b := range [][]byte{pattern(1), pattern(2), noughts(), pattern(2), pattern(2), noughts(), noughts(), pattern(3)} {
		writes(t, "again", s, 2, 1, b, api.OK)
		reads(t, "again", s, 2, 1, b, api.OK)
		holds(t, "again", s, [][][]byte{blank(1), {noughts(), b}})
	}
}

func TestWriteOfEachByte(t *testing.T) { // P10.2
	s := made(t, 1)
	for _, at := range []int{0, 1, size/2 - 1, size / 2, size - 2, size - 1} {
		for _, b := range []byte{1, 127, 128, 255} {
			page := noughts()
			page[at] = b
			writes(t, "one byte", s, 1, 0, page, api.OK)
			reads(t, "one byte", s, 1, 0, page, api.OK)
			writes(t, "noughts", s, 1, 0, noughts(), api.OK)
			reads(t, "noughts", s, 1, 0, noughts(), api.OK)
		}
	}
}

func TestNoSuchPage(t *testing.T) { // P10.2, R2
	s, files := filled(t, 3, 0, 1)
	for i, pages := range files {
		for _, page := range noPage(len(pages)) {
			reads(t, "no page", s, i+1, page, nil, api.ErrInval)
			writes(t, "no page", s, i+1, page, pattern(99), api.ErrInval)
			writes(t, "no page, no bytes", s, i+1, page, nil, api.ErrInval)
		}
	}
	for _, id := range noFile(3) {
		for _, page := range []int{0, -1, 1, maxPages} {
			reads(t, "no file", s, id, page, nil, api.ErrNone)
			writes(t, "no file", s, id, page, pattern(99), api.ErrNone)
			writes(t, "no file, no bytes", s, id, page, nil, api.ErrNone)
		}
	}
	holds(t, "no page", s, files)
	resizes(t, "the page that was missed", s, 1, 4, api.OK)
	reads(t, "the page that was missed", s, 1, 3, noughts(), api.OK)
}

func TestBytesThatAreNoPage(t *testing.T) { // P10.2
	s, files := filled(t, 3, 1)
	for _, page := range []int{0, 1, 2} {
		writes(t, "nil", s, 1, page, nil, api.ErrInval)
		for _, n := range noBytes() {
			writes(t, "no page", s, 1, page, long(99, n), api.ErrInval)
			writes(t, "no page", s, 1, page, make([]byte, n), api.ErrInval)
		}
		// The room behind a list's end makes no page of it.
		writes(t, "room for a page", s, 1, page, pattern(99)[:size-1], api.ErrInval)
		writes(t, "room for a page", s, 1, page, pattern(99)[:0], api.ErrInval)
	}
	holds(t, "no page", s, files)
	blanks := made(t, 2)
	writes(t, "no page", blanks, 1, 0, long(99, size+1), api.ErrInval)
	holds(t, "no page", blanks, [][][]byte{blank(2)})
}

func TestWriteTakesACopy(t *testing.T) { // P10.2, R3
	s := made(t, 2)
	b := pattern(1)
	writes(t, "handed in", s, 1, 0, b, api.OK)
	clear(b)
	holds(t, "behind a change of what was handed in", s, [][][]byte{{pattern(1), noughts()}})
	b = pattern(2)
	writes(t, "handed in twice", s, 1, 0, b, api.OK)
	writes(t, "handed in twice", s, 1, 1, b, api.OK)
	b[7] = 0
	holds(t, "behind a change of what was handed in twice", s, [][][]byte{{pattern(2), pattern(2)}})
	got, _ := s.Read(1, 0)
	writes(t, "what was told", s, 1, 1, got, api.OK)
	clear(got)
	holds(t, "behind a change of what was told", s, [][][]byte{{pattern(2), pattern(2)}})
	b = noughts()
	writes(t, "noughts", s, 1, 0, b, api.OK)
	b[0] = 9
	holds(t, "behind a change of noughts", s, [][][]byte{{noughts(), pattern(2)}})
}

func TestWriteLeavesItsArgument(t *testing.T) { // P10.2, R3
	s := made(t, 1)
	for _, n := range []int{0, size - 1, size, size + 1} {
		room := long(4, 2*size)
		s.Write(1, 0, room[:n])
		s.Read(1, 0)
		s.Write(1, 0, pattern(9))
		s.Write(1, 0, noughts())
		s.Resize(1, 0)
		s.Resize(1, 1)
		if !bytes.Equal(room, long(4, 2*size)) {
			t.Errorf("Write of %d bytes changed them, or the room behind", n)
		}
	}
}

func TestAnswersAreNewMemory(t *testing.T) { // P10.2, R3
	for _, want := range [][]byte{noughts(), pattern(1)} {
		s := made(t, 2)
		writes(t, "first", s, 1, 0, want, api.OK)
		read, _ := s.Read(1, 0)
		again, _ := s.Read(1, 0)
		peek, peek2 := s.Peek(1, 0), s.Peek(1, 0)
		for _, p := range [][]byte{read, peek} {
			for i := range p[:cap(p)] {
				p[:cap(p)][i] = 0xee
			}
			_ = append(p, 77)
		}
		if !bytes.Equal(again, want) || !bytes.Equal(peek2, want) {
			t.Errorf("a change of one answer changed another one")
		}
		holds(t, "behind a change of answers", s, [][][]byte{{want, noughts()}})
		reads(t, "behind a change of answers", s, 1, 0, want, api.OK)
		reads(t, "behind a change of answers", s, 1, 1, noughts(), api.OK)
		writes(t, "behind answers", s, 1, 0, pattern(5), api.OK)
		resizes(t, "behind answers", s, 1, 0, api.OK)
		if !bytes.Equal(again, want) || !bytes.Equal(peek2, want) {
			t.Errorf("a Write or a Resize changed an older answer")
		}
	}
}

func TestSpareRoomHasNothing(t *testing.T) { // R3
	s, _ := filled(t, 3)
	read, _ := s.Read(1, 1)
	for _, p := range [][]byte{read, s.Peek(1, 1)} {
		for _, b := range p[len(p):cap(p)] {
			if b != 0 {
				t.Fatalf("spare room of a page has %d", b)
			}
		}
	}
}

func TestPeek(t *testing.T) { // P10.2
	s, files := filled(t, 3, 0, 1)
	plans(t, "Peek beside a plan", s, 2, api.OK)
	for range 3 {
		holds(t, "Peek beside a plan", s, files)
	}
	reads(t, "Peek leaves the plan", s, 1, 0, files[0][0], api.OK)
	holds(t, "Peek of what is planned", s, files)
	reads(t, "Peek leaves the plan", s, 1, 0, nil, api.ErrIO)
	holds(t, "Peek behind ErrIO", s, files)
	reads(t, "no plan is left", s, 1, 0, files[0][0], api.OK)
}

// calls does so many Reads and Writes, of other files and pages each time, of which the n-th is ErrIO, and no other one.
func calls(t *testing.T, what string, s *file.Store, files [][][]byte, times, n int) {
	t.Helper()
	for i := range times {
		want := api.OK
		if i+1 == n {
			want = api.ErrIO
		}
		at := i % len(files)
		page := i / 2 % len(files[at])
		b := pattern(i + 100)
		switch {
		case i%5 < 2:
			reads(t, what, s, at+1, page, files[at][page], want)
			continue
		case i%5 == 3:
			b = noughts()
		}
		writes(t, what, s, at+1, page, b, want)
		if want == api.OK {
			files[at][page] = b
		}
	}
	holds(t, what, s, files)
}

func TestPlan(t *testing.T) { // P10.2
	for _, n := range []int{0, 1, 2, 3, 4, 5, 10, 19, 20, 21, 1 << 32, 1<<32 + 1, math.MaxInt - 1, math.MaxInt} {
		s, files := filled(t, 2, 1, 3)
		plans(t, "a plan", s, n, api.OK)
		calls(t, "a plan", s, files, 20, n)
		if n <= 20 {
			calls(t, "a plan that has ended", s, files, 20, 0)
		} else if n == 21 {
			calls(t, "a plan that goes on", s, files, 20, 1)
		}
	}
}

func TestPlanOfEachCallInItsTurn(t *testing.T) { // P10.2
	s, files := filled(t, 2, 1, 3)
	for n := range 12 {
		plans(t, "one behind the other", s, n, api.OK)
		calls(t, "one behind the other", s, files, 14, n)
	}
}

func TestPlanOfOneKindOfCall(t *testing.T) { // P10.2
	s, files := filled(t, 2)
	for n := 1; n < 5; n++ {
		for _, last := range []bool{false, true} {
			plans(t, "Reads", s, n, api.OK)
			for range n - 1 {
				reads(t, "Reads", s, 1, 0, files[0][0], api.OK)
			}
			if last {
				writes(t, "a Write behind Reads", s, 1, 0, pattern(77), api.ErrIO)
			} else {
				reads(t, "Reads", s, 1, 0, nil, api.ErrIO)
			}
			plans(t, "Writes", s, n, api.OK)
			for range n - 1 {
				writes(t, "Writes", s, 1, 1, files[0][1], api.OK)
			}
			if last {
				reads(t, "a Read behind Writes", s, 1, 0, nil, api.ErrIO)
			} else {
				writes(t, "Writes", s, 1, 1, pattern(77), api.ErrIO)
			}
			holds(t, "behind it", s, files)
		}
	}
}

func TestPlanCountsFromNowOn(t *testing.T) { // P10.2
	s, files := filled(t, 3)
	calls(t, "ahead", s, files, 7, 0)
	plans(t, "from now on", s, 2, api.OK)
	calls(t, "from now on", s, files, 9, 2)
	calls(t, "ahead", s, files, 3, 0)
	plans(t, "from now on", s, 1, api.OK)
	calls(t, "from now on", s, files, 9, 1)
}

func TestPlanThatIsMadeAnew(t *testing.T) { // P10.2
	s, files := filled(t, 2, 1)
	plans(t, "first", s, 3, api.OK)
	calls(t, "first", s, files, 1, 0)
	plans(t, "a later one", s, 4, api.OK)
	calls(t, "a later one", s, files, 8, 4)
	plans(t, "first", s, 5, api.OK)
	plans(t, "a nearer one", s, 1, api.OK)
	calls(t, "a nearer one", s, files, 8, 1)
	plans(t, "first", s, 2, api.OK)
	calls(t, "first", s, files, 1, 0)
	plans(t, "as the first one", s, 2, api.OK)
	calls(t, "as the first one", s, files, 8, 2)
}

func TestPlanThatIsEnded(t *testing.T) { // P10.2
	for _, n := range []int{1, 2, 3} {
		s, files := filled(t, 2, 1)
		plans(t, "first", s, n, api.OK)
		calls(t, "first", s, files, n-1, 0)
		plans(t, "ended", s, 0, api.OK)
		calls(t, "ended", s, files, 8, 0)
		plans(t, "ended with none", s, 0, api.OK)
		calls(t, "ended with none", s, files, 8, 0)
	}
}

func TestPlansThatMayNotBe(t *testing.T) { // P10.2
	for _, n := range []int{-1, -2, 2 - 1<<32, -1 << 32, math.MinInt, math.MinInt + 1} {
		s, files := filled(t, 2, 1)
		plans(t, "without a plan", s, n, api.ErrInval)
		calls(t, "without a plan", s, files, 8, 0)
		plans(t, "first", s, 3, api.OK)
		calls(t, "first", s, files, 1, 0)
		plans(t, "beside a plan", s, n, api.ErrInval)
		calls(t, "the plan is as it was", s, files, 8, 2)
	}
}

func TestPlanDoesNotCountOtherCalls(t *testing.T) { // P10.2, R2
	for _, n := range []int{1, 2, 3} {
		s, files := filled(t, 2, 1)
		plans(t, "calls between", s, n, api.OK)
		for i := range n {
			for range 3 {
				reads(t, "no file, planned", s, 99, 0, nil, api.ErrNone)
				reads(t, "no file, no page, planned", s, 0, -1, nil, api.ErrNone)
				reads(t, "no page, planned", s, 1, 2, nil, api.ErrInval)
				writes(t, "all is wrong, planned", s, 99, -1, nil, api.ErrNone)
				writes(t, "no file, planned", s, -1, 0, pattern(9), api.ErrNone)
				writes(t, "no page, no bytes, planned", s, 1, 2, nil, api.ErrInval)
				writes(t, "no page, planned", s, 2, -1, pattern(9), api.ErrInval)
				writes(t, "no bytes, planned", s, 1, 0, long(9, size+1), api.ErrInval)
				makes(t, "planned", s, -1, 0, api.ErrInval)
				resizes(t, "planned", s, 1, -1, api.ErrInval)
				plans(t, "planned", s, -1, api.ErrInval)
				resizes(t, "planned", s, 2, 3, api.OK)
				resizes(t, "planned", s, 2, 1, api.OK)
				makes(t, "planned", s, 1, len(files)+1, api.OK)
				files = append(files, blank(1))
				holds(t, "planned", s, files)
			}
			want := api.OK
			if i+1 == n {
				want = api.ErrIO
			}
			if i%2 == 0 {
				reads(t, "behind calls between", s, 1, 1, files[0][1], want)
			} else {
				writes(t, "behind calls between", s, 1, 1, files[0][1], want)
			}
		}
		holds(t, "behind calls between", s, files)
	}
}

func TestWriteThatFailsChangesNothing(t *testing.T) { // P10.2
	for _, b := range [][]byte{pattern(99), noughts()} {
		s, files := filled(t, 3, 1)
		resizes(t, "one of noughts", s, 2, 2, api.OK)
		files[1] = append(files[1], noughts())
		for i, pages := range files {
			for page := range pages {
				for range 2 {
					plans(t, "fails", s, 1, api.OK)
					writes(t, "fails", s, i+1, page, b, api.ErrIO)
					holds(t, "fails", s, files)
					writes(t, "no bytes", s, i+1, page, b[:size-1], api.ErrInval)
					holds(t, "no bytes", s, files)
				}
				reads(t, "behind it", s, i+1, page, pages[page], api.OK)
				writes(t, "is there", s, i+1, page, b, api.OK)
				pages[page] = b
				holds(t, "is there", s, files)
			}
		}
	}
}

func TestReadThatFailsChangesNothing(t *testing.T) { // P10.2
	s, files := filled(t, 3, 1)
	plans(t, "fails", s, 1, api.OK)
	reads(t, "fails", s, 1, 1, nil, api.ErrIO)
	holds(t, "fails", s, files)
	for i, pages := range files {
		for page, b := range pages {
			reads(t, "behind it", s, i+1, page, b, api.OK)
		}
	}
}

// dice tells numbers that look like any.
type dice uint64

func (d *dice) below(n int) int {
	*d = *d*6364136223846793005 + 1442695040888963407
	return int(uint64(*d>>33) % uint64(n))
}

// model is what a store should be.
type model struct {
	files [][][]byte
	fails int // how many more Reads and Writes up to the one that fails
}

// wrong tells what a Read or a Write answers ahead of ErrIO.
func (m *model) wrong(id, page int) api.Errno {
	switch {
	case id < 1 || id > len(m.files):
		return api.ErrNone
	case page < 0 || page >= len(m.files[id-1]):
		return api.ErrInval
	}
	return api.OK
}

// counted tells what a call answers that is counted.
func (m *model) counted() api.Errno {
	if m.fails--; m.fails == 0 {
		return api.ErrIO
	}
	return api.OK
}

// resize is what Resize should do.
func (m *model) resize(id, pages int) api.Errno {
	switch {
	case id < 1 || id > len(m.files):
		return api.ErrNone
	case pages < 0 || pages > maxPages:
		return api.ErrInval
	}
	to := blank(pages)
	copy(to, m.files[id-1])
	m.files[id-1] = to
	return api.OK
}

// write is what Write should do.
func (m *model) write(id, page int, b []byte) api.Errno {
	err := m.wrong(id, page)
	if err == api.OK && len(b) != size {
		err = api.ErrInval
	}
	if err == api.OK {
		err = m.counted()
	}
	if err == api.OK {
		m.files[id-1][page] = b
	}
	return err
}

// read is what Read should do.
func (m *model) read(id, page int) ([]byte, api.Errno) {
	err := m.wrong(id, page)
	if err == api.OK {
		err = m.counted()
	}
	if err != api.OK {
		return nil, err
	}
	return m.files[id-1][page], api.OK
}

// step does one thing to a store and to what it should be.
func step(t *testing.T, r *dice, s *file.Store, m *model) {
	t.Helper()
	const what = "a long run"
	id, page := r.below(len(m.files)+2), r.below(9)-1
	switch r.below(16) {
	case 0:
		if len(m.files) < maxFiles && page >= 0 {
			makes(t, what, s, page, len(m.files)+1, api.OK)
			m.files = append(m.files, blank(page))
		} else if page < 0 {
			makes(t, what, s, page, 0, api.ErrInval)
		} else {
			makes(t, what, s, page, 0, api.ErrNoMem)
		}
	case 1, 2, 3:
		resizes(t, what, s, id, page, m.resize(id, page))
	case 4:
		if page < 0 {
			plans(t, what, s, page, api.ErrInval)
		} else {
			plans(t, what, s, page, api.OK)
			m.fails = page
		}
	case 5, 6, 7, 8, 9, 10:
		b := long(r.below(255), size+max(r.below(24)-22, 0))
		if r.below(4) == 0 {
			clear(b)
		}
		writes(t, what, s, id, page, b, m.write(id, page, b))
	default:
		b, err := m.read(id, page)
		reads(t, what, s, id, page, b, err)
	}
}

func TestAgainstAModel(t *testing.T) { // P10.1, P10.2, P10.3
	for seed := range 4 {
		r := dice(seed + 1)
		s, m := file.New(), &model{}
		for i := range 3000 {
			step(t, &r, s, m)
			if i%50 == 0 {
				holds(t, "in a long run", s, m.files)
			}
		}
		holds(t, "behind a long run", s, m.files)
	}
}

func TestStoreThatNoCallMade(t *testing.T) { // R5
	for name, s := range map[string]*file.Store{"nil": nil, "a zero value": {}} {
		for range 2 {
			for _, i := range append(noFile(0), 1, 2, maxPages) {
				makes(t, name, s, i, 0, api.ErrMade)
				resizes(t, name, s, i, 1, api.ErrMade)
				resizes(t, name, s, 1, i, api.ErrMade)
				reads(t, name, s, i, 0, nil, api.ErrMade)
				reads(t, name, s, 1, i, nil, api.ErrMade)
				writes(t, name, s, i, 0, pattern(1), api.ErrMade)
				writes(t, name, s, 1, i, nil, api.ErrMade)
				plans(t, name, s, i, api.ErrMade)
			}
			plans(t, name, s, 0, api.ErrMade)
			holds(t, name, s, nil)
		}
	}
}
