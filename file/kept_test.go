package file

import (
	"testing"

	"pantry/api"
)

// kept asks how many pages a store keeps.
func kept(t *testing.T, what string, s *Store, want int) {
	t.Helper()
	if n := len(s.pages); n != want {
		t.Errorf("%s: %d pages are kept, want %d", what, n, want)
	}
}

func TestPagesOfNoughtsAreNotKept(t *testing.T) { // the chapter's section Ways
	s := New()
	s.Make(api.MaxPages)
	s.Make(3)
	kept(t, "new files", s, 0)
	some, none := make([]byte, api.PageSize), make([]byte, api.PageSize)
	some[api.PageSize-1] = 1
	s.Write(1, 5, none)
	kept(t, "noughts", s, 0)
	for page := range 3 {
		s.Write(2, page, some)
		s.Write(2, page, some)
	}
	kept(t, "others", s, 3)
	s.Write(2, 1, none)
	s.Write(2, 1, none)
	kept(t, "noughts over others", s, 2)
	s.Read(1, 7)
	s.Peek(1, 7)
	s.Peek(3, 0)
	kept(t, "what was asked for", s, 2)
	s.Resize(2, 2)
	kept(t, "cut off", s, 1)
	s.Resize(2, 3)
	s.Resize(1, 0)
	kept(t, "come again", s, 1)
	s.Resize(2, 0)
	kept(t, "none left", s, 0)
}
