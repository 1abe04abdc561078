package tests

import "testing"

// allTexts returns every string of at most n bytes of the alphabet, the empty one first.
func allTexts(alphabet string, n int) []string {
	texts := []string{""}
	from := 0
	for range n {
		to := len(texts)
		for _, text := range texts[from:to] {
			for i := range len(alphabet) {
				texts = append(texts, text+alphabet[i:i+1])
			}
		}
		from = to
	}
	return texts
}

func TestAllTexts(t *testing.T) {
	got := allTexts("ab", 2)
	want := []string{"", "a", "b", "aa", "ab", "ba", "bb"}
	if len(got) != len(want) {
		t.Fatalf("allTexts returns %q, want %q", got, want)
	}
	for i := range want {
		if got[i] != want[i] {
			t.Fatalf("allTexts returns %q, want %q", got, want)
		}
	}
}
