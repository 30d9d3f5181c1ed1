package sheet

import "testing"

// Sheets are alike that have the same rules, however these were written.
func TestAlike(t *testing.T) {
	const text = "a{b:c;d:e}@media x{f{g:h!important}}"
	s := sheetOf(t, text)
	for _, c := range []struct {
		text string
		want bool
	}{
		{text, true},
		{"/**/ a { B : c ; d:e ; } @MEDIA x { f { g : h ! IMPORTANT", true},
		{"", false},
		{"a{b:c;d:e}", false},
		{text + "i{}", false},
		{"a{d:e;b:c}@media x{f{g:h!important}}", false},
		{"a{b:c}@media x{f{g:h!important}}", false},
		{"a{b:c;d:f}@media x{f{g:h!important}}", false},
		{"a{b:c;d:e}@media y{f{g:h!important}}", false},
		{"a{b:c;d:e}@media x{i{g:h!important}}", false},
		{"a{b:c;d:e}@media x{f{g:h}}", false},
	} {
		other := sheetOf(t, c.text)
		if Alike(s, other) != c.want || Alike(other, s) != c.want {
			t.Errorf("%s: want %v", c.text, c.want)
		}
	}
	if !Alike(nil, nil) || Alike(s, nil) || Alike(nil, s) || Alike(nil, &Sheet{}) || !Alike(&Sheet{}, &Sheet{}) {
		t.Error("sheets that are none, or have none")
	}
}

func sheetOf(t *testing.T, text string) *Sheet {
	t.Helper()
	s, err := Read(text)
	if err != nil {
		t.Fatal(err)
	}
	return s
}
