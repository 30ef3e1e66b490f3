package printer

import (
	"strings"
	"testing"

	"forme/api"
	"forme/sheet"
)

// TestLongest prints a text of just as many bytes as there may be, and one that is longer by one.
func TestLongest(t *testing.T) {
	line := "rule 0 *.22 {" + strings.Repeat(" pad: 1;", 23) + " }\n"
	source := strings.Repeat(line, 100)
	l, e, _ := sheet.Parse(source)
	if len(source) != api.MaxSource || e != 0 {
		t.Fatal(len(source), e)
	}
	if s, e := Print(l); e != 0 || s != source {
		t.Error(e)
	}
	l[0].Layer = 10
	if s, e := Print(l); e != api.ErrLimit || s != "" {
		t.Error(e)
	}
	if s, e := Print([]api.Rule{{}}); e != api.ErrArg || s != "" {
		t.Error(e)
	}
}
