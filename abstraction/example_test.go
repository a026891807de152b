package abstraction_test

import (
	"fmt"

	"evergreen/abstraction"
	"evergreen/api"
	"evergreen/content"
)

// Example is the example of README.md.
func Example() {
	d := api.Doc{Lines: []api.Line{{Text: "To  Be", Mark: 3}}, Width: 3, Bits: "100000001"}
	fold, spaces := api.Step{Kind: api.AFold}, api.Step{Kind: api.ASpaces}
	text, _ := content.Property(d, api.PText)
	s, e := abstraction.Apply(api.PText, []api.Step{fold, spaces}, text)
	fmt.Printf("%q %d\n", s, e)
	bits, _ := content.Property(d, api.PBits)
	s, e = abstraction.Apply(api.PBits, []api.Step{{Kind: api.AHalve}}, bits)
	fmt.Printf("%q %d\n", s, e)
	l, e := abstraction.Normal(api.PText, []api.Step{spaces, fold, spaces})
	fmt.Println(l, e)
	five, two := []api.Step{{Kind: api.AMarks, N: 5}}, []api.Step{{Kind: api.AMarks, N: 2}}
	l, e = abstraction.Compose(api.PMarks, five, two)
	fmt.Println(l, e)
	fmt.Println(abstraction.Coarser(api.PMarks, two, five), abstraction.Coarser(api.PMarks, five, two))
	_, e = abstraction.Apply(api.PText, five, text)
	fmt.Println(abstraction.Valid(api.PText, five), e)
	// Output:
	// "\x02\nto be" 0
	// "\x04\x04\b1001" 0
	// [{1 0} {2 0}] 0
	// [{4 2}] 0
	// true false
	// false 70
}
