package cascade

import "casement/api"

// Kinds of values that a property may have beside words.
const (
	aLength  = 1 << iota
	anEm     // a number with em
	aPart    // a part of a hundred
	aShare   // a number with fr
	aNumber  // a number without a unit
	aWhole   // likewise, without a point
	below    // all these may be below 0
	aColor   // but not currentcolor
	aText    // a string
	aCounter // counter( name )
	aNamed   // a name, perhaps with a whole number
	aTracks  // a list of tracks

	aSize = aLength | anEm | aPart
)

// rule: what a property may be.
type rule struct {
	name  string
	words string // parted by blanks
	kinds int
	first string // what it is where nothing tells
	down  bool   // it is handed down
	most  int    // a whole number goes from 1 up to it; 0: it does not
	other int    // what stands for a name's whole number, where none is told
}

// book of all properties' rules.
type book struct {
	rules   [api.Properties]rule
	numbers map[string]int // of properties, by their names
}

func newBook() *book {
	b := &book{numbers: make(map[string]int)}
	b.ruleShapes()
	b.ruleSides()
	b.ruleTexts()
	b.ruleRows()
	for at, r := range b.rules {
		b.numbers[r.name] = at
	}
	return b
}

// ruleShapes: what kinds of boxes there are, and how great they are.
func (b *book) ruleShapes() {
	b.rules[api.PDisplay] = rule{name: "display", words: "none block inline inline-block flex grid contents list-item", first: "inline"}
	b.rules[api.PPosition] = rule{name: "position", words: "static relative absolute fixed", first: "static"}
	b.rules[api.PFloat] = rule{name: "float", words: "none left right", first: "none"}
	b.rules[api.PClear] = rule{name: "clear", words: "none left right both", first: "none"}
	b.rules[api.PBoxSizing] = rule{name: "box-sizing", words: "content-box border-box", first: "content-box"}
	for i, side := range [2]string{"width", "height"} {
		at := api.PWidth + i*(api.PHeight-api.PWidth)
		b.rules[at] = rule{name: side, words: "auto", kinds: aSize, first: "auto"}
		b.rules[at+1] = rule{name: "min-" + side, kinds: aSize, first: "0px"}
		b.rules[at+2] = rule{name: "max-" + side, words: "none", kinds: aSize, first: "none"}
	}
	b.rules[api.PZ] = rule{name: "z-index", words: "auto", kinds: aWhole | below, first: "auto"}
	b.rules[api.POverflow] = rule{name: "overflow", words: "visible hidden", first: "visible"}
}

// ruleSides: what a box has on each of its sides.
func (b *book) ruleSides() {
	for i, side := range [4]string{"top", "right", "bottom", "left"} {
		b.rules[api.PMarginTop+i] = rule{name: "margin-" + side, words: "auto", kinds: aSize | below, first: "0px"}
		b.rules[api.PBorderTop+i] = rule{name: "border-" + side + "-width", kinds: aLength | anEm, first: "0px"}
		b.rules[api.PPaddingTop+i] = rule{name: "padding-" + side, kinds: aSize, first: "0px"}
		b.rules[api.PTop+i] = rule{name: side, words: "auto", kinds: aSize | below, first: "auto"}
	}
	b.rules[api.PBorderColor] = rule{name: "border-color", words: "currentcolor", kinds: aColor, first: "currentcolor"}
	b.rules[api.PBackground] = rule{name: "background-color", words: "currentcolor", kinds: aColor, first: "transparent"}
}

// ruleTexts: how texts look, and which there are beside those of the tree.
func (b *book) ruleTexts() {
	b.rules[api.PColor] = rule{name: "color", kinds: aColor, first: "#000000", down: true}
	b.rules[api.PSize] = rule{name: "font-size", kinds: aSize, first: "16px", down: true}
	b.rules[api.PLine] = rule{name: "line-height", words: "normal", kinds: aSize | aNumber, first: "normal", down: true}
	b.rules[api.PAlign] = rule{name: "text-align", words: "left right center justify", first: "left", down: true}
	b.rules[api.PIndent] = rule{name: "text-indent", kinds: aLength | anEm | below, first: "0px", down: true}
	b.rules[api.PSpace] = rule{name: "white-space", words: "normal nowrap pre pre-wrap pre-line", first: "normal", down: true}
	b.rules[api.PRise] = rule{name: "vertical-align", words: "baseline sub super", kinds: aLength | anEm | below, first: "baseline"}
	b.rules[api.PVisible] = rule{name: "visibility", words: "visible hidden", first: "visible", down: true}
	b.rules[api.PPointer] = rule{name: "pointer-events", words: "auto none", first: "auto", down: true}
	b.rules[api.PContent] = rule{name: "content", words: "none", kinds: aText | aCounter, first: "none"}
	b.rules[api.PMarker] = rule{name: "list-style-type", words: "none disc decimal lower-alpha", first: "disc", down: true}
	b.rules[api.PReset] = rule{name: "counter-reset", words: "none", kinds: aNamed, first: "none"}
	b.rules[api.PStep] = rule{name: "counter-increment", words: "none", kinds: aNamed, first: "none", other: 1}
}

// ruleRows: how rows and tracks are shared.
func (b *book) ruleRows() {
	b.rules[api.PDirection] = rule{name: "flex-direction", words: "row row-reverse column column-reverse", first: "row"}
	b.rules[api.PWrap] = rule{name: "flex-wrap", words: "nowrap wrap", first: "nowrap"}
	b.rules[api.PGrow] = rule{name: "flex-grow", kinds: aNumber, first: "0"}
	b.rules[api.PShrink] = rule{name: "flex-shrink", kinds: aNumber, first: "1"}
	b.rules[api.PBasis] = rule{name: "flex-basis", words: "auto", kinds: aSize, first: "auto"}
	b.rules[api.POrder] = rule{name: "order", kinds: aWhole | below, first: "0"}
	b.rules[api.PJustify] = rule{name: "justify-content", words: "start end center between around evenly", first: "start"}
	b.rules[api.PItems] = rule{name: "align-items", words: "start end center stretch", first: "stretch"}
	b.rules[api.PSelf] = rule{name: "align-self", words: "auto start end center stretch", first: "auto"}
	b.rules[api.PGapRow] = rule{name: "row-gap", kinds: aSize, first: "0px"}
	b.rules[api.PGapCol] = rule{name: "column-gap", kinds: aSize, first: "0px"}
	b.rules[api.PCols] = rule{name: "grid-template-columns", words: "none", kinds: aTracks, first: "none"}
	b.rules[api.PRows] = rule{name: "grid-template-rows", words: "none", kinds: aTracks, first: "none"}
	b.rules[api.PColFrom] = rule{name: "grid-column-start", words: "auto", kinds: aWhole, most: api.MaxItems, first: "auto"}
	b.rules[api.PColSpan] = rule{name: "grid-column-span", kinds: aWhole, most: api.MaxSpan, first: "1"}
	b.rules[api.PRowFrom] = rule{name: "grid-row-start", words: "auto", kinds: aWhole, most: api.MaxItems, first: "auto"}
	b.rules[api.PRowSpan] = rule{name: "grid-row-span", kinds: aWhole, most: api.MaxSpan, first: "1"}
}
