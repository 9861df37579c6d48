package grammar

// text is written raw: each line of it is a line of the grammar, as it stands, and its end.
const text = `letter = %x41-5A / %x61-7A
digit = %x30-39
let-dig = letter / digit
label = let-dig *( *"-" let-dig )
domain = label *( "." label )
atom-char = let-dig / "!" / %x23-27 / %x2A-2B / "-" / "/"
atom-char =/ "=" / "?" / %x5E-60 / %x7B-7E
atom = 1*atom-char
dot-string = atom *( "." atom )
quoted = %x22 *( %x20-21 / %x23-5B / %x5D-7E / %x5C %x20-7E ) %x22
local = dot-string / quoted
octet = 1*2digit / %x30-31 2digit / "2" %x30-34 digit / "25" %x30-35
four = octet 3( "." octet )
hex = 1*4( digit / %x41-46 / %x61-66 )
full = 7( hex ":" ) hex
short = "::" [ hex *5( ":" hex ) ]
short =/ hex "::" [ hex *4( ":" hex ) ]
short =/ hex ":" hex "::" [ hex *3( ":" hex ) ]
short =/ hex 2( ":" hex ) "::" [ hex *2( ":" hex ) ]
short =/ hex 3( ":" hex ) "::" [ hex *1( ":" hex ) ]
short =/ hex 4( ":" hex ) "::" [ hex ]
short =/ hex 5( ":" hex ) "::"
literal = four / "IPv6:" ( full / short )
bracket = "[" literal "]"
mailbox = local "@" ( domain / bracket )
route = "@" domain *( "," "@" domain ) ":"
null = "<>"
alone = "<postmaster>"
path = "<" [ route ] mailbox ">"
word = 1*( atom-char / "." )
at = "@"
comma = ","
colon = ":"
helo = "HELO"
ehlo = "EHLO"
mail = "MAIL"
rcpt = "RCPT"
data = "DATA"
rset = "RSET"
vrfy = "VRFY"
expn = "EXPN"
noop = "NOOP"
help = "HELP"
quit = "QUIT"
from = "FROM:"
to = "TO:"
text = 1*%x20-7E
key = let-dig *( let-dig / "-" )
with-value = " " key "=" 1*( %x21-3C / %x3E-7E )
bare = " " key
code = %x32-35 2digit
says = *( %x20-7E / %x09 )
more = code "-" says
last = code " " says
`
